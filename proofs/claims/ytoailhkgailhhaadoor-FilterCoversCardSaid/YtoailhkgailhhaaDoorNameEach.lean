/- The iterator of package name goes through what lies between a text's strokes. No condition but that the text is not too long. -/
import Derived.RangeFuncNested
import Derived.RangeFuncBound
import Derived.RangeFuncCalls
import Derived.RangeFuncLeaves
import Derived.RangeFuncBox
import Derived.Maps.AppendAt
import Derived.Shelf.Abstract
import Derived.OwnWalkIn
import Derived.TacticsInMore
import Derived.LoopNIn
import Derived.LoopIn
import Derived.Test.YtoailhkgailhhaaDoorNameCut
namespace Go.Proofs.YtoailhkgailhhaaDoor
open Go.RowKit Go.Shelf
attribute [local go_sem] Oper.semAt_some
set_option linter.unusedVariables false
set_option linter.unusedSimpArgs false
set_option maxRecDepth 100000

theorem between_in (F : Fence) (n : Nat) (h : F.fn 41) (hro : F.round = none) (l : Txt) (w : World) :
    CallsIn F n Tryd.prog 41 #[tx l] w fun e w' => e = .returned (.func (.func 56) #[] #[.pointer (some ⟨w.heap.size, 0, none⟩)]) ∧ w' = w.alloc (.cells #[tx l] 9) := by
  unfold tx
  refine callsIn_of_wp Tryd.func41 rfl h ?_ hro
  simp only [Tryd.ntmps41, List.size_toArray, List.length_cons, List.length_nil, Nat.reduceAdd, Nat.reduceSub, Array.replicate_succ, Array.replicate_zero, List.push_toArray, List.append_toArray, List.nil_append, List.cons_append]
  gi_wp2
  go_ret
  exact ⟨rfl, rfl⟩

theorem grown_drewN (W : World) (n : Nat) : W.grownBy (W.drewN n) none := ⟨rfl, rfl, rfl, Nat.le_refl _, fun _ _ _ => rfl⟩

set_option maxHeartbeats 1000000 in
theorem between1_in (F : Fence) (n : Nat) (hw : F = Fence.wide) (h6 : F.fn 56) (h7 : F.fn 57) (hro : F.round = none) (hn : 1 ≤ n) (lb Bn n₀ : Nat) (l : Txt) (hmax : l.length ≤ 1000000) (J Jx : List Txt → World → Prop)
    (W : World) (hJ : AbidesFrom W.heap.size J)
    (hY : ∀ pre x W, J pre W → pre.length < (spl l).length → YieldAt F (n - 1) Tryd.prog lb #[tx x] W fun e W' =>
      (e = .returned (.bool true) ∧ J (pre ++ [x]) W' ∧ Below n₀ W W') ∨ (e = .returned (.bool false) ∧ Jx (pre ++ [x]) W'))
    (hBn : W.cell? ⟨Bn, 0, none⟩ = some (tx l)) (h0 : J [] W) :
    CallsIn F n Tryd.prog 56 #[.func (.yield lb) #[] #[], .pointer (some ⟨Bn, 0, none⟩)] W fun e W' => (∃ v, e = .returned v) ∧
      ((∃ ys, ys = spl l ∧ J ys W') ∨ (∃ pre, pre <+: spl l ∧ Jx pre W')) := by
  have HJ := Lib.hid hJ
  have HC := Lib.hid (fun (r : Txt) (V : World) (h : r.length ≤ 1000000) => show CallsIn F (n - 1) Tryd.prog 57 #[tx r, tx [47]] V (CutPost V r) from by subst hw; exact callsIn_wide.2 (cut_any r V h))
  have HSL := Lib.hid (spl_len l)
  clear hJ hw
  unfold tx at hBn
  refine callsIn_of_wp Tryd.func56 rfl h6 ?_ hro
  simp only [Tryd.ntmps56, List.size_toArray, List.length_cons, List.length_nil, Nat.reduceAdd, Nat.reduceSub, Array.replicate_succ, Array.replicate_zero, List.push_toArray, List.append_toArray, List.nil_append, List.cons_append]
  gi_wp2
  gi_loopw [3, 4] (fun a b wr => ∃ (d : List Txt) (r : Txt) (bb : Bool), r.length ≤ 1000000 ∧ a = .string ⟨r.toArray⟩ ∧ b = .bool bb ∧ J d wr ∧ ((bb = true ∧ spl l = d ++ spl r) ∨ (bb = false ∧ spl l = d)))
    (fun a b _ => match b with | .bool true => (match a with | .string s => s.size + 1 | _ => 0) | _ => 0)
  case atStart => exact ⟨[], l, true, hmax, rfl, rfl, h0, .inl ⟨rfl, rfl⟩⟩
  case round =>
    obtain ⟨d, r, bb, hr, rfl, rfl, hJs, hsp⟩ := hrel
    rcases hsp with ⟨rfl, hsp⟩ | ⟨rfl, hsp⟩
    · have hdl : d.length < (spl l).length := by rw [hsp, List.length_append]; have := (spl_len r).1; omega
      have HSP := Lib.hid hsp
      have HJs := Lib.hid hJs
      have HC' := Lib.hid (HC.out r wr hr)
      clear hsp hJs
      unfold tx at HC'
      unfold CutPost at HC'
      gi_wp2_with (gi_at_call 57; ((with_reducible refine HC'.out.mono ?_)); rintro e w' ⟨x, r', b, k, rfl, rfl, hcut⟩; obtain ⟨fn, tmps, assign, body, hy, hR⟩ := hY d x (wr.drewN k) (HJ.out _ _ _ none HJs.out (grown_drewN _ _) (fun r e => by cases e)) hdl; have HCut := Lib.hid hcut; clear hcut)
      refine hR.mono ?_
      rintro e W3 (⟨rfl, hJ3, hk3⟩ | ⟨rfl, hJx3⟩)
      · rcases HCut.out with ⟨rfl, hlen, hs⟩ | ⟨rfl, hs, rfl⟩
        · have HS2 := Lib.hid hs
          have HL2 := Lib.hid hlen
          clear hlen hs
          gi_wp2
          go_roundw
          case rel => exact ⟨d ++ [x], r', true, by have := HL2.out; omega, rfl, rfl, hJ3, .inl ⟨rfl, by rw [HSP.out, HS2.out]; simp⟩⟩
          case measure => have := HL2.out; simp only [tx, tx_size]; omega
        · have HS2 := Lib.hid hs
          clear hs
          gi_wp2
          go_roundw
          case rel => exact ⟨d ++ [x], [], false, by simp, rfl, rfl, hJ3, .inr ⟨rfl, by rw [HSP.out, HS2.out]⟩⟩
          case measure => simp only [tx, tx_size]; omega
      · gi_wp2
        refine bodyPost_ret (results_none rfl _ _ _) rfl ?_
        refine ⟨⟨_, rfl⟩, .inr ⟨d ++ [x], ?_, hJx3⟩⟩
        rw [HSP.out]
        rcases HCut.out with ⟨_, _, hs⟩ | ⟨_, hs, _⟩
        · rw [hs]; exact ⟨spl r', by simp⟩
        · rw [hs]; exact List.prefix_refl _
    · gi_wp2
      go_end0
      exact ⟨⟨_, rfl⟩, .inl ⟨_, hsp.symm, hJs⟩⟩

theorem between_stops (F : Fence) (n : Nat) (hw : F = Fence.wide) (h6 : F.fn 56) (h7 : F.fn 57) (hro : F.round = none) (hn : 1 ≤ n) (Bn n₀ : Nat) (l : Txt) (w : World) (hmax : l.length ≤ 1000000)
    (hc : w.cell? ⟨Bn, 0, none⟩ = some (tx l)) :
    SeqStopsK F n Tryd.prog 56 #[.pointer (some ⟨Bn, 0, none⟩)] (fun x : Txt => #[tx x]) (Below n₀) (fun ys => ys = spl l) (fun pre => pre <+: spl l) (spl l).length w := fun lb J Jx W hW hJ _ hY h0 =>
  between1_in F n hw h6 h7 hro hn lb Bn n₀ l hmax J Jx W hJ hY ((hW.cell (p := ⟨Bn, 0, none⟩) (cell_lt hc)).trans hc) h0
end Go.Proofs.YtoailhkgailhhaaDoor
