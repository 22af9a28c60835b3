import Derived.Test.YtpmkokckjieidaaGreatDoorName
import Derived.Test.YtpmkokckjieidaaGreatDoorShelf
import Derived.OwnWalk
import Derived.RangeFuncNested
import Derived.RangeFuncBound
import Derived.RangeFuncCalls
import Derived.RangeFuncLeaves
import Derived.RangeFuncBox
import Derived.Maps.AppendAt
import Derived.Shelf.Abstract
import Derived.OwnWalkIn
import Derived.TacticsInMore
import Derived.LoopNIn
import Derived.LoopIn
import Derived.Test.YtpmkokckjieidaaGreatDoorBytes
import Derived.Test.YtpmkokckjieidaaGreatDoorNameRef
import Derived.Test.YtpmkokckjieidaaGreatDoorTextMore

/- What the library's Cut does with a text and a stroke, told of the text's levels. No condition but that the text is not too long. -/
namespace Go.Proofs.YtpmkokckjieidaaGreatDoor
open Go.RowKit
set_option linter.unusedVariables false
set_option linter.unusedSimpArgs false
set_option maxRecDepth 100000

theorem ixb : ∀ (l : Txt) (c : UInt8), (Lib.indexByte l c = -1 ∧ c ∉ l) ∨ ∃ i : Nat, Lib.indexByte l c = (i : Int) ∧ i < l.length ∧ l = l.take i ++ c :: l.drop (i + 1) ∧ c ∉ l.take i
  | [], c => .inl ⟨rfl, by simp⟩
  | b :: l, c => by
    rw [Lib.indexByte]
    by_cases hb : b = c
    · subst hb
      exact .inr ⟨0, by simp, by simp, by simp, by simp⟩
    · have hbe : (b == c) = false := by simpa using hb
      rw [hbe]
      simp only [Bool.false_eq_true, if_false]
      rcases ixb l c with ⟨h1, h2⟩ | ⟨i, h1, h2, h3, h4⟩
      · refine .inl ⟨by rw [h1]; rfl, ?_⟩
        intro h
        rcases List.mem_cons.1 h with h | h
        · exact hb h.symm
        · exact h2 h
      · refine .inr ⟨i + 1, ?_, by simp only [List.length_cons]; omega, ?_, ?_⟩
        · rw [h1]
          have : ((i : Int) == -1) = false := beq_eq_false_iff_ne.2 (by omega)
          rw [this]; simp
        · rw [List.take_succ_cons, List.drop_succ_cons, List.cons_append, ← h3]
        · rw [List.take_succ_cons]
          intro h
          rcases List.mem_cons.1 h with h | h
          · exact hb h.symm
          · exact h4 h

theorem spF_front : ∀ (l : Txt) (d e : List Txt) (c : Txt), spF (d ++ e) c l = d ++ spF e c l
  | [], d, e, c => by simp [spF]
  | b :: l, d, e, c => by
    rw [spF, spF]
    split
    · rw [List.append_assoc, spF_front l d]
    · rw [spF_front l d]
/-- A text's first level, and those of what comes behind its first stroke. -/
theorem spl_cut {x r : Txt} (h : (47 : UInt8) ∉ x) : spl (x ++ 47 :: r) = x :: spl r := by
  unfold spl
  rw [spF_skip x [] [] _ h, spF, if_pos rfl]
  exact spF_front r [x] [] []

/-- What Cut at a stroke leaves. -/
def CutPost (w : World) (l : Txt) (e : Ending) (w' : World) : Prop := ∃ (x r : Txt) (b : Bool) (n : Nat), e = .returned (.tuple #[tx x, tx r, .bool b]) ∧ w' = w.drewN n ∧
  ((b = true ∧ l.length = x.length + 1 + r.length ∧ spl l = x :: spl r) ∨ (b = false ∧ spl l = [x] ∧ r = []))

theorem slindex_any (l : Txt) (c : UInt8) (w : World) : Calls Tryz.prog 137 #[tx l, tx [c]] w fun e w' => e = .returned (.int .i64 (Lib.indexByte l c)) ∧ w' = w :=
  Tryz.stringslite_Index_one ⟨l.toArray⟩ c w

set_option maxHeartbeats 1000000 in
theorem slcut_any (l : Txt) (w : World) (hmax : l.length ≤ 1000000) : Calls Tryz.prog 119 #[tx l, tx [47]] w (CutPost w l) := by
  have HI := Lib.hid (fun V => slindex_any l 47 V)
  obtain ⟨s, hs⟩ : ∃ s, s = ByteArray.mk l.toArray := ⟨_, rfl⟩
  obtain ⟨m, hm⟩ : ∃ m, m = l.length := ⟨_, rfl⟩
  have hsz : s.size = m := by rw [hs, hm, tx_size]
  have hmm : m ≤ 1000000 := by omega
  have HE := Lib.hid (fun (a b : Nat) => show Value.string (s.extract a b) = tx ((l.drop a).take (b - a)) by rw [hs, ByteArray.extract_mk]; rfl)
  have HS := Lib.hid (show Value.string s = tx l by rw [hs]; rfl)
  rcases ixb l 47 with ⟨h1, h2⟩ | ⟨i, h1, h2, h3, h4⟩
  · rw [h1] at HI
    have HP := Lib.hid (show CutPost w l (.returned (.tuple #[.string s, .string ⟨#[]⟩, .bool false])) w from ⟨l, [], false, 0, by rw [HS.out]; rfl, rfl, .inr ⟨rfl, spl_one h2, rfl⟩⟩)
    unfold tx at *
    rw [← hs] at HI ⊢
    clear hs hm h1 h2 hmax HE HS
    go_enter Tryz.func119, Tryz.ntmps119
    go_wp2_with (go_at_call 137; ((with_reducible refine (HI.out _).mono ?_)); rintro e w5 ⟨rfl, rfl⟩)
    go_ret3
    exact HP.out
  · rw [h1] at HI
    have HP := Lib.hid (fun (n : Nat) => show CutPost w l (.returned (.tuple #[.string (s.extract 0 i), .string (s.extract (i + 1) m), .bool true])) (w.drewN n) from ⟨l.take i, l.drop (i + 1), true, n, by rw [HE.out, HE.out, List.drop_zero, Nat.sub_zero, List.take_of_length_le (l := l.drop (i + 1)) (by simp; omega)], rfl, .inl ⟨rfl, by simp; omega, (congrArg spl h3).trans (spl_cut h4)⟩⟩)
    have hil : i < m := by omega
    unfold tx at *
    rw [← hs] at HI ⊢
    clear hs hm h1 h2 h3 h4 hmax HE HS
    go_enter Tryz.func119, Tryz.ntmps119
    go_wp2_with (go_at_call 137; ((with_reducible refine (HI.out _).mono ?_)); rintro e w5 ⟨rfl, rfl⟩)
    go_quiet (fail)
    go_wp2_with fail
    go_ret3
    exact HP.out _

theorem cut_any (l : Txt) (w : World) (hmax : l.length ≤ 1000000) : Calls Tryz.prog 88 #[tx l, tx [47]] w (CutPost w l) := by
  have HC := Lib.hid (fun V => slcut_any l V hmax)
  unfold tx at *
  go_enter Tryz.func88, Tryz.ntmps88
  go_wp2_with (go_at_call 119; ((with_reducible refine (HC.out _).mono ?_)); rintro e w5 ⟨x, r, b, n, rfl, rfl, h⟩)
  go_ret3
  exact ⟨x, r, b, n, rfl, rfl, h⟩
end Go.Proofs.YtpmkokckjieidaaGreatDoor

/- The iterator of package name goes through what lies between a text's strokes. No condition but that the text is not too long. -/
namespace Go.Proofs.YtpmkokckjieidaaGreatDoor
open Go.RowKit Go.Shelf
attribute [local go_sem] Oper.semAt_some
set_option linter.unusedVariables false
set_option linter.unusedSimpArgs false
set_option maxRecDepth 100000

theorem between_in (F : Fence) (n : Nat) (h : F.fn 65) (hro : F.round = none) (l : Txt) (w : World) :
    CallsIn F n Tryz.prog 65 #[tx l] w fun e w' => e = .returned (.func (.func 87) #[] #[.pointer (some ⟨w.heap.size, 0, none⟩)]) ∧ w' = w.alloc (.cells #[tx l] 9) := by
  unfold tx
  refine callsIn_of_wp Tryz.func65 rfl h ?_ hro
  simp only [Tryz.ntmps65, List.size_toArray, List.length_cons, List.length_nil, Nat.reduceAdd, Nat.reduceSub, Array.replicate_succ, Array.replicate_zero, List.push_toArray, List.append_toArray, List.nil_append, List.cons_append]
  gi_wp2
  go_ret
  exact ⟨rfl, rfl⟩

theorem grown_drewN (W : World) (n : Nat) : W.grownBy (W.drewN n) none := ⟨rfl, rfl, rfl, Nat.le_refl _, fun _ _ _ => rfl⟩

set_option maxHeartbeats 1000000 in
theorem between1_in (F : Fence) (n : Nat) (hw : F = Fence.wide) (h6 : F.fn 87) (h7 : F.fn 88) (hro : F.round = none) (hn : 1 ≤ n) (lb Bn n₀ : Nat) (l : Txt) (hmax : l.length ≤ 1000000) (J Jx : List Txt → World → Prop)
    (W : World) (hJ : AbidesFrom W.heap.size J)
    (hY : ∀ pre x W, J pre W → pre.length < (spl l).length → YieldAt F (n - 1) Tryz.prog lb #[tx x] W fun e W' =>
      (e = .returned (.bool true) ∧ J (pre ++ [x]) W' ∧ Below n₀ W W') ∨ (e = .returned (.bool false) ∧ Jx (pre ++ [x]) W'))
    (hBn : W.cell? ⟨Bn, 0, none⟩ = some (tx l)) (h0 : J [] W) :
    CallsIn F n Tryz.prog 87 #[.func (.yield lb) #[] #[], .pointer (some ⟨Bn, 0, none⟩)] W fun e W' => (∃ v, e = .returned v) ∧
      ((∃ ys, ys = spl l ∧ J ys W') ∨ (∃ pre, pre <+: spl l ∧ Jx pre W')) := by
  have HJ := Lib.hid hJ
  have HC := Lib.hid (fun (r : Txt) (V : World) (h : r.length ≤ 1000000) => show CallsIn F (n - 1) Tryz.prog 88 #[tx r, tx [47]] V (CutPost V r) from by subst hw; exact callsIn_wide.2 (cut_any r V h))
  have HSL := Lib.hid (spl_len l)
  clear hJ hw
  unfold tx at hBn
  refine callsIn_of_wp Tryz.func87 rfl h6 ?_ hro
  simp only [Tryz.ntmps87, List.size_toArray, List.length_cons, List.length_nil, Nat.reduceAdd, Nat.reduceSub, Array.replicate_succ, Array.replicate_zero, List.push_toArray, List.append_toArray, List.nil_append, List.cons_append]
  gi_wp2
  gi_loopw [3, 4] (fun a b wr => ∃ (d : List Txt) (r : Txt) (bb : Bool), r.length ≤ 1000000 ∧ a = .string ⟨r.toArray⟩ ∧ b = .bool bb ∧ J d wr ∧ ((bb = true ∧ spl l = d ++ spl r) ∨ (bb = false ∧ spl l = d)))
    (fun a b _ => match b with | .bool true => (match a with | .string s => s.size + 1 | _ => 0) | _ => 0)
  case atStart => exact ⟨[], l, true, hmax, rfl, rfl, h0, .inl ⟨rfl, rfl⟩⟩
  case round =>
    obtain ⟨d, r, bb, hr, rfl, rfl, hJs, hsp⟩ := hrel
    rcases hsp with ⟨rfl, hsp⟩ | ⟨rfl, hsp⟩
    · have hdl : d.length < (spl l).length := by rw [hsp, List.length_append]; have := (spl_len r).1; omega
      have HSP := Lib.hid hsp
      have HJs := Lib.hid hJs
      have HC' := Lib.hid (HC.out r wr hr)
      clear hsp hJs
      unfold tx at HC'
      unfold CutPost at HC'
      gi_wp2_with (gi_at_call 88; ((with_reducible refine HC'.out.mono ?_)); rintro e w' ⟨x, r', b, k, rfl, rfl, hcut⟩; obtain ⟨fn, tmps, assign, body, hy, hR⟩ := hY d x (wr.drewN k) (HJ.out _ _ _ none HJs.out (grown_drewN _ _) (fun r e => by cases e)) hdl; have HCut := Lib.hid hcut; clear hcut)
      refine hR.mono ?_
      rintro e W3 (⟨rfl, hJ3, hk3⟩ | ⟨rfl, hJx3⟩)
      · rcases HCut.out with ⟨rfl, hlen, hs⟩ | ⟨rfl, hs, rfl⟩
        · have HS2 := Lib.hid hs
          have HL2 := Lib.hid hlen
          clear hlen hs
          gi_wp2
          go_roundw
          case rel => exact ⟨d ++ [x], r', true, by have := HL2.out; omega, rfl, rfl, hJ3, .inl ⟨rfl, by rw [HSP.out, HS2.out]; simp⟩⟩
          case measure => have := HL2.out; simp only [tx, tx_size]; omega
        · have HS2 := Lib.hid hs
          clear hs
          gi_wp2
          go_roundw
          case rel => exact ⟨d ++ [x], [], false, by simp, rfl, rfl, hJ3, .inr ⟨rfl, by rw [HSP.out, HS2.out]⟩⟩
          case measure => simp only [tx, tx_size]; omega
      · gi_wp2
        refine bodyPost_ret (results_none rfl _ _ _) rfl ?_
        refine ⟨⟨_, rfl⟩, .inr ⟨d ++ [x], ?_, hJx3⟩⟩
        rw [HSP.out]
        rcases HCut.out with ⟨_, _, hs⟩ | ⟨_, hs, _⟩
        · rw [hs]; exact ⟨spl r', by simp⟩
        · rw [hs]; exact List.prefix_refl _
    · gi_wp2
      go_end0
      exact ⟨⟨_, rfl⟩, .inl ⟨_, hsp.symm, hJs⟩⟩

theorem between_stops (F : Fence) (n : Nat) (hw : F = Fence.wide) (h6 : F.fn 87) (h7 : F.fn 88) (hro : F.round = none) (hn : 1 ≤ n) (Bn n₀ : Nat) (l : Txt) (w : World) (hmax : l.length ≤ 1000000)
    (hc : w.cell? ⟨Bn, 0, none⟩ = some (tx l)) :
    SeqStopsK F n Tryz.prog 87 #[.pointer (some ⟨Bn, 0, none⟩)] (fun x : Txt => #[tx x]) (Below n₀) (fun ys => ys = spl l) (fun pre => pre <+: spl l) (spl l).length w := fun lb J Jx W hW hJ _ hY h0 =>
  between1_in F n hw h6 h7 hro hn lb Bn n₀ l hmax J Jx W hJ hY ((hW.cell (p := ⟨Bn, 0, none⟩) (cell_lt hc)).trans hc) h0
end Go.Proofs.YtpmkokckjieidaaGreatDoor

/- How many levels a text has, by the iterator; and whether a name may have each byte. No condition but that the text is not too long. -/
namespace Go.Proofs.YtpmkokckjieidaaGreatDoor
open Go.RowKit Go.Shelf
attribute [local go_sem] Oper.semAt_some
set_option linter.unusedVariables false
set_option linter.unusedSimpArgs false
set_option maxRecDepth 100000

set_option maxHeartbeats 1000000 in
theorem count_in (F : Fence) (n : Nat) (hw : F = Fence.wide) (h3 : F.fn 86) (h4 : F.fn 65) (h5 : F.fn 87) (h6 : F.fn 88) (hro : F.round = none) (hn : 3 ≤ n) (l : Txt) (hmax : l.length ≤ 1000000) (w : World) :
    CallsIn F n Tryz.prog 86 #[tx l] w fun e w' => e = .returned (.int .i64 (spl l).length) ∧ Below w.heap.size w w' := by
  have h1 : 1 ≤ n := by omega
  have hbet := between_in F (n - 1) h4 hro l (w.alloc (.cells #[.int .i64 0] 3))
  rw [World.size_alloc] at hbet
  have hsm := (spl_len l).2
  have HW := Lib.hid hw
  clear hw
  refine callsIn_of_wp_marks Tryz.func86 rfl h3 ?_ hro
  simp only [Tryz.ntmps86, List.size_toArray, List.length_cons, List.length_nil, Nat.reduceAdd, Nat.reduceSub, Array.replicate_succ, Array.replicate_zero, List.push_toArray, List.append_toArray, List.nil_append, List.cons_append]
  gi_wp2_with (gi_at_call 65; ((with_reducible refine hbet.mono ?_)); rintro e w' ⟨rfl, rfl⟩)
  have bI := (Boxed.new w 3 (.int .i64 0)).alloc (.cells #[tx l] 9)
  have bS := Boxed.new (w.alloc (.cells #[.int .i64 0] 3)) 9 (tx l)
  rw [World.size_alloc] at bS
  have hB0 : Below w.heap.size w ((w.alloc (.cells #[.int .i64 0] 3)).alloc (.cells #[tx l] 9)) := ((Below.refl _ w).alloc (Nat.le_refl _) _).alloc (by simp) _
  have hsz : ((w.alloc (.cells #[.int .i64 0] 3)).alloc (.cells #[tx l] 9)).heap.size = w.heap.size + 2 := by simp
  obtain ⟨W0, hW0⟩ : ∃ W0, (w.alloc (.cells #[.int .i64 0] 3)).alloc (.cells #[tx l] 9) = W0 := ⟨_, rfl⟩
  rw [hW0] at bI bS hB0 hsz ⊢
  clear hW0 hbet
  refine wpIn_rangeFunc_ownH hro h1 (gf := 87) (lb := #[.pointer (some ⟨w.heap.size + 1, 0, none⟩)]) rfl h5 (enters_of Tryz.func87 (by kernel_rfl) rfl)
    (between_stops F (n - 1) HW.out h5 h6 hro (by omega) (w.heap.size + 1) w.heap.size l W0 hmax bS.cell) belowK_t (belowK_b (by omega)) (Below.refl _ _) (fun _ => rfl)
    (fun pre W => Boxed W w.heap.size 3 (.int .i64 pre.length) ∧ Below w.heap.size w W)
    (fun _ _ _ => False)
    (OwnFrom.and (Own.from (boxed_own w.heap.size 3 (fun pre : List Txt => .int .i64 pre.length)) _) (ownFrom_below (Nat.le_refl _) (by omega)))
    (fun _ _ _ _ _ hs _ _ => hs)
    ⟨bI, hB0⟩
    (fun x a' W => a' = { tmps := #[tx l, undef, .int .i64 0, .pointer (some ⟨w.heap.size, 0, none⟩), tx l, .func (.func 87) #[] #[.pointer (some ⟨w.heap.size + 1, 0, none⟩)], tx x, undef, undef, undef], defers := [] })
    (fun x a' _ X Y row hs hg hr => hs)
    ?assign ?body ?done ?stop
  case assign =>
    rintro lb pre x W K hI hK
    gi_wp2
    exact hK _ _ (KeepsFrom.refl _ _) (Below.refl _ W) hI (by simp)
  case body =>
    rintro lb pre x a' W hl ⟨r, hr⟩ ⟨hv, hB⟩ rfl hlt
    have hc := hv.cell
    have hf := hv.frozen
    clear hr
    gi_wp2
    refine ⟨(KeepsOthers.setCell _ _ _).from _, (Below.refl w.heap.size W).setCell (p := ⟨w.heap.size, 0, none⟩) (Nat.le_refl _) _, ?_, hB.setCell (p := ⟨w.heap.size, 0, none⟩) (Nat.le_refl _) _⟩
    have := hv.set (.int .i64 ((pre ++ [x]).length : Nat))
    simpa using this
  case done =>
    rintro D ys W hD rfl ⟨hv, hB⟩ hK
    have hc := hv.cell
    gi_wp2
    refine ⟨by simp, .inl ⟨_, _, rfl, run_takeDeferred hK, ?_⟩⟩
    exact ⟨_, results_tmp rfl _ _ _, rfl, hB.trans (belowK_b (w := w) (Nat.le_refl _) W D _ _ (by omega) hK rfl rfl)⟩
  case stop =>
    rintro D c pre W _ _ h _
    exact h.elim

theorem count_any (l : Txt) (hmax : l.length ≤ 1000000) (w : World) : Calls Tryz.prog 86 #[tx l] w fun e w' => e = .returned (.int .i64 (spl l).length) ∧ Still w w' :=
  (callsIn_wide (n := 3)).1 ((count_in Fence.wide 3 rfl trivial trivial trivial trivial rfl (by omega) l hmax w).mono fun e w' ⟨h1, h2⟩ => ⟨h1, below_turned h2 (Nat.le_refl _)⟩)

/-- May a name have each of these bytes? -/
def plB (l : Txt) : Bool := l.all okC
theorem plB_iff {l : Txt} : plB l = true ↔ ∀ b ∈ l, okC b = true := by unfold plB; simp

set_option maxHeartbeats 1000000 in
theorem plain_any (l : Txt) (hmax : l.length ≤ 1000000) (w : World) : Calls Tryz.prog 85 #[tx l] w fun e w' => e = .returned (.bool (plB l)) ∧ Still w w' := by
  obtain ⟨s, hs⟩ : ∃ s, s = ByteArray.mk l.toArray := ⟨_, rfl⟩
  obtain ⟨m, hm⟩ : ∃ m, m = l.length := ⟨_, rfl⟩
  have hsz : s.size = m := by rw [hs, hm, tx_size]
  have hmm : m ≤ 1000000 := by omega
  have hdl : s.data.toList = l := by rw [hs]
  have k1 := run_bytes_of_string (P := Tryz.prog) w 9 120 5 s Tryz.underlying9 Tryz.underlying120 Tryz.underlying5
  generalize hC : grownCap w s.size 0 5 = c at k1
  generalize hB : w.drew.alloc (.cells (bytesRow s c) 5 ((bytesRow s c).size, (bytesRow s c).size + 1)) = w1 at k1
  have hat : BytesAt w1 (some ⟨w.heap.size, 0, none⟩) l := by
    intro i x hx
    refine ⟨_, _, rfl, ?_⟩
    rw [← hB, Nat.zero_add]
    have hi := get_lt hx
    rw [show w.heap.size = w.drew.heap.size from rfl, World.cell?_alloc_mark, bytesRow_at s c i (by show i < s.size; omega)]
    rw [← hdl] at hx
    simp only [List.getElem?_eq_getElem (show i < s.data.toList.length by rw [hdl]; exact hi), Option.some.injEq] at hx
    rw [← hx]; simp
  have hst : Still w w1 := by rw [← hB]; exact (Turned.refl _ _).drew.alloc _
  rw [hsz] at k1
  have HAT := Lib.hid hat
  have HST := Lib.hid hst
  have HM := Lib.hid hm
  have HP := Lib.hid (show (∃ x ∈ l, okC x = false) → plB l = false from fun ⟨x, hx, hb⟩ => by
    cases h : plB l with
    | false => rfl
    | true => have := plB_iff.1 h x hx; rw [hb] at this; cases this)
  have HQ := Lib.hid (show (∀ b ∈ l, okC b = true) → plB l = true from plB_iff.2)
  unfold tx
  rw [← hs]
  clear hat hst hB hC hs hdl hm hmax
  obtain ⟨r, hr⟩ : ∃ r, r = plB l := ⟨_, rfl⟩
  rw [← hr] at HP HQ ⊢
  clear hr
  go_enter Tryz.func85, Tryz.ntmps85
  go_wp2_with fail
  go_loopw [8] (fun i wr => ∃ k : Nat, k ≤ m ∧ i = .int .i64 k ∧ (∀ b ∈ l.take k, okC b = true) ∧ wr = w1) (fun i _ => m - (intOf i).toNat)
  case atStart => exact ⟨0, Nat.zero_le _, rfl, by simp, rfl⟩
  case round =>
    obtain ⟨k, hk, rfl, hok, rfl⟩ := hrel
    have HOK := Lib.hid hok
    clear hok
    by_cases hlt : k < m
    · obtain ⟨x, hx⟩ := get_some (l := l) (i := k) (by rw [← HM.out]; exact hlt)
      obtain ⟨b, o, he, hc⟩ := HAT.out k x hx
      cases he
      rw [Nat.zero_add] at hc
      have HXX := Lib.hid hx
      clear hx
      have hBad := Lib.hid (fun (h : okC x = false) => HP.out ⟨x, List.mem_of_getElem? HXX.out, h⟩)
      have hGood := Lib.hid (fun (h : okC x = true) => show ∀ b ∈ l.take (k + 1), okC b = true by
        intro b hb
        rw [List.take_add_one, HXX.out] at hb
        rcases List.mem_append.1 hb with hb | hb
        · exact HOK.out b hb
        · simp at hb; subst hb; exact h)
      rcases Nat.lt_or_ge x.toNat 33 with h1 | h1
      · have HE := Lib.hid (hBad.out (by simp [okC]; omega))
        have h1' : (x.toNat : Int) < 33 := by omega
        clear hBad hGood
        go_wp2_with fail
        go_ret
        exact ⟨by rw [HE.out]; rfl, HST.out⟩
      · have h1' : ¬ (x.toNat : Int) < 33 := by omega
        rcases Nat.lt_or_ge 126 x.toNat with h2 | h2
        · have HE := Lib.hid (hBad.out (by simp [okC]; omega))
          have h2' : (126 : Int) < (x.toNat : Int) := by omega
          clear hBad hGood
          go_wp2_with fail
          go_ret
          exact ⟨by rw [HE.out]; rfl, HST.out⟩
        · have h2' : ¬ (126 : Int) < (x.toNat : Int) := by omega
          by_cases h3 : x.toNat = 43
          · have HE := Lib.hid (hBad.out (by simp [okC, h3]))
            have h3' : (x.toNat : Int) = 43 := by omega
            clear hBad hGood h1 h2 h1' h2' h3
            go_wp2_with fail
            go_ret
            exact ⟨by rw [HE.out]; rfl, HST.out⟩
          · have h3' : ¬ (x.toNat : Int) = 43 := by omega
            by_cases h4 : x.toNat = 35
            · have HE := Lib.hid (hBad.out (by simp [okC, h4]))
              have h4' : (x.toNat : Int) = 35 := by omega
              clear hBad hGood h1 h2 h1' h2' h3 h3' h4
              go_wp2_with fail
              go_ret
              exact ⟨by rw [HE.out]; rfl, HST.out⟩
            · have h4' : ¬ (x.toNat : Int) = 35 := by omega
              have HG := Lib.hid (hGood.out (by simp [okC]; omega))
              have h4b : (((x.toNat : Int)) == 35) = false := by simpa using h4'
              have h3b : (((x.toNat : Int)) == 43) = false := by simpa using h3'
              clear hBad hGood
              go_wp2_with fail
              go_roundw
              case rel => exact ⟨k + 1, by omega, by go_num, HG.out, by trivial⟩
              case measure => simp [intOf]; omega
    · obtain rfl : k = m := by omega
      have HE := Lib.hid (HQ.out (fun b hb => HOK.out b (by rwa [List.take_of_length_le (by rw [HM.out]; exact Nat.le_refl _)])))
      go_wp2_with fail
      go_ret
      exact ⟨by rw [HE.out]; rfl, HST.out⟩
end Go.Proofs.YtpmkokckjieidaaGreatDoor

/- What Of, Above and Compare of the document's name do. No condition but that the texts are no longer than the statements make them. -/
namespace Go.Proofs.YtpmkokckjieidaaGreatDoor
open Go.RowKit
set_option linter.unusedVariables false
set_option linter.unusedSimpArgs false
set_option maxRecDepth 100000

theorem tx_append (a b : Txt) : Value.string (ByteArray.mk a.toArray ++ ByteArray.mk b.toArray) = tx (a ++ b) := by rw [ByteArray.mk_append_mk]; rfl

theorem spl_small {l : Txt} {m : Nat} (h : l.length ≤ m) : ∀ x ∈ spl l, x.length ≤ m := by
  intro x hx
  obtain ⟨i, hi⟩ := List.getElem?_of_mem hx
  have h1 := jn_len_le (spl l) (i + 1)
  rw [jn_spl, jn_take hi] at h1
  split at h1
  · omega
  · rw [List.length_append, List.length_cons] at h1; omega

end Go.Proofs.YtpmkokckjieidaaGreatDoor

/- What Compare of the document's name does. No condition but that the texts are no longer than the statements make them. -/
namespace Go.Proofs.YtpmkokckjieidaaGreatDoor
open Go.RowKit
set_option linter.unusedVariables false
set_option linter.unusedSimpArgs false
set_option maxRecDepth 100000

theorem cmpL_drop {X Y : List Txt} {k : Nat} {x y : Txt} (hx : X[k]? = some x) (hy : Y[k]? = some y) : cmpL (X.drop k) (Y.drop k) = if Op.bytesLess x y = true then -1 else if Op.bytesLess y x = true then 1 else cmpL (X.drop (k + 1)) (Y.drop (k + 1)) := by
  obtain ⟨h1, e1⟩ := List.getElem?_eq_some_iff.1 hx
  obtain ⟨h2, e2⟩ := List.getElem?_eq_some_iff.1 hy
  rw [List.drop_eq_getElem_cons h1, List.drop_eq_getElem_cons h2, e1, e2, cmpL]
theorem cmpL_end {X Y : List Txt} {k : Nat} (h : X.length = k ∨ Y.length = k) (h1 : k ≤ X.length) (h2 : k ≤ Y.length) : cmpL (X.drop k) (Y.drop k) = if X.length < Y.length then -1 else if Y.length < X.length then 1 else 0 := by
  cases hX : X.drop k with
  | nil =>
    have l1 : X.length ≤ k := by have := congrArg List.length hX; rw [List.length_drop] at this; simp at this; omega
    cases hY : Y.drop k with
    | nil =>
      have l2 : Y.length ≤ k := by have := congrArg List.length hY; rw [List.length_drop] at this; simp at this; omega
      rw [if_neg (by omega), if_neg (by omega)]; rfl
    | cons y r =>
      have l2 : k < Y.length := by have := congrArg List.length hY; rw [List.length_drop] at this; simp at this; omega
      rw [if_pos (by omega)]; rfl
  | cons x r =>
    have l1 : k < X.length := by have := congrArg List.length hX; rw [List.length_drop] at this; simp at this; omega
    cases hY : Y.drop k with
    | nil =>
      have l2 : Y.length ≤ k := by have := congrArg List.length hY; rw [List.length_drop] at this; simp at this; omega
      rw [if_neg (by omega), if_pos (by omega)]; rfl
    | cons y r =>
      have l2 : k < Y.length := by have := congrArg List.length hY; rw [List.length_drop] at this; simp at this; omega
      omega

end Go.Proofs.YtpmkokckjieidaaGreatDoor

/- What the statements of layer 8 want of the program's calls, told of the plain names; the statement's own helpers. The words are shown of the program in another text. No condition. -/
namespace Go.Proofs.YtpmkokckjieidaaGreatDoor
open Go.RowKit
set_option linter.unusedVariables false
set_option linter.unusedSimpArgs false
set_option maxRecDepth 100000

def LevPost (w : World) (l : Txt) (n : Nat) (e : Ending) (w' : World) : Prop := ∃ a c, e = .returned (.tuple #[.slice a n c, .int .i64 (nmE l)]) ∧ TextsAt w' a (lvls l) ∧ SlW a n c ∧ Still w w'

end Go.Proofs.YtpmkokckjieidaaGreatDoor

/- What the program's Check, Depth and Hidden answer. No condition but that the text is not too long. -/
namespace Go.Proofs.YtpmkokckjieidaaGreatDoor
open Go.RowKit
set_option linter.unusedVariables false
set_option linter.unusedSimpArgs false
set_option maxRecDepth 100000

theorem chk_no {l : Txt} (h : l = [] ∨ 64 < l.length ∨ plB l = false ∨ 8 < (spl l).length) : nmE l = 80 := nmE_no (fun h' => by
  obtain ⟨a, b, c, d⟩ := nmE_iff.1 h'
  rcases h with h | h | h | h
  · exact a h
  · omega
  · rw [plB_iff.2 c] at h; cases h
  · omega)

set_option maxHeartbeats 1000000 in
theorem chk_any (l : Txt) (w : World) (hmax : l.length ≤ 1000000) : Calls Tryz.prog 64 #[tx l] w fun e w' => e = .returned (.int .i64 (nmE l)) ∧ Still w w' := by
  obtain ⟨m, hm⟩ : ∃ m, m = l.length := ⟨_, rfl⟩
  obtain ⟨q, hq⟩ : ∃ q, q = (spl l).length := ⟨_, rfl⟩
  obtain ⟨p, hp⟩ : ∃ p, p = plB l := ⟨_, rfl⟩
  obtain ⟨r, hr⟩ : ∃ r, r = nmE l := ⟨_, rfl⟩
  have HP := Lib.hid (fun V => plain_any l hmax V)
  have HC := Lib.hid (fun V => count_any l hmax V)
  obtain ⟨s, hs⟩ : ∃ s, s = ByteArray.mk l.toArray := ⟨_, rfl⟩
  have hsz : s.size = m := by rw [hs, hm, tx_size]
  have HN := Lib.hid (fun (h : m = 0 ∨ 64 < m ∨ p = false ∨ 8 < q) => show r = 80 from hr.trans (chk_no (by
    rcases h with h | h | h | h
    · exact .inl (List.eq_nil_of_length_eq_zero (by omega))
    · exact .inr (.inl (by omega))
    · exact .inr (.inr (.inl (by rw [← hp]; exact h)))
    · exact .inr (.inr (.inr (by omega))))))
  have HY := Lib.hid (fun (h0 : 0 < m) (h1 : m ≤ 64) (h2 : p = true) (h3 : q ≤ 8) => show r = 0 from hr.trans (nmE_iff.2 ⟨fun e => by subst e; simp at hm; omega, by omega, plB_iff.1 (by rw [← hp]; exact h2), by omega⟩))
  rw [← hp] at HP
  rw [← hq] at HC
  rw [← hr]
  unfold tx at *
  rw [← hs] at HP HC ⊢
  clear hs hr hp hq hm
  rcases Nat.eq_zero_or_pos m with h0 | h0
  · have HE := Lib.hid (HN.out (.inl h0))
    subst h0
    go_enter Tryz.func64, Tryz.ntmps64
    go_wp2_with fail
    go_ret
    exact ⟨by rw [HE.out]; rfl, Turned.refl _ _⟩
  · have h0' : ¬ (m : Int) < 1 := by omega
    rcases Nat.lt_or_ge 64 m with h1 | h1
    · have HE := Lib.hid (HN.out (.inr (.inl h1)))
      have h1' : (64 : Int) < (m : Int) := by omega
      go_enter Tryz.func64, Tryz.ntmps64
      go_wp2_with fail
      go_ret
      exact ⟨by rw [HE.out]; rfl, Turned.refl _ _⟩
    · have h1' : ¬ (64 : Int) < (m : Int) := by omega
      rcases p with _ | _
      · have HE := Lib.hid (HN.out (.inr (.inr (.inl rfl))))
        go_enter Tryz.func64, Tryz.ntmps64
        go_wp2_with (go_at_call 85; ((with_reducible refine (HP.out _).mono ?_)); rintro e w5 ⟨rfl, hT5⟩)
        go_ret
        exact ⟨by rw [HE.out]; rfl, hT5⟩
      · rcases Nat.lt_or_ge 8 q with h2 | h2
        · have HE := Lib.hid (HN.out (.inr (.inr (.inr h2))))
          have h2' : (8 : Int) < (q : Int) := by omega
          go_enter Tryz.func64, Tryz.ntmps64
          go_wp2_with (first
            | (go_at_call 85; ((with_reducible refine (HP.out _).mono ?_)); rintro e w5 ⟨rfl, hT5⟩)
            | (go_at_call 86; ((with_reducible refine (HC.out _).mono ?_)); rintro e w6 ⟨rfl, hT6⟩))
          go_ret
          exact ⟨by rw [HE.out]; rfl, hT5.trans hT6⟩
        · have HE := Lib.hid (HY.out h0 h1 rfl h2)
          have h2' : ¬ (8 : Int) < (q : Int) := by omega
          go_enter Tryz.func64, Tryz.ntmps64
          go_wp2_with (first
            | (go_at_call 85; ((with_reducible refine (HP.out _).mono ?_)); rintro e w5 ⟨rfl, hT5⟩)
            | (go_at_call 86; ((with_reducible refine (HC.out _).mono ?_)); rintro e w6 ⟨rfl, hT6⟩))
          go_ret
          exact ⟨by rw [HE.out]; rfl, hT5.trans hT6⟩

theorem hidden_any8 (l : Txt) (w : World) (hmax : l.length ≤ 1000000) : Calls Tryz.prog 49 #[tx l] w fun e w' => e = .returned (.bool (hdB l)) ∧ Still w w' := by
  have HK := Lib.hid (fun V => chk_any l V hmax)
  have HX := Lib.hid (fun V => show Calls Tryz.prog 67 #[tx l, tx [36]] V fun e w' => e = .returned (.bool (Lib.hasPrefix l [36])) ∧ w' = V from Tryz.strings_HasPrefix ⟨l.toArray⟩ ⟨#[36]⟩ V)
  have e1 : Lib.hasPrefix l [36] = decide (l[0]? = some 36) := by
    unfold Lib.hasPrefix
    cases l with
    | nil => rfl
    | cons x r =>
      simp only [List.isPrefixOf, Bool.and_true, List.getElem?_cons_zero, Option.some.injEq]
      by_cases h : x = 36
      · subst h; rfl
      · rw [decide_eq_false h]; exact beq_eq_false_iff_ne.2 (fun e => h e.symm)
  rw [e1] at HX
  rcases nmE_or l with h0 | h0
  · have e2 : hdB l = decide (l[0]? = some 36) := by unfold hdB; simp [h0]
    rw [e2]
    rw [h0] at HK
    generalize decide (l[0]? = some 36) = b at *
    unfold tx at *
    clear h0 e1 e2 hmax
    go_enter Tryz.func49, Tryz.ntmps49
    go_wp2_with (first
      | (go_at_call 64; ((with_reducible refine (HK.out _).mono ?_)); rintro e w5 ⟨rfl, hT5⟩)
      | (go_at_call 67; ((with_reducible refine (HX.out _).mono ?_)); rintro e w6 ⟨rfl, rfl⟩))
    go_ret
    exact ⟨rfl, hT5⟩
  · have e2 : hdB l = false := by unfold hdB; simp [h0]
    rw [e2]
    rw [h0] at HK
    unfold tx at *
    clear h0 e1 e2 hmax
    go_enter Tryz.func49, Tryz.ntmps49
    go_wp2_with (go_at_call 64; ((with_reducible refine (HK.out _).mono ?_)); rintro e w5 ⟨rfl, hT5⟩)
    go_ret
    exact ⟨rfl, hT5⟩
end Go.Proofs.YtpmkokckjieidaaGreatDoor

/- What the program's Of answers: the name that has these levels, or none. No condition but that there are no more levels, and none longer, than the statements make. -/
namespace Go.Proofs.YtpmkokckjieidaaGreatDoor
open Go.RowKit
set_option linter.unusedVariables false
set_option linter.unusedSimpArgs false
set_option maxRecDepth 100000

theorem joined : ∀ ls : List Txt, Lib.join ls [47] = jn ls
  | [] => rfl
  | [x] => by rw [Lib.join_one]; rfl
  | x :: y :: r => by
    have ih := joined (y :: r)
    unfold Lib.join at ih ⊢
    rw [jn, ← ih, List.intercalate_cons_cons]; simp
theorem jn_small : ∀ ls : List Txt, (∀ x ∈ ls, x.length ≤ 300) → (jn ls).length ≤ ls.length * 301
  | [], _ => by simp [jn]
  | [x], h => by have := h x (by simp); simp [jn]; omega
  | x :: y :: r, h => by
    have h1 := h x (by simp)
    have h2 := jn_small (y :: r) (fun z hz => h z (by simp at hz ⊢; exact .inr hz))
    rw [jn]
    simp only [List.length_append, List.length_cons] at h2 ⊢
    omega

theorem join_any (ls : List Txt) (w : World) (ao : Option Addr) (n cap : Nat) (hn : n = ls.length) (hA : TextsAt w ao ls) (hW : SlW ao n cap) (h20 : n ≤ 100) (hs : ∀ x ∈ ls, x.length ≤ 300) :
    Calls Tryz.prog 74 #[.slice ao n cap, tx [47]] w fun e w' => e = .returned (tx (jn ls)) ∧ Still w w' := by
  subst hn
  cases ls with
  | nil => exact (Tryz.strings_Join_none ao cap ⟨#[47]⟩ w).mono fun e w' ⟨h1, h2⟩ => ⟨h1, by rw [h2]; exact Turned.refl _ _⟩
  | cons x r =>
    obtain ⟨b, o, rfl, hc⟩ := hA 0 x rfl
    have hmap : ((x :: r).map fun t => ByteArray.mk t.toArray).map (·.data.toList) = x :: r := by
      rw [List.map_map]
      conv => rhs; rw [← List.map_id (x :: r)]
      exact List.map_congr_left (fun t _ => by simp)
    have H := Tryz.strings_Join b o cap ((x :: r).map fun t => ByteArray.mk t.toArray) ⟨#[47]⟩ w (by
      intro j t hj
      simp only [List.getElem?_map, Option.map_eq_some_iff] at hj
      obtain ⟨y, hy, rfl⟩ := hj
      obtain ⟨b', o', e, hc'⟩ := hA j y hy
      cases e
      exact hc') (cell_lt hc) (by simp only [List.length_map]; simp only [List.length_cons] at h20 ⊢; omega) (by simp only [List.length_map]; exact hW.le) (by
        rw [hmap, joined]
        have := jn_small (x :: r) hs
        simp only [List.length_cons] at h20 this ⊢
        have h1 : (r.length + 1) * 301 ≤ 100 * 301 := Nat.mul_le_mul_right _ h20
        omega)
    rw [hmap, joined, List.length_map] at H
    exact H.mono fun e w' ⟨h1, h2⟩ => ⟨h1, below_turned h2 (Nat.le_refl _)⟩

theorem contains_any (l : Txt) (c : UInt8) (w : World) : Calls Tryz.prog 118 #[tx l, tx [c]] w fun e w' => e = .returned (.bool (decide (c ∈ l))) ∧ w' = w := by
  have H := Tryz.strings_Contains_one ⟨l.toArray⟩ c w
  have e : decide (0 ≤ Lib.indexByte l c) = decide (c ∈ l) := by
    rcases ixb l c with ⟨h1, h2⟩ | ⟨i, h1, h2, h3, h4⟩
    · rw [h1, decide_eq_false h2]; rfl
    · rw [h1, decide_eq_true (show c ∈ l by rw [h3]; simp)]
      exact decide_eq_true (by omega)
  rw [← e]
  exact H

theorem of_long1 {ls : List Txt} {x : Txt} (hx : x ∈ ls) (h : 64 < x.length) : ofE ls = 80 := ofE_no (fun h' => by
  obtain ⟨i, hi⟩ := List.getElem?_of_mem hx
  have h1 := jn_len_le ls (i + 1)
  have h2 := (nmE_iff.1 (ofE_iff.1 h').2).2.1
  rw [jn_take hi] at h1
  split at h1
  · omega
  · simp only [List.length_append, List.length_cons] at h1; omega)
theorem of_pure {ls : List Txt} (h : ∀ x ∈ ls, (47 : UInt8) ∉ x) : ofE ls = nmE (jn ls) := by
  rcases nmE_or (jn ls) with h' | h'
  · rw [h']; exact ofE_iff.2 ⟨h, h'⟩
  · rw [h']; exact ofE_no (fun e => by have := (ofE_iff.1 e).2; omega)
theorem ofT_no {ls : List Txt} (h : ofE ls = 80) : ofT ls = [] := if_neg (by omega)

set_option maxHeartbeats 1000000 in
theorem of_any8 (ls : List Txt) (w : World) (ao : Option Addr) (n cap : Nat) (hn : n = ls.length) (hA : TextsAt w ao ls) (hW : SlW ao n cap) (h20 : n ≤ 100) (hs : ∀ x ∈ ls, x.length ≤ 300) :
    Calls Tryz.prog 83 #[.slice ao n cap] w fun e w' => e = .returned (.tuple #[tx (ofT ls), .int .i64 (ofE ls)]) ∧ Still w w' := by
  obtain ⟨t, ht⟩ : ∃ t, t = ofT ls := ⟨_, rfl⟩
  obtain ⟨r, hr⟩ : ∃ r, r = ofE ls := ⟨_, rfl⟩
  have HNo := Lib.hid (fun (h : ofE ls = 80) => show t = [] ∧ r = 80 from ⟨ht.trans (ofT_no h), hr.trans h⟩)
  have HMany := Lib.hid (fun (h : 8 < n) => show ofE ls = 80 from of_many (by omega))
  have HLong := Lib.hid (fun (x : Txt) (hx : x ∈ ls) (h : 64 < x.length) => of_long1 hx h)
  have HStr := Lib.hid (fun (x : Txt) (hx : x ∈ ls) (h : (47 : UInt8) ∈ x) => of_stroke hx h)
  have HPure := Lib.hid (fun (h : ∀ x ∈ ls, (47 : UInt8) ∉ x) => show r = nmE (jn ls) ∧ (nmE (jn ls) = 0 → t = jn ls) ∧ (nmE (jn ls) = 80 → t = []) from
    ⟨hr.trans (of_pure h), fun e => ht.trans (if_pos (by rw [of_pure h]; exact e)), fun e => ht.trans (ofT_no (by rw [of_pure h]; exact e))⟩)
  have hj : (jn ls).length ≤ 1000000 := by
    have := jn_small ls hs
    have h1 : ls.length * 301 ≤ 100 * 301 := Nat.mul_le_mul_right _ (by omega)
    omega
  have HA := Lib.hid hA
  have HJ := Lib.hid (fun (V : World) (h : Still w V) => join_any ls V ao n cap hn (hA.still h) hW h20 hs)
  have HCk := Lib.hid (fun V => chk_any (jn ls) V hj)
  have HCt := Lib.hid (fun (x : Txt) V => contains_any x 47 V)
  have HN := Lib.hid hn
  have HSm := Lib.hid hs
  rw [← ht, ← hr]
  clear ht hr hA hn hs hj
  rcases Nat.lt_or_ge 8 n with h8 | h8
  · obtain ⟨e1, e2⟩ := HNo.out (HMany.out h8)
    have h8' : (8 : Int) < (n : Int) := by omega
    rw [e1, e2]
    clear e1 e2
    go_enter Tryz.func83, Tryz.ntmps83
    go_wp2_with fail
    go_ret2
    exact ⟨rfl, Turned.refl _ _⟩
  · have h8' : ¬ (8 : Int) < (n : Int) := by omega
    go_enter Tryz.func83, Tryz.ntmps83
    go_wp2_with fail
    go_loopw [13] (fun i wr => ∃ k : Nat, k ≤ n ∧ i = .int .i64 k ∧ (∀ x ∈ ls.take k, (47 : UInt8) ∉ x) ∧ wr = w) (fun i _ => n - (intOf i).toNat)
    case atStart => exact ⟨0, Nat.zero_le _, rfl, by simp, rfl⟩
    case round =>
      obtain ⟨k, hk, rfl, hok, rfl⟩ := hrel
      have HOK := Lib.hid hok
      clear hok
      by_cases hlt : k < n
      · obtain ⟨x, hx⟩ := get_some (l := ls) (i := k) (by rw [← HN.out]; exact hlt)
        obtain ⟨b, o, rfl, hc⟩ := HA.out k x hx
        unfold tx at hc
        have hm := List.mem_of_getElem? hx
        have HXX := Lib.hid hx
        have HNL := Lib.hid (fun h => HNo.out (HLong.out x hm h))
        have HNS := Lib.hid (fun h => HNo.out (HStr.out x hm h))
        have HC' := Lib.hid (HCt.out x wr)
        have hxs := HSm.out x hm
        clear hx hm
        by_cases h64 : 64 < x.length
        · have HE := Lib.hid (HNL.out h64)
          unfold tx at *
          have h64' : (64 : Int) < (x.length : Int) := by omega
          go_wp2_with fail
          go_ret2
          exact ⟨by rw [HE.out.1, HE.out.2]; rfl, Turned.refl _ _⟩
        · by_cases h47 : (47 : UInt8) ∈ x
          · have HE := Lib.hid (HNS.out h47)
            rw [decide_eq_true h47] at HC'
            unfold tx at *
            have h64' : ¬ (64 : Int) < (x.length : Int) := by omega
            go_wp2_with (go_at_call 118; ((with_reducible refine HC'.out.mono ?_)); rintro e w5 ⟨rfl, rfl⟩)
            go_ret2
            exact ⟨by rw [HE.out.1, HE.out.2]; rfl, Turned.refl _ _⟩
          · rw [decide_eq_false h47] at HC'
            have HG := Lib.hid (show ∀ y ∈ ls.take (k + 1), (47 : UInt8) ∉ y by
              intro y hy
              rw [List.take_add_one, HXX.out] at hy
              rcases List.mem_append.1 hy with hy | hy
              · exact HOK.out y hy
              · simp at hy; subst hy; exact h47)
            clear h47
            unfold tx at *
            have h64' : ¬ (64 : Int) < (x.length : Int) := by omega
            go_wp2_with (go_at_call 118; ((with_reducible refine HC'.out.mono ?_)); rintro e w5 ⟨rfl, rfl⟩)
            go_roundw
            case rel => exact ⟨k + 1, by omega, by go_num, HG.out, by trivial⟩
            case measure => simp [intOf]; omega
      · obtain rfl : k = n := by omega
        obtain ⟨e1, e2, e3⟩ := HPure.out (fun x hx => HOK.out x (by rwa [List.take_of_length_le (by rw [HN.out]; exact Nat.le_refl _)]))
        have HJ' := Lib.hid (HJ.out wr (Turned.refl _ _))
        clear HJ
        rcases nmE_or (jn ls) with h0 | h0
        · have HE := Lib.hid (show t = jn ls ∧ r = 0 from ⟨e2 h0, e1.trans h0⟩)
          rw [h0] at HCk
          clear e1 e2 e3 h0
          unfold tx at *
          go_wp2_with (first
            | (go_at_call 74; ((with_reducible refine HJ'.out.mono ?_)); rintro e w5 ⟨rfl, hT5⟩)
            | (go_at_call 64; ((with_reducible refine (HCk.out _).mono ?_)); rintro e w6 ⟨rfl, hT6⟩))
          go_ret2
          exact ⟨by rw [HE.out.1, HE.out.2]; rfl, hT5.trans hT6⟩
        · have HE := Lib.hid (show t = [] ∧ r = 80 from ⟨e3 h0, e1.trans h0⟩)
          rw [h0] at HCk
          clear e1 e2 e3 h0
          unfold tx at *
          go_wp2_with (first
            | (go_at_call 74; ((with_reducible refine HJ'.out.mono ?_)); rintro e w5 ⟨rfl, hT5⟩)
            | (go_at_call 64; ((with_reducible refine (HCk.out _).mono ?_)); rintro e w6 ⟨rfl, hT6⟩))
          go_ret2
          exact ⟨by rw [HE.out.1, HE.out.2]; rfl, hT5.trans hT6⟩
end Go.Proofs.YtpmkokckjieidaaGreatDoor

/- What the program's Levels hands out: the levels of a name, in a slice of one's own. No condition but that the text is not too long. -/
namespace Go.Proofs.YtpmkokckjieidaaGreatDoor
open Go.RowKit Go.Shelf
attribute [local go_sem] Oper.semAt_some
set_option linter.unusedVariables false
set_option linter.unusedSimpArgs false
set_option maxRecDepth 100000

set_option maxHeartbeats 2000000 in
theorem levels_in (F : Fence) (n : Nat) (hw : F = Fence.wide) (h3 : F.fn 47) (h4 : F.fn 65) (h5 : F.fn 87) (h6 : F.fn 88) (h8 : F.fn 64) (hro : F.round = none) (hn : 3 ≤ n) (l : Txt) (hmax : l.length ≤ 1000000) (hok : nmE l = 0) (w : World) :
    CallsIn F n Tryz.prog 47 #[tx l] w fun e w' => ∃ a c, e = .returned (.tuple #[.slice a (spl l).length c, .int .i64 0]) ∧ w'.ownsRow w.heap.size 9 1 (.slice a (spl l).length c) (spl l).length (txs (spl l)) ∧ Below w.heap.size w w' := by
  have h1 : 1 ≤ n := by omega
  have HK := Lib.hid (show CallsIn F (n - 1) Tryz.prog 64 #[tx l] w fun e w' => e = .returned (.int .i64 0) ∧ Still w w' from by subst hw; rw [← hok]; exact callsIn_wide.2 (chk_any l w hmax))
  have HBt := Lib.hid (fun V => between_in F (n - 1) h4 hro l V)
  have HW := Lib.hid hw
  have hsm := (spl_len l).2
  obtain ⟨i0, hi, hz0, hz1, hz2⟩ := info_parts infoStr
  clear hw hok
  refine callsIn_of_wp_marks Tryz.func47 rfl h3 ?_ hro
  simp only [Tryz.ntmps47, List.size_toArray, List.length_cons, List.length_nil, Nat.reduceAdd, Nat.reduceSub, Array.replicate_succ, Array.replicate_zero, List.push_toArray, List.append_toArray, List.nil_append, List.cons_append]
  gi_wp2_with (first
    | (gi_at_call 64; ((with_reducible refine HK.out.mono ?_)); rintro e V ⟨rfl, hTV⟩)
    | (gi_at_call 65; ((with_reducible refine (HBt.out _).mono ?_)); rintro e w' ⟨rfl, rfl⟩))
  have bL := (Boxed.new V 23 (.slice none 0 0)).alloc (.cells #[tx l] 9)
  have bS := Boxed.new (V.alloc (.cells #[.slice none 0 0] 23)) 9 (tx l)
  rw [World.size_alloc] at bS
  have hzV := hTV.size
  have hB0 : Below w.heap.size w ((V.alloc (.cells #[.slice none 0 0] 23)).alloc (.cells #[tx l] 9)) := ((hTV.below (Nat.le_refl _) (fun _ h => h.elim)).alloc hzV _).alloc (by simp; omega) _
  have hsz : ((V.alloc (.cells #[.slice none 0 0] 23)).alloc (.cells #[tx l] 9)).heap.size = V.heap.size + 2 := by simp
  obtain ⟨W0, hW0⟩ : ∃ W0, (V.alloc (.cells #[.slice none 0 0] 23)).alloc (.cells #[tx l] 9) = W0 := ⟨_, rfl⟩
  rw [hW0] at bL bS hB0 hsz ⊢
  clear hW0 hTV
  refine wpIn_rangeFunc_ownH hro h1 (gf := 87) (lb := #[.pointer (some ⟨V.heap.size + 1, 0, none⟩)]) rfl h5 (enters_of Tryz.func87 (by kernel_rfl) rfl)
    (between_stops F (n - 1) HW.out h5 h6 hro (by omega) (V.heap.size + 1) w.heap.size l W0 hmax bS.cell) belowK_t (belowK_b (by omega)) (Below.refl _ _) (fun _ => rfl)
    (fun pre W => (∃ v, Boxed W V.heap.size 23 v ∧ W.ownsRow w.heap.size 9 1 v pre.length (txs pre) ∧ True) ∧ Below w.heap.size w W)
    (fun _ _ _ => False)
    (OwnFrom.and (Own.from (holdsRow_own w.heap.size V.heap.size 23 9 1 (fun pre : List Txt => pre.length) (fun pre => txs pre) (fun pre v => True)) _) (ownFrom_below (by omega) (by omega)))
    (fun _ _ _ _ _ hs _ _ => hs)
    ⟨⟨_, bL, World.ownsRow_nil _ _ _ _, trivial⟩, hB0⟩
    (fun x a' W => a' = { tmps := #[tx l, undef, .slice none 0 0, .int .i64 0, .int .i64 0, .pointer (some ⟨V.heap.size, 0, none⟩), tx x, tx l, .int .i64 0, .int .i64 0, .bool false, undef, tx l, .func (.func 87) #[] #[.pointer (some ⟨V.heap.size + 1, 0, none⟩)], tx x, undef, undef, undef, undef, undef], defers := [] })
    (fun x a' _ X Y row hs hg hr => hs)
    ?assign ?body ?done ?stop
  case assign =>
    rintro lb pre x W K hI hK
    gi_wp2
    exact hK _ _ (KeepsFrom.refl _ _) (Below.refl _ W) hI rfl
  case body =>
    rintro lb pre x a' W hl ⟨r, hr⟩ ⟨⟨v, hv, hrow, -⟩, hB⟩ rfl hlt
    obtain ⟨ao, cc, rfl⟩ := ow_slice hrow
    have hc := hv.cell
    clear hr
    unfold tx
    gi_wp2_with (gi_at_builtin; refine wpListIn_append_own _ rfl _ _ 23 rfl w.heap.size 9 i0 (.string ⟨#[]⟩) 1 16 Tryz.underlying23 hi hz0 hz1 hz2 rfl (by decide) _ _ _ rfl (hrow.alloc _) ⟨W.heap.size, 0, none⟩ 1 1 [.string ⟨x.toArray⟩] rfl rfl (cell_one_new _ _ _) (by simp [Value.oneCell']) (by unfold maxLen; omega) (by omega) (by have := hB.size; simp; omega) ?_; intro v' w1 hown' hgrow _; obtain ⟨g', cap', rfl⟩ := ownsRow_succ hown'; obtain ⟨hv1, hv2, hr2, hk2, hb2⟩ := hv.appended (by decide) hrow hB.size hzV hown' hgrow; have hc1 := hv1.cell; have hf1 := hv1.frozen)
    exact ⟨hk2.from _, hb2, ⟨_, hv2, by simpa [txs, tx] using hr2, trivial⟩, hB.trans hb2⟩
  case done =>
    rintro D ys W hD rfl ⟨⟨v, hv, hrow, -⟩, hB⟩ hK
    obtain ⟨a, c, rfl⟩ := ow_slice hrow
    have hc := hv.cell
    gi_wp2
    refine ⟨by simp, .inl ⟨_, _, rfl, run_takeDeferred hK, ?_⟩⟩
    exact ⟨_, results_tmp2 rfl _ _ _, a, c, rfl, ownsRow_putObj hrow _ hK rfl, hB.trans (belowK_b (w := w) (Nat.le_refl _) W D _ _ (by omega) hK rfl rfl)⟩
  case stop =>
    rintro D c pre W _ _ h _
    exact h.elim

theorem levels_any8 (l : Txt) (w : World) (hmax : l.length ≤ 1000000) : Calls Tryz.prog 47 #[tx l] w (LevPost w l (lvls l).length) := by
  rcases nmE_or l with h0 | h0
  · refine ((callsIn_wide (n := 3)).1 (levels_in Fence.wide 3 rfl trivial trivial trivial trivial trivial rfl (by omega) l hmax h0 w)).mono ?_
    rintro e w' ⟨a, c, rfl, hown, hB⟩
    unfold LevPost
    rw [h0, lvls_ok h0]
    exact ⟨a, c, rfl, TextsAt.of_own hown rfl, SlW.of_own hown, below_turned hB (Nat.le_refl _)⟩
  · have e0 : lvls l = [] := lvls_no (by omega)
    have HC := Lib.hid (fun V => chk_any l V hmax)
    have HP := Lib.hid (fun (V : World) (h1 : Still w V) => show LevPost w l 0 (.returned (.tuple #[.slice none 0 0, .int .i64 80])) V from ⟨none, 0, by rw [h0], by rw [e0]; exact TextsAt.nil _ _, ⟨Nat.le_refl _, by unfold maxLen; omega, fun _ => ⟨rfl, rfl⟩⟩, h1⟩)
    rw [e0]
    show Calls Tryz.prog 47 #[tx l] w (LevPost w l 0)
    rw [h0] at HC
    clear h0 hmax e0
    unfold tx at *
    go_enter Tryz.func47, Tryz.ntmps47
    go_wp2_with (go_at_call 64; ((with_reducible refine (HC.out _).mono ?_)); rintro e w5 ⟨rfl, hT5⟩)
    go_ret2
    exact HP.out _ hT5
end Go.Proofs.YtpmkokckjieidaaGreatDoor
