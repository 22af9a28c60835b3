/- The iterator of package cursor goes through what may be read, from a cursor on. No condition but that the ring is one and the cursor within its window. -/
import Derived.RangeFuncNested
import Derived.RangeFuncBound
import Derived.RangeFuncCalls
import Derived.RangeFuncLeaves
import Derived.RangeFuncBox
import Derived.Maps.AppendAt
import Derived.Shelf.Abstract
import Derived.Shelf.RegionOpen
import Derived.OwnWalkIn
import Derived.TacticsInMore
import Derived.LoopNIn
import Derived.LoopIn
import Derived.Stop.RegionWithIn
import Derived.BigRegionIn
import Derived.Test.YtliaaggjefjbeaaReads
import Derived.Test.YtliaaggjefjbeaaCursorIn
import Derived.Test.YtliaaggjefjbeaaBx3
namespace Go.Proofs.Ytliaaggjefjbeaa
open Go.RowKit Go.Shelf
attribute [local go_sem] Oper.semAt_some
set_option linter.unusedVariables false
set_option linter.unusedSimpArgs false
set_option maxRecDepth 100000

/-- What is read at a place, and the cursor behind it. -/
def rdEl (M : RM) (x : Int) (k : Nat) : Int × Int := (M.getR (x + (k : Int)), x + (k : Int) + 1)
def rdEls (M : RM) (x : Int) : Nat → List (Int × Int)
  | 0 => []
  | k + 1 => rdEls M x k ++ [rdEl M x k]
theorem rdEls_len (M : RM) (x : Int) : ∀ k, (rdEls M x k).length = k
  | 0 => rfl
  | k + 1 => by simp [rdEls, rdEls_len M x k]

theorem still_grown {w w' : World} (h : Still w w') : w.grownBy w' none := ⟨h.os, h.tape, h.output, h.size, fun k hk _ => h.block k hk (fun h => h)⟩

theorem readable_in (F : Fence) (n : Nat) (h : F.fn 37) (hro : F.round = none) (a : Int) (p : Option Addr) (w : World) :
    CallsIn F n Try.prog 37 #[.int .i64 a, .pointer p] w fun e w' => e = .returned (.func (.func 47) #[] #[.pointer (some ⟨w.heap.size, 0, none⟩), .pointer (some ⟨w.heap.size + 1, 0, none⟩)]) ∧ w' = (w.alloc (.cells #[.int .i64 a] 3)).alloc (.cells #[.pointer p] 37) := by
  refine callsIn_of_wp Try.func37 rfl h ?_ hro
  simp only [Try.ntmps37, List.size_toArray, List.length_cons, List.length_nil, Nat.reduceAdd, Nat.reduceSub, Array.replicate_succ, Array.replicate_zero, List.push_toArray, List.append_toArray, List.nil_append, List.cons_append]
  gi_wp2
  go_ret
  exact ⟨by simp, rfl⟩

theorem below_turned2 {n₀ : Nat} {w w' : World} (h : Below n₀ w w') : Turned (fun k => n₀ ≤ k) w w' := ⟨h.os, h.tape, h.output, h.size, fun k _ hk => h.block k (by omega)⟩

theorem get_below {M : RM} {y : Int} (h : M.getE y = 0) : y < (M.tail : Nat) ∧ (M.h : Int) ≤ y := by
  have hf : M.findE y = 0 := by
    unfold RM.getE at h
    split at h
    · rename_i h1; exact absurd h h1
    · rename_i h1; simpa using h1
  unfold RM.findE at hf
  repeat' split at hf
  all_goals first | omega | (constructor <;> omega)

set_option maxHeartbeats 2000000 in
theorem readable1_in (F : Fence) (n : Nat) (h6 : F.fn 47) (h8 : F.fn 38) (hw : F = Fence.wide) (hro : F.round = none) (hn : 1 ≤ n) (l Ba Br n₀ q : Nat) {Wf : Nat → Prop} {M : RM} {N : Nat} (hM : M.Ok N) (hN : N < 1000000) (x : Int) (hx0 : 0 ≤ x) (hxt : x ≤ (M.tail : Nat))
    (hlow : ∀ k, Wf k → k < n₀) (hBr0 : Br < n₀) (J Jx : List (Int × Int) → World → Prop)
    (W : World) (hJ : AbidesFrom W.heap.size J)
    (hY : ∀ pre y W, J pre W → pre.length < 1000000 → YieldAt F (n - 1) Try.prog l #[.int .i64 y.1, .int .i64 y.2] W fun e W' =>
      (e = .returned (.bool true) ∧ J (pre ++ [y]) W' ∧ Below n₀ W W') ∨ (e = .returned (.bool false) ∧ Jx (pre ++ [y]) W'))
    (hn₀ : n₀ ≤ W.heap.size) (hBa : W.cell? ⟨Ba, 0, none⟩ = some (.int .i64 x)) (hBr : W.cell? ⟨Br, 0, none⟩ = some (.pointer (some ⟨q, 0, none⟩))) (hA : (rT q M).at_ W Wf) (h0 : J [] W) :
    CallsIn F n Try.prog 47 #[.func (.yield l) #[] #[], .pointer (some ⟨Ba, 0, none⟩), .pointer (some ⟨Br, 0, none⟩)] W fun e W' => (∃ v, e = .returned v) ∧
      ((∃ ys, (∃ k, ys = rdEls M x k ∧ M.getE (x + (k : Int)) ≠ 0) ∧ J ys W') ∨ (∃ pre, (∃ k, pre = rdEls M x (k + 1) ∧ (0 < k + 1 → M.getE x = 0)) ∧ Jx pre W')) := by
  have HJ := Lib.hid hJ
  have HD := Lib.hid (fun (pre : List (Int × Int)) (V : World) (h : J pre V) => show J pre V.drew from hJ pre V _ none h ⟨rfl, rfl, rfl, Nat.le_refl _, fun _ _ _ => rfl⟩ (fun r e => by cases e))
  have HSt := Lib.hid (fun (pre : List (Int × Int)) (V V' : World) (h : J pre V) (hst : Still V V') => show J pre V' from hJ pre V V' none h (still_grown hst) (fun r e => by cases e))
  have htb : M.tail < 1000000 := by have := hM.low; omega
  have HG := Lib.hid (fun (V : World) (hb : Below n₀ W V) (y : Int) (hy : w64 y) => show CallsIn F (n - 1) Try.prog 38 #[.pointer (some ⟨q, 0, none⟩), .int .i64 y] V fun e w' => e = .returned (.tuple #[.int .i64 (M.getR y), .int .i64 (M.getE y)]) ∧ Still V w' from by
    subst hw
    refine callsIn_wide.2 (rget_any (w := V) (W := Wf) (q := q) (M := M) (by
    obtain ⟨la, lc, pa, pc, H⟩ := hA
    exact ⟨la, lc, pa, pc, H.turned (below_turned2 hb) (fun k hk h => by have := hlow k hk; omega)⟩) hM hN y hy))
  have HCs := Lib.hid (fun (V : World) (hb : Below n₀ W V) => show V.cell? ⟨Br, 0, none⟩ = some (.pointer (some ⟨q, 0, none⟩)) from (hb.cell (p := ⟨Br, 0, none⟩) hBr0).trans hBr)
  have HT := Lib.hid (fun (y : Int) (h : M.getE y = 0) => show y < (M.tail : Nat) from (get_below h).1)
  have hxb : x < 1000000 := by omega
  have hxt' : x ≤ ((M.tail : Nat) : Int) := hxt
  have htb' : ((M.tail : Nat) : Int) < 1000000 := by omega
  generalize ((M.tail : Nat) : Int) = t at *
  clear hJ hA htb hM hN hxt hw
  refine callsIn_of_wp Try.func47 rfl h6 ?_ hro
  simp only [Try.ntmps47, List.size_toArray, List.length_cons, List.length_nil, Nat.reduceAdd, Nat.reduceSub, Array.replicate_succ, Array.replicate_zero, List.push_toArray, List.append_toArray, List.nil_append, List.cons_append]
  gi_wp2
  gi_loopw [4] (fun i wr => ∃ k : Nat, x + (k : Int) ≤ t ∧ i = .int .i64 (x + (k : Int)) ∧ J (rdEls M x k) wr ∧ Below n₀ W wr ∧ (0 < k → M.getE x = 0))
    (fun i _ => (t + 1 - intOf i).toNat)
  case atStart => exact ⟨0, by omega, by simp, h0, Below.refl _ _, fun h => by omega⟩
  case round =>
    clear hBr hBa
    obtain ⟨k, hk, rfl, hJs, hnx, hk0⟩ := hrel
    have cB := HCs.out wr hnx
    have hGet := Lib.hid (HG.out wr hnx (x + (k : Int)) ⟨by omega, by omega⟩)
    have hsz := hnx.size
    have hEl : (M.getR (x + (k : Int)), x + (k : Int) + 1) = rdEl M x k := rfl
    have hwr : IntKind.i64.wrap (x + (k : Int) + 1) = x + (k : Int) + 1 := by simp [IntKind.wrap, IntKind.signed, IntKind.bits]; omega
    by_cases he : M.getE (x + (k : Int)) = 0
    · have hlt := HT.out _ he
      have HE0 := Lib.hid (show M.getE x = 0 by
        rcases Nat.eq_zero_or_pos k with rfl | h
        · simpa using he
        · exact hk0 h)
      rw [he] at hGet
      have HY := Lib.hid (fun V (hst : Still wr V) => hY _ (rdEl M x k) V (HSt.out _ _ _ hJs hst) (by rw [rdEls_len]; omega))
      have HK := Lib.hid (fun V V' (hst : Still wr V) (hb : Below n₀ V V') => show Below n₀ W V' from (hnx.trans (still_below hst (by omega))).trans hb)
      unfold rdEl at HY
      clear hY HG HCs HT hk0 he
      have HLs := Lib.hid (show rdEls M x k ++ [(M.getR (x + (k : Int)), x + (k : Int) + 1)] = rdEls M x (k + 1) from rfl)
      rw [HLs.out] at HY
      clear HLs hEl
      generalize M.getR (x + (k : Int)) = gr at *
      gi_wp2_with (first
        | (gi_at_call 38; ((with_reducible refine hGet.out.mono ?_)); rintro e w5 ⟨rfl, hst⟩; obtain ⟨fn, tmps, assign, body, hy, hR⟩ := HY.out w5 hst; dsimp only at hy))
      refine hR.mono ?_
      rintro e W3 (⟨rfl, h1, h2⟩ | ⟨rfl, h1⟩)
      · gi_wp2
        go_roundw
        case rel => exact ⟨k + 1, by omega, by rw [show x + ((k + 1 : Nat) : Int) = x + (k : Int) + 1 by omega], h1, HK.out _ _ hst h2, fun _ => HE0.out⟩
        case measure => simp [intOf]; omega
      · gi_wp2
        refine bodyPost_ret (results_none rfl _ _ _) rfl ?_
        exact ⟨⟨_, rfl⟩, .inr ⟨_, ⟨k, rfl, fun _ => HE0.out⟩, h1⟩⟩
    · have HNe := Lib.hid he
      have hb : (M.getE (x + (k : Int)) != 0) = true := by rw [bne_iff_ne]; exact he
      have HSJ := Lib.hid (fun V (hst : Still wr V) => show (∃ ys, (∃ k, ys = rdEls M x k ∧ M.getE (x + (k : Int)) ≠ 0) ∧ J ys V) ∨ (∃ pre, (∃ k, pre = rdEls M x (k + 1) ∧ (0 < k + 1 → M.getE x = 0)) ∧ Jx pre V) from .inl ⟨_, ⟨k, rfl, HNe.out⟩, HSt.out _ _ _ hJs hst⟩)
      clear HG HCs HT hY HNe he hk0
      generalize M.getE (x + (k : Int)) = ge at *
      generalize M.getR (x + (k : Int)) = gr at *
      gi_wp2_with (gi_at_call 38; ((with_reducible refine hGet.out.mono ?_)); rintro e w5 ⟨rfl, hst⟩)
      refine ⟨fun f h => (by cases h), ?_⟩
      gi_wp2
      refine bodyPost_ret (results_none rfl _ _ _) rfl ?_
      exact ⟨⟨_, rfl⟩, HSJ.out _ hst⟩

theorem readable_stops (F : Fence) (n : Nat) (h6 : F.fn 47) (h8 : F.fn 38) (hw : F = Fence.wide) (hro : F.round = none) (hn : 1 ≤ n) (Ba Br n₀ q : Nat) {Wf : Nat → Prop} {M : RM} {N : Nat} (hM : M.Ok N) (hN : N < 1000000) (x : Int) (hx0 : 0 ≤ x) (hxt : x ≤ (M.tail : Nat)) (w : World)
    (hlow : ∀ k, Wf k → k < n₀) (hBr0 : Br < n₀) (hBa0 : Ba < n₀) (hn₀ : n₀ ≤ w.heap.size) (hBa : w.cell? ⟨Ba, 0, none⟩ = some (.int .i64 x)) (hBr : w.cell? ⟨Br, 0, none⟩ = some (.pointer (some ⟨q, 0, none⟩))) (hA : (rT q M).at_ w Wf) :
    SeqStopsK F n Try.prog 47 #[.pointer (some ⟨Ba, 0, none⟩), .pointer (some ⟨Br, 0, none⟩)] (fun x : Int × Int => #[.int .i64 x.1, .int .i64 x.2]) (Below n₀) (fun ys => ∃ k, ys = rdEls M x k ∧ M.getE (x + (k : Int)) ≠ 0) (fun pre => ∃ k, pre = rdEls M x (k + 1) ∧ (0 < k + 1 → M.getE x = 0)) 1000000 w := fun l J Jx W hW hJ _ hY h0 =>
  readable1_in F n h6 h8 hw hro hn l Ba Br n₀ q hM hN x hx0 hxt hlow hBr0 J Jx W hJ hY (Nat.le_trans hn₀ hW.size) ((hW.cell (p := ⟨Ba, 0, none⟩) (by show Ba < w.heap.size; omega)).trans hBa) ((hW.cell (p := ⟨Br, 0, none⟩) (by show Br < w.heap.size; omega)).trans hBr)
    (by obtain ⟨la, lc, pa, pc, H⟩ := hA; exact ⟨la, lc, pa, pc, H.turned (below_turned2 hW) (fun k hk h => by have := hlow k hk; omega)⟩) h0
end Go.Proofs.Ytliaaggjefjbeaa
