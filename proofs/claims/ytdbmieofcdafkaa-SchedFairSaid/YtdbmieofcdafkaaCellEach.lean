/- The iterator of package cell goes through all cells, the first one first, for every loop body that keeps what lay there. No condition. -/
import Derived.RangeFuncNested
import Derived.RangeFuncBound
import Derived.RangeFuncCalls
import Derived.RangeFuncLeaves
import Derived.RangeFuncBox
import Derived.Maps.AppendAt
import Derived.Shelf.Abstract
import Derived.OwnWalkIn
import Derived.TacticsInMore
import Derived.LoopNIn
import Derived.LoopIn
import Derived.Test.YtdbmieofcdafkaaCell
namespace Go.Proofs.Ytdbmieofcdafkaa
open Go.RowKit Go.Shelf
attribute [local go_sem] Oper.semAt_some
set_option linter.unusedVariables false
set_option maxRecDepth 100000

/-- 'Block B holds this' speaks of cells alone. -/
theorem blk_own {β : Type} (B : Nat) (xs : List Value) (e : TypeId) : Own (fun (_ : β) W => Blk W B xs e) := fun s X Y row hs hg hrow =>
  (hg.block B hs.lt (fun e' => by obtain ⟨o, ho, hc⟩ := hrow B e'.symm; rw [show X.heap[B]? = _ from hs] at ho; cases ho; cases hc)).trans hs
theorem below_blk {n₀ : Nat} {w w' : World} {b : Nat} {xs : List Value} {e : TypeId} (h : Blk w b xs e) (hb : Below n₀ w w') (hlt : b < n₀) : Blk w' b xs e := h.of_eq (hb.block b hlt)
theorem blk_of_owns_m {w : World} {base : Nat} {e : TypeId} {g n m : Nat} {xs : List Value} (h : w.ownsRow base e m (.slice (some ⟨g, 0, none⟩) n n) n xs) (hn : 0 < n) : Blk w g xs e := by
  rcases h.2 with ⟨h0, h1⟩ | ⟨g', cap, cur, hv, _, hh, _, _, hs, ht⟩
  · omega
  · simp at hv
    obtain ⟨rfl, rfl⟩ := hv
    unfold Blk
    rw [hh]
    have : cur.toList = xs := by rw [← ht, List.take_of_length_le (by simp [hs])]
    rw [← this]
/-- A row that is filled to its end is a block known whole. -/
theorem blk_of_owns {w : World} {base : Nat} {e : TypeId} {g n : Nat} {xs : List Value} (h : w.ownsRow base e 1 (.slice (some ⟨g, 0, none⟩) n n) n xs) (hn : 0 < n) : Blk w g xs e := by
  rcases h.2 with ⟨h0, h1⟩ | ⟨g', cap, cur, hv, _, hh, _, _, hs, ht⟩
  · omega
  · simp at hv
    obtain ⟨rfl, rfl⟩ := hv
    unfold Blk
    rw [hh]
    have : cur.toList = xs := by rw [← ht, List.take_of_length_le (by simp [hs])]
    rw [← this]

theorem each_in (F : Fence) (n : Nat) (h : F.fn 80) (hro : F.round = none) (p : Option Addr) (w : World) :
    CallsIn F n Try.prog 80 #[.pointer p] w fun e w' => e = .returned (.func (.func 86) #[] #[.pointer (some ⟨w.heap.size, 0, none⟩)]) ∧ w' = w.alloc (.cells #[.pointer p] 60) := by
  refine callsIn_of_wp Try.func80 rfl h ?_ hro
  simp only [Try.ntmps80, List.size_toArray, List.length_cons, List.length_nil, Nat.reduceAdd, Nat.reduceSub, Array.replicate_succ, Array.replicate_zero, List.push_toArray, List.append_toArray, List.nil_append, List.cons_append]
  gi_wp2
  go_ret
  exact ⟨rfl, rfl⟩

set_option maxHeartbeats 1000000 in
theorem each1_in (F : Fence) (n : Nat) (h6 : F.fn 86) (hro : F.round = none) (hn : 1 ≤ n) (l Bn n₀ mb ab : Nat) (st : List Cel) (hb : ab < n₀) (J Jx : List Cel → World → Prop)
    (W : World) (hJ : AbidesFrom W.heap.size J)
    (hY : ∀ pre x W, J pre W → pre.length < st.length → YieldAt F (n - 1) Try.prog l #[x.val] W fun e W' =>
      (e = .returned (.bool true) ∧ J (pre ++ [x]) W' ∧ Below n₀ W W') ∨ (e = .returned (.bool false) ∧ Jx (pre ++ [x]) W'))
    (hn₀ : n₀ ≤ W.heap.size) (hBn : W.cell? ⟨Bn, 0, none⟩ = some (.pointer (some ⟨mb, 0, none⟩))) (hM : Mem W mb ab st) (h0 : J [] W) :
    CallsIn F n Try.prog 86 #[.func (.yield l) #[] #[], .pointer (some ⟨Bn, 0, none⟩)] W fun e W' => (∃ v, e = .returned v) ∧
      ((∃ ys, ys = st ∧ J ys W') ∨ (∃ pre, pre <+: st ∧ Jx pre W')) := by
  have hhd := hM.cellHd
  have hle := hM.le
  have HR := Lib.hid hM.row
  have HJ := Lib.hid hJ
  clear hM hJ
  refine callsIn_of_wp Try.func86 rfl h6 ?_ hro
  simp only [Try.ntmps86, List.size_toArray, List.length_cons, List.length_nil, Nat.reduceAdd, Nat.reduceSub, Array.replicate_succ, Array.replicate_zero, List.push_toArray, List.append_toArray, List.nil_append, List.cons_append]
  gi_wp2
  gi_loopw [10] (fun i wr => ∃ k : Nat, k ≤ st.length ∧ i = .int .i64 k ∧ J (st.take k) wr ∧ Below n₀ W wr)
    (fun i _ => st.length - (intOf i).toNat)
  case atStart => exact ⟨0, Nat.zero_le _, rfl, h0, Below.refl _ _⟩
  case round =>
    obtain ⟨k, hk, rfl, hJs, hnx⟩ := hrel
    by_cases hlt : k < st.length
    · obtain ⟨x, hx⟩ := get_some hlt
      have hrow : Blk wr ab (rowOf celEnc st) 107 := HR.out.of_eq (hnx.block ab hb)
      have hc0 : wr.cell? ⟨ab, k * 3, none⟩ = some (.int .i64 x.n) := hrow.cell (rowOf_get (m := 3) celEnc_len hx (j := 0) rfl)
      have hc1 : wr.cell? ⟨ab, k * 3 + 1, none⟩ = some (.int .i64 x.h) := hrow.cell (rowOf_get (m := 3) celEnc_len hx (j := 1) rfl)
      have hc2 : wr.cell? ⟨ab, k * 3 + 2, none⟩ = some (.int .i64 x.w) := hrow.cell (rowOf_get (m := 3) celEnc_len hx (j := 2) rfl)
      have hsz := hnx.size
      have hJ2 := HJ.out _ wr (wr.alloc (.cells #[.int .i64 x.n, .int .i64 x.h, .int .i64 x.w] 107)) none hJs (World.grownBy_alloc wr _ none) (fun r e => by cases e)
      obtain ⟨fn, tmps, assign, body, hy, hR⟩ := hY _ x _ hJ2 (by rw [List.length_take]; omega)
      obtain ⟨xn, xh, xw⟩ := x
      dsimp only [Cel.val] at hy hc0 hc1 hc2
      have HX := Lib.hid hx
      clear hx hrow
      gi_wp2
      refine hR.mono ?_
      rintro e W3 (⟨rfl, hJ3, hk3⟩ | ⟨rfl, hJx3⟩)
      · gi_wp2
        go_roundw
        case rel => exact ⟨k + 1, by omega, by go_num, by rw [List.take_add_one, HX.out]; exact hJ3, (hnx.alloc (by omega) _).trans hk3⟩
        case measure => simp [intOf]; omega
      · gi_wp2
        refine bodyPost_ret (results_none rfl _ _ _) rfl ?_
        refine ⟨⟨_, rfl⟩, .inr ⟨st.take (k + 1), List.take_prefix _ _, ?_⟩⟩
        rw [List.take_add_one, HX.out]
        exact hJx3
    · obtain rfl : k = st.length := by omega
      gi_wp2
      go_end0
      exact ⟨⟨_, rfl⟩, .inl ⟨_, rfl, by rw [List.take_length] at hJs; exact hJs⟩⟩

theorem each_stops (F : Fence) (n : Nat) (h6 : F.fn 86) (hro : F.round = none) (hn : 1 ≤ n) (Bn n₀ mb ab : Nat) (st : List Cel) (w : World) (hb : ab < n₀) (hmb : mb < n₀) (hn₀ : n₀ ≤ w.heap.size)
    (hc : w.cell? ⟨Bn, 0, none⟩ = some (.pointer (some ⟨mb, 0, none⟩))) (hM : Mem w mb ab st) :
    SeqStopsK F n Try.prog 86 #[.pointer (some ⟨Bn, 0, none⟩)] (fun x : Cel => #[x.val]) (Below n₀) (fun ys => ys = st) (fun pre => pre <+: st) st.length w := fun l J Jx W hW hJ _ hY h0 =>
  each1_in F n h6 hro hn l Bn n₀ mb ab st hb J Jx W hJ hY (Nat.le_trans hn₀ hW.size) ((hW.cell (p := ⟨Bn, 0, none⟩) (cell_lt hc)).trans hc)
    ⟨hM.hd.of_eq (hW.block mb (by omega)), hM.row.of_eq (hW.block ab (by omega)), hM.ne, hM.pos, hM.le⟩ h0
end Go.Proofs.Ytdbmieofcdafkaa
