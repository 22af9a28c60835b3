/- The iterator of package handle goes through the handles of a book of generations that may be, slot by slot. No condition. -/
import Derived.RangeFuncNested
import Derived.RangeFuncBound
import Derived.RangeFuncCalls
import Derived.RangeFuncLeaves
import Derived.RangeFuncBox
import Derived.Maps.AppendAt
import Derived.Shelf.Abstract
import Derived.OwnWalkIn
import Derived.TacticsInMore
import Derived.LoopNIn
import Derived.LoopIn
import Derived.Test.YtefjlanibemdaaaHandle
namespace Go.Proofs.Ytefjlanibemdaaa
open Go.RowKit Go.Shelf
attribute [local go_sem] Oper.semAt_some
set_option linter.unusedVariables false
set_option maxRecDepth 100000

/-- A generation that may be. -/
def genOk (g : Int) : Prop := 0 ≤ g ∧ g < 1099511627776
/-- The handles of a book, slot by slot. -/
def hsFrom : Nat → List Int → List Int
  | _, [] => []
  | k, g :: r => (g * 128 + k + 1) :: hsFrom (k + 1) r
def hsOf (l : List Int) : List Int := hsFrom 0 l
theorem hsFrom_length : ∀ (l : List Int) (k : Nat), (hsFrom k l).length = l.length
  | [], k => rfl
  | g :: r, k => by simp [hsFrom, hsFrom_length r]
theorem hsOf_length (l : List Int) : (hsOf l).length = l.length := hsFrom_length l 0
theorem hsFrom_get : ∀ (l : List Int) (k i : Nat) (g : Int), l[i]? = some g → (hsFrom k l)[i]? = some (g * 128 + (k + i : Nat) + 1)
  | [], k, i, g, h => by simp at h
  | a :: r, k, 0, g, h => by simp at h; subst h; simp [hsFrom]
  | a :: r, k, i + 1, g, h => by
    simp only [List.getElem?_cons_succ] at h
    simp only [hsFrom, List.getElem?_cons_succ]
    rw [hsFrom_get r (k + 1) i g h, show k + 1 + i = k + (i + 1) by omega]
theorem hsOf_get {l : List Int} {i : Nat} {g : Int} (h : l[i]? = some g) : (hsOf l)[i]? = some (g * 128 + (i : Nat) + 1) := by
  have := hsFrom_get l 0 i g h
  rwa [Nat.zero_add] at this

theorem of_in (F : Fence) (n : Nat) (k : Nat) (g : Int) (w : World) (hk : k < 128) (hg : genOk g) (h : F.fn 7) (hro : F.round = none) :
    CallsIn F n Try.prog 7 #[.int .i64 k, .int .i64 g] w fun e w' => e = .returned (.tuple #[.int .i64 (g * 128 + k + 1), .int .i64 0]) ∧ w = w' := by
  obtain ⟨h3, h4⟩ := hg
  refine callsIn_of_wp Try.func7 rfl h ?_ hro
  simp only [Try.ntmps7, List.size_toArray, List.length_cons, List.length_nil, Nat.reduceAdd, Nat.reduceSub, Array.replicate_succ, Array.replicate_zero, List.push_toArray, List.append_toArray, List.nil_append, List.cons_append]
  gi_wp2
  go_ret2
  exact ⟨rfl, rfl⟩

theorem handles_in (F : Fence) (n : Nat) (h : F.fn 23) (hro : F.round = none) (ao : Option Addr) (len cap : Nat) (w : World) :
    CallsIn F n Try.prog 23 #[.slice ao len cap] w fun e w' => e = .returned (.func (.func 24) #[] #[.pointer (some ⟨w.heap.size, 0, none⟩)]) ∧ w' = w.alloc (.cells #[.slice ao len cap] 28) := by
  refine callsIn_of_wp Try.func23 rfl h ?_ hro
  simp only [Try.ntmps23, List.size_toArray, List.length_cons, List.length_nil, Nat.reduceAdd, Nat.reduceSub, Array.replicate_succ, Array.replicate_zero, List.push_toArray, List.append_toArray, List.nil_append, List.cons_append]
  gi_wp2
  go_ret
  exact ⟨rfl, rfl⟩

/-- The cells of a book lie before n₀. -/
def NumsLow (n₀ : Nat) (ao : Option Addr) : Prop := ∀ a, ao = some a → a.block < n₀
theorem NumsAt.below {n₀ : Nat} {w w' : World} {ao : Option Addr} {l : List Int} (h : NumsAt w ao l) (hb : Below n₀ w w') (hl : NumsLow n₀ ao) : NumsAt w' ao l := fun i x hx => by
  obtain ⟨b, o, rfl, hc⟩ := h i x hx
  refine ⟨b, o, rfl, ?_⟩
  have : w'.heap[b]? = w.heap[b]? := hb.block b (hl ⟨b, o, none⟩ rfl)
  rw [← hc]
  exact World.cell?_of_block (w := w) this

set_option maxHeartbeats 1000000 in
theorem handles1_in (F : Fence) (n : Nat) (h6 : F.fn 24) (h7 : F.fn 7) (hro : F.round = none) (hn : 1 ≤ n) (l Bn n₀ : Nat) (ao : Option Addr) (cap : Nat) (st : List Int) (hst : st.length ≤ 128) (hgs : ∀ g ∈ st, genOk g)
    (hlow : NumsLow n₀ ao) (J Jx : List Int → World → Prop)
    (W : World) (hJ : AbidesFrom W.heap.size J)
    (hY : ∀ pre x W, J pre W → pre.length < (hsOf st).length → YieldAt F (n - 1) Try.prog l #[.int .i64 x, .int .i64 0] W fun e W' =>
      (e = .returned (.bool true) ∧ J (pre ++ [x]) W' ∧ Below n₀ W W') ∨ (e = .returned (.bool false) ∧ Jx (pre ++ [x]) W'))
    (hn₀ : n₀ ≤ W.heap.size) (hBn : W.cell? ⟨Bn, 0, none⟩ = some (.slice ao st.length cap)) (hA : NumsAt W ao st) (h0 : J [] W) :
    CallsIn F n Try.prog 24 #[.func (.yield l) #[] #[], .pointer (some ⟨Bn, 0, none⟩)] W fun e W' => (∃ v, e = .returned v) ∧
      ((∃ ys, ys = hsOf st ∧ J ys W') ∨ (∃ pre, pre <+: hsOf st ∧ Jx pre W')) := by
  have HA := Lib.hid hA
  have HJ := Lib.hid hJ
  have HG := Lib.hid hgs
  have HL := Lib.hid (hsOf_length st)
  clear hA hJ hgs
  refine callsIn_of_wp Try.func24 rfl h6 ?_ hro
  simp only [Try.ntmps24, List.size_toArray, List.length_cons, List.length_nil, Nat.reduceAdd, Nat.reduceSub, Array.replicate_succ, Array.replicate_zero, List.push_toArray, List.append_toArray, List.nil_append, List.cons_append]
  gi_wp2
  gi_loopw [7] (fun i wr => ∃ k : Nat, k ≤ st.length ∧ i = .int .i64 k ∧ J ((hsOf st).take k) wr ∧ Below n₀ W wr)
    (fun i _ => st.length - (intOf i).toNat)
  case atStart => exact ⟨0, Nat.zero_le _, rfl, h0, Below.refl _ _⟩
  case round =>
    obtain ⟨k, hk, rfl, hJs, hnx⟩ := hrel
    by_cases hlt : k < st.length
    · obtain ⟨g, hg⟩ := get_some hlt
      have hgo : genOk g := HG.out g (List.mem_of_getElem? hg)
      obtain ⟨b, o, rfl, hc⟩ := (HA.out.below hnx hlow) k g hg
      obtain ⟨fn, tmps, assign, body, hy, hR⟩ := hY _ (g * 128 + (k : Nat) + 1) _ hJs (by rw [List.length_take, HL.out]; omega)
      have HX := Lib.hid (hsOf_get hg)
      have HO := Lib.hid (fun m W => of_in F m k g W (by omega) hgo h7 hro)
      clear hg hgo
      gi_wp2_with (gi_at_call 7; refine (HO.out _ _).mono ?_; rintro e w' ⟨rfl, rfl⟩)
      refine hR.mono ?_
      rintro e W3 (⟨rfl, hJ3, hk3⟩ | ⟨rfl, hJx3⟩)
      · gi_wp2
        go_roundw
        case rel => exact ⟨k + 1, by omega, by go_num, by rw [List.take_add_one, HX.out]; exact hJ3, hnx.trans hk3⟩
        case measure => simp [intOf]; omega
      · gi_wp2
        refine bodyPost_ret (results_none rfl _ _ _) rfl ?_
        refine ⟨⟨_, rfl⟩, .inr ⟨(hsOf st).take (k + 1), List.take_prefix _ _, ?_⟩⟩
        rw [List.take_add_one, HX.out]
        exact hJx3
    · obtain rfl : k = st.length := by omega
      gi_wp2
      go_end0
      exact ⟨⟨_, rfl⟩, .inl ⟨_, rfl, by rw [List.take_of_length_le (by rw [HL.out]; exact Nat.le_refl _)] at hJs; exact hJs⟩⟩

theorem handles_stops (F : Fence) (n : Nat) (h6 : F.fn 24) (h7 : F.fn 7) (hro : F.round = none) (hn : 1 ≤ n) (Bn n₀ : Nat) (ao : Option Addr) (cap : Nat) (st : List Int) (w : World) (hst : st.length ≤ 128) (hgs : ∀ g ∈ st, genOk g)
    (hlow : NumsLow n₀ ao) (hn₀ : n₀ ≤ w.heap.size) (hc : w.cell? ⟨Bn, 0, none⟩ = some (.slice ao st.length cap)) (hA : NumsAt w ao st) :
    SeqStopsK F n Try.prog 24 #[.pointer (some ⟨Bn, 0, none⟩)] (fun x : Int => #[.int .i64 x, .int .i64 0]) (Below n₀) (fun ys => ys = hsOf st) (fun pre => pre <+: hsOf st) (hsOf st).length w := fun l J Jx W hW hJ _ hY h0 =>
  handles1_in F n h6 h7 hro hn l Bn n₀ ao cap st hst hgs hlow J Jx W hJ hY (Nat.le_trans hn₀ hW.size) ((hW.cell (p := ⟨Bn, 0, none⟩) (cell_lt hc)).trans hc)
    (hA.below hW (fun a ha => Nat.lt_of_lt_of_le (hlow a ha) hn₀)) h0
end Go.Proofs.Ytefjlanibemdaaa
