/- What stands beside a machine of sessions while one step of it is watched: what the cells were, and all places and registers. No condition. -/
import Derived.Test.YtkeacdhjkhojhaaSchedMalformed
import Derived.Test.YtkeacdhjkhojhaaStepOne
import Derived.Deep.RegionHeld3
namespace Go.Proofs.Ytkeacdhjkhojhaa
open Go.RowKit
set_option linter.unusedVariables false
set_option linter.unusedSimpArgs false
set_option maxRecDepth 100000

theorem infoRegs : (Try.prog.info? 41).map (fun i => (i.zero, i.size, i.bytes)) = some (some (.agg #[.int .i64 0, .int .i64 0, .int .i64 0, .int .i64 0]), 4, 32) := by kernel_rfl

def atsL (M : Mach) (j : Nat) : List Int := (List.range j).map fun (t : Nat) => atOf M (t : Int)
def regsL (M : Mach) (j : Nat) : List (List Int) := (List.range j).map fun (t : Nat) => regsOf M (t : Int)
theorem atsL_succ (M : Mach) (j : Nat) : atsL M (j + 1) = atsL M j ++ [atOf M (j : Int)] := by unfold atsL; rw [List.range_succ, List.map_append]; rfl
theorem regsL_succ (M : Mach) (j : Nat) : regsL M (j + 1) = regsL M j ++ [regsOf M (j : Int)] := by unfold regsL; rw [List.range_succ, List.map_append]; rfl
theorem atsL_get (M : Mach) {j k : Nat} (h : k < j) : (atsL M j)[k]? = some (atOf M (k : Int)) := by unfold atsL; simp [h]
theorem regsL_get (M : Mach) {j k : Nat} (h : k < j) : (regsL M j)[k]? = some (regsOf M (k : Int)) := by unfold regsL; simp [h]

/-- What stands beside the machine in a round: what the cells were, and the sessions' places and registers. -/
structure Beside (B nb : Nat) (W : World) (L : Lay) (M : Mach) (was : List Int) (ao : Option Addr) (cc : Nat) (ro : Option Addr) (rc : Nat) (A : List Int) (R : List (List Int)) : Prop where
  m : SM W L M
  was : Blk W nb (ints was) 3
  at_ : W.ownsRow B 3 1 (.slice ao A.length cc) A.length (ints A)
  reg : W.ownsRow B 41 4 (.slice ro R.length rc) R.length (rowOf ints R)
  hi : L.hi ≤ nb
  lt : nb < B

theorem Beside.still {B nb : Nat} {W W' : World} {L : Lay} {M : Mach} {was A : List Int} {R : List (List Int)} {ao ro : Option Addr} {cc rc : Nat} (h : Beside B nb W L M was ao cc ro rc A R) (ht : Still W W') : Beside B nb W' L M was ao cc ro rc A R :=
  ⟨h.m.still ht, h.was.turned ht (fun h => h), own_turned h.at_ ht (fun _ _ h => h), own_turned h.reg ht (fun _ _ h => h), h.hi, h.lt⟩

theorem Beside.stepped {B nb : Nat} {W W' : World} {L : Lay} {M M' : Mach} {was A : List Int} {R : List (List Int)} {ao ro : Option Addr} {cc rc : Nat} (h : Beside B nb W L M was ao cc ro rc A R) (hm : SM W' L M') (ht : Turned L.W W W') : Beside B nb W' L M' was ao cc ro rc A R :=
  ⟨hm, h.was.turned ht (fun hw => by have := (h.m.W_in hw).2; have := h.hi; omega), own_turned h.at_ ht (fun b hb hw => by have := (h.at_.lt b hb).1; have := (h.m.W_in hw).2; have := h.hi; have := h.lt; omega),
    own_turned h.reg ht (fun b hb hw => by have := (h.reg.lt b hb).1; have := (h.m.W_in hw).2; have := h.hi; have := h.lt; omega), h.hi, h.lt⟩

/-- The places' row grows. -/
theorem Beside.grewA {B nb : Nat} {W W' : World} {L : Lay} {M : Mach} {was A : List Int} {R : List (List Int)} {ao a' ro : Option Addr} {cc c' rc : Nat} {x : Int} {o : Obj} (h : Beside B nb W L M was ao cc ro rc A R)
    (hg : (W.alloc o).grownBy W' (Value.slice ao A.length cc).ownBlock) (hown : W'.ownsRow B 3 1 (.slice a' (A.length + 1) c') (A.length + 1) (ints A ++ [.int .i64 x])) : Beside B nb W' L M was a' c' ro rc (A ++ [x]) R := by
  have hA : Still W (W.alloc o) := (Turned.refl _ W).alloc o
  have h1 := h.still hA
  have hG : Turned (fun b => (Value.slice ao A.length cc).ownBlock = some b) (W.alloc o) W' := (Turned.refl _ _).grown hg (fun b e => .inl e)
  refine ⟨h1.m.turned hG (fun b hb => .inr ?_), h1.was.turned hG (fun hb => ?_), ?_, own_turned h1.reg hG (own_own_ne h1.reg h1.at_ (by decide)), h.hi, h.lt⟩
  · have := (h1.at_.lt b hb).1; have := h.hi; have := h.lt; omega
  · have := (h1.at_.lt nb hb).1; have := h.lt; omega
  · rw [List.length_append]; show W'.ownsRow B _ 1 _ _ (ints (A ++ [x])); rw [show ints (A ++ [x]) = ints A ++ [.int .i64 x] by simp [ints]]; exact hown

theorem Beside.grewR {B nb : Nat} {W W' : World} {L : Lay} {M : Mach} {was A : List Int} {R : List (List Int)} {ao ro r' : Option Addr} {cc rc c' : Nat} {x : List Int} {o : Obj} (h : Beside B nb W L M was ao cc ro rc A R)
    (hg : (W.alloc o).grownBy W' (Value.slice ro R.length rc).ownBlock) (hown : W'.ownsRow B 41 4 (.slice r' (R.length + 1) c') (R.length + 1) (rowOf ints R ++ ints x)) : Beside B nb W' L M was ao cc r' c' A (R ++ [x]) := by
  have hA : Still W (W.alloc o) := (Turned.refl _ W).alloc o
  have h1 := h.still hA
  have hG : Turned (fun b => (Value.slice ro R.length rc).ownBlock = some b) (W.alloc o) W' := (Turned.refl _ _).grown hg (fun b e => .inl e)
  refine ⟨h1.m.turned hG (fun b hb => .inr ?_), h1.was.turned hG (fun hb => ?_), own_turned h1.at_ hG (own_own_ne h1.at_ h1.reg (by decide)), ?_, h.hi, h.lt⟩
  · have := (h1.reg.lt b hb).1; have := h.hi; have := h.lt; omega
  · have := (h1.reg.lt nb hb).1; have := h.lt; omega
  · rw [List.length_append]; rw [show rowOf ints (R ++ [x]) = rowOf ints R ++ ints x by rw [rowOf_append, rowOf_cons, rowOf_nil, List.append_nil]]; exact hown

theorem grown_still {w W W' : World} {B : Nat} {e : TypeId} {m n : Nat} {v : Value} {xs : List Value} {o : Obj} (hT : Still w W) (hB : w.heap.size ≤ B) (hown : W.ownsRow B e m v n xs) (hg : (W.alloc o).grownBy W' v.ownBlock) : Still w W' :=
  (hT.alloc o).grown hg (fun q e => .inr (by have := (hown.lt q e).1; omega))
end Go.Proofs.Ytkeacdhjkhojhaa
