/- Rows of slices in memory; the plain routes: what layer 11 says of keys and their parts. No condition. -/
import Derived.Test.YtbljjmehjkmjaaaBytes
import Derived.Test.YtbljjmehjkmjaaaHash
import Derived.Test.YtbljjmehjkmjaaaOwn
import Derived.Test.YtbljjmehjkmjaaaReadInts
import Derived.Test.YtbljjmehjkmjaaaSlW
namespace Go.Proofs.Ytbljjmehjkmjaaa
open Go.RowKit
set_option linter.unusedVariables false
set_option linter.unusedSimpArgs false
set_option maxRecDepth 100000

theorem cellsBytes11 : Try.prog.cellsOf 33 = 1 := by kernel_rfl
theorem rdKeys : Rd Try.prog 22 encSl (SlOk encSl (SlOk encB okB 1) 1) := rd_slice Try.underlying22 cellsBytes11 (by omega) (fun _ => rfl) rdBytes

/-- Keys that can be read. -/
structure KysAt (w : World) (ao : Option Addr) (ks : List (Sl UInt8)) : Prop where
  row : RowAt encSl 1 w ao ks
  each : ∀ k ∈ ks, SlOk encB okB 1 w k
theorem okB_stays : Stays okB := fun _ _ _ _ h => h
theorem KysAt.still {w w' : World} {ao : Option Addr} {ks : List (Sl UInt8)} (h : KysAt w ao ks) (ht : Still w w') : KysAt w' ao ks :=
  ⟨h.row.stays ht, fun k hk => SlOk.stays okB_stays w w' k ht (h.each k hk)⟩
theorem KysAt.get {w : World} {ao : Option Addr} {ks : List (Sl UInt8)} (h : KysAt w ao ks) {i : Nat} {k : Sl UInt8} (hk : ks[i]? = some k) :
    ∃ b o, ao = some ⟨b, o, none⟩ ∧ w.cell? ⟨b, o + i, none⟩ = some (.slice k.a k.len k.cap) ∧ BytesAt w k.a k.xs ∧ SlW k.a k.len k.cap ∧ k.len = k.xs.length := by
  obtain ⟨b, o, e, hc⟩ := h.row i k hk
  have ho := h.each k (List.mem_of_getElem? hk)
  exact ⟨b, o, e, by simpa using hc 0 _ rfl, BytesAt.of_row ho.row, ⟨ho.le, ho.max, ho.none⟩, ho.len.symm⟩
abbrev kxs (ks : List (Sl UInt8)) : List (List UInt8) := ks.map (·.xs)

/-- Rows of numbers that can be read. -/
structure RwsAt (w : World) (ao : Option Addr) (rs : List (Sl Int)) : Prop where
  row : RowAt encSl 1 w ao rs
  each : ∀ r ∈ rs, NumsAt w r.a r.xs ∧ SlW r.a r.len r.cap ∧ r.len = r.xs.length
theorem RwsAt.still {w w' : World} {ao : Option Addr} {rs : List (Sl Int)} (h : RwsAt w ao rs) (ht : Still w w') : RwsAt w' ao rs :=
  ⟨h.row.stays ht, fun r hr => by obtain ⟨a, b, c⟩ := h.each r hr; exact ⟨a.turned ht (fun _ _ hs => hs), b, c⟩⟩
theorem RwsAt.get {w : World} {ao : Option Addr} {rs : List (Sl Int)} (h : RwsAt w ao rs) {i : Nat} {r : Sl Int} (hr : rs[i]? = some r) :
    ∃ b o, ao = some ⟨b, o, none⟩ ∧ w.cell? ⟨b, o + i, none⟩ = some (.slice r.a r.len r.cap) ∧ NumsAt w r.a r.xs ∧ SlW r.a r.len r.cap ∧ r.len = r.xs.length := by
  obtain ⟨b, o, e, hc⟩ := h.row i r hr
  obtain ⟨h1, h2, h3⟩ := h.each r (List.mem_of_getElem? hr)
  exact ⟨b, o, e, by simpa using hc 0 _ rfl, h1, h2, h3⟩

/-! The plain routes. -/
def rtE (n : Int) (l : List UInt8) : Int := if n < 1 ∨ 8 < n then 2 else if 64 < l.length then 3 else 0
def rtP (n : Int) (l : List UInt8) : Int := if rtE n l = 0 then partOf n l else 0
def smE (n : Int) (a b : List UInt8) : Int := if rtE n a ≠ 0 then rtE n a else rtE n b
def smB (n : Int) (a b : List UInt8) : Bool := decide (smE n a b = 0 ∧ partOf n a = partOf n b)
def stE (n : Int) (K : List (List UInt8)) : Int := if n < 1 ∨ 8 < n then 2 else if 256 < K.length ∨ ∃ k ∈ K, 64 < k.length then 3 else 0
def pt (n : Nat) (l : List UInt8) : Nat := sum64 l % n
/-- The places of those that go to part p, from place i on. -/
def plG (n p : Nat) : Nat → List (List UInt8) → List Int
  | _, [] => []
  | i, k :: K => (if pt n k = p then [(i : Int)] else []) ++ plG n p (i + 1) K
def srL (n : Nat) (K : List (List UInt8)) : List (List Int) := (List.range n).map fun p => plG n p 0 K
def sortL (n : Int) (K : List (List UInt8)) : List (List Int) := if stE n K = 0 then srL n.toNat K else []
/-- The least length, and the greatest one. -/
def loL (L : List (List Int)) : Nat := L.foldl (fun m r => min m r.length) ((L[0]?.getD []).length)
def hiL (L : List (List Int)) : Nat := L.foldl (fun m r => max m r.length) ((L[0]?.getD []).length)
def spN (n : Int) (K : List (List UInt8)) : Int := if stE n K = 0 then ((hiL (srL n.toNat K) : Nat) : Int) - (loL (srL n.toNat K) : Nat) else 0

theorem rtE_or (n : Int) (l : List UInt8) : rtE n l = 0 ∨ rtE n l = 2 ∨ rtE n l = 3 := by unfold rtE; split <;> (try split) <;> simp
theorem stE_or (n : Int) (K : List (List UInt8)) : stE n K = 0 ∨ stE n K = 2 ∨ stE n K = 3 := by unfold stE; split <;> (try split) <;> simp
theorem rtE_zero {n : Int} {l : List UInt8} : rtE n l = 0 ↔ 1 ≤ n ∧ n ≤ 8 ∧ l.length ≤ 64 := by
  unfold rtE
  split
  · constructor
    · intro h; cases h
    · rintro ⟨h1, h2, _⟩; omega
  · split
    · constructor
      · intro h; cases h
      · rintro ⟨_, _, h⟩; omega
    · exact ⟨fun _ => by omega, fun _ => rfl⟩
theorem stE_zero {n : Int} {K : List (List UInt8)} : stE n K = 0 ↔ 1 ≤ n ∧ n ≤ 8 ∧ K.length ≤ 256 ∧ ∀ k ∈ K, k.length ≤ 64 := by
  unfold stE
  split
  · constructor
    · intro h; cases h
    · rintro ⟨h1, h2, _⟩; omega
  · split
    · rename_i h
      constructor
      · intro h; cases h
      · rintro ⟨_, _, h1, h2⟩
        rcases h with h | ⟨k, hk, h⟩
        · omega
        · have := h2 k hk; omega
    · rename_i h1 h
      refine ⟨fun _ => ⟨by omega, by omega, ?_, fun k hk => ?_⟩, fun _ => rfl⟩
      · exact Nat.le_of_not_lt (fun h' => h (.inl h'))
      · exact Nat.le_of_not_lt (fun h' => h (.inr ⟨k, hk, h'⟩))
theorem plG_snoc (n p : Nat) (k : List UInt8) : ∀ (K : List (List UInt8)) (i : Nat), plG n p i (K ++ [k]) = plG n p i K ++ if pt n k = p then [((i + K.length : Nat) : Int)] else []
  | [], i => by simp [plG]
  | a :: K, i => by
    rw [List.cons_append, plG, plG_snoc n p k K (i + 1), plG, List.append_assoc]
    simp only [List.length_cons]
    rw [show i + 1 + K.length = i + (K.length + 1) by omega]
theorem plG_len (n p i : Nat) (K : List (List UInt8)) : (plG n p i K).length ≤ K.length := by
  induction K generalizing i with
  | nil => simp [plG]
  | cons a K ih =>
    have := ih (i + 1)
    rw [plG, List.length_append, List.length_cons]
    split
    · simp; omega
    · simp; omega
theorem srL_length (n : Nat) (K : List (List UInt8)) : (srL n K).length = n := by simp [srL]
theorem srL_get {n p : Nat} {K : List (List UInt8)} (h : p < n) : (srL n K)[p]? = some (plG n p 0 K) := by
  unfold srL
  rw [List.getElem?_map, List.getElem?_range h]; rfl
theorem srL_step {n : Nat} {K : List (List UInt8)} {i : Nat} {k : List UInt8} (hk : K[i]? = some k) (hn : 0 < n) : srL n (K.take (i + 1)) = (srL n (K.take i)).set (pt n k) (plG n (pt n k) 0 (K.take i) ++ [(i : Int)]) := by
  have hi := get_lt hk
  have hp : pt n k < n := Nat.mod_lt _ hn
  have hl : (K.take i).length = i := by rw [List.length_take]; omega
  apply List.ext_getElem?
  intro p
  rw [List.getElem?_set]
  by_cases h : pt n k = p
  · subst h
    rw [if_pos rfl, if_pos (by rw [srL_length]; exact hp), srL_get hp, List.take_add_one, hk]
    show some (plG n _ 0 (K.take i ++ [k])) = _
    rw [plG_snoc, if_pos rfl, hl, Nat.zero_add]
  · rw [if_neg h]
    by_cases hpn : p < n
    · rw [srL_get hpn, srL_get hpn, List.take_add_one, hk]
      show some (plG n _ 0 (K.take i ++ [k])) = _
      rw [plG_snoc, if_neg h, List.append_nil]
    · rw [List.getElem?_eq_none (by rw [srL_length]; omega), List.getElem?_eq_none (by rw [srL_length]; omega)]
theorem srL_nil (n : Nat) : srL n [] = List.replicate n [] := by
  apply List.ext_getElem?
  intro p
  by_cases h : p < n
  · rw [srL_get h]; simp [plG, h]
  · rw [List.getElem?_eq_none (by rw [srL_length]; omega), List.getElem?_eq_none (by simp; omega)]
/-- What lies in a part's row. -/
theorem plG_mem {n p : Nat} {x : Int} : ∀ {K : List (List UInt8)} {i : Nat}, x ∈ plG n p i K ↔ ∃ j k, K[j]? = some k ∧ x = ((i + j : Nat) : Int) ∧ pt n k = p
  | [], i => by simp [plG]
  | a :: K, i => by
    rw [plG, List.mem_append, plG_mem (K := K) (i := i + 1)]
    constructor
    · rintro (h | ⟨j, k, h1, h2, h3⟩)
      · split at h
        · rename_i e
          simp at h
          exact ⟨0, a, rfl, by simpa using h, e⟩
        · cases h
      · exact ⟨j + 1, k, by simpa using h1, by rw [h2]; congr 1; omega, h3⟩
    · rintro ⟨j, k, h1, h2, h3⟩
      cases j with
      | zero =>
        simp at h1
        subst h1
        left; rw [if_pos h3, h2]; simp
      | succ j =>
        right
        exact ⟨j, k, by simpa using h1, by rw [h2]; congr 1; omega, h3⟩
theorem plG_rise (n p : Nat) : ∀ (K : List (List UInt8)) (i : Nat), (plG n p i K).Pairwise (· < ·)
  | [], i => by simp [plG]
  | a :: K, i => by
    rw [plG]
    split
    · rw [List.singleton_append, List.pairwise_cons]
      refine ⟨fun x hx => ?_, plG_rise n p K (i + 1)⟩
      obtain ⟨j, k, _, h2, _⟩ := plG_mem.1 hx
      omega
    · rw [List.nil_append]; exact plG_rise n p K (i + 1)
end Go.Proofs.Ytbljjmehjkmjaaa
