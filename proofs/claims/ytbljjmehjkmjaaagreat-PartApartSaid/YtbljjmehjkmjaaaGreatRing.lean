/- The plain ring: places one behind the other, in a window that moves; what its calls do, as plain functions. No condition. -/
import Derived.Test.YtbljjmehjkmjaaaGreatKit
namespace Go.Proofs.YtbljjmehjkmjaaaGreat
open Go.RowKit
set_option linter.unusedVariables false

/-- A number of 64 bits. -/
def w64 (a : Int) : Prop := -9223372036854775808 ≤ a ∧ a ≤ 9223372036854775807
theorem w64_lit {a : Int} (h1 : -1000000000000000 ≤ a) (h2 : a ≤ 1000000000000000) : w64 a := ⟨by omega, by omega⟩

/-- A place: its reference, and whether it is published. -/
structure Plc where
  r : Int
  d : Bool

/-- A ring: its room, whether a full one lets its eldest place go, its head, the window's places. -/
structure RM where
  n : Nat
  ov : Bool
  h : Nat
  l : List Plc

def RM.tail (M : RM) : Nat := M.h + M.l.length
def RM.findE (M : RM) (a : Int) : Int := if a < 0 then 2 else if a < (M.h : Int) then 61 else if (M.tail : Int) ≤ a then 5 else 0
def RM.cut (M : RM) (a : Int) : Nat := (a - (M.h : Int)).toNat
def RM.pl (M : RM) (a : Int) : Plc := M.l[M.cut a]?.getD ⟨0, false⟩
def RM.pubE (M : RM) (a : Int) : Int := if M.findE a ≠ 0 then M.findE a else if (M.pl a).d = true then 6 else 0
def RM.pubM (M : RM) (a : Int) : RM := if M.pubE a ≠ 0 then M else { M with l := M.l.set (M.cut a) ⟨(M.pl a).r, true⟩ }
def RM.getE (M : RM) (a : Int) : Int := if M.findE a ≠ 0 then M.findE a else if (M.pl a).d = true then 0 else 8
def RM.getR (M : RM) (a : Int) : Int := if M.getE a ≠ 0 then 0 else (M.pl a).r
def RM.hdp (M : RM) : Plc := M.l[0]?.getD ⟨0, false⟩
def RM.claimE (M : RM) (x : Int) : Int := if x < 1 then 2 else if 1099511627776 ≤ M.tail then 4 else if M.l.length = M.n ∧ (M.ov = false ∨ M.hdp.d = false) then 60 else 0
def RM.claimW (M : RM) (x : Int) : Int := if M.claimE x ≠ 0 then 0 else if M.l.length = M.n then M.hdp.r else 0
def RM.claimA (M : RM) (x : Int) : Int := if M.claimE x ≠ 0 then 0 else M.tail
def RM.claimM (M : RM) (x : Int) : RM :=
  if M.claimE x ≠ 0 then M else
  if M.l.length = M.n then { M with h := M.h + 1, l := M.l.drop 1 ++ [⟨x, false⟩] } else { M with l := M.l ++ [⟨x, false⟩] }
def RM.trimE (M : RM) (a : Int) : Int := if a < 0 ∨ (M.tail : Int) < a then 2 else if (M.l.take (M.cut a)).all (·.d) = true then 0 else 8
def RM.trimL (M : RM) (a : Int) : List Int := if M.trimE a ≠ 0 then [] else (M.l.take (M.cut a)).map (·.r)
def RM.trimM (M : RM) (a : Int) : RM := if M.trimE a ≠ 0 then M else { M with h := M.h + M.cut a, l := M.l.drop (M.cut a) }
def RM.ready (M : RM) (a : Int) : Nat := min (M.h + M.cut a + ((M.l.drop (M.cut a)).takeWhile (·.d)).length) M.tail
def RM.refs (M : RM) : List Int := M.l.map (·.r)

def RM.new (n : Nat) (ov : Bool) : RM := ⟨n, ov, 0, []⟩

/-- A ring as it may be, whose tail is not above a bound. -/
structure RM.Ok (M : RM) (N : Nat) : Prop where
  pos : 1 ≤ M.n
  max : M.n ≤ 64
  len : M.l.length ≤ M.n
  low : M.tail ≤ N

theorem RM.Ok.mono {M : RM} {N N' : Nat} (h : M.Ok N) (hN : N ≤ N') : M.Ok N' := ⟨h.pos, h.max, h.len, Nat.le_trans h.low hN⟩
theorem RM.new_ok {n : Nat} {ov : Bool} (h0 : 1 ≤ n) (h1 : n ≤ 64) : (RM.new n ov).Ok 0 := ⟨h0, h1, Nat.zero_le _, Nat.le_refl _⟩
theorem RM.Ok.claim {M : RM} {N : Nat} (h : M.Ok N) (x : Int) : (M.claimM x).Ok (N + 1) := by
  unfold RM.claimM
  have := h.low
  unfold RM.tail at this
  split
  · exact h.mono (by omega)
  · split
    · rename_i h1 h2
      have h3 := h.pos
      refine ⟨h.pos, h.max, ?_, ?_⟩
      · simp; omega
      · unfold RM.tail; simp; omega
    · rename_i h1 h2
      have h3 := h.len
      refine ⟨h.pos, h.max, ?_, ?_⟩
      · simp; omega
      · unfold RM.tail; simp; omega
theorem RM.Ok.pub {M : RM} {N : Nat} (h : M.Ok N) (x : Int) : (M.pubM x).Ok N := by
  unfold RM.pubM
  split
  · exact h
  · exact ⟨h.pos, h.max, by simpa using h.len, by have := h.low; unfold RM.tail at this ⊢; simpa using this⟩
theorem RM.trim_cut {M : RM} {a : Int} (h : M.trimE a = 0) : M.cut a ≤ M.l.length ∧ 0 ≤ a ∧ a ≤ M.tail ∧ (M.l.take (M.cut a)).all (·.d) = true := by
  unfold RM.trimE at h
  split at h
  · cases h
  · rename_i h1
    split at h
    · rename_i h2
      refine ⟨?_, by omega, by omega, h2⟩
      unfold RM.cut
      unfold RM.tail at h1
      omega
    · cases h
theorem RM.Ok.trim {M : RM} {N : Nat} (h : M.Ok N) (x : Int) : (M.trimM x).Ok N := by
  unfold RM.trimM
  split
  · exact h
  · rename_i he
    have hc := (RM.trim_cut (show M.trimE x = 0 by simpa using he)).1
    have h1 := h.len
    have h2 := h.low
    unfold RM.tail at h2
    refine ⟨h.pos, h.max, ?_, ?_⟩
    · simp; omega
    · unfold RM.tail; simp; omega

/-- A place that is found. -/
theorem RM.found {M : RM} {a : Int} (h : M.findE a = 0) : M.cut a < M.l.length ∧ a = (M.h : Int) + (M.cut a : Nat) ∧ M.l[M.cut a]? = some (M.pl a) := by
  unfold RM.findE at h
  split at h
  · cases h
  · split at h
    · cases h
    · split at h
      · cases h
      · rename_i h1 h2 h3
        unfold RM.tail at h3
        have : M.cut a < M.l.length := by unfold RM.cut; omega
        refine ⟨this, by unfold RM.cut; omega, ?_⟩
        unfold RM.pl
        rw [List.getElem?_eq_getElem this]; rfl
theorem RM.find_vals (M : RM) (a : Int) : M.findE a = 0 ∨ M.findE a = 2 ∨ M.findE a = 61 ∨ M.findE a = 5 := by
  unfold RM.findE
  split
  · exact .inr (.inl rfl)
  · split
    · exact .inr (.inr (.inl rfl))
    · split
      · exact .inr (.inr (.inr rfl))
      · exact .inl rfl
end Go.Proofs.YtbljjmehjkmjaaaGreat
