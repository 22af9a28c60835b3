/- What sched.Make answers of any programs that a statement made: just what the plain machine's rule tells. No condition. -/
import Derived.Test.YtdbmieofcdafkaaFew
import Derived.Test.YtdbmieofcdafkaaWorks02
import Derived.Test.YtdbmieofcdafkaaRegs
namespace Go.Proofs.Ytdbmieofcdafkaa
open Go.RowKit
set_option linter.unusedVariables false
set_option linter.unusedSimpArgs false
set_option maxRecDepth 100000

/-- One pick, as the slice that the call makes of it. -/
theorem run_one {w : World} {L : Lay} {M : Mach} (H : SM w L M) (hhi : L.hi ≤ w.heap.size) (x : Int) :
    Calls Try.prog 38 #[.pointer (some ⟨L.hb, 0, none⟩), .slice (some ⟨w.heap.size, 0, none⟩) 1 1] (w.alloc (.cells #[.int .i64 x] 3)) fun e w' => e = .returned (.int .i64 (M.inc x : Nat)) ∧ SM w' L (M.step x) ∧ Turned L.W (w.alloc (.cells #[.int .i64 x] 3)) w' := by
  have h := mrun_any (w := w.alloc (.cells #[.int .i64 x] 3)) (H.still ((Turned.refl _ w).alloc _)) (by simp; omega) (some ⟨w.heap.size, 0, none⟩) 1 1 [x] rfl (by omega)
    (fun _ y hy hW => by cases hy; have := (H.W_in hW).2; dsimp only at this; omega) (NumsAt.of_blk (Blk.new w (ints [x]) 3))
  exact h

theorem step_odd {M : Mach} {x : Int} (h : x < 0 ∨ (M.ss.length : Int) ≤ x) : M.step x = M ∧ M.inc x = 0 := by
  have ho : M.over x = true := by
    unfold Mach.over
    cases hg : M.get x with
    | none => rfl
    | some s => obtain ⟨h1, h2, _⟩ := Mach.get_some hg; omega
  exact ⟨Mach.step_over ho, Mach.inc_over ho⟩
theorem fault_er {c : Int} {k j : Nat} {er : Int} {ps : List (List Ins)} (h : faultFrom c k ps = some (j, er)) : er = 3 ∨ er = 5 := by
  induction ps generalizing k with
  | nil => cases h
  | cons p ps ih =>
    rw [faultFrom] at h
    by_cases h1 : 64 < p.length
    · rw [if_pos h1] at h; cases h; exact .inl rfl
    · rw [if_neg h1] at h
      by_cases h2 : (p.all fun i => rightB i c p.length) = true
      · rw [if_pos h2] at h; exact ih h
      · rw [if_neg h2] at h; cases h; exact .inr rfl

def MkIn (n : Int) (P : List (List Ins)) : Prop := (1 ≤ n ∧ n ≤ 64) ∧ 1 ≤ P.length ∧ P.length ≤ 16
instance (n : Int) (P : List (List Ins)) : Decidable (MkIn n P) := by unfold MkIn; exact inferInstance
def mkM (n : Int) (P : List (List Ins)) : Option Mach := if MkIn n P then (match faultFrom n 0 P with
  | none => some (mach0 n.toNat P)
  | some _ => none) else none
def mkE (n : Int) (P : List (List Ins)) : Nat × Int := if MkIn n P then (faultFrom n 0 P).getD (0, 0) else (0, 2)

theorem mkE_ne {n : Int} {P : List (List Ins)} (h : mkM n P = none) : (mkE n P).2 ≠ 0 := by
  unfold mkM at h
  unfold mkE
  by_cases hm : MkIn n P
  · rw [if_pos hm] at h ⊢
    cases hf : faultFrom n 0 P with
    | none => rw [hf] at h; cases h
    | some x =>
      obtain ⟨k, er⟩ := x
      show er ≠ 0
      rcases fault_er hf with rfl | rfl <;> omega
  · rw [if_neg hm]; decide

theorem made_none {w : World} {B : Nat} {ao : Option Addr} {cc : Nat} {pss : List (Sl Ins)} (h : PsOwn B w ao cc pss) {n : Int} {P : List (List Ins)} (hP : pss.map (·.xs) = P) (hm : mkM n P = none) :
    Calls Try.prog 11 #[.int .i64 n, .slice ao pss.length cc] w fun e w' => e = .returned (.tuple #[.pointer none, .int .i64 ((mkE n P).1 : Nat), .int .i64 (mkE n P).2]) ∧ Still w w' := by
  have hl : P.length = pss.length := by rw [← hP, List.length_map]
  by_cases hi : MkIn n P
  · obtain ⟨⟨h1, h2⟩, h3, h4⟩ := id hi
    obtain ⟨m, rfl⟩ : ∃ m : Nat, n = m := ⟨n.toNat, by omega⟩
    refine (smake_any m (by omega) (by omega) ao pss.length cc (by omega) (by omega) pss w h.ok).mono ?_
    rintro e w' (⟨k, er, hf, rfl, hT⟩ | ⟨hf, L, rfl, hSM, hT, hlo, hhi⟩)
    · rw [hP] at hf
      unfold mkE
      rw [if_pos hi, hf]
      exact ⟨rfl, hT⟩
    · rw [hP] at hf
      unfold mkM at hm
      rw [if_pos hi, hf] at hm
      cases hm
  · unfold mkE
    rw [if_neg hi]
    by_cases hn : 1 ≤ n ∧ n ≤ 64
    · obtain ⟨m, rfl⟩ : ∃ m : Nat, n = m := ⟨n.toNat, by omega⟩
      exact smake_argp m (by omega) (by omega) ao pss.length cc (fun hc => hi ⟨hn, by omega, by omega⟩) w
    · exact smake_argc n hn ao pss.length cc w

theorem made_some {w : World} {B : Nat} {ao : Option Addr} {cc : Nat} {pss : List (Sl Ins)} (h : PsOwn B w ao cc pss) {n : Int} {P : List (List Ins)} {M : Mach} (hP : pss.map (·.xs) = P) (hm : mkM n P = some M) :
    Calls Try.prog 11 #[.int .i64 n, .slice ao pss.length cc] w fun e w' => ∃ L : Lay, e = .returned (.tuple #[.pointer (some ⟨L.hb, 0, none⟩), .int .i64 (M.ss.length : Nat), .int .i64 0]) ∧ SM w' L M ∧ Still w w' ∧ w.heap.size ≤ L.lo ∧ L.hi ≤ w'.heap.size := by
  have hl : P.length = pss.length := by rw [← hP, List.length_map]
  unfold mkM at hm
  by_cases hi : MkIn n P
  · rw [if_pos hi] at hm
    obtain ⟨⟨h1, h2⟩, h3, h4⟩ := hi
    obtain ⟨m, rfl⟩ : ∃ m : Nat, n = m := ⟨n.toNat, by omega⟩
    refine (smake_any m (by omega) (by omega) ao pss.length cc (by omega) (by omega) pss w h.ok).mono ?_
    rintro e w' (⟨k, er, hf, rfl, hT⟩ | ⟨hf, L, rfl, hSM, hT, hlo, hhi⟩)
    · rw [hP] at hf
      rw [hf] at hm
      cases hm
    · rw [hP] at hf hSM
      rw [hf] at hm
      have hm : mach0 m P = M := by simpa using hm
      subst hm
      refine ⟨L, ?_, hSM, hT, hlo, hhi⟩
      rw [show (mach0 m P).ss.length = pss.length by simp [mach0, hl]]
  · rw [if_neg hi] at hm; cases hm

/-- Two machines lie apart, and what turns one leaves the other. -/
theorem SM.beside {a b : World} {L1 L2 : Lay} {M1 M2 : Mach} (H1 : SM a L1 M1) (H2 : SM a L2 M2) (h : L1.hi ≤ L2.lo) (hT : Turned L2.W a b) : SM b L1 M1 :=
  H1.turned hT (fun c hc => .inr (Nat.le_trans h (H2.W_in hc).1))
theorem SM.beside' {a b : World} {L1 L2 : Lay} {M1 M2 : Mach} (H1 : SM a L1 M1) (H2 : SM a L2 M2) (h : L1.hi ≤ L2.lo) (hT : Turned L1.W a b) : SM b L2 M2 :=
  H2.turned hT (fun c hc => .inl (Nat.lt_of_lt_of_le (H1.W_in hc).2 h))

def regs4 (M : Mach) (k : Int) : List Int := regsOf M k
theorem regs_four {w : World} {L : Lay} {M : Mach} (H : SM w L M) (k : Int) : ∃ a b c d, regsOf M k = [a, b, c, d] := by
  unfold regsOf
  cases hg : M.get k with
  | none => exact ⟨0, 0, 0, 0, rfl⟩
  | some s =>
    obtain ⟨_, _, h2⟩ := Mach.get_some hg
    exact four (H.ok.ses s (List.mem_of_getElem? h2)).r
end Go.Proofs.Ytdbmieofcdafkaa
