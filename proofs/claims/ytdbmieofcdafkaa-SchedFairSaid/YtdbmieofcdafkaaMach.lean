/- The machine of sessions as plain data: its cells, its sessions, what a step, a run of picks and fair picks make of it. No condition. -/
import Derived.Test.YtdbmieofcdafkaaCell
import Derived.Test.YtdbmieofcdafkaaCellMake
namespace Go.Proofs.Ytdbmieofcdafkaa
open Go.RowKit
set_option linter.unusedVariables false

structure Ins where
  op : Int
  cell : Int
  a : Int
  b : Int

structure Sess where
  p : List Ins
  pc : Nat
  r : List Int

structure Mach where
  st : List Cel
  ss : List Sess

def Cel.put (c : Cel) (v : Int) : Cel := { c with n := v, w := wrap64 (c.w + 1) }
def celAt (st : List Cel) (i : Int) : Cel := (st[i.toNat]?).getD ⟨0, -1, 0⟩
def regAt (r : List Int) (i : Int) : Int := (r[i.toNat]?).getD 0
def insAt (p : List Ins) (i : Nat) : Ins := (p[i]?).getD ⟨0, 0, 0, 0⟩

/-- What an instruction makes of the cells and of its session. -/
def stepI (who : Int) (st : List Cel) (s : Sess) (i : Ins) : List Cel × Sess :=
  if i.op = 1 then (st, { s with r := s.r.set i.a.toNat i.b, pc := s.pc + 1 })
  else if i.op = 2 then (st, { s with r := s.r.set i.a.toNat (celAt st i.cell).n, pc := s.pc + 1 })
  else if i.op = 3 then (st.set i.cell.toNat ((celAt st i.cell).put (regAt s.r i.a)), { s with pc := s.pc + 1 })
  else if i.op = 4 then
    if (celAt st i.cell).n = regAt s.r i.b then (st.set i.cell.toNat ((celAt st i.cell).put (regAt s.r i.a)), { s with r := s.r.set i.b.toNat 1, pc := s.pc + 1 })
    else (st, { s with r := s.r.set i.b.toNat 0, pc := s.pc + 1 })
  else if i.op = 5 then (st.set i.cell.toNat ((celAt st i.cell).put (wrap64 ((celAt st i.cell).n + i.b))), { s with r := s.r.set i.a.toNat (celAt st i.cell).n, pc := s.pc + 1 })
  else if i.op = 6 then (st, { s with r := s.r.set i.a.toNat (wrap64 (regAt s.r i.a + i.b)), pc := s.pc + 1 })
  else if i.op = 7 then (st, { s with pc := if regAt s.r i.a = 0 then i.b.toNat else s.pc + 1 })
  else if i.op = 8 then (st, { s with pc := i.b.toNat })
  else if i.op = 9 then
    if (celAt st i.cell).h = -1 then (st.set i.cell.toNat { celAt st i.cell with h := who }, { s with pc := s.pc + 1 })
    else (st, s)
  else
    if (celAt st i.cell).h = who then (st.set i.cell.toNat { celAt st i.cell with h := -1 }, { s with pc := s.pc + 1 })
    else (st, { s with pc := s.pc + 1 })

def Sess.goes (s : Sess) : Bool := decide (s.pc < s.p.length)
def Mach.get (M : Mach) (k : Int) : Option Sess := if 0 ≤ k then M.ss[k.toNat]? else none
def Mach.over (M : Mach) (k : Int) : Bool := match M.get k with
  | some s => !s.goes
  | none => true
def Mach.step (M : Mach) (k : Int) : Mach := match M.get k with
  | some s => if s.goes then ⟨(stepI k M.st s (insAt s.p s.pc)).1, M.ss.set k.toNat (stepI k M.st s (insAt s.p s.pc)).2⟩ else M
  | none => M
def Mach.run (M : Mach) (l : List Int) : Mach := l.foldl Mach.step M
def Mach.inc (M : Mach) (k : Int) : Nat := bif M.over k then 0 else 1
def Mach.cnt : Mach → List Int → Nat
  | _, [] => 0
  | M, k :: l => M.inc k + (M.step k).cnt l
def Mach.done (M : Mach) : Bool := M.ss.all fun s => !s.goes
/-- The picks 0, 1, .. round. -/
def fairL (n most : Nat) : List Int := (List.range most).map fun i => ((i % n : Nat) : Int)

def regB (n : Int) : Bool := decide (0 ≤ n) && decide (n < 4)
def inB (n m : Int) : Bool := decide (0 ≤ n) && decide (n < m)
/-- Is an instruction right? -/
def rightB (i : Ins) (cells size : Int) : Bool :=
  if i.op = 1 ∨ i.op = 6 then regB i.a
  else if i.op = 2 ∨ i.op = 3 ∨ i.op = 5 then inB i.cell cells && regB i.a
  else if i.op = 4 then inB i.cell cells && regB i.a && regB i.b
  else if i.op = 7 then regB i.a && inB i.b (size + 1)
  else if i.op = 8 then inB i.b (size + 1)
  else if i.op = 9 ∨ i.op = 10 then inB i.cell cells
  else false

structure SesOk (cells : Nat) (s : Sess) : Prop where
  p : s.p.length ≤ 64
  pc : s.pc ≤ s.p.length
  r : s.r.length = 4
  right : ∀ i ∈ s.p, rightB i cells s.p.length = true

structure MachOk (M : Mach) : Prop where
  pos : 0 < M.st.length
  le : M.st.length ≤ 64
  n0 : 0 < M.ss.length
  n1 : M.ss.length ≤ 16
  ses : ∀ s ∈ M.ss, SesOk M.st.length s
  h : ∀ c ∈ M.st, c.h = -1 ∨ Ses c.h

theorem rightB_op {i : Ins} {cells size : Int} (h : rightB i cells size = true) : 1 ≤ i.op ∧ i.op ≤ 10 := by
  unfold rightB at h
  by_cases e1 : i.op = 1 ∨ i.op = 6
  · omega
  rw [if_neg e1] at h
  by_cases e2 : i.op = 2 ∨ i.op = 3 ∨ i.op = 5
  · omega
  rw [if_neg e2] at h
  by_cases e4 : i.op = 4
  · omega
  rw [if_neg e4] at h
  by_cases e7 : i.op = 7
  · omega
  rw [if_neg e7] at h
  by_cases e8 : i.op = 8
  · omega
  rw [if_neg e8] at h
  by_cases e9 : i.op = 9 ∨ i.op = 10
  · omega
  rw [if_neg e9] at h
  cases h

theorem stepI_cases (P : List Cel × Sess → Prop) (who : Int) (st : List Cel) (s : Sess) (i : Ins)
    (h1 : i.op = 1 → P (st, { s with r := s.r.set i.a.toNat i.b, pc := s.pc + 1 }))
    (h2 : i.op = 2 → P (st, { s with r := s.r.set i.a.toNat (celAt st i.cell).n, pc := s.pc + 1 }))
    (h3 : i.op = 3 → P (st.set i.cell.toNat ((celAt st i.cell).put (regAt s.r i.a)), { s with pc := s.pc + 1 }))
    (h4 : i.op = 4 → (celAt st i.cell).n = regAt s.r i.b → P (st.set i.cell.toNat ((celAt st i.cell).put (regAt s.r i.a)), { s with r := s.r.set i.b.toNat 1, pc := s.pc + 1 }))
    (h4' : i.op = 4 → (celAt st i.cell).n ≠ regAt s.r i.b → P (st, { s with r := s.r.set i.b.toNat 0, pc := s.pc + 1 }))
    (h5 : i.op = 5 → P (st.set i.cell.toNat ((celAt st i.cell).put (wrap64 ((celAt st i.cell).n + i.b))), { s with r := s.r.set i.a.toNat (celAt st i.cell).n, pc := s.pc + 1 }))
    (h6 : i.op = 6 → P (st, { s with r := s.r.set i.a.toNat (wrap64 (regAt s.r i.a + i.b)), pc := s.pc + 1 }))
    (h7 : i.op = 7 → regAt s.r i.a = 0 → P (st, { s with pc := i.b.toNat }))
    (h7' : i.op = 7 → regAt s.r i.a ≠ 0 → P (st, { s with pc := s.pc + 1 }))
    (h8 : i.op = 8 → P (st, { s with pc := i.b.toNat }))
    (h9 : i.op = 9 → (celAt st i.cell).h = -1 → P (st.set i.cell.toNat { celAt st i.cell with h := who }, { s with pc := s.pc + 1 }))
    (h9' : i.op = 9 → (celAt st i.cell).h ≠ -1 → P (st, s))
    (h10 : ¬ (1 ≤ i.op ∧ i.op ≤ 9) → (celAt st i.cell).h = who → P (st.set i.cell.toNat { celAt st i.cell with h := -1 }, { s with pc := s.pc + 1 }))
    (h10' : ¬ (1 ≤ i.op ∧ i.op ≤ 9) → (celAt st i.cell).h ≠ who → P (st, { s with pc := s.pc + 1 })) : P (stepI who st s i) := by
  unfold stepI
  by_cases e1 : i.op = 1
  · rw [if_pos e1]; exact h1 e1
  rw [if_neg e1]
  by_cases e2 : i.op = 2
  · rw [if_pos e2]; exact h2 e2
  rw [if_neg e2]
  by_cases e3 : i.op = 3
  · rw [if_pos e3]; exact h3 e3
  rw [if_neg e3]
  by_cases e4 : i.op = 4
  · rw [if_pos e4]
    by_cases c : (celAt st i.cell).n = regAt s.r i.b
    · rw [if_pos c]; exact h4 e4 c
    · rw [if_neg c]; exact h4' e4 c
  rw [if_neg e4]
  by_cases e5 : i.op = 5
  · rw [if_pos e5]; exact h5 e5
  rw [if_neg e5]
  by_cases e6 : i.op = 6
  · rw [if_pos e6]; exact h6 e6
  rw [if_neg e6]
  by_cases e7 : i.op = 7
  · rw [if_pos e7]
    by_cases c : regAt s.r i.a = 0
    · rw [if_pos c]; exact h7 e7 c
    · rw [if_neg c]; exact h7' e7 c
  rw [if_neg e7]
  by_cases e8 : i.op = 8
  · rw [if_pos e8]; exact h8 e8
  rw [if_neg e8]
  by_cases e9 : i.op = 9
  · rw [if_pos e9]
    by_cases c : (celAt st i.cell).h = -1
    · rw [if_pos c]; exact h9 e9 c
    · rw [if_neg c]; exact h9' e9 c
  rw [if_neg e9]
  by_cases c : (celAt st i.cell).h = who
  · rw [if_pos c]; exact h10 (by omega) c
  · rw [if_neg c]; exact h10' (by omega) c

theorem stepI_len (who : Int) (st : List Cel) (s : Sess) (i : Ins) : (stepI who st s i).1.length = st.length := by
  refine stepI_cases (fun x => x.1.length = st.length) who st s i ?_ ?_ ?_ ?_ ?_ ?_ ?_ ?_ ?_ ?_ ?_ ?_ ?_ ?_
  all_goals intros
  all_goals simp

theorem stepI_p (who : Int) (st : List Cel) (s : Sess) (i : Ins) : (stepI who st s i).2.p = s.p := by
  refine stepI_cases (fun x => x.2.p = s.p) who st s i ?_ ?_ ?_ ?_ ?_ ?_ ?_ ?_ ?_ ?_ ?_ ?_ ?_ ?_
  all_goals intros
  all_goals rfl

theorem rightB_b {i : Ins} {cells size : Int} (h : rightB i cells size = true) (h7 : i.op = 7 ∨ i.op = 8) : 0 ≤ i.b ∧ i.b ≤ size := by
  unfold rightB inB at h
  rcases h7 with h7 | h7 <;> simp [h7] at h <;> omega

theorem rightB_cell {i : Ins} {cells size : Int} (h : rightB i cells size = true) (h7 : i.op = 2 ∨ i.op = 3 ∨ i.op = 4 ∨ i.op = 5 ∨ i.op = 9 ∨ i.op = 10) : 0 ≤ i.cell ∧ i.cell < cells := by
  unfold rightB inB regB at h
  rcases h7 with h7 | h7 | h7 | h7 | h7 | h7 <;> simp [h7] at h <;> omega

theorem rightB_a {i : Ins} {cells size : Int} (h : rightB i cells size = true) (h7 : 1 ≤ i.op ∧ i.op ≤ 7) : 0 ≤ i.a ∧ i.a < 4 := by
  unfold rightB inB regB at h
  have : i.op = 1 ∨ i.op = 2 ∨ i.op = 3 ∨ i.op = 4 ∨ i.op = 5 ∨ i.op = 6 ∨ i.op = 7 := by omega
  rcases this with h7 | h7 | h7 | h7 | h7 | h7 | h7 <;> simp [h7] at h <;> omega

theorem rightB_rb {i : Ins} {cells size : Int} (h : rightB i cells size = true) (h7 : i.op = 4) : 0 ≤ i.b ∧ i.b < 4 := by
  unfold rightB inB regB at h
  simp [h7] at h; omega

theorem stepI_ok {who : Int} {st : List Cel} {s : Sess} (hs : SesOk st.length s) (hg : s.pc < s.p.length) : SesOk st.length (stepI who st s (insAt s.p s.pc)).2 := by
  have hi : insAt s.p s.pc ∈ s.p := by
    unfold insAt; rw [List.getElem?_eq_getElem hg]; exact List.getElem_mem hg
  have hr := hs.right _ hi
  generalize insAt s.p s.pc = i at hr
  refine ⟨?_, ?_, ?_, ?_⟩
  · rw [stepI_p]; exact hs.p
  · rw [stepI_p]
    have hpc := hs.pc
    refine stepI_cases (fun x => x.2.pc ≤ s.p.length) who st s i ?_ ?_ ?_ ?_ ?_ ?_ ?_ ?_ ?_ ?_ ?_ ?_ ?_ ?_
    all_goals intros
    all_goals first
      | (show s.pc + 1 ≤ _; omega)
      | exact hpc
      | (show i.b.toNat ≤ _; have := rightB_b hr (by omega); omega)
  · refine stepI_cases (fun x => x.2.r.length = 4) who st s i ?_ ?_ ?_ ?_ ?_ ?_ ?_ ?_ ?_ ?_ ?_ ?_ ?_ ?_
    all_goals intros
    all_goals simp [hs.r]
  · rw [stepI_p]; exact hs.right

theorem stepI_h {who : Int} (hw : Ses who) {st : List Cel} (hst : ∀ c ∈ st, c.h = -1 ∨ Ses c.h) (s : Sess) (i : Ins) : ∀ c ∈ (stepI who st s i).1, c.h = -1 ∨ Ses c.h := by
  have hc : (celAt st i.cell).h = -1 ∨ Ses (celAt st i.cell).h := by
    unfold celAt
    cases h : st[i.cell.toNat]? with
    | none => exact .inl rfl
    | some c => exact hst c (List.mem_of_getElem? h)
  have key : ∀ d : Cel, (d.h = -1 ∨ Ses d.h) → ∀ c ∈ st.set i.cell.toNat d, c.h = -1 ∨ Ses c.h := fun d hd c hcm => by
    rcases List.mem_or_eq_of_mem_set hcm with h | rfl
    · exact hst c h
    · exact hd
  refine stepI_cases (fun x => ∀ c ∈ x.1, c.h = -1 ∨ Ses c.h) who st s i ?_ ?_ ?_ ?_ ?_ ?_ ?_ ?_ ?_ ?_ ?_ ?_ ?_ ?_
  all_goals intros
  all_goals first
    | (apply hst; assumption)
    | (rename_i c hcm; refine key _ ?_ c hcm; first | exact hc | exact .inr hw | exact .inl rfl)

theorem Mach.get_some {M : Mach} {k : Int} {s : Sess} (h : M.get k = some s) : 0 ≤ k ∧ k.toNat < M.ss.length ∧ M.ss[k.toNat]? = some s := by
  unfold Mach.get at h
  split at h
  · exact ⟨‹_›, get_lt h, h⟩
  · cases h

theorem MachOk.step {M : Mach} (h : MachOk M) (k : Int) : MachOk (M.step k) := by
  unfold Mach.step
  cases hg : M.get k with
  | none => exact h
  | some s =>
    obtain ⟨h0, h1, h2⟩ := Mach.get_some hg
    have hs := h.ses s (List.mem_of_getElem? h2)
    show MachOk (if s.goes then _ else M)
    split
    · rename_i hgo
      have hgo : s.pc < s.p.length := by simpa [Sess.goes] using hgo
      refine ⟨?_, ?_, ?_, ?_, ?_, ?_⟩
      · show 0 < (stepI k M.st s _).1.length; rw [stepI_len]; exact h.pos
      · show (stepI k M.st s _).1.length ≤ 64; rw [stepI_len]; exact h.le
      · show 0 < (M.ss.set _ _).length; rw [List.length_set]; exact h.n0
      · show (M.ss.set _ _).length ≤ 16; rw [List.length_set]; exact h.n1
      · intro t ht
        show SesOk (stepI k M.st s _).1.length t
        rw [stepI_len]
        rcases List.mem_or_eq_of_mem_set ht with h3 | rfl
        · exact h.ses t h3
        · exact stepI_ok hs hgo
      · have hn1 := h.n1
        exact stepI_h ⟨h0, by omega⟩ h.h s _
    · exact h

theorem Mach.step_over {M : Mach} {k : Int} (h : M.over k = true) : M.step k = M := by
  unfold Mach.over at h
  unfold Mach.step
  cases hg : M.get k with
  | none => rfl
  | some s => rw [hg] at h; show (if s.goes then _ else M) = M; rw [if_neg (by simpa using h)]

theorem Mach.step_len (M : Mach) (k : Int) : (M.step k).ss.length = M.ss.length := by
  unfold Mach.step
  cases hg : M.get k with
  | none => rfl
  | some s => show (if s.goes then _ else M : Mach).ss.length = _; split <;> simp

theorem Mach.step_stlen (M : Mach) (k : Int) : (M.step k).st.length = M.st.length := by
  unfold Mach.step
  cases hg : M.get k with
  | none => rfl
  | some s => show (if s.goes then _ else M : Mach).st.length = _; split <;> simp [stepI_len]

theorem Mach.run_append (M : Mach) (l r : List Int) : M.run (l ++ r) = (M.run l).run r := by simp [Mach.run]
theorem Mach.run_snoc (M : Mach) (l : List Int) (k : Int) : M.run (l ++ [k]) = (M.run l).step k := by simp [Mach.run]
theorem Mach.run_nil (M : Mach) : M.run [] = M := rfl
theorem Mach.cnt_snoc (M : Mach) (l : List Int) (k : Int) : M.cnt (l ++ [k]) = M.cnt l + (M.run l).inc k := by
  induction l generalizing M with
  | nil => show M.inc k + 0 = 0 + M.inc k; omega
  | cons a l ih => show M.inc a + (M.step a).cnt (l ++ [k]) = M.inc a + (M.step a).cnt l + ((M.step a).run l).inc k; rw [ih]; omega
theorem Mach.cnt_append (M : Mach) (l r : List Int) : M.cnt (l ++ r) = M.cnt l + (M.run l).cnt r := by
  induction l generalizing M with
  | nil => show M.cnt r = 0 + M.cnt r; omega
  | cons a l ih => show M.inc a + (M.step a).cnt (l ++ r) = M.inc a + (M.step a).cnt l + ((M.step a).run l).cnt r; rw [ih]; omega
theorem Mach.inc_le (M : Mach) (k : Int) : M.inc k ≤ 1 := by unfold Mach.inc; cases M.over k <;> simp
theorem Mach.inc_over {M : Mach} {k : Int} (h : M.over k = true) : M.inc k = 0 := by unfold Mach.inc; rw [h]; rfl
theorem Mach.inc_goes {M : Mach} {k : Int} (h : M.over k = false) : M.inc k = 1 := by unfold Mach.inc; rw [h]; rfl
theorem MachOk.run {M : Mach} (h : MachOk M) (l : List Int) : MachOk (M.run l) := by
  induction l generalizing M with
  | nil => exact h
  | cons a l ih => exact ih (h.step a)
theorem Mach.run_len (M : Mach) (l : List Int) : (M.run l).ss.length = M.ss.length := by
  induction l generalizing M with
  | nil => rfl
  | cons a l ih => exact (ih (M.step a)).trans (M.step_len a)

theorem Mach.run_stlen (M : Mach) (l : List Int) : (M.run l).st.length = M.st.length := by
  induction l generalizing M with
  | nil => rfl
  | cons a l ih => exact (ih (M.step a)).trans (M.step_stlen a)

theorem Mach.cnt_le (M : Mach) (l : List Int) : M.cnt l ≤ l.length := by
  induction l generalizing M with
  | nil => simp [Mach.cnt]
  | cons a l ih => have := ih (M.step a); have := M.inc_le a; simp only [Mach.cnt, List.length_cons]; omega

theorem Mach.over_of_done {M : Mach} (h : M.done = true) (k : Int) : M.over k = true := by
  unfold Mach.over
  cases hg : M.get k with
  | none => rfl
  | some s =>
    obtain ⟨_, _, h2⟩ := Mach.get_some hg
    unfold Mach.done at h
    rw [List.all_eq_true] at h
    exact h s (List.mem_of_getElem? h2)

/-- Where all are over nothing more is done. -/
theorem Mach.run_done {M : Mach} (h : M.done = true) (l : List Int) : M.run l = M ∧ M.cnt l = 0 := by
  induction l with
  | nil => exact ⟨rfl, rfl⟩
  | cons a l ih =>
    have ho := Mach.over_of_done h a
    have hs := Mach.step_over ho
    constructor
    · show (M.step a).run l = M
      rw [hs]; exact ih.1
    · show M.inc a + (M.step a).cnt l = 0
      rw [hs, ih.2, Mach.inc_over ho]

/-- Behind a beginning where all are over the rest does nothing. -/
theorem Mach.run_take_done {M : Mach} {l : List Int} {k : Nat} (h : (M.run (l.take k)).done = true) : M.run l = M.run (l.take k) ∧ M.cnt l = M.cnt (l.take k) := by
  have hl : l = l.take k ++ l.drop k := (List.take_append_drop k l).symm
  constructor
  · conv => lhs; rw [hl]
    rw [Mach.run_append, (Mach.run_done h _).1]
  · conv => lhs; rw [hl]
    rw [Mach.cnt_append, (Mach.run_done h _).2]; rfl

/-- A machine of programs, as it begins. -/
def mach0 (cells : Nat) (ps : List (List Ins)) : Mach := ⟨newSt cells, ps.map fun p => ⟨p, 0, [0, 0, 0, 0]⟩⟩

/-- The first program at fault from number k on: its number, the error. -/
def faultFrom (cells : Int) : Nat → List (List Ins) → Option (Nat × Int)
  | _, [] => none
  | k, p :: ps => if 64 < p.length then some (k, 3) else if p.all (fun i => rightB i cells p.length) then faultFrom cells (k + 1) ps else some (k, 5)

theorem mach0_ok {cells : Nat} {ps : List (List Ins)} (h1 : 1 ≤ cells) (h2 : cells ≤ 64) (h3 : 0 < ps.length) (h4 : ps.length ≤ 16)
    (h : ∀ p ∈ ps, p.length ≤ 64 ∧ p.all (fun i => rightB i cells p.length) = true) : MachOk (mach0 cells ps) := by
  have hl : (newSt cells).length = cells := by simp [newSt]
  refine ⟨by show 0 < (newSt cells).length; omega, by show (newSt cells).length ≤ 64; omega, by simpa [mach0] using h3, by simpa [mach0] using h4, ?_, ?_⟩
  · intro s hs
    simp only [mach0, List.mem_map] at hs
    obtain ⟨p, hp, rfl⟩ := hs
    obtain ⟨h5, h6⟩ := h p hp
    refine ⟨h5, Nat.zero_le _, rfl, fun i hi => ?_⟩
    rw [List.all_eq_true] at h6
    have := h6 i hi
    show rightB i ((mach0 cells ps).st.length : Nat) _ = true
    rw [show (mach0 cells ps).st.length = cells from hl]
    exact this
  · intro c hc
    simp only [mach0, newSt, List.mem_replicate] at hc
    exact .inl (by rw [hc.2])

end Go.Proofs.Ytdbmieofcdafkaa
