/- The document's own plain machine of sessions (package postriderref02) in memory: the same plain data as package sched's; which programs it takes; is a session over. No condition but that the machine was made by Make. -/
import Derived.Test.YtdbmieofcdafkaaRegs
import Derived.Test.YtdbmieofcdafkaaRefMake
import Derived.Test.YtdbmieofcdafkaaRefuse
namespace Go.Proofs.Ytdbmieofcdafkaa
open Go.RowKit
set_option linter.unusedVariables false
set_option linter.unusedSimpArgs false
set_option maxRecDepth 100000

/-- Where a machine of the document lies. -/
structure QLay where
  lo : Nat
  hi : Nat
  hb : Nat
  rb : Nat
  vb : Nat
  bb : Nat
  wb : Nat
  sb : Nat
  cap : Nat
  ps : List Nat

/-- The blocks that a step may turn. -/
def QLay.W (L : QLay) (b : Nat) : Prop := rS L.vb L.bb L.wb b ∨ b ∈ L.ps

def QSesAt (L : QLay) (w : World) (p : Nat) (s : Sess) : Prop :=
  ∃ (a : Option Addr) (c : Nat), Blk w p (sesHd a c s) 83 ∧ RowAt insEnc 4 w a s.p ∧ ∀ x, a = some x → s.p ≠ [] → L.lo ≤ x.block ∧ x.block < L.hi ∧ ¬ L.W x.block

structure QM (w : World) (L : QLay) (M : Mach) : Prop where
  hd : Blk w L.hb [.pointer (some ⟨L.rb, 0, none⟩), .slice (some ⟨L.sb, 0, none⟩) M.ss.length L.cap] 79
  mem : Ref w L.rb L.vb L.bb L.wb M.st
  len : L.ps.length = M.ss.length
  slot : ∀ k p : Nat, L.ps[k]? = some p → w.cell? ⟨L.sb, k, none⟩ = some (.pointer (some ⟨p, 0, none⟩))
  ses : ∀ (k p : Nat) (s : Sess), L.ps[k]? = some p → M.ss[k]? = some s → QSesAt L w p s
  inj : ∀ j k p : Nat, L.ps[j]? = some p → L.ps[k]? = some p → j = k
  n1 : L.hb ∉ L.ps
  n2 : L.rb ∉ L.ps
  n3 : ∀ b, rS L.vb L.bb L.wb b → b ∉ L.ps
  n4 : L.sb ∉ L.ps
  n5 : ¬ rS L.vb L.bb L.wb L.hb
  n6 : ¬ rS L.vb L.bb L.wb L.sb
  ok : MachOk M
  i1 : L.lo ≤ L.hb ∧ L.hb < L.hi
  i2 : L.lo ≤ L.rb ∧ L.rb < L.hi
  i3 : ∀ b, rS L.vb L.bb L.wb b → L.lo ≤ b ∧ b < L.hi
  i4 : L.lo ≤ L.sb ∧ L.sb < L.hi
  i5 : ∀ p ∈ L.ps, L.lo ≤ p ∧ p < L.hi
  cap : M.ss.length ≤ L.cap

variable {w w' : World} {L : QLay} {M : Mach}

theorem QM.W_in (H : QM w L M) {b : Nat} (h : L.W b) : L.lo ≤ b ∧ b < L.hi := h.elim (H.i3 b) (H.i5 b)

theorem QM.turned {S : Nat → Prop} (H : QM w L M) (ht : Turned S w w') (hS : ∀ b, S b → b < L.lo ∨ L.hi ≤ b) : QM w' L M := by
  have key : ∀ b, L.lo ≤ b ∧ b < L.hi → ¬ S b := fun b hb hs => by have := hS b hs; omega
  refine ⟨H.hd.turned ht (key _ H.i1), H.mem.turned ht (key _ H.i2) (key _ (H.i3 _ (.inl rfl))) (key _ (H.i3 _ (.inr (.inl rfl)))) (key _ (H.i3 _ (.inr (.inr rfl)))), H.len, ?_, ?_, H.inj, H.n1, H.n2, H.n3, H.n4, H.n5, H.n6, H.ok, H.i1, H.i2, H.i3, H.i4, H.i5, H.cap⟩
  · intro k p hp
    have := H.slot k p hp
    rw [ht.cell (p := ⟨L.sb, k, none⟩) (cell_lt this) (key _ H.i4)]; exact this
  · intro k p s hp hs
    obtain ⟨a, c, hb, hr, hx⟩ := H.ses k p s hp hs
    refine ⟨a, c, hb.turned ht (key _ (H.i5 p (List.mem_of_getElem? hp))), hr.turned ht (fun x e hne => ?_), hx⟩
    obtain ⟨h1, h2, _⟩ := hx x e hne
    exact key _ ⟨h1, h2⟩

theorem QM.still (H : QM w L M) (ht : Still w w') : QM w' L M := H.turned ht (fun _ h => h.elim)
theorem QM.drewN (H : QM w L M) (n : Nat) : QM (w.drewN n) L M := H.still ((Turned.refl _ w).drewN n)

/-- One session, and the cells, become others. -/
theorem QM.upd (H : QM w L M) {k p : Nat} {s s' : Sess} {st' : List Cel} (hk : L.ps[k]? = some p) (hs : M.ss[k]? = some s)
    (hT : Turned (fun b => rS L.vb L.bb L.wb b ∨ b = p) w w') (hM : Ref w' L.rb L.vb L.bb L.wb st') (hp : s'.p = s.p)
    (hB : ∀ a c, Blk w p (sesHd a c s) 83 → Blk w' p (sesHd a c s') 83) (hok : MachOk ⟨st', M.ss.set k s'⟩) : QM w' L ⟨st', M.ss.set k s'⟩ := by
  have hpm : p ∈ L.ps := List.mem_of_getElem? hk
  have nW : ∀ b, ¬ L.W b → ¬ (rS L.vb L.bb L.wb b ∨ b = p) := fun b hb h => hb (h.elim .inl (fun e => .inr (e ▸ hpm)))
  have hl : (M.ss.set k s').length = M.ss.length := List.length_set
  refine ⟨?_, hM, by rw [hl]; exact H.len, ?_, ?_, H.inj, H.n1, H.n2, H.n3, H.n4, H.n5, H.n6, hok, H.i1, H.i2, H.i3, H.i4, H.i5, by rw [hl]; exact H.cap⟩
  · rw [hl]; exact H.hd.turned hT (nW _ (fun h => h.elim H.n5 H.n1))
  · intro j q hq
    have := H.slot j q hq
    rw [hT.cell (p := ⟨L.sb, j, none⟩) (cell_lt this) (nW _ (fun h => h.elim H.n6 H.n4))]; exact this
  · intro j q t hq ht
    by_cases e : j = k
    · subst e
      obtain rfl : q = p := by rw [hk] at hq; exact (Option.some.inj hq).symm
      obtain rfl : t = s' := by
        have := get_lt hs
        simp [this] at ht; exact ht.symm
      obtain ⟨a, c, hb, hr, hx⟩ := H.ses j q s hq hs
      refine ⟨a, c, hB a c hb, ?_, ?_⟩
      · rw [hp]; exact hr.turned hT (fun x e hne => nW _ (hx x e hne).2.2)
      · rw [hp]; exact hx
    · have ht' : M.ss[j]? = some t := by rwa [List.getElem?_set_ne (fun h => e h.symm)] at ht
      obtain ⟨a, c, hb, hr, hx⟩ := H.ses j q t hq ht'
      refine ⟨a, c, hb.turned hT (fun h => ?_), hr.turned hT (fun x e hne => nW _ (hx x e hne).2.2), hx⟩
      rcases h with h | h
      · exact H.n3 _ h (List.mem_of_getElem? hq)
      · subst h; exact e (H.inj j k _ hq hk)

theorem QM.cellM (H : QM w L M) : w.cell? ⟨L.hb, 0, none⟩ = some (.pointer (some ⟨L.rb, 0, none⟩)) := H.hd.cell rfl
theorem QM.cellS (H : QM w L M) : w.cell? ⟨L.hb, 1, none⟩ = some (.slice (some ⟨L.sb, 0, none⟩) M.ss.length L.cap) := H.hd.cell rfl
theorem QM.pick (H : QM w L M) {k : Nat} {s : Sess} (hs : M.ss[k]? = some s) : ∃ p, L.ps[k]? = some p ∧ QSesAt L w p s := by
  obtain ⟨p, hp⟩ := get_some (l := L.ps) (i := k) (by rw [H.len]; exact get_lt hs)
  exact ⟨p, hp, H.ses k p s hp hs⟩

theorem qregister_any (n : Int) (w : World) :
    Calls Try.prog 60 #[.int .i64 n] w fun e w' => e = .returned (.bool (regB n)) ∧ w = w' := by
  unfold regB
  by_cases h0 : 0 ≤ n
  · by_cases h1 : n < 4
    · rw [decide_eq_true h0, decide_eq_true h1]
      go_enter Try.func60, Try.ntmps60
      go_wp2
      go_ret
      exact ⟨rfl, rfl⟩
    · have h1' : decide (n < 4) = false := decide_eq_false h1
      rw [decide_eq_true h0, h1']
      go_enter Try.func60, Try.ntmps60
      go_wp2
      go_ret
      exact ⟨rfl, rfl⟩
  · have h0' : decide (0 ≤ n) = false := decide_eq_false h0
    rw [h0']
    go_enter Try.func60, Try.ntmps60
    go_wp2
    go_ret
    exact ⟨rfl, rfl⟩

theorem qover_any (H : QM w L M) (k : Int) :
    Calls Try.prog 43 #[.pointer (some ⟨L.hb, 0, none⟩), .int .i64 k] w fun e w' => e = .returned (.bool (M.over k)) ∧ ∃ n, w' = w.drewN n := by
  have h1 := H.cellS
  have hcap := H.cap
  have hn := H.ok.n1
  by_cases h0 : k < 0
  · rw [show M.over k = true by unfold Mach.over Mach.get; rw [if_neg (by omega)]]
    have hd : decide (k < 0) = true := by simpa using h0
    clear H
    generalize M.ss.length = n at *
    go_enter Try.func43, Try.ntmps43
    go_wp2
    go_quiet (fail)
    go_wp2
    go_ret
    exact ⟨rfl, _, rfl⟩
  · obtain ⟨j, rfl⟩ : ∃ j : Nat, k = j := ⟨k.toNat, by omega⟩
    by_cases hj : j < M.ss.length
    · obtain ⟨s, hs⟩ := get_some hj
      obtain ⟨p, hp, a, c, hb, hr, hx⟩ := H.pick hs
      have h2 := H.slot j p hp
      have h3 : w.cell? ⟨p, 0, none⟩ = some (.slice a s.p.length c) := hb.cell rfl
      have h4 : w.cell? ⟨p, 1, none⟩ = some (.int .i64 s.pc) := hb.cell rfl
      have HO := Lib.hid (show M.over j = decide ((s.p.length : Int) ≤ (s.pc : Int)) by
        unfold Mach.over Mach.get
        rw [if_pos (by omega), Int.toNat_natCast, hs]
        show (!s.goes) = _
        unfold Sess.goes
        rw [← decide_not, decide_eq_decide]; omega)
      have hd : decide ((j : Int) < 0) = false := by simp
      have hd2 : decide ((M.ss.length : Int) ≤ (j : Int)) = false := by simp; omega
      have hji : (j : Int) < (M.ss.length : Int) := by omega
      clear H hs hp hr hx hb h0
      generalize M.ss.length = n at *
      generalize s.p.length = q at *
      generalize s.pc = r at *
      go_enter Try.func43, Try.ntmps43
      go_wp2
      go_quiet (fail)
      go_wp2
      go_ret
      exact ⟨ret_bool (by rw [HO.out, decide_eq_false (show ¬ n ≤ j by omega), Bool.false_or, decide_eq_decide]; omega), _, rfl⟩
    · rw [show M.over j = true by unfold Mach.over Mach.get; rw [if_pos (by omega), Int.toNat_natCast, List.getElem?_eq_none (by omega)]]
      have hd : decide ((j : Int) < 0) = false := by simp
      have hd2 : decide ((M.ss.length : Int) ≤ (j : Int)) = true := by simp; omega
      clear H h0
      generalize M.ss.length = n at *
      go_enter Try.func43, Try.ntmps43
      go_wp2
      go_quiet (fail)
      go_wp2
      go_ret
      exact ⟨rfl, _, rfl⟩
end Go.Proofs.Ytdbmieofcdafkaa
