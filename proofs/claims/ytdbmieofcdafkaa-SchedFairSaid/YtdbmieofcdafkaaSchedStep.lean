/- One step of a machine of sessions, by the plain machine's step. No condition but that the machine was made by Make. -/
import Derived.Test.YtdbmieofcdafkaaSchedDo
import Derived.Test.YtdbmieofcdafkaaSchedMore
namespace Go.Proofs.Ytdbmieofcdafkaa
open Go.RowKit
set_option linter.unusedVariables false
set_option maxRecDepth 100000
variable {w w' : World} {L : Lay} {M : Mach}

theorem SM.drewN (H : SM w L M) (n : Nat) : SM (w.drewN n) L M := H.still ((Turned.refl _ w).drewN n)

theorem dostep (H : SM w L M) {k : Nat} {s : Sess} (hs : M.ss[k]? = some s) (hg : s.goes = true) :
    Calls Try.prog 42 #[.pointer (some ⟨L.hb, 0, none⟩), .int .i64 k] w fun e w' => e = .returned (.tuple #[]) ∧ SM w' L (M.step k) ∧ Turned L.W w w' := by
  have hg' : s.pc < s.p.length := by simpa [Sess.goes] using hg
  obtain ⟨p, hp, a, c, hb, hrow, hx⟩ := H.pick hs
  have hso := H.ok.ses s (List.mem_of_getElem? hs)
  have hpm := List.mem_of_getElem? hp
  have hk : k < M.ss.length := get_lt hs
  have hk16 := H.ok.n1
  obtain ⟨i, hi⟩ := get_some (l := s.p) (i := s.pc) hg'
  obtain ⟨pb, po, rfl, hc⟩ := hrow s.pc i hi
  have hins : insAt s.p s.pc = i := by unfold insAt; rw [hi]; rfl
  have hR := hso.right i (List.mem_of_getElem? hi)
  have hstep : M.step k = ⟨(stepI k M.st s i).1, M.ss.set k (stepI k M.st s i).2⟩ := by
    unfold Mach.step Mach.get
    rw [if_pos (by omega), Int.toNat_natCast, hs, ← hins]
    show (if s.goes = true then _ else M) = _
    rw [if_pos hg]
  refine (do_any w L.hb L.mb L.ab L.sb M.ss.length L.cap k p pb po c M.st s i H.cellS hk (by omega) (H.slot k p hp) H.cellM hb H.mem hg' hso.p hso.r
    (fun j v hv => hc j v hv) (fun e => H.n1 (e ▸ hpm)) (fun e => H.n3 (e ▸ hpm)) H.n5 (fun e => H.n2 (e ▸ hpm)) hR).mono ?_
  rintro e w' ⟨rfl, hM, hB, hT⟩
  refine ⟨rfl, ?_, hT.mono (fun b _ h => h.elim .inl (fun e => .inr (e ▸ hpm)))⟩
  have hok := H.ok.step k
  rw [hstep] at hok ⊢
  refine H.upd hp hs hT hM (stepI_p _ _ _ _) ?_ hok
  intro a' c' hb'
  have e1 : sesHd a' c' s = sesHd (some ⟨pb, po, none⟩) c s := by
    have := hb'.symm.trans hb
    simp at this
    exact this
  simp [sesHd] at e1
  obtain ⟨rfl, rfl⟩ := e1
  exact hB

theorem step_any (H : SM w L M) (k : Int) :
    Calls Try.prog 14 #[.pointer (some ⟨L.hb, 0, none⟩), .int .i64 k] w fun e w' => e = .returned (.bool (!M.over k)) ∧ SM w' L (M.step k) ∧ Turned L.W w w' := by
  have HO := Lib.hid (over_any H k)
  cases hov : M.over k with
  | true =>
    rw [hov] at HO
    have HS := Lib.hid (fun n => H.drewN n)
    rw [Mach.step_over hov]
    clear H hov
    go_enter Try.func14, Try.ntmps14
    go_wp2_with fail
    refine HO.out.mono ?_
    rintro e w' ⟨rfl, n, rfl⟩
    go_wp2_with fail
    go_ret
    exact ⟨rfl, HS.out n, (Turned.refl _ _).drewN n⟩
  | false =>
    rw [hov] at HO
    cases hg : M.get k with
    | none => unfold Mach.over at hov; rw [hg] at hov; cases hov
    | some s =>
      obtain ⟨h0, h1, h2⟩ := Mach.get_some hg
      obtain ⟨j, rfl⟩ : ∃ j : Nat, k = j := ⟨k.toNat, by omega⟩
      rw [Int.toNat_natCast] at h2
      have hgo : s.goes = true := by unfold Mach.over at hov; rw [hg] at hov; simpa using hov
      have HD := Lib.hid (fun n => dostep (H.drewN n) h2 hgo)
      clear H hov hg h0 h1 h2 hgo
      go_enter Try.func14, Try.ntmps14
      go_wp2_with fail
      refine HO.out.mono ?_
      rintro e w' ⟨rfl, n, rfl⟩
      go_wp2_with fail
      refine (HD.out n).mono ?_
      rintro e w' ⟨rfl, hS, hT⟩
      have HS := Lib.hid hS
      have HT := Lib.hid hT
      clear hS hT HD
      go_wp2_with fail
      go_ret
      exact ⟨rfl, HS.out, ((Turned.refl _ w).drewN n).trans HT.out⟩

end Go.Proofs.Ytdbmieofcdafkaa
