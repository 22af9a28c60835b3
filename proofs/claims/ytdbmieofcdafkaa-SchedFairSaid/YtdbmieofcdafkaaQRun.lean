/- The document's own machine: one step, are all over, picks in turn: by the plain machine. No condition but that the machine was made by Make. -/
import Derived.Test.YtdbmieofcdafkaaQStep
import Derived.Test.YtdbmieofcdafkaaFair
import Derived.Test.YtdbmieofcdafkaaSchedStep
import Derived.Test.YtdbmieofcdafkaaSchedFair
namespace Go.Proofs.Ytdbmieofcdafkaa
open Go.RowKit
set_option linter.unusedVariables false
set_option maxRecDepth 100000
variable {w w' : World} {L : QLay} {M : Mach}

theorem qgo (H : QM w L M) {k : Nat} {s : Sess} (hs : M.ss[k]? = some s) (hg : s.goes = true) (hov : M.over k = false) :
    Calls Try.prog 15 #[.pointer (some ⟨L.hb, 0, none⟩), .int .i64 k] w fun e w' => e = .returned (.bool true) ∧ QM w' L (M.step k) ∧ Turned L.W w w' := by
  have hg' : s.pc < s.p.length := by simpa [Sess.goes] using hg
  obtain ⟨p, hp, a, c, hb, hrow, hx⟩ := H.pick hs
  have hso := H.ok.ses s (List.mem_of_getElem? hs)
  have hpm := List.mem_of_getElem? hp
  have hk : k < M.ss.length := get_lt hs
  have hk16 := H.ok.n1
  obtain ⟨i, hi⟩ := get_some (l := s.p) (i := s.pc) hg'
  obtain ⟨pb, po, rfl, hc⟩ := hrow s.pc i hi
  have hins : insAt s.p s.pc = i := by unfold insAt; rw [hi]; rfl
  have hR := hso.right i (List.mem_of_getElem? hi)
  have hstep : M.step k = ⟨(stepI k M.st s i).1, M.ss.set k (stepI k M.st s i).2⟩ := by
    unfold Mach.step Mach.get
    rw [if_pos (by omega), Int.toNat_natCast, hs, ← hins]
    show (if s.goes = true then _ else M) = _
    rw [if_pos hg]
  have hOV := qover_any H k
  rw [hov] at hOV
  refine (qdo_any w L.hb L.rb L.vb L.bb L.wb L.sb M.ss.length L.cap k p pb po c M.st s i hOV H.cellS hk (by omega) (H.slot k p hp) H.cellM hb H.mem hg' hso.p hso.r
    (fun j v hv => hc j v hv) (fun e => H.n1 (e ▸ hpm)) (fun e => H.n3 p e hpm) H.n5 (fun e => H.n2 (e ▸ hpm)) hR H.ok.h).mono ?_
  rintro e w' ⟨rfl, hM, hB, hT⟩
  refine ⟨rfl, ?_, hT.mono (fun b _ h => h.elim .inl (fun e => .inr (e ▸ hpm)))⟩
  have hok := H.ok.step k
  rw [hstep] at hok ⊢
  refine H.upd hp hs hT hM (stepI_p _ _ _ _) ?_ hok
  intro a' c' hb'
  have e1 : sesHd a' c' s = sesHd (some ⟨pb, po, none⟩) c s := by
    have := hb'.symm.trans hb
    simp at this
    exact this
  simp [sesHd] at e1
  obtain ⟨rfl, rfl⟩ := e1
  exact hB

theorem qstep_any (H : QM w L M) (k : Int) :
    Calls Try.prog 15 #[.pointer (some ⟨L.hb, 0, none⟩), .int .i64 k] w fun e w' => e = .returned (.bool (!M.over k)) ∧ QM w' L (M.step k) ∧ Turned L.W w w' := by
  cases hov : M.over k with
  | true =>
    have HO := Lib.hid (qover_any H k)
    rw [hov] at HO
    have HS := Lib.hid (fun n => H.drewN n)
    rw [Mach.step_over hov]
    clear H hov
    go_enter Try.func15, Try.ntmps15
    go_wp2_with fail
    refine HO.out.mono ?_
    rintro e w' ⟨rfl, n, rfl⟩
    go_wp2_with fail
    go_ret
    exact ⟨rfl, HS.out n, (Turned.refl _ _).drewN n⟩
  | false =>
    cases hg : M.get k with
    | none => unfold Mach.over at hov; rw [hg] at hov; cases hov
    | some s =>
      obtain ⟨h0, h1, h2⟩ := Mach.get_some hg
      obtain ⟨j, rfl⟩ : ∃ j : Nat, k = j := ⟨k.toNat, by omega⟩
      rw [Int.toNat_natCast] at h2
      have hgo : s.goes = true := by unfold Mach.over at hov; rw [hg] at hov; simpa using hov
      exact qgo H h2 hgo hov

/-- Are all over? -/
theorem done_take {M : Mach} : M.done = true ↔ ∀ k : Nat, k < M.ss.length → M.over k = true := by
  constructor
  · exact fun h k _ => Mach.over_of_done h k
  · intro h
    unfold Mach.done
    rw [List.all_eq_true]
    intro s hs
    obtain ⟨k, hk⟩ := List.getElem?_of_mem hs
    have := h k (get_lt hk)
    unfold Mach.over Mach.get at this
    rw [if_pos (by omega), Int.toNat_natCast, hk] at this
    exact this

theorem qdone_any (H : QM w L M) :
    Calls Try.prog 56 #[.pointer (some ⟨L.hb, 0, none⟩)] w fun e w' => e = .returned (.bool M.done) ∧ ∃ n, w' = w.drewN n := by
  have hs := H.cellS
  have hn := H.ok.n1
  have HO := Lib.hid (fun n k => qover_any (H.drewN n) k)
  have HT := Lib.hid (done_take (M := M))
  obtain ⟨N, hN⟩ : ∃ N, N = M.ss.length := ⟨_, rfl⟩
  rw [← hN] at hs hn HT
  clear H hN
  go_enter Try.func56, Try.ntmps56
  go_wp2_with fail
  go_loopw [3] (fun i wr => ∃ k : Nat, k ≤ N ∧ i = .int .i64 k ∧ (∀ j : Nat, j < k → M.over j = true) ∧ ∃ q, wr = w.drewN q) (fun i _ => N - (intOf i).toNat)
  case atStart => exact ⟨0, Nat.zero_le _, rfl, fun j hj => by omega, 0, rfl⟩
  case round =>
    obtain ⟨k, hk, rfl, hall, q, rfl⟩ := hrel
    have HA := Lib.hid hall
    clear hall
    by_cases hlt : k < N
    · have HOk := Lib.hid (HO.out q k)
      cases hov : M.over k with
      | true =>
        rw [hov] at HOk
        have HV := Lib.hid hov
        clear hov
        go_wp2_with fail
        refine HOk.out.mono ?_
        rintro e w' ⟨rfl, m, rfl⟩
        go_wp2_with fail
        go_roundw
        case rel => exact ⟨k + 1, by omega, by go_num, fun j hj => by
          by_cases e : j = k
          · subst e; exact HV.out
          · exact HA.out j (by omega), _, rfl⟩
        case measure => simp [intOf]; omega
      | false =>
        rw [hov] at HOk
        have HV := Lib.hid hov
        clear hov
        go_wp2_with fail
        refine HOk.out.mono ?_
        rintro e w' ⟨rfl, m, rfl⟩
        go_wp2_with fail
        go_ret
        refine ⟨ret_bool ?_, _, rfl⟩
        cases hd : M.done with
        | false => rfl
        | true => have := Mach.over_of_done hd k; rw [HV.out] at this; cases this
    · obtain rfl : k = N := by omega
      go_wp2_with fail
      go_ret
      exact ⟨ret_bool (HT.out.2 HA.out).symm, _, rfl⟩

def QFairPost (w : World) (L : QLay) (M : Mach) (xs : List Int) (e : Ending) (w' : World) : Prop :=
  e = .returned (.tuple #[.int .i64 (M.cnt xs : Nat), .bool (M.run xs).done]) ∧ QM w' L (M.run xs) ∧ Turned L.W w w'

theorem run_rest {M : Mach} {a b : Nat} {n : Nat} (h : a ≤ b) (hd : (M.run (fairL n a)).done = true) : M.run (fairL n b) = M.run (fairL n a) ∧ M.cnt (fairL n b) = M.cnt (fairL n a) := by
  obtain ⟨r, hr⟩ := fairL_prefix n a b h
  rw [← hr, Mach.run_append, Mach.cnt_append]
  obtain ⟨h1, h2⟩ := Mach.run_done hd r
  exact ⟨h1, by rw [h2, Nat.add_zero]⟩

set_option maxHeartbeats 1000000 in
theorem qfair_any (H : QM w L M) (most : Int) (hmax : most ≤ 4611686018427387904) :
    Calls Try.prog 18 #[.pointer (some ⟨L.hb, 0, none⟩), .int .i64 most] w (QFairPost w L M (fairL M.ss.length most.toNat)) := by
  have hN0 := H.ok.n0
  have hN1 := H.ok.n1
  have HM := Lib.hid H
  obtain ⟨N, hN⟩ : ∃ N, N = M.ss.length := ⟨_, rfl⟩
  rw [← hN] at hN0 hN1 ⊢
  have HN := Lib.hid hN
  clear H hN
  go_enter Try.func18, Try.ntmps18
  go_wp2_with fail
  go_loopw [6, 7] (fun c i wr => ∃ k : Nat, (k : Int) ≤ most.toNat ∧ i = .int .i64 k ∧ c = .int .i64 (M.cnt (fairL N k) : Nat) ∧ QM wr L (M.run (fairL N k)) ∧ Turned L.W w wr) (fun _ i _ => most.toNat - (intOf i).toNat)
  case atStart => exact ⟨0, by omega, rfl, rfl, HM.out, Turned.refl _ _⟩
  case round =>
    clear HM
    obtain ⟨k, hk, rfl, rfl, hQ, hT⟩ := hrel
    obtain ⟨C, hC⟩ : ∃ C, C = M.cnt (fairL N k) := ⟨_, rfl⟩
    have hCk : C ≤ k := by rw [hC]; have := M.cnt_le (fairL N k); rwa [fairL_len] at this
    rw [← hC]
    have HCC := Lib.hid hC
    have HL := Lib.hid (M.run_len (fairL N k))
    obtain ⟨R, hR⟩ : ∃ R, R = M.run (fairL N k) := ⟨_, rfl⟩
    rw [← hR] at hQ HL
    have HR := Lib.hid hR
    have HQ := Lib.hid hQ
    have HT := Lib.hid hT
    have HD := Lib.hid (fun n => qdone_any (hQ.drewN n))
    clear hC hR hQ hT
    by_cases hlt : (k : Int) < most
    · have hlt2 : k < most.toNat := by omega
      cases hd : R.done with
      | true =>
        have HDN := Lib.hid hd
        rw [hd] at HD
        clear hd
        go_wp2_with fail
        refine (HD.out 0).mono ?_
        rintro e w' ⟨rfl, q, rfl⟩
        go_wp2_with fail
        refine (HD.out _).mono ?_
        rintro e w' ⟨rfl, q2, rfl⟩
        go_wp2_with fail
        go_ret2
        obtain ⟨e1, e2⟩ := run_rest (M := M) (n := N) (show k ≤ most.toNat by omega) (by rw [← HR.out]; exact HDN.out)
        refine ⟨?_, ?_, ?_⟩
        · rw [e1, e2, ← HR.out, ← HCC.out, HDN.out]; rfl
        · rw [e1, ← HR.out]; exact HQ.out.drewN _
        · exact HT.out.drewN _
      | false =>
        rw [hd] at HD
        clear hd
        have HS : Hid (∀ n, Calls Try.prog 15 #[.pointer (some ⟨L.hb, 0, none⟩), .int .i64 ((k : Int) % (N : Int))] (wr.drewN n) fun e w' => e = .returned (.bool (!R.over ((k % N : Nat) : Int))) ∧ QM w' L (R.step ((k % N : Nat) : Int)) ∧ Turned L.W (wr.drewN n) w') := Lib.hid (fun n => by
          rw [show (k : Int) % (N : Int) = ((k % N : Nat) : Int) by simp]
          exact qstep_any (HQ.out.drewN n) _)
        have HX : Hid (M.run (fairL N (k + 1)) = R.step ((k % N : Nat) : Int) ∧ M.cnt (fairL N (k + 1)) = C + R.inc ((k % N : Nat) : Int)) := Lib.hid (by
          rw [fairL_succ, Mach.run_snoc, Mach.cnt_snoc, ← HR.out, ← HCC.out]; exact ⟨rfl, rfl⟩)
        have hcs : wr.cell? ⟨L.hb, 1, none⟩ = some (.slice (some ⟨L.sb, 0, none⟩) N L.cap) := by
          have := HQ.out.cellS
          rwa [HL.out, ← HN.out] at this
        generalize hP : ((k % N : Nat) : Int) = P at HS HX
        clear hP
        cases ho : R.over P with
        | true =>
          have HI := Lib.hid (Mach.inc_over ho)
          rw [ho] at HS
          clear ho
          go_wp2_with fail
          refine (HD.out 0).mono ?_
          rintro e w' ⟨rfl, q, rfl⟩
          go_wp2_with fail
          refine (HS.out _).mono ?_
          rintro e w' ⟨rfl, hQ2, hT2⟩
          have HQ2 := Lib.hid hQ2
          have HT2 := Lib.hid ((HT.out.drewN _).trans hT2)
          clear hQ2 hT2
          go_wp2_with fail
          go_roundw
          case rel => exact ⟨k + 1, by omega, by go_num, by rw [HX.out.2, HI.out]; rfl, by rw [HX.out.1]; exact HQ2.out, HT2.out⟩
          case measure => simp [intOf]; omega
        | false =>
          have HI := Lib.hid (Mach.inc_goes ho)
          rw [ho] at HS
          clear ho
          go_wp2_with fail
          refine (HD.out 0).mono ?_
          rintro e w' ⟨rfl, q, rfl⟩
          go_wp2_with fail
          refine (HS.out _).mono ?_
          rintro e w' ⟨rfl, hQ2, hT2⟩
          have HQ2 := Lib.hid hQ2
          have HT2 := Lib.hid ((HT.out.drewN _).trans hT2)
          clear hQ2 hT2
          go_wp2_with fail
          go_roundw
          case rel => exact ⟨k + 1, by omega, by go_num, by rw [HX.out.2, HI.out]; go_num, by rw [HX.out.1]; exact HQ2.out, HT2.out⟩
          case measure => simp [intOf]; omega
    · have hk2 : k = most.toNat := by omega
      have HK := Lib.hid hk2
      clear hk2
      obtain ⟨D, hDD⟩ : ∃ D, D = R.done := ⟨_, rfl⟩
      rw [← hDD] at HD
      have HDD := Lib.hid hDD
      clear hDD
      go_wp2_with fail
      refine (HD.out 0).mono ?_
      rintro e w' ⟨rfl, q, rfl⟩
      go_wp2_with fail
      go_ret2
      refine ⟨?_, ?_, ?_⟩
      · rw [← HK.out, ← HR.out, ← HCC.out, ← HDD.out]; rfl
      · rw [← HK.out, ← HR.out]; exact HQ.out.drewN _
      · exact HT.out.drewN _
end Go.Proofs.Ytdbmieofcdafkaa
