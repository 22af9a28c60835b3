/- What the statements' comparison of a machine with the document's own says of two that hold the same plain machine: they are the same. No condition but that both were made by Make. -/
import Derived.Test.YtdbmieofcdafkaaQRun
import Derived.Test.YtdbmieofcdafkaaMade
import Derived.Deep.RegionHeld3
namespace Go.Proofs.Ytdbmieofcdafkaa
open Go.RowKit
set_option linter.unusedVariables false
set_option linter.unusedSimpArgs false
set_option maxRecDepth 100000

def SesCells (V : World) (hb sb p k n cap : Nat) (pc x0 x1 x2 x3 : Int) : Prop :=
  V.cell? ⟨hb, 1, none⟩ = some (.slice (some ⟨sb, 0, none⟩) n cap) ∧ V.cell? ⟨sb, k, none⟩ = some (.pointer (some ⟨p, 0, none⟩)) ∧ V.cell? ⟨p, 1, none⟩ = some (.int .i64 pc) ∧
  V.cell? ⟨p, 2, none⟩ = some (.int .i64 x0) ∧ V.cell? ⟨p, 3, none⟩ = some (.int .i64 x1) ∧ V.cell? ⟨p, 4, none⟩ = some (.int .i64 x2) ∧ V.cell? ⟨p, 5, none⟩ = some (.int .i64 x3)

theorem ses_cells {w : World} {L : QLay} {M : Mach} (H : QM w L M) {k : Nat} {s : Sess} (hs : M.ss[k]? = some s) :
    ∃ (p : Nat) (x0 x1 x2 x3 : Int), s.r = [x0, x1, x2, x3] ∧ ∀ V, Still w V → SesCells V L.hb L.sb p k M.ss.length L.cap s.pc x0 x1 x2 x3 := by
  obtain ⟨p, hp, a, c, hb, _, _⟩ := H.pick hs
  obtain ⟨x0, x1, x2, x3, hr⟩ := four (H.ok.ses s (List.mem_of_getElem? hs)).r
  refine ⟨p, x0, x1, x2, x3, hr, fun V hV => ?_⟩
  have hb' := hb.turned hV (fun h => h)
  unfold sesHd at hb'
  rw [hr] at hb'
  exact ⟨(H.still hV).cellS, (H.still hV).slot k p hp, hb'.cell rfl, hb'.cell rfl, hb'.cell rfl, hb'.cell rfl, hb'.cell rfl⟩

set_option maxHeartbeats 8000000 in
theorem same_any {w : World} {Lx : Lay} {Ly : QLay} {M : Mach} (H1 : SM w Lx M) (H2 : QM w Ly M) :
    Calls Try.prog 16 #[.pointer (some ⟨Lx.hb, 0, none⟩), .pointer (some ⟨Ly.hb, 0, none⟩)] w fun e w' => e = .returned (.bool true) ∧ Still w w' := by
  have hn16 := H1.ok.n1
  have hcap := H2.cap
  have hst64 := H1.ok.le
  have HX := Lib.hid H1
  have HY := Lib.hid H2
  have HAt : Hid (∀ (k : Int) (V : World), Still w V → Calls Try.prog 50 #[.pointer (some ⟨Lx.hb, 0, none⟩), .int .i64 k] V fun e w' => e = .returned (.int .i64 (atOf M k)) ∧ Still w w') := Lib.hid (fun k V hV => (at_any (H1.still hV) k).mono fun e w' ⟨h1, h2⟩ => ⟨h1, h2 ▸ hV⟩)
  have HRg : Hid (∀ (k : Int) (V : World), Still w V → Calls Try.prog 51 #[.pointer (some ⟨Lx.hb, 0, none⟩), .int .i64 k] V fun e w' => e = .returned (regsVal (regsOf M k)) ∧ Still w w') := Lib.hid (fun k V hV => (registers_any (H1.still hV) k).mono fun e w' ⟨h1, h2⟩ => ⟨h1, hV.trans h2⟩)
  have HOx : Hid (∀ (k : Int) (V : World), Still w V → Calls Try.prog 41 #[.pointer (some ⟨Lx.hb, 0, none⟩), .int .i64 k] V fun e w' => e = .returned (.bool (M.over k)) ∧ Still w w') := Lib.hid (fun k V hV => (over_any (H1.still hV) k).mono fun e w' ⟨h1, n, h2⟩ => ⟨h1, h2 ▸ hV.drewN n⟩)
  have HOy : Hid (∀ (k : Int) (V : World), Still w V → Calls Try.prog 43 #[.pointer (some ⟨Ly.hb, 0, none⟩), .int .i64 k] V fun e w' => e = .returned (.bool (M.over k)) ∧ Still w w') := Lib.hid (fun k V hV => (qover_any (H2.still hV) k).mono fun e w' ⟨h1, n, h2⟩ => ⟨h1, h2 ▸ hV.drewN n⟩)
  have HHo := Lib.hid (fun (k : Int) V (hV : Still w V) => holder_any (H1.still hV) k)
  have HCl := Lib.hid (fun V (hV : Still w V) => cells_any (H1.still hV))
  obtain ⟨N, hN⟩ : ∃ N, N = M.ss.length := ⟨_, rfl⟩
  have HN := Lib.hid hN
  rw [← hN] at hn16 hcap
  clear H1 H2 hN
  go_enter Try.func16, Try.ntmps16
  go_wp2_with fail
  go_loopw [5] (fun i wr => ∃ k : Nat, k ≤ N ∧ i = .int .i64 k ∧ Still w wr) (fun i _ => N - (intOf i).toNat)
  case atStart => exact ⟨0, Nat.zero_le _, rfl, Turned.refl _ _⟩
  case round =>
    obtain ⟨k, hk, rfl, hT⟩ := hrel
    have hcs : wr.cell? ⟨Ly.hb, 1, none⟩ = some (.slice (some ⟨Ly.sb, 0, none⟩) N Ly.cap) := by
      have := (HY.out.still hT).cellS
      rwa [← HN.out] at this
    by_cases hlt : k < N
    · obtain ⟨s, hs⟩ := get_some (l := M.ss) (i := k) (by rw [← HN.out]; exact hlt)
      obtain ⟨p, x0, x1, x2, x3, hr, hC⟩ := ses_cells HY.out hs
      rw [← HN.out] at hC
      have hat : atOf M k = s.pc := by unfold atOf Mach.get; rw [if_pos (by omega), Int.toNat_natCast, hs]; rfl
      have hrg : regsVal (regsOf M k) = .agg #[.int .i64 x0, .int .i64 x1, .int .i64 x2, .int .i64 x3] := by
        unfold regsOf Mach.get; rw [if_pos (by omega), Int.toNat_natCast, hs]; show regsVal s.r = _; rw [hr]; rfl
      have A1 := Lib.hid (HAt.out k)
      have A2 := Lib.hid (HRg.out k)
      have A3 := Lib.hid (HOx.out k)
      have A4 := Lib.hid (HOy.out k)
      rw [hat] at A1
      rw [hrg] at A2
      have HC := Lib.hid hC
      have hki : (k : Int) < (N : Int) := by omega
      clear hs hr hC hat hrg
      generalize M.over k = ov at *
      generalize hpc : s.pc = pc at *
      clear hpc
      obtain ⟨c0, c1, c2, c3, c4, c5, c6⟩ := HC.out wr hT
      have hTd : Still w wr.drew := hT.drew
      go_wp2_with fail
      go_region_held3 (fun V => V.cell? ⟨Ly.hb, 1, none⟩ = some (.slice (some ⟨Ly.sb, 0, none⟩) N Ly.cap) ∧ V.cell? ⟨Ly.sb, k, none⟩ = some (.pointer (some ⟨p, 0, none⟩)) ∧ V.cell? ⟨p, 1, none⟩ = some (.int .i64 pc) ∧ V.cell? ⟨p, 2, none⟩ = some (.int .i64 x0) ∧ V.cell? ⟨p, 3, none⟩ = some (.int .i64 x1) ∧ V.cell? ⟨p, 4, none⟩ = some (.int .i64 x2) ∧ V.cell? ⟨p, 5, none⟩ = some (.int .i64 x3)) (first | exact ⟨by assumption, by assumption, by assumption, by assumption, by assumption, by assumption, by assumption⟩ | go_keep) (first
        | (go_at_call 50; refine (A1.out _ (by assumption)).mono ?_; rintro e w5 ⟨rfl, hT5⟩; obtain ⟨f0, f1, f2, f3, f4, f5, f6⟩ := HC.out w5 hT5)
        | (go_at_call 51; refine (A2.out _ (by assumption)).mono ?_; rintro e w6 ⟨rfl, hT6⟩; obtain ⟨g0, g1, g2, g3, g4, g5, g6⟩ := HC.out w6 hT6)
        | (go_at_call 41; refine (A3.out _ (by assumption)).mono ?_; rintro e w7 ⟨rfl, hT7⟩; obtain ⟨k0, k1, k2, k3, k4, k5, k6⟩ := HC.out w7 hT7)
        | (go_at_call 43; refine (A4.out _ (by assumption)).mono ?_; rintro e w8 ⟨rfl, hT8⟩; obtain ⟨m0, m1, m2, m3, m4, m5, m6⟩ := HC.out w8 hT8))
      all_goals clear f0 f1 f2 f3 f4 f5 f6 g0 g1 g2 g3 g4 g5 g6 k0 k1 k2 k3 k4 k5 k6 c0 c1 c2 c3 c4 c5 c6
      all_goals go_wp2_with fail
      all_goals go_roundw
      all_goals first
        | exact ⟨k + 1, by omega, by go_num, by assumption⟩
        | (simp [intOf]; omega)
    · obtain rfl : k = N := by omega
      have HTa := Lib.hid hT
      clear HAt HRg HOx HOy hT hlt hk
      go_wp2_with fail
      obtain ⟨wo, rfl⟩ : ∃ wo : World, wo = wr := ⟨_, rfl⟩
      go_loopw [6] (fun i wr => ∃ j : Nat, j ≤ M.st.length ∧ i = .int .i64 j ∧ Still w wr) (fun i _ => M.st.length - (intOf i).toNat)
      case atStart => exact ⟨0, Nat.zero_le _, rfl, HTa.out⟩
      case round =>
        obtain ⟨j, hj, rfl, hT⟩ := hrel
        have hYM := HY.out.still hT
        have d0 := hYM.cellM
        have d1 := hYM.mem.hdV
        have d2 := hYM.mem.hdB
        by_cases hjl : j < M.st.length
        · obtain ⟨cl, hcl⟩ := get_some (l := M.st) (i := j) hjl
          have d3 := hYM.mem.cellH hcl
          have hho : holdOf M j = cl.h := by unfold holdOf; rw [if_pos (by omega), Int.toNat_natCast, hcl]; rfl
          have HH := Lib.hid (fun n => HHo.out j (wr.drewN n) (hT.drewN n))
          rw [hho] at HH
          have HT := Lib.hid hT
          generalize M.st.length = q at *
          generalize cl.h = hv at *
          clear hho hcl hYM hT
          go_wp2_with fail
          go_quiet ((go_at_call 52; ((with_reducible exact quietEq (HH.out _)))))
          go_wp2_with fail
          go_roundw
          case rel => exact ⟨j + 1, by omega, by go_num, HT.out.drewN _⟩
          case measure => simp [intOf]; omega
        · have hjq : j = M.st.length := by omega
          have HVS : Hid (∀ V nb, NumsAt V (some ⟨nb, 0, none⟩) (vs M.st) → NumsAt V (some ⟨Ly.vb, 0, none⟩) (vs M.st) → Calls Try.prog 39 #[.slice (some ⟨nb, 0, none⟩) M.st.length M.st.length, .slice (some ⟨Ly.vb, 0, none⟩) M.st.length M.st.length] V fun e w' => e = .returned (.bool true) ∧ ∃ m, w' = V.drewN m) := Lib.hid (fun V nb hA hB => by
            have := sameInts_any V (some ⟨nb, 0, none⟩) (some ⟨Ly.vb, 0, none⟩) (vs M.st) (vs M.st) M.st.length M.st.length rfl (by rw [vs_len]; omega) hA hB
            rw [vs_len] at this
            simpa using this)
          have HCA : Hid (∀ V, Still w V → Calls Try.prog 40 #[.pointer (some ⟨Lx.hb, 0, none⟩)] V fun e w' => ∃ nb, e = .returned (.slice (some ⟨nb, 0, none⟩) M.st.length M.st.length) ∧ NumsAt w' (some ⟨nb, 0, none⟩) (vs M.st) ∧ Still w w') := Lib.hid (fun V hV => (HCl.out V hV).mono fun e w' ⟨nb, h1, h2, _, h4⟩ => ⟨nb, h1, NumsAt.of_blk h2, hV.trans h4⟩)
          have HFx : Hid (∀ V, Still w V → V.cell? ⟨Ly.hb, 0, none⟩ = some (.pointer (some ⟨Ly.rb, 0, none⟩)) ∧ V.cell? ⟨Ly.rb, 0, none⟩ = some (.slice (some ⟨Ly.vb, 0, none⟩) M.st.length M.st.length) ∧ NumsAt V (some ⟨Ly.vb, 0, none⟩) (vs M.st)) := Lib.hid (fun V hV => ⟨(HY.out.still hV).cellM, (HY.out.still hV).mem.hdV, NumsAt.of_blk (HY.out.still hV).mem.rowV⟩)
          have hTd : Still w wr.drew := hT.drew
          clear hYM hjq hT
          generalize M.st.length = q at *
          go_wp2_with fail
          go_region_held3 (fun V => V.cell? ⟨Ly.hb, 0, none⟩ = some (.pointer (some ⟨Ly.rb, 0, none⟩)) ∧ V.cell? ⟨Ly.rb, 0, none⟩ = some (.slice (some ⟨Ly.vb, 0, none⟩) q q)) (first | exact ⟨by assumption, by assumption⟩ | go_keep) (first
            | (go_at_call 40; refine (HCA.out _ (by assumption)).mono ?_; rintro e w7 ⟨nb, rfl, hA7, hT7⟩; obtain ⟨k0, k1, hB7⟩ := HFx.out w7 hT7)
            | (go_at_call 39; refine (HVS.out _ _ (by assumption) (by assumption)).mono ?_; rintro e w8 ⟨rfl, m, rfl⟩))
          all_goals go_wp2_with fail
          all_goals go_ret
          all_goals exact ⟨rfl, Turned.drewN (by assumption) _⟩
end Go.Proofs.Ytdbmieofcdafkaa
