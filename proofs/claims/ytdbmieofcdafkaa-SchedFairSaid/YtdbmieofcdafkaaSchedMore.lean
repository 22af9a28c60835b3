/- What package sched tells of registers, and whether all sessions are over. No condition but that the machine was made by Make. -/
import Derived.Test.YtdbmieofcdafkaaSched
namespace Go.Proofs.Ytdbmieofcdafkaa
open Go.RowKit
set_option linter.unusedVariables false
set_option maxRecDepth 100000
variable {w w' : World} {L : Lay} {M : Mach}

def regsVal (l : List Int) : Value := .agg (ints l).toArray

theorem four {l : List Int} (h : l.length = 4) : ∃ a b c d, l = [a, b, c, d] := by
  match l, h with
  | [a, b, c, d], _ => exact ⟨a, b, c, d, rfl⟩

theorem registers_any (H : SM w L M) (k : Int) :
    Calls Try.prog 51 #[.pointer (some ⟨L.hb, 0, none⟩), .int .i64 k] w fun e w' => e = .returned (regsVal (regsOf M k)) ∧ Still w w' := by
  cases hg : M.get k with
  | none =>
    have HS := Lib.hid (session_none (H.still ((Turned.refl _ w).alloc (.cells #[.int .i64 0, .int .i64 0, .int .i64 0, .int .i64 0] 71))) (Mach.get_none hg))
    rw [show regsOf M k = [0, 0, 0, 0] by unfold regsOf; rw [hg]; rfl]
    clear H hg
    go_enter Try.func51, Try.ntmps51
    go_wp2_with fail
    refine HS.out.mono ?_
    rintro e w' ⟨rfl, rfl⟩
    go_wp2_with fail
    exact bodyPost_ret (v := .agg #[.int .i64 0, .int .i64 0, .int .i64 0, .int .i64 0]) (by simp [results, Try.results51, go_sem]) rfl ⟨rfl, (Turned.refl _ _).alloc _⟩
  | some s =>
    obtain ⟨h0, h1, h2⟩ := Mach.get_some hg
    obtain ⟨p, hp, a, c, hb, _, _⟩ := H.pick h2
    obtain ⟨j, rfl⟩ : ∃ j : Nat, k = j := ⟨k.toNat, by omega⟩
    rw [Int.toNat_natCast] at hp
    have HS := Lib.hid (session_some (H.still ((Turned.refl _ w).alloc (.cells #[.int .i64 0, .int .i64 0, .int .i64 0, .int .i64 0] 71))) hp)
    obtain ⟨x0, x1, x2, x3, hr⟩ := four (H.ok.ses s (List.mem_of_getElem? h2)).r
    have hb' := hb.alloc (.cells #[.int .i64 0, .int .i64 0, .int .i64 0, .int .i64 0] 71)
    unfold sesHd at hb'
    rw [hr] at hb'
    have hc0 : (w.alloc (.cells #[.int .i64 0, .int .i64 0, .int .i64 0, .int .i64 0] 71)).cell? ⟨p, 2, none⟩ = some (.int .i64 x0) := hb'.cell rfl
    have hc1 : (w.alloc (.cells #[.int .i64 0, .int .i64 0, .int .i64 0, .int .i64 0] 71)).cell? ⟨p, 3, none⟩ = some (.int .i64 x1) := hb'.cell rfl
    have hc2 : (w.alloc (.cells #[.int .i64 0, .int .i64 0, .int .i64 0, .int .i64 0] 71)).cell? ⟨p, 4, none⟩ = some (.int .i64 x2) := hb'.cell rfl
    have hc3 : (w.alloc (.cells #[.int .i64 0, .int .i64 0, .int .i64 0, .int .i64 0] 71)).cell? ⟨p, 5, none⟩ = some (.int .i64 x3) := hb'.cell rfl
    rw [show regsOf M j = [x0, x1, x2, x3] by unfold regsOf; rw [hg]; exact hr]
    clear H hg h0 h1 h2 hp hb hb' hr
    go_enter Try.func51, Try.ntmps51
    go_wp2_with fail
    refine HS.out.mono ?_
    rintro e w' ⟨rfl, rfl⟩
    go_wp2_with fail
    exact bodyPost_ret (v := .agg #[.int .i64 x0, .int .i64 x1, .int .i64 x2, .int .i64 x3]) (by simp [results, Try.results51, go_sem]) rfl ⟨rfl, (Turned.refl _ _).alloc _⟩

/-- Where is the first session that goes on? -/
def firstGo (l : List Sess) : Int := ((l.findIdx? Sess.goes).map fun i => (i : Int)).getD (-1)

theorem index_any (w : World) (sb n cap : Nat) (ps : List Nat) (ss : List Sess) (hl : ss.length = n) (hn : n ≤ 16) (hc : n ≤ cap)
    (slot : ∀ k p : Nat, ps[k]? = some p → w.cell? ⟨sb, k, none⟩ = some (.pointer (some ⟨p, 0, none⟩))) (hlen : ps.length = n)
    (ses : ∀ (k p : Nat) (s : Sess), ps[k]? = some p → ss[k]? = some s → SesAt L w p s) :
    Calls Try.prog 85 #[.slice (some ⟨sb, 0, none⟩) n cap, .func (.func 64) #[] #[]] w fun e w' => ∃ i : Int, e = .returned (.int .i64 i) ∧ (∃ m, w' = w.drewN m) ∧ (0 ≤ i ↔ ss.any Sess.goes = true) ∧ i < 16 := by
  have HSL := Lib.hid slot
  have HSE := Lib.hid ses
  have HL := Lib.hid hl
  have HLN := Lib.hid hlen
  clear slot ses hl hlen
  go_enter Try.func85, Try.ntmps85
  go_wp2_with fail
  go_loopw [8] (fun i wr => ∃ k : Nat, k ≤ n ∧ i = .int .i64 k ∧ (ss.take k).any Sess.goes = false ∧ ∃ q, wr = w.drewN q) (fun i _ => n - (intOf i).toNat)
  case atStart => exact ⟨0, Nat.zero_le _, rfl, by simp, 0, rfl⟩
  case round =>
    obtain ⟨k, hk, rfl, hany, q, rfl⟩ := hrel
    by_cases hlt : k < n
    · obtain ⟨s, hs⟩ := get_some (l := ss) (i := k) (by rw [HL.out]; exact hlt)
      obtain ⟨p, hp⟩ := get_some (l := ps) (i := k) (by rw [HLN.out]; exact hlt)
      have hcell := HSL.out k p hp
      have HG := Lib.hid (goes_q (n := q) (HSE.out k p s hp hs))
      have HS := Lib.hid hs
      have HA := Lib.hid hany
      clear hs hp hany
      have HV := Lib.hid (show s.goes = s.goes from rfl)
      generalize hgo : s.goes = g at HG
      have HGO := Lib.hid hgo
      clear hgo
      cases g
      · go_wp2_with fail
        refine HG.out.mono ?_
        rintro e w' ⟨rfl, m, rfl⟩
        go_wp2_with fail
        go_roundw
        case rel =>
          refine ⟨k + 1, by omega, by go_num, ?_, _, rfl⟩
          rw [List.take_add_one, HS.out, List.any_append, HA.out]
          simp [HGO.out]
        case measure => simp [intOf]; omega
      · go_wp2_with fail
        refine HG.out.mono ?_
        rintro e w' ⟨rfl, m, rfl⟩
        go_wp2_with fail
        go_ret
        refine ⟨k, rfl, ⟨_, rfl⟩, ⟨fun _ => ?_, fun _ => by omega⟩, by omega⟩
        rw [List.any_eq_true]
        exact ⟨s, List.mem_of_getElem? HS.out, HGO.out⟩
    · obtain rfl : k = n := by omega
      have HA := Lib.hid hany
      clear hany
      go_wp2_with fail
      go_ret
      refine ⟨-1, rfl, ⟨_, rfl⟩, ⟨fun h => by omega, fun h => ?_⟩, by omega⟩
      have := HA.out
      rw [List.take_of_length_le (by rw [HL.out]; omega)] at this
      rw [this] at h
      cases h

theorem allOver_any (H : SM w L M) :
    Calls Try.prog 55 #[.pointer (some ⟨L.hb, 0, none⟩)] w fun e w' => e = .returned (.bool M.done) ∧ ∃ n, w' = w.drewN n := by
  have hs := H.cellS
  have HI := Lib.hid (index_any w L.sb M.ss.length L.cap L.ps M.ss rfl H.ok.n1 H.cap H.slot H.len H.ses)
  have HD : ∀ b : Bool, M.ss.any Sess.goes = b → M.done = !b := by
    rintro b rfl
    unfold Mach.done
    rw [List.all_eq_not_any_not]
    simp
  have hC : Calls Try.prog 75 #[.slice (some ⟨L.sb, 0, none⟩) M.ss.length L.cap, .func (.func 64) #[] #[]] w fun e w' => e = .returned (.bool (!M.done)) ∧ ∃ m, w' = w.drewN m := by
    clear hs H
    generalize M.ss.length = n at *
    go_enter Try.func75, Try.ntmps75
    go_wp2_with fail
    refine HI.out.mono ?_
    rintro e w' ⟨i, rfl, ⟨m, rfl⟩, hi, _⟩
    have HH := Lib.hid hi
    clear hi
    go_wp2_with fail
    go_ret
    refine ⟨ret_bool ?_, _, rfl⟩
    rw [HD _ rfl, Bool.not_not, Bool.eq_iff_iff, decide_eq_true_iff]
    exact HH.out
  have HC := Lib.hid hC
  clear H HI HD hC
  generalize M.done = d at *
  generalize M.ss.length = n at *
  go_enter Try.func55, Try.ntmps55
  go_wp2_with fail
  refine HC.out.mono ?_
  rintro e w' ⟨rfl, m, rfl⟩
  go_wp2_with fail
  go_ret
  exact ⟨ret_bool (by simp), _, rfl⟩

end Go.Proofs.Ytdbmieofcdafkaa
