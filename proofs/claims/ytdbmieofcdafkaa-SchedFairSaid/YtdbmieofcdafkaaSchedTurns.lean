/- The turns of the sessions, gone through for every loop body that keeps what they read. No condition. -/
import Derived.Test.YtdbmieofcdafkaaSchedIter
namespace Go.Proofs.Ytdbmieofcdafkaa
open Go.RowKit Go.Shelf
attribute [local go_sem] Oper.semAt_some
set_option linter.unusedVariables false
set_option maxRecDepth 100000

/-- What the turns read of a machine: how many sessions there are, and where. -/
structure Nav (W : World) (L : Lay) (n : Nat) : Prop where
  cS : W.cell? ⟨L.hb, 1, none⟩ = some (.slice (some ⟨L.sb, 0, none⟩) n L.cap)
  len : L.ps.length = n
  slot : ∀ k p : Nat, L.ps[k]? = some p → W.cell? ⟨L.sb, k, none⟩ = some (.pointer (some ⟨p, 0, none⟩))

theorem SM.nav {w : World} {L : Lay} {M : Mach} (H : SM w L M) : Nav w L M.ss.length := ⟨H.cellS, H.len, H.slot⟩
theorem Nav.turned {S : Nat → Prop} {w w' : World} {L : Lay} {n : Nat} (h : Nav w L n) (ht : Turned S w w') (h1 : ¬ S L.hb) (h2 : ¬ S L.sb) : Nav w' L n :=
  ⟨by rw [ht.cell (p := ⟨L.hb, 1, none⟩) (cell_lt h.cS) h1]; exact h.cS, h.len, fun k p hp => by
    have := h.slot k p hp
    rw [ht.cell (p := ⟨L.sb, k, none⟩) (cell_lt this) h2]; exact this⟩

theorem nav_some {w : World} {L : Lay} {n : Nat} (H : Nav w L n) {k : Nat} (hk : k < n) :
    Calls Try.prog 63 #[.pointer (some ⟨L.hb, 0, none⟩), .int .i64 k] w fun e w' => (∃ p, e = .returned (.pointer (some ⟨p, 0, none⟩))) ∧ w = w' := by
  have h1 := H.cS
  obtain ⟨p, hp⟩ := get_some (l := L.ps) (i := k) (by rw [H.len]; exact hk)
  have h2 := H.slot k p hp
  have hi : inB (k : Int) (n : Int) = true := by unfold inB; simp; omega
  have HW := Lib.hid (within_any (k : Int) (n : Int) w)
  rw [hi] at HW
  clear hp H hi
  go_enter Try.func63, Try.ntmps63
  go_wp2_with fail
  refine HW.out.mono ?_
  rintro e w' ⟨rfl, rfl⟩
  go_wp2_with fail
  go_ret
  exact ⟨⟨p, rfl⟩, rfl⟩

theorem nav_none {w : World} {L : Lay} {n : Nat} (H : Nav w L n) {k : Nat} (hk : n ≤ k) :
    Calls Try.prog 63 #[.pointer (some ⟨L.hb, 0, none⟩), .int .i64 k] w fun e w' => e = .returned (.pointer none) ∧ w = w' := by
  have h1 := H.cS
  have hi : inB (k : Int) (n : Int) = false := by unfold inB; simp; omega
  have HW := Lib.hid (within_any (k : Int) (n : Int) w)
  rw [hi] at HW
  clear H hi
  go_enter Try.func63, Try.ntmps63
  go_wp2_with fail
  refine HW.out.mono ?_
  rintro e w' ⟨rfl, rfl⟩
  go_wp2_with fail
  go_ret
  exact ⟨rfl, rfl⟩

theorem fairL_succ (n k : Nat) : fairL n (k + 1) = fairL n k ++ [((k % n : Nat) : Int)] := by
  unfold fairL; rw [List.range_succ, List.map_append]; rfl

theorem fairL_prefix (n a b : Nat) (h : a ≤ b) : fairL n a <+: fairL n b := by
  have : fairL n a = (fairL n b).take a := by
    unfold fairL
    rw [← List.map_take, List.take_range, Nat.min_eq_left h]
  rw [this]
  exact List.take_prefix _ _

theorem mod_next {n k : Nat} (h : 0 < n) : (k + 1) % n = if k % n + 1 < n then k % n + 1 else 0 := by
  have h1 := Nat.mod_lt k h
  split
  · rename_i h2
    rw [Nat.add_mod, show 1 % n = 1 from Nat.mod_eq_of_lt (by omega), Nat.mod_eq_of_lt h2]
  · have e : k % n + 1 = n := by omega
    rw [← Nat.div_add_mod k n, Nat.add_assoc, e]
    simp

set_option maxHeartbeats 1000000 in
theorem turns1_in (n : Nat) (hn : 1 ≤ n) (l Bm Bt n₀ : Nat) (S : Nat → Prop) (L : Lay) (ns most : Nat) (hns : 0 < ns) (hmax : most ≤ 4611686018427387904) (hns2 : ns ≤ 16)
    (hS1 : ¬ (S L.hb ∨ n₀ ≤ L.hb)) (hS2 : ¬ (S L.sb ∨ n₀ ≤ L.sb)) (hS3 : ¬ (S Bm ∨ n₀ ≤ Bm)) (J Jx : List Int → World → Prop)
    (W : World) (hJ : AbidesFrom W.heap.size J)
    (hY : ∀ pre x W, J pre W → pre.length < most → YieldAt Fence.wide (n - 1) Try.prog l #[.int .i64 x] W fun e W' =>
      (e = .returned (.bool true) ∧ J (pre ++ [x]) W' ∧ Kp S n₀ W W') ∨ (e = .returned (.bool false) ∧ Jx (pre ++ [x]) W'))
    (hBt : W.cell? ⟨Bt, 0, none⟩ = some (.int .i64 most)) (hBm : W.cell? ⟨Bm, 0, none⟩ = some (.pointer (some ⟨L.hb, 0, none⟩))) (hX : Nav W L ns) (h0 : J [] W) :
    CallsIn Fence.wide n Try.prog 74 #[.func (.yield l) #[] #[], .pointer (some ⟨Bt, 0, none⟩), .pointer (some ⟨Bm, 0, none⟩)] W fun e W' => (∃ v, e = .returned v) ∧
      ((∃ ys, ys = fairL ns most ∧ J ys W') ∨ (∃ pre, pre <+: fairL ns most ∧ Jx pre W')) := by
  have HX := Lib.hid hX
  have HJ := Lib.hid hJ
  clear hX hJ
  refine callsIn_of_wp Try.func74 rfl trivial ?_ rfl
  simp only [Try.ntmps74, List.size_toArray, List.length_cons, List.length_nil, Nat.reduceAdd, Nat.reduceSub, Array.replicate_succ, Array.replicate_zero, List.push_toArray, List.append_toArray, List.nil_append, List.cons_append]
  gi_wp2
  gi_loopw [4, 6] (fun pk i wr => ∃ k : Nat, k ≤ most ∧ i = .int .i64 k ∧ pk = .int .i64 ((k % ns : Nat) : Int) ∧ J (fairL ns k) wr ∧ Kp S n₀ W wr)
    (fun pk i _ => most - (intOf i).toNat)
  case atStart => exact ⟨0, Nat.zero_le _, rfl, by simp, h0, Turned.refl _ _⟩
  case round =>
    obtain ⟨k, hk, rfl, rfl, hJs, hnx⟩ := hrel
    by_cases hlt : k < most
    · obtain ⟨fn, tmps, assign, body, hy, hR⟩ := hY _ ((k % ns : Nat) : Int) _ hJs (by unfold fairL; simp; exact hlt)
      have HK := Lib.hid (mod_next (n := ns) (k := k) hns)
      have hml := Nat.mod_lt k hns
      have HF := Lib.hid (fairL_succ ns k)
      obtain ⟨m, hm⟩ : ∃ m, m = k % ns := ⟨_, rfl⟩
      rw [← hm] at hy hR hml HK HF ⊢
      clear hm
      gi_wp2
      refine hR.mono ?_
      rintro e W3 (⟨rfl, hJ3, hk3⟩ | ⟨rfl, hJx3⟩)
      · have hk4 := hnx.trans hk3
        have HN3 := Lib.hid (HX.out.turned hk4 hS1 hS2)
        have hBm3 : W3.cell? ⟨Bm, 0, none⟩ = some (.pointer (some ⟨L.hb, 0, none⟩)) := by
          rw [hk4.cell (p := ⟨Bm, 0, none⟩) (cell_lt hBm) hS3]; exact hBm
        by_cases hmn : m + 1 < ns
        · have HC := Lib.hid (nav_some HN3.out hmn)
          rw [if_pos hmn] at HK
          gi_wp2_with (first | (refine ⟨trivial, ?_⟩; gi_at_call 63; refine (callsIn_wide.2 HC.out).mono ?_; rintro e w' ⟨⟨p, rfl⟩, rfl⟩) | (gi_at_call 63; refine (callsIn_wide.2 HC.out).mono ?_; rintro e w' ⟨⟨p, rfl⟩, rfl⟩))
          go_roundw
          case rel => exact ⟨k + 1, by omega, by go_num, by rw [HK.out]; go_num, by rw [HF.out]; exact hJ3, hk4⟩
          case measure => simp [intOf]; omega
        · have HC := Lib.hid (nav_none HN3.out (k := m + 1) (by omega))
          rw [if_neg hmn] at HK
          gi_wp2_with (first | (refine ⟨trivial, ?_⟩; gi_at_call 63; refine (callsIn_wide.2 HC.out).mono ?_; rintro e w' ⟨rfl, rfl⟩) | (gi_at_call 63; refine (callsIn_wide.2 HC.out).mono ?_; rintro e w' ⟨rfl, rfl⟩))
          go_roundw
          case rel => exact ⟨k + 1, by omega, by go_num, by rw [HK.out]; rfl, by rw [HF.out]; exact hJ3, hk4⟩
          case measure => simp [intOf]; omega
      · gi_wp2
        refine bodyPost_ret (results_none rfl _ _ _) rfl ?_
        refine ⟨⟨_, rfl⟩, .inr ⟨fairL ns (k + 1), fairL_prefix _ _ _ (by omega), ?_⟩⟩
        rw [HF.out]
        exact hJx3
    · obtain rfl : k = most := by omega
      gi_wp2
      go_end0
      exact ⟨⟨_, rfl⟩, .inl ⟨_, rfl, hJs⟩⟩

theorem turns_stops (n : Nat) (hn : 1 ≤ n) (Bm Bt n₀ : Nat) (S : Nat → Prop) (L : Lay) (ns most : Nat) (hns : 0 < ns) (hmax : most ≤ 4611686018427387904) (hns2 : ns ≤ 16) (w : World)
    (hS1 : ¬ (S L.hb ∨ n₀ ≤ L.hb)) (hS2 : ¬ (S L.sb ∨ n₀ ≤ L.sb)) (hS3 : ¬ (S Bm ∨ n₀ ≤ Bm))
    (hBt : w.cell? ⟨Bt, 0, none⟩ = some (.int .i64 most)) (hBm : w.cell? ⟨Bm, 0, none⟩ = some (.pointer (some ⟨L.hb, 0, none⟩))) (hX : Nav w L ns) :
    SeqStopsK Fence.wide n Try.prog 74 #[.pointer (some ⟨Bt, 0, none⟩), .pointer (some ⟨Bm, 0, none⟩)] (fun x : Int => #[.int .i64 x]) (Kp S n₀) (fun ys => ys = fairL ns most) (fun pre => pre <+: fairL ns most) most w := fun l J Jx W hW hJ _ hY h0 =>
  turns1_in n hn l Bm Bt n₀ S L ns most hns hmax hns2 hS1 hS2 hS3 J Jx W hJ hY ((hW.cell (p := ⟨Bt, 0, none⟩) (cell_lt hBt)).trans hBt) ((hW.cell (p := ⟨Bm, 0, none⟩) (cell_lt hBm)).trans hBm)
    ⟨(hW.cell (p := ⟨L.hb, 1, none⟩) (cell_lt hX.cS)).trans hX.cS, hX.len, fun k p hp => (hW.cell (p := ⟨L.sb, k, none⟩) (cell_lt (hX.slot k p hp))).trans (hX.slot k p hp)⟩ h0
end Go.Proofs.Ytdbmieofcdafkaa
