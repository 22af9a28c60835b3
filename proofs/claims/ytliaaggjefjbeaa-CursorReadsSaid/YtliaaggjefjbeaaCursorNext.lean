/- The plain Next: what is read next in a ring; what the document's Next does. No condition but that the ring is one. -/
import Derived.Test.YtliaaggjefjbeaaCursorRef
import Derived.Test.YtliaaggjefjbeaaRingRefReady
namespace Go.Proofs.Ytliaaggjefjbeaa
open Go.RowKit
set_option linter.unusedVariables false
set_option linter.unusedSimpArgs false
set_option maxRecDepth 100000

/-- Where the cursor stands behind a move, in a ring's window. -/
def RM.mv (M : RM) (a : Int) : Int := mvA a (M.h : Int) (M.tail : Nat)
def RM.mvE (M : RM) (a : Int) : Int := Go.Proofs.Ytliaaggjefjbeaa.mvE a (M.h : Int) (M.tail : Nat)
def RM.nxE (M : RM) (a : Int) : Int := if M.mvE a = 0 then M.getE (M.mv a) else 2
def RM.nxR (M : RM) (a : Int) : Int := if M.nxE a = 0 then M.getR (M.mv a) else 0
def RM.nxT (M : RM) (a : Int) : Int := if M.mvE a = 0 then (if M.nxE a = 0 then M.mv a + 1 else M.mv a) else 0

theorem nx_no {M : RM} {a : Int} (h : M.mvE a ≠ 0) : M.nxE a = 2 ∧ M.nxR a = 0 ∧ M.nxT a = 0 := by
  have e : M.nxE a = 2 := if_neg h
  exact ⟨e, by unfold RM.nxR; rw [if_neg (by omega)], if_neg h⟩
theorem nx_stay {M : RM} {a : Int} (h : M.mvE a = 0) (h1 : M.getE (M.mv a) ≠ 0) : M.nxE a = M.getE (M.mv a) ∧ M.nxR a = 0 ∧ M.nxT a = M.mv a := by
  have e : M.nxE a = M.getE (M.mv a) := if_pos h
  exact ⟨e, by unfold RM.nxR; rw [if_neg (by rw [e]; exact h1)], by unfold RM.nxT; rw [if_pos h, if_neg (by rw [e]; exact h1)]⟩
theorem nx_on {M : RM} {a : Int} (h : M.mvE a = 0) (h1 : M.getE (M.mv a) = 0) : M.nxE a = 0 ∧ M.nxR a = M.getR (M.mv a) ∧ M.nxT a = M.mv a + 1 := by
  have e : M.nxE a = 0 := by unfold RM.nxE; rw [if_pos h, h1]
  exact ⟨e, by unfold RM.nxR; rw [if_pos e], by unfold RM.nxT; rw [if_pos h, if_pos e]⟩

/-- A span's box, to be written. -/
theorem box_new {w1 w2 : World} {f t : Int} (h : Still (w1.alloc (.cells #[.int .i64 f, .int .i64 t] 24)) w2) : Blk w2 w1.heap.size [.int .i64 f, .int .i64 t] 24 :=
  (Blk.new w1 [.int .i64 f, .int .i64 t] 24).turned h (fun h => h)
theorem box_pass {w1 w2 : World} {b : Nat} {f t : Int} (h : Still w1 w2) (hb : Blk w1 b [.int .i64 f, .int .i64 t] 24) : Blk w2 b [.int .i64 f, .int .i64 t] 24 := hb.turned h (fun h => h)
theorem box_cells {w : World} {b : Nat} {f t : Int} (hb : Blk w b [.int .i64 f, .int .i64 t] 24) :
    w.cell? ⟨b, 0, none⟩ = some (.int .i64 f) ∧ w.cell? ⟨b, 1, none⟩ = some (.int .i64 t) ∧ w.frozen? ⟨b, 0, none⟩ = false ∧ w.frozen? ⟨b, 1, none⟩ = false :=
  ⟨hb.cell rfl, hb.cell rfl, hb.free _, hb.free _⟩

set_option maxHeartbeats 2000000 in
theorem zcnext_any {w : World} {W : Nat → Prop} {q : Nat} {M : RM} {N : Nat} (H0 : (zrT q M).at_ w W) (hM : M.Ok N) (hN : N < 1000000) (a : Int) :
    Calls Try.prog 23 #[.int .i64 a, .pointer (some ⟨q, 0, none⟩)] w fun e w' => e = .returned (.tuple #[.int .i64 (M.nxR a), .int .i64 (M.nxT a), .int .i64 (M.nxE a)]) ∧ Still w w' := by
  obtain ⟨la, lc, H⟩ := H0
  obtain ⟨_, _, c2, _⟩ := H.cells
  have HT := Lib.hid (fun V (hst : Still w V) => show Calls Try.prog 25 #[.pointer (some ⟨q, 0, none⟩)] V fun e w' => e = .returned (.int .i64 ((M.tail : Nat) : Int)) ∧ Still w w' ∧ Still V w' from (zrtail_any (H.still hst) hM hN).mono fun e w' ⟨he, hs⟩ => ⟨he, hst.trans hs, hs⟩)
  have HG := Lib.hid (fun V (hst : Still w V) => show Calls Try.prog 39 #[.pointer (some ⟨q, 0, none⟩), .int .i64 (M.mv a)] V fun e w' => e = .returned (.tuple #[.int .i64 (M.getR (M.mv a)), .int .i64 (M.getE (M.mv a))]) ∧ Still w w' from (zrget_any (w := V) (W := W) (q := q) (M := M) ⟨la, lc, H.still hst⟩ hM hN (M.mv a)).mono fun e w' ⟨he, hs⟩ => ⟨he, hst.trans hs⟩)
  have HC := Lib.hid (fun w' (hst : Still w w') => still_cell hst c2 rfl)
  have HM := Lib.hid (fun V (hst : Still w V) => show Calls Try.prog 10 #[.int .i64 a, .int .i64 (M.h : Int), .int .i64 ((M.tail : Nat) : Int)] V fun e w' => e = .returned (moveV a (M.h : Int) (M.tail : Nat)) ∧ Still w w' ∧ Still V w' from (zmove_any a (M.h : Int) (M.tail : Nat) V).mono fun e w' ⟨he, hs⟩ => ⟨he, hst.trans hs, hs⟩)
  unfold moveV spanV at HM
  rw [show Go.Proofs.Ytliaaggjefjbeaa.mvE a (M.h : Int) (M.tail : Nat) = M.mvE a from rfl, show mvA a (M.h : Int) (M.tail : Nat) = M.mv a from rfl] at HM
  have hlow := hM.low
  have hmv : M.mvE a = 0 → M.mv a ≤ 1000000 := fun h => by have := (moved_in h).2.1; unfold RM.mv; omega
  have hmv0 : M.mvE a = 0 → 0 ≤ M.mv a := fun h => (moved_in h).2.2.1
  have cases : (M.mvE a ≠ 0 ∧ M.mvE a = 2) ∨ M.mvE a = 0 := by
    rcases mvE_or a (M.h : Int) (M.tail : Nat) with h | h
    · exact .inr h
    · refine .inl ⟨?_, h⟩; unfold RM.mvE; omega
  have hTd : Still w w.drew := (Turned.refl _ _).drew
  have hAd : Still w (w.alloc (.cells #[.int .i64 0, .int .i64 0] 24)).drew := ((Turned.refl _ _).alloc _).drew
  have hAb : Blk (w.alloc (.cells #[.int .i64 0, .int .i64 0] 24)).drew w.heap.size [.int .i64 0, .int .i64 0] 24 := (Blk.new w [.int .i64 0, .int .i64 0] 24).drew
  have n0 := World.new_ne w ⟨q, 2, none⟩ c2
  generalize mvF a (M.h : Int) (M.tail : Nat) = f at *
  generalize mvT a (M.h : Int) (M.tail : Nat) = g at *
  rcases cases with ⟨h0, h2⟩ | h0
  · obtain ⟨e1, e2, e3⟩ := nx_no h0
    rw [e1, e2, e3]
    rw [h2] at HM
    generalize ((M.tail : Nat) : Int) = t at *
    generalize (M.h : Int) = hh at *
    generalize M.mv a = x at *
    clear hmv hmv0 e1 e2 e3 h0 h2 H hM hN hlow HG
    go_enter Try.func23, Try.ntmps23
    go_wp2_with fail
    go_region_held3 (fun V => V.cell? ⟨q, 2, none⟩ = some (.int .i64 hh)) (first | assumption | go_keep) (first
      | (go_at_call 25; ((with_reducible refine (HT.out _ (by first | assumption | exact Turned.alloc (by assumption) _)).mono ?_)); rintro e w5 ⟨rfl, hT5, hV5⟩; have g5 := HC.out w5 hT5; have n5 := World.new_ne w5 ⟨q, 2, none⟩ g5; first | (have z5 := box_new hV5; obtain ⟨z51, z52, z53, z54⟩ := box_cells z5) | (have z5 := box_pass hV5 hAb; obtain ⟨z51, z52, z53, z54⟩ := box_cells z5) | skip)
      | (go_at_call 10; ((with_reducible refine (HM.out _ (by first | assumption | exact Turned.alloc (by assumption) _)).mono ?_)); rintro e w6 ⟨rfl, hT6, hV6⟩; have g6 := HC.out w6 hT6; have n6 := World.new_ne w6 ⟨q, 2, none⟩ g6; first | (have z6 := box_new hV6; obtain ⟨z61, z62, z63, z64⟩ := box_cells z6) | (have z6 := box_pass hV6 (by assumption); obtain ⟨z61, z62, z63, z64⟩ := box_cells z6) | skip))
    all_goals
      clear HT HC HM hAd hAb
      go_wp2_with fail
      go_ret3
      refine ⟨by simp, ?_⟩
      first | exact hT6.alloc _ | exact (hT6.setCell (.inr hT5.size) _).setCell (.inr hT5.size) _ | exact (hT6.setCell (.inr (Nat.le_refl _)) _).setCell (.inr (Nat.le_refl _)) _
  · have cases2 : (M.getE (M.mv a) ≠ 0 ∧ (M.getE (M.mv a) = 8 ∨ M.getE (M.mv a) = 61 ∨ M.getE (M.mv a) = 5 ∨ M.getE (M.mv a) = 2)) ∨ M.getE (M.mv a) = 0 := by
      unfold RM.getE RM.findE
      repeat' split
      all_goals simp_all
    have HGR := Lib.hid (fun (h : M.getE (M.mv a) ≠ 0) => show M.getR (M.mv a) = 0 from if_pos h)
    have hmv := hmv h0
    have hmv0 := hmv0 h0
    rcases cases2 with ⟨h3, h4⟩ | h3
    · obtain ⟨e1, e2, e3⟩ := nx_stay h0 h3
      rw [e1, e2, e3]
      rw [h0] at HM
      rw [HGR.out h3] at HG
      generalize ((M.tail : Nat) : Int) = t at *
      generalize (M.h : Int) = hh at *
      generalize M.mv a = x at *
      generalize M.getE x = ge at *
      clear e1 e2 e3 h0 H hM hN hlow h4 HGR
      go_enter Try.func23, Try.ntmps23
      go_wp2_with fail
      go_region_held3 (fun V => V.cell? ⟨q, 2, none⟩ = some (.int .i64 hh)) (first | assumption | go_keep) (first
        | (go_at_call 25; ((with_reducible refine (HT.out _ (by first | assumption | exact Turned.alloc (by assumption) _)).mono ?_)); rintro e w5 ⟨rfl, hT5, hV5⟩; have g5 := HC.out w5 hT5; have n5 := World.new_ne w5 ⟨q, 2, none⟩ g5; first | (have z5 := box_new hV5; obtain ⟨z51, z52, z53, z54⟩ := box_cells z5) | (have z5 := box_pass hV5 hAb; obtain ⟨z51, z52, z53, z54⟩ := box_cells z5) | skip)
        | (go_at_call 10; ((with_reducible refine (HM.out _ (by first | assumption | exact Turned.alloc (by assumption) _)).mono ?_)); rintro e w6 ⟨rfl, hT6, hV6⟩; have g6 := HC.out w6 hT6; have n6 := World.new_ne w6 ⟨q, 2, none⟩ g6; first | (have z6 := box_new hV6; obtain ⟨z61, z62, z63, z64⟩ := box_cells z6) | (have z6 := box_pass hV6 (by assumption); obtain ⟨z61, z62, z63, z64⟩ := box_cells z6) | skip))
      all_goals
        clear HT HC HM hAd hAb
        go_wp2_with fail
        refine (HG.out _ (by first | exact hT6.alloc _ | exact (hT6.setCell (.inr hT5.size) _).setCell (.inr hT5.size) _ | exact (hT6.setCell (.inr (Nat.le_refl _)) _).setCell (.inr (Nat.le_refl _)) _)).mono ?_
        rintro e w8 ⟨rfl, hT8⟩
        go_wp2_with fail
        go_ret3
        exact ⟨by simp, hT8⟩
    · obtain ⟨e1, e2, e3⟩ := nx_on h0 h3
      rw [e1, e2, e3]
      rw [h0] at HM
      rw [h3] at HG
      generalize ((M.tail : Nat) : Int) = t at *
      generalize (M.h : Int) = hh at *
      generalize M.mv a = x at *
      generalize M.getR x = gr at *
      clear e1 e2 e3 h0 H hM hN hlow HGR h3
      go_enter Try.func23, Try.ntmps23
      go_wp2_with fail
      go_region_held3 (fun V => V.cell? ⟨q, 2, none⟩ = some (.int .i64 hh)) (first | assumption | go_keep) (first
        | (go_at_call 25; ((with_reducible refine (HT.out _ (by first | assumption | exact Turned.alloc (by assumption) _)).mono ?_)); rintro e w5 ⟨rfl, hT5, hV5⟩; have g5 := HC.out w5 hT5; have n5 := World.new_ne w5 ⟨q, 2, none⟩ g5; first | (have z5 := box_new hV5; obtain ⟨z51, z52, z53, z54⟩ := box_cells z5) | (have z5 := box_pass hV5 hAb; obtain ⟨z51, z52, z53, z54⟩ := box_cells z5) | skip)
        | (go_at_call 10; ((with_reducible refine (HM.out _ (by first | assumption | exact Turned.alloc (by assumption) _)).mono ?_)); rintro e w6 ⟨rfl, hT6, hV6⟩; have g6 := HC.out w6 hT6; have n6 := World.new_ne w6 ⟨q, 2, none⟩ g6; first | (have z6 := box_new hV6; obtain ⟨z61, z62, z63, z64⟩ := box_cells z6) | (have z6 := box_pass hV6 (by assumption); obtain ⟨z61, z62, z63, z64⟩ := box_cells z6) | skip))
      all_goals
        clear HT HC HM hAd hAb
        go_wp2_with fail
        refine (HG.out _ (by first | exact hT6.alloc _ | exact (hT6.setCell (.inr hT5.size) _).setCell (.inr hT5.size) _ | exact (hT6.setCell (.inr (Nat.le_refl _)) _).setCell (.inr (Nat.le_refl _)) _)).mono ?_
        rintro e w8 ⟨rfl, hT8⟩
        go_wp2_with fail
        go_ret3
        exact ⟨by simp, hT8⟩
end Go.Proofs.Ytliaaggjefjbeaa
