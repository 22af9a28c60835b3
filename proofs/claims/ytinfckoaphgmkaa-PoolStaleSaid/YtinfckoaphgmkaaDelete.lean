/- slices.Delete of one number, wherever it stands. No condition. -/
import Derived.Test.YtinfckoaphgmkaaSlices
namespace Go.Proofs.Ytinfckoaphgmkaa
open Go.RowKit
set_option linter.unusedVariables false
set_option linter.unusedSimpArgs false
set_option maxRecDepth 100000

theorem laid_del {A B r : List Value} {x z : Value} {i p : Nat} (hA : A.length = i) (hB : B.length = p) : laid (laid (A ++ (x :: (B ++ r))) i B) (i + p) (List.replicate 1 z) = (A ++ B) ++ z :: r := by
  subst hA
  subst hB
  unfold laid
  have e1 : List.drop (A.length + B.length) (A ++ x :: (B ++ r)) = List.drop B.length (x :: (B ++ r)) := by rw [List.drop_append, List.drop_eq_nil_of_le (by omega)]; simp
  rw [List.take_left, e1, ← List.append_assoc A B, List.take_append_of_le_length (by simp), List.take_of_length_le (by simp)]
  have e2 : List.drop (A.length + B.length + (List.replicate 1 z).length) (A ++ B ++ List.drop B.length (x :: (B ++ r))) = r := by
    rw [List.drop_append, List.drop_eq_nil_of_le (by simp)]
    simp
    try rw [show A.length + B.length + 1 - (A.length + B.length) = 1 by omega]
    try (cases B with
    | nil => simp
    | cons b B => simp [List.drop_append])
  rw [e2]
  rfl

set_option maxHeartbeats 4000000 in
theorem delete_in {w : World} {sb i p sc : Nat} {A B : List Int} {x : Int} (h : w.ownsRow 0 3 1 (.slice (some ⟨sb, 0, none⟩) (i + p + 1) sc) (i + p + 1) (ints (A ++ x :: B))) (hA : A.length = i) (hB : B.length = p) (hp : 0 < p) (hl : i + p ≤ 128) (a b : Int) (ha : a = i) (hb : b = (i : Int) + 1) :
    Calls Try.prog 37 #[.slice (some ⟨sb, 0, none⟩) (i + p + 1 : Nat) sc, .int .i64 a, .int .i64 b] w fun e w' => e = .returned (.slice (some ⟨sb, 0, none⟩) (i + p : Nat) sc) ∧ w'.ownsRow 0 3 1 (.slice (some ⟨sb, 0, none⟩) (i + p) sc) (i + p) (ints (A ++ B)) ∧ Turned (· = sb) w w' := by
  subst ha
  subst hb
  obtain ⟨i0, hi, hz0, hz1, hz2⟩ := info_parts infoIntW
  obtain ⟨r, hblk, hx, hcc, hn, hm, _⟩ := ow_parts h
  have eX : ints (A ++ x :: B) ++ r = ints A ++ (Value.int .i64 x :: (ints B ++ r)) := by simp [ints]
  rw [eX] at hblk hcc
  have hsc1 : ¬ sc = i + 1 := by omega
  have hsc2 : i ≤ sc := by omega
  have hf0 : (0 : Int) ≤ (i : Int) + 1 := by omega
  have hf1 : (i : Int) ≤ (i : Int) + (p : Int) := by omega
  have hBl : (ints B).length = p * 1 := by rw [ints_length, hB, Nat.mul_one]
  have HL := Lib.hid (show ∀ j, j < (ints B).length → i + j < (ints A ++ (Value.int .i64 x :: (ints B ++ r))).length from fun j hj => by simp [ints_length]; rw [ints_length] at hj; omega)
  have HS := Lib.hid (show ∀ (j : Nat) (u : Value), (ints B)[j]? = some u → w.drew.cell? ((⟨sb, i + 1, none⟩ : Addr).add j) = some u from fun j u hj => by
    rw [Addr.add_lit]
    refine hblk.drew.cell ?_
    rw [List.getElem?_append_right (by rw [ints_length]; omega), ints_length, hA, show i + 1 + j - i = j + 1 by omega, List.getElem?_cons_succ, List.getElem?_append_left (List.getElem?_eq_some_iff.1 hj).1]
    exact hj)
  have HW := Lib.hid (show ∀ j, j < (ints B).length → (w.drew.cell? ⟨sb, 0 + i * 1 + j, none⟩).isSome = true ∧ w.drew.frozen? ⟨sb, 0 + i * 1 + j, none⟩ = false from fun j hj => ⟨by rw [hblk.drew.cell (o := 0 + i * 1 + j) (List.getElem?_eq_getElem (by have := HL.out j hj; omega))]; rfl, hblk.drew.free _⟩)
  obtain ⟨b1, t1⟩ := blk_setCells 3 sb (ints B) i w.drew _ hblk.drew (by simp [ints_length]; omega)
  have HB := Lib.hid b1
  have HT := Lib.hid t1
  have HN := Lib.hid (show i + p + 1 ≤ (laid (ints A ++ (Value.int .i64 x :: (ints B ++ r))) i (ints B)).length by simp [laid, ints_length]; omega)
  have HE := Lib.hid (fun (w' : World) (hb : Blk w' sb (laid (laid (ints A ++ (Value.int .i64 x :: (ints B ++ r))) i (ints B)) (i + p) (List.replicate 1 (Value.int .i64 0))) 3) => show w'.ownsRow 0 3 1 (.slice (some ⟨sb, 0, none⟩) (i + p) sc) (i + p) (ints (A ++ B)) by
    rw [laid_del (by rw [ints_length, hA]) (by rw [ints_length, hB]), show ints A ++ ints B = ints (A ++ B) by simp [ints]] at hb
    exact ow_of_parts hb (by simp [ints, hA, hB]) (by simp [ints_length] at hcc ⊢; omega) hm (Nat.zero_le _))
  have H1 := Lib.hid (show ∀ u ∈ ints B, u.oneCell' = true from ow_ints (by simp [ints, isIntW]))
  have HBL := Lib.hid hBl
  clear h hblk hx hcc hm eX hBl b1 t1 hB hA
  go_enter Try.func37, Try.ntmps37
  go_wp2
  go_region_law (refine step_append_room rfl (.tmp 22) (.tmp 25) 31 rfl 3 i0 1 Try.underlying31 hi hz1 sb 0 i sc rfl ⟨sb, i + 1, none⟩ p _ (ints B) rfl HBL.out HS.out H1.out (by omega) HW.out ?_)
  all_goals (go_wp2_with (with_reducible refine atClear ?_; refine wpList_clear_blk rfl (.tmp 31) 31 rfl 3 (.int .i64 0) Try.underlying31 zeroInt rfl rfl sb (i + p) (i + p + 1 - (i + p)) _ rfl _ _ HB.out (by have := HN.out; omega) ?_; intro w1 hb1 ht1; rw [show i + p + 1 - (i + p) = 1 by omega] at hb1))
  all_goals (go_ret; exact ⟨rfl, HE.out _ hb1, ((Turned.refl _ w).drew.trans HT.out).trans ht1⟩)

/-- One of a list's numbers, wherever it stands. -/
theorem delete_any {w : World} {sb i fl sc : Nat} {l : List Nat} {x : Nat} (h : w.ownsRow 0 3 1 (.slice (some ⟨sb, 0, none⟩) (fl + 1) sc) (fl + 1) (ints (nums l))) (hx : l[i]? = some x) (hfl : fl + 1 = l.length) (hl : fl ≤ 128) :
    Calls Try.prog 37 #[.slice (some ⟨sb, 0, none⟩) (fl + 1 : Nat) sc, .int .i64 (i : Nat), .int .i64 ((i : Int) + 1)] w fun e w' => e = .returned (.slice (some ⟨sb, 0, none⟩) fl sc) ∧ w'.ownsRow 0 3 1 (.slice (some ⟨sb, 0, none⟩) fl sc) fl (ints (nums (l.eraseIdx i))) ∧ Turned (· = sb) w w' := by
  have hil := get_lt hx
  have e1 : l = l.take i ++ x :: l.drop (i + 1) := by
    have := List.getElem?_eq_some_iff.1 hx
    obtain ⟨h1, h2⟩ := this
    rw [← h2, List.getElem_cons_drop, List.take_append_drop]
  have e2 : l.eraseIdx i = l.take i ++ l.drop (i + 1) := List.eraseIdx_eq_take_drop_succ ..
  have hA : (nums (l.take i)).length = i := by rw [nums_length, List.length_take]; omega
  have hn : nums l = nums (l.take i) ++ (x : Int) :: nums (l.drop (i + 1)) := by
    conv => lhs; rw [e1]
    simp [nums]
  have hn2 : nums (l.eraseIdx i) = nums (l.take i) ++ nums (l.drop (i + 1)) := by rw [e2]; simp [nums]
  rw [hn2]
  rw [hn] at h
  rcases Nat.eq_zero_or_pos (l.drop (i + 1)).length with hp | hp
  · have hd : l.drop (i + 1) = [] := List.eq_nil_of_length_eq_zero hp
    rw [List.length_drop] at hp
    obtain rfl : i = fl := by omega
    rw [hd] at h ⊢
    simp only [show nums [] = [] from rfl, List.append_nil] at h ⊢
    exact delete_last h hl _ _ rfl rfl
  · obtain ⟨p, hpp⟩ : ∃ p, p = (l.drop (i + 1)).length := ⟨_, rfl⟩
    have hB : (nums (l.drop (i + 1))).length = p := by rw [nums_length, hpp]
    rw [List.length_drop] at hpp
    obtain rfl : fl = i + p := by omega
    exact delete_in h hA hB (by rw [← hB, nums_length]; exact hp) hl _ _ rfl rfl
end Go.Proofs.Ytinfckoaphgmkaa
