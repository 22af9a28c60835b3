/- What Ready and Make of the document's ring do. No condition but that the ring is one. -/
import Derived.Test.YtefopajkcpcjpaaRingRefRefs
namespace Go.Proofs.Ytefopajkcpcjpaa
open Go.RowKit
set_option linter.unusedVariables false
set_option linter.unusedSimpArgs false
set_option maxRecDepth 100000

theorem tw_done {α : Type} (f : α → Bool) : ∀ (l : List α) (j : Nat) (x : α), j ≤ (l.takeWhile f).length → l[j]? = some x → f x = true → j < (l.takeWhile f).length
  | [], j, x, h, hx, _ => by simp at hx
  | a :: r, 0, x, h, hx, hf => by
    simp at hx; subst hx
    rw [List.takeWhile_cons_of_pos hf]; simp
  | a :: r, j + 1, x, h, hx, hf => by
    by_cases ha : f a = true
    · rw [List.takeWhile_cons_of_pos ha] at h ⊢
      simp only [List.length_cons] at h ⊢
      have := tw_done f r j x (by omega) (by simpa using hx) hf
      omega
    · rw [List.takeWhile_cons_of_neg ha] at h; simp at h
theorem tw_stop {α : Type} (f : α → Bool) : ∀ (l : List α) (j : Nat) (x : α), j ≤ (l.takeWhile f).length → l[j]? = some x → f x = false → j = (l.takeWhile f).length
  | [], j, x, h, hx, _ => by simp at hx
  | a :: r, 0, x, h, hx, hf => by
    simp at hx; subst hx
    rw [List.takeWhile_cons_of_neg (by simp [hf])]; simp
  | a :: r, j + 1, x, h, hx, hf => by
    by_cases ha : f a = true
    · rw [List.takeWhile_cons_of_pos ha] at h ⊢
      simp only [List.length_cons] at h ⊢
      have := tw_stop f r j x (by omega) (by simpa using hx) hf
      omega
    · rw [List.takeWhile_cons_of_neg ha] at h; simp at h
theorem tw_le {α : Type} (f : α → Bool) (l : List α) : (l.takeWhile f).length ≤ l.length := (List.takeWhile_sublist f).length_le

theorem zrtail_quiet {w : World} {W : Nat → Prop} {q lc : Nat} {la : Option Addr} {M : RM} {N : Nat} (H : RIn w W q la lc M) (hM : M.Ok N) (hN : N < 1000000) :
    Calls Try.prog 26 #[.pointer (some ⟨q, 0, none⟩)] w fun e w' => e = .returned (.int .i64 M.tail) ∧ ∃ m, w' = w.drewN m := by
  obtain ⟨_, _, c2, c3⟩ := H.cells
  have hl := hM.low
  obtain ⟨n, hn⟩ : ∃ n, n = M.l.length := ⟨_, rfl⟩
  have HR := Lib.hid (show ((M.tail : Nat) : Int) = (M.h : Int) + (n : Int) by unfold RM.tail; omega)
  unfold RM.tail at hl
  rw [← hn] at c3 hl
  have h1 : (M.h : Int) < 1000000 := by omega
  have h2 : (n : Int) < 1000000 := by omega
  have h3 : (0 : Int) ≤ (M.h : Int) := by omega
  rw [HR.out]
  generalize (M.h : Int) = h at *
  clear hl hn H hM hN
  go_enter Try.func26, Try.ntmps26
  go_wp2_with fail
  go_quiet (fail)
  go_wp2_with fail
  go_ret
  exact ⟨rfl, _, rfl⟩

theorem zrready_any {w : World} {W : Nat → Prop} {q : Nat} {M : RM} {N : Nat} (H0 : (zrT q M).at_ w W) (hM : M.Ok N) (hN : N < 1000000) (a : Int) :
    Calls Try.prog 23 #[.pointer (some ⟨q, 0, none⟩), .int .i64 a] w fun e w' => e = .returned (.int .i64 (M.ready a)) ∧ Still w w' := by
  obtain ⟨la, lc, H⟩ := H0
  obtain ⟨_, _, c2, c3⟩ := H.cells
  have HT := Lib.hid (fun V (hV : Still w V) => zrtail_quiet (H.still hV) hM hN)
  have HC := Lib.hid (fun V (hV : Still w V) => (⟨still_cell hV c2 rfl, still_cell hV c3 rfl⟩ : V.cell? ⟨q, 2, none⟩ = some (.int .i64 M.h) ∧ V.cell? ⟨q, 3, none⟩ = some (.slice la M.l.length lc)))
  obtain ⟨n, hn⟩ : ∃ n, n = M.l.length := ⟨_, rfl⟩
  rw [← hn] at c3 HC
  have hl := hM.low
  have ht : M.tail = M.h + n := by unfold RM.tail; omega
  obtain ⟨b, hb⟩ : ∃ b : Int, b = (M.h : Int) + (M.cut a : Nat) := ⟨_, rfl⟩
  have hmx : (if a < (M.h : Int) then (M.h : Int) else a) = b := by
    rw [hb]; unfold RM.cut
    split <;> omega
  have hht : (M.tail : Int) < 1000000 := by omega
  have hh0 : (0 : Int) ≤ (M.h : Int) ∧ (M.h : Int) ≤ (M.tail : Nat) := by omega
  by_cases hbig : (M.tail : Int) ≤ b
  · have HR := Lib.hid (show ((M.ready a : Nat) : Int) = (M.tail : Nat) by
      have : M.tail ≤ M.h + M.cut a + ((M.l.drop (M.cut a)).takeWhile (·.d)).length := by omega
      unfold RM.ready; rw [Nat.min_eq_right this])
    rw [HR.out]
    have hmn : (if ((M.tail : Nat) : Int) < b then ((M.tail : Nat) : Int) else b) = ((M.tail : Nat) : Int) := by split <;> omega
    have hdec : decide (b < ((M.tail : Nat) : Int)) = false := by rw [decide_eq_false_iff_not]; omega
    generalize ((M.tail : Nat) : Int) = t at *
    generalize (M.h : Int) = h at *
    clear hb hn hl ht H hM HR
    go_enter Try.func23, Try.ntmps23
    go_wp2_with fail
    go_loopw [5] (fun u wr => u = .int .i64 b ∧ Still w wr) (fun u _ => (intOf u).toNat)
    case atStart => exact ⟨rfl, Turned.refl _ _⟩
    case round =>
      obtain ⟨rfl, hst⟩ := hrel
      obtain ⟨r2, r3⟩ := HC.out wr hst
      go_wp2_with fail
      go_quiet ((go_at_call 26; ((with_reducible exact quietDrew (HT.out _ (hst.drewN _))))))
      go_wp2_with (go_at_call 26; refine (HT.out _ (hst.drewN _)).mono ?_; rintro e w' ⟨rfl, m2, rfl⟩)
      go_ret
      exact ⟨rfl, hst.drewN _⟩
  · have hkn : M.cut a < n := by omega
    obtain ⟨k, hk⟩ : ∃ k, k = M.cut a := ⟨_, rfl⟩
    rw [← hk] at hkn hb
    obtain ⟨c, hc⟩ : ∃ c, c = ((M.l.drop k).takeWhile (·.d)).length := ⟨_, rfl⟩
    have hcn : c ≤ n - k := by rw [hc, hn]; have := tw_le (·.d) (M.l.drop k); rw [List.length_drop] at this; exact this
    have HR := Lib.hid (show ((M.ready a : Nat) : Int) = (M.h : Int) + ((k + c : Nat) : Int) by
      have : M.h + k + c ≤ M.tail := by omega
      unfold RM.ready; rw [← hk, ← hc, Nat.min_eq_left this]; omega)
    rw [HR.out]
    have HP := Lib.hid (fun (i : Nat) (h1 : k ≤ i) (h2 : i < n) (h3 : i - k ≤ c) => show ∃ (g : Nat) (p : Plc), la = some ⟨g, 0, none⟩ ∧ w.cell? ⟨g, i * 2 + 1, none⟩ = some (.bool p.d) ∧ (p.d = true → i - k < c) ∧ (p.d = false → i - k = c) by
      obtain ⟨p, hp⟩ := get_some (l := M.l) (i := i) (by omega)
      obtain ⟨g, e1, _, e3, _⟩ := H.place hp
      have hd : (M.l.drop k)[i - k]? = some p := by rw [List.getElem?_drop, show k + (i - k) = i by omega]; exact hp
      exact ⟨g, p, e1, e3, fun e => by rw [hc]; exact tw_done (·.d) _ _ p (by rw [← hc]; exact h3) hd e, fun e => by rw [hc]; exact tw_stop (·.d) _ _ p (by rw [← hc]; exact h3) hd e⟩)
    have htn : ((M.tail : Nat) : Int) = (M.h : Int) + (n : Int) := by omega
    have hn6 : (n : Int) < 1000000 := by omega
    have hbk : b = (M.h : Int) + (k : Nat) := hb
    generalize ((M.tail : Nat) : Int) = t at *
    generalize (M.h : Int) = h at *
    clear hb hn hl ht H hM HR hc hk
    go_enter Try.func23, Try.ntmps23
    go_wp2_with fail
    go_loopw [5] (fun u wr => ∃ i : Nat, k ≤ i ∧ i ≤ n ∧ i - k ≤ c ∧ u = .int .i64 (h + (i : Int)) ∧ Still w wr) (fun u _ => (t - intOf u).toNat)
    case atStart => exact ⟨k, Nat.le_refl _, by omega, by omega, by first | rfl | rw [hbk], Turned.refl _ _⟩
    case round =>
      obtain ⟨i, hi1, hi2, hi3, rfl, hst⟩ := hrel
      obtain ⟨r2, r3⟩ := HC.out wr hst
      clear hmx hbk hbig
      by_cases hlt : i < n
      · obtain ⟨g, p, rfl, e3, hp1, hp2⟩ := HP.out i hi1 hlt hi3
        obtain ⟨at0, hat⟩ : ∃ at0 : Int, at0 = h + (i : Int) := ⟨_, rfl⟩
        have hsub : at0 - h = (i : Int) := by omega
        have hlt0 : at0 < t := by omega
        have hlo0 : 0 ≤ at0 ∧ at0 < 1000000 := by omega
        obtain ⟨hlo1, hlo2⟩ := hlo0
        have e4 := still_cell hst e3 rfl
        clear e3 c2 c3
        rw [← hat]
        have HAT := Lib.hid hat
        have HTN := Lib.hid htn
        have HP1 := Lib.hid hp1
        have HP2 := Lib.hid hp2
        clear hat htn hp1 hp2 HP
        rcases hd : p.d with _ | _
        · rw [hd] at e4 HP2
          have hmn : (if t < at0 then t else at0) = at0 := by split <;> omega
          have HCE := Lib.hid (show at0 = h + ((k + c : Nat) : Int) by have := HAT.out; have := HP2.out (by first | rfl | trivial); omega)
          clear hd
          go_wp2_with fail
          go_quiet ((go_at_call 26; ((with_reducible exact quietDrew (HT.out _ (hst.drewN _))))))
          go_wp2_with (go_at_call 26; refine (HT.out _ (hst.drewN _)).mono ?_; rintro e w' ⟨rfl, m2, rfl⟩)
          go_ret
          exact ⟨ret_int HCE.out, hst.drewN _⟩
        · rw [hd] at e4 HP1
          clear hd
          go_wp2_with fail
          go_quiet ((go_at_call 26; ((with_reducible exact quietDrew (HT.out _ (hst.drewN _))))))
          go_wp2_with fail
          go_roundw
          case rel => exact ⟨i + 1, by omega, by omega, by (have := HP1.out trivial); omega, congrArg (Value.int .i64) (by have := HAT.out; omega), hst.drewN _⟩
          case measure => simp [intOf]; omega
      · obtain rfl : i = n := by omega
        have hmn : (if t < h + (i : Int) then t else h + (i : Int)) = h + (i : Int) := by split <;> omega
        have hdec : decide (h + (i : Int) < t) = false := by rw [decide_eq_false_iff_not]; omega
        have HCE := Lib.hid (show h + (i : Int) = h + ((k + c : Nat) : Int) by omega)
        obtain ⟨at0, hat⟩ : ∃ at0 : Int, at0 = h + (i : Int) := ⟨_, rfl⟩
        rw [← hat] at hmn hdec HCE ⊢
        clear hat htn HP hi1 hi3 hlt
        go_wp2_with fail
        go_quiet ((go_at_call 26; ((with_reducible exact quietDrew (HT.out _ (hst.drewN _))))))
        go_wp2_with (go_at_call 26; refine (HT.out _ (hst.drewN _)).mono ?_; rintro e w' ⟨rfl, m2, rfl⟩)
        go_ret
        exact ⟨ret_int HCE.out, hst.drewN _⟩

/-- A new ring. -/
def RNew (RT : Nat → RM → Thing) (w : World) (n : Nat) (ov : Bool) (e : Ending) (w' : World) : Prop :=
  ∃ q, e = .returned (.tuple #[.pointer (some ⟨q, 0, none⟩), .int .i64 0]) ∧ ∃ W, (RT q (RM.new n ov)).at_ w' W ∧ Still w w' ∧ ∀ k, W k → w.heap.size ≤ k

theorem zrmake_no (n p : Int) (w : World) (h : ¬ (1 ≤ n ∧ n ≤ 64 ∧ (p = 0 ∨ p = 1))) :
    Calls Try.prog 10 #[.int .i64 n, .int .i64 p] w fun e w' => e = .returned (.tuple #[.pointer none, .int .i64 2]) ∧ Still w w' := by
  have h' : n < 1 ∨ 64 < n ∨ (p ≠ 0 ∧ p ≠ 1) := by omega
  clear h
  rcases h' with h | h | ⟨h, k⟩
  · go_enter Try.func10, Try.ntmps10
    go_wp2
    all_goals first | (exfalso; omega) | (go_ret2; exact ⟨rfl, Turned.refl _ _⟩)
  · have h1 : ¬ n < 1 := by omega
    go_enter Try.func10, Try.ntmps10
    go_wp2
    all_goals first | (exfalso; omega) | (go_ret2; exact ⟨rfl, Turned.refl _ _⟩)
  · have h1 : (p != 0) = true := by rw [bne_iff_ne]; exact h
    have h2 : (p != 1) = true := by rw [bne_iff_ne]; exact k
    clear h k
    go_enter Try.func10, Try.ntmps10
    go_wp2
    all_goals first | (exfalso; omega) | (go_ret2; exact ⟨rfl, Turned.refl _ _⟩)

theorem zrmake_ok (n : Nat) (ov : Bool) (w : World) (h1 : 1 ≤ n) (h2 : n ≤ 64) :
    Calls Try.prog 10 #[.int .i64 n, .int .i64 (polB ov)] w (RNew zrT w n ov) := by
  have HI := Lib.hid (show ∃ W, (zrT w.heap.size (RM.new n ov)).at_ (w.alloc (.cells #[.int .i64 (n : Nat), .int .i64 (polB ov), .int .i64 0, .slice none 0 0] 47)) W ∧ Still w (w.alloc (.cells #[.int .i64 (n : Nat), .int .i64 (polB ov), .int .i64 0, .slice none 0 0] 47)) ∧ ∀ k, W k → w.heap.size ≤ k from
    ⟨fun k => k = w.heap.size, ⟨none, 0, fun k hk => by rw [hk]; simp, ⟨rfl, fun a ha => by cases ha⟩, Blk.new w [.int .i64 (n : Nat), .int .i64 (polB ov), .int .i64 0, .slice none 0 0] 47, ⟨rfl, .inl ⟨rfl, rfl⟩⟩⟩, (Turned.refl _ _).alloc _, fun k hk => by omega⟩)
  have hn1 : (1 : Int) ≤ (n : Int) := by omega
  have hn2 : (n : Int) ≤ 64 := by omega
  cases ov
  · go_enter Try.func10, Try.ntmps10
    simp only [show polB false = 0 from rfl] at HI ⊢
    go_wp2
    go_ret2
    exact ⟨_, rfl, HI.out⟩
  · go_enter Try.func10, Try.ntmps10
    simp only [show polB true = 1 from rfl] at HI ⊢
    go_wp2
    go_ret2
    exact ⟨_, rfl, HI.out⟩
end Go.Proofs.Ytefopajkcpcjpaa
