/- What the program's Of answers: the name that has these levels, or none. No condition but that there are no more levels, and none longer, than the statements make. -/
import Derived.Test.YtoailhkgailhhaaDoorNameChk
namespace Go.Proofs.YtoailhkgailhhaaDoor
open Go.RowKit
set_option linter.unusedVariables false
set_option linter.unusedSimpArgs false
set_option maxRecDepth 100000

theorem joined : ∀ ls : List Txt, Lib.join ls [47] = jn ls
  | [] => rfl
  | [x] => by rw [Lib.join_one]; rfl
  | x :: y :: r => by
    have ih := joined (y :: r)
    unfold Lib.join at ih ⊢
    rw [jn, ← ih, List.intercalate_cons_cons]; simp
theorem jn_small : ∀ ls : List Txt, (∀ x ∈ ls, x.length ≤ 300) → (jn ls).length ≤ ls.length * 301
  | [], _ => by simp [jn]
  | [x], h => by have := h x (by simp); simp [jn]; omega
  | x :: y :: r, h => by
    have h1 := h x (by simp)
    have h2 := jn_small (y :: r) (fun z hz => h z (by simp at hz ⊢; exact .inr hz))
    rw [jn]
    simp only [List.length_append, List.length_cons] at h2 ⊢
    omega

theorem join_any (ls : List Txt) (w : World) (ao : Option Addr) (n cap : Nat) (hn : n = ls.length) (hA : TextsAt w ao ls) (hW : SlW ao n cap) (h20 : n ≤ 100) (hs : ∀ x ∈ ls, x.length ≤ 300) :
    Calls Tryd.prog 37 #[.slice ao n cap, tx [47]] w fun e w' => e = .returned (tx (jn ls)) ∧ Still w w' := by
  subst hn
  cases ls with
  | nil => exact (Tryd.strings_Join_none ao cap ⟨#[47]⟩ w).mono fun e w' ⟨h1, h2⟩ => ⟨h1, by rw [h2]; exact Turned.refl _ _⟩
  | cons x r =>
    obtain ⟨b, o, rfl, hc⟩ := hA 0 x rfl
    have hmap : ((x :: r).map fun t => ByteArray.mk t.toArray).map (·.data.toList) = x :: r := by
      rw [List.map_map]
      conv => rhs; rw [← List.map_id (x :: r)]
      exact List.map_congr_left (fun t _ => by simp)
    have H := Tryd.strings_Join b o cap ((x :: r).map fun t => ByteArray.mk t.toArray) ⟨#[47]⟩ w (by
      intro j t hj
      simp only [List.getElem?_map, Option.map_eq_some_iff] at hj
      obtain ⟨y, hy, rfl⟩ := hj
      obtain ⟨b', o', e, hc'⟩ := hA j y hy
      cases e
      exact hc') (cell_lt hc) (by simp only [List.length_map]; simp only [List.length_cons] at h20 ⊢; omega) (by simp only [List.length_map]; exact hW.le) (by
        rw [hmap, joined]
        have := jn_small (x :: r) hs
        simp only [List.length_cons] at h20 this ⊢
        have h1 : (r.length + 1) * 301 ≤ 100 * 301 := Nat.mul_le_mul_right _ h20
        omega)
    rw [hmap, joined, List.length_map] at H
    exact H.mono fun e w' ⟨h1, h2⟩ => ⟨h1, below_turned h2 (Nat.le_refl _)⟩

theorem contains_any (l : Txt) (c : UInt8) (w : World) : Calls Tryd.prog 36 #[tx l, tx [c]] w fun e w' => e = .returned (.bool (decide (c ∈ l))) ∧ w' = w := by
  have H := Tryd.strings_Contains_one ⟨l.toArray⟩ c w
  have e : decide (0 ≤ Lib.indexByte l c) = decide (c ∈ l) := by
    rcases ixb l c with ⟨h1, h2⟩ | ⟨i, h1, h2, h3, h4⟩
    · rw [h1, decide_eq_false h2]; rfl
    · rw [h1, decide_eq_true (show c ∈ l by rw [h3]; simp)]
      exact decide_eq_true (by omega)
  rw [← e]
  exact H

theorem of_long1 {ls : List Txt} {x : Txt} (hx : x ∈ ls) (h : 64 < x.length) : ofE ls = 80 := ofE_no (fun h' => by
  obtain ⟨i, hi⟩ := List.getElem?_of_mem hx
  have h1 := jn_len_le ls (i + 1)
  have h2 := (nmE_iff.1 (ofE_iff.1 h').2).2.1
  rw [jn_take hi] at h1
  split at h1
  · omega
  · simp only [List.length_append, List.length_cons] at h1; omega)
theorem of_pure {ls : List Txt} (h : ∀ x ∈ ls, (47 : UInt8) ∉ x) : ofE ls = nmE (jn ls) := by
  rcases nmE_or (jn ls) with h' | h'
  · rw [h']; exact ofE_iff.2 ⟨h, h'⟩
  · rw [h']; exact ofE_no (fun e => by have := (ofE_iff.1 e).2; omega)
theorem ofT_no {ls : List Txt} (h : ofE ls = 80) : ofT ls = [] := if_neg (by omega)

set_option maxHeartbeats 1000000 in
theorem of_any8 (ls : List Txt) (w : World) (ao : Option Addr) (n cap : Nat) (hn : n = ls.length) (hA : TextsAt w ao ls) (hW : SlW ao n cap) (h20 : n ≤ 100) (hs : ∀ x ∈ ls, x.length ≤ 300) :
    Calls Tryd.prog 27 #[.slice ao n cap] w fun e w' => e = .returned (.tuple #[tx (ofT ls), .int .i64 (ofE ls)]) ∧ Still w w' := by
  obtain ⟨t, ht⟩ : ∃ t, t = ofT ls := ⟨_, rfl⟩
  obtain ⟨r, hr⟩ : ∃ r, r = ofE ls := ⟨_, rfl⟩
  have HNo := Lib.hid (fun (h : ofE ls = 80) => show t = [] ∧ r = 80 from ⟨ht.trans (ofT_no h), hr.trans h⟩)
  have HMany := Lib.hid (fun (h : 8 < n) => show ofE ls = 80 from of_many (by omega))
  have HLong := Lib.hid (fun (x : Txt) (hx : x ∈ ls) (h : 64 < x.length) => of_long1 hx h)
  have HStr := Lib.hid (fun (x : Txt) (hx : x ∈ ls) (h : (47 : UInt8) ∈ x) => of_stroke hx h)
  have HPure := Lib.hid (fun (h : ∀ x ∈ ls, (47 : UInt8) ∉ x) => show r = nmE (jn ls) ∧ (nmE (jn ls) = 0 → t = jn ls) ∧ (nmE (jn ls) = 80 → t = []) from
    ⟨hr.trans (of_pure h), fun e => ht.trans (if_pos (by rw [of_pure h]; exact e)), fun e => ht.trans (ofT_no (by rw [of_pure h]; exact e))⟩)
  have hj : (jn ls).length ≤ 1000000 := by
    have := jn_small ls hs
    have h1 : ls.length * 301 ≤ 100 * 301 := Nat.mul_le_mul_right _ (by omega)
    omega
  have HA := Lib.hid hA
  have HJ := Lib.hid (fun (V : World) (h : Still w V) => join_any ls V ao n cap hn (hA.still h) hW h20 hs)
  have HCk := Lib.hid (fun V => chk_any (jn ls) V hj)
  have HCt := Lib.hid (fun (x : Txt) V => contains_any x 47 V)
  have HN := Lib.hid hn
  have HSm := Lib.hid hs
  rw [← ht, ← hr]
  clear ht hr hA hn hs hj
  rcases Nat.lt_or_ge 8 n with h8 | h8
  · obtain ⟨e1, e2⟩ := HNo.out (HMany.out h8)
    have h8' : (8 : Int) < (n : Int) := by omega
    rw [e1, e2]
    clear e1 e2
    go_enter Tryd.func27, Tryd.ntmps27
    go_wp2_with fail
    go_ret2
    exact ⟨rfl, Turned.refl _ _⟩
  · have h8' : ¬ (8 : Int) < (n : Int) := by omega
    go_enter Tryd.func27, Tryd.ntmps27
    go_wp2_with fail
    go_loopw [13] (fun i wr => ∃ k : Nat, k ≤ n ∧ i = .int .i64 k ∧ (∀ x ∈ ls.take k, (47 : UInt8) ∉ x) ∧ wr = w) (fun i _ => n - (intOf i).toNat)
    case atStart => exact ⟨0, Nat.zero_le _, rfl, by simp, rfl⟩
    case round =>
      obtain ⟨k, hk, rfl, hok, rfl⟩ := hrel
      have HOK := Lib.hid hok
      clear hok
      by_cases hlt : k < n
      · obtain ⟨x, hx⟩ := get_some (l := ls) (i := k) (by rw [← HN.out]; exact hlt)
        obtain ⟨b, o, rfl, hc⟩ := HA.out k x hx
        unfold tx at hc
        have hm := List.mem_of_getElem? hx
        have HXX := Lib.hid hx
        have HNL := Lib.hid (fun h => HNo.out (HLong.out x hm h))
        have HNS := Lib.hid (fun h => HNo.out (HStr.out x hm h))
        have HC' := Lib.hid (HCt.out x wr)
        have hxs := HSm.out x hm
        clear hx hm
        by_cases h64 : 64 < x.length
        · have HE := Lib.hid (HNL.out h64)
          unfold tx at *
          have h64' : (64 : Int) < (x.length : Int) := by omega
          go_wp2_with fail
          go_ret2
          exact ⟨by rw [HE.out.1, HE.out.2]; rfl, Turned.refl _ _⟩
        · by_cases h47 : (47 : UInt8) ∈ x
          · have HE := Lib.hid (HNS.out h47)
            rw [decide_eq_true h47] at HC'
            unfold tx at *
            have h64' : ¬ (64 : Int) < (x.length : Int) := by omega
            go_wp2_with (go_at_call 36; ((with_reducible refine HC'.out.mono ?_)); rintro e w5 ⟨rfl, rfl⟩)
            go_ret2
            exact ⟨by rw [HE.out.1, HE.out.2]; rfl, Turned.refl _ _⟩
          · rw [decide_eq_false h47] at HC'
            have HG := Lib.hid (show ∀ y ∈ ls.take (k + 1), (47 : UInt8) ∉ y by
              intro y hy
              rw [List.take_add_one, HXX.out] at hy
              rcases List.mem_append.1 hy with hy | hy
              · exact HOK.out y hy
              · simp at hy; subst hy; exact h47)
            clear h47
            unfold tx at *
            have h64' : ¬ (64 : Int) < (x.length : Int) := by omega
            go_wp2_with (go_at_call 36; ((with_reducible refine HC'.out.mono ?_)); rintro e w5 ⟨rfl, rfl⟩)
            go_roundw
            case rel => exact ⟨k + 1, by omega, by go_num, HG.out, by trivial⟩
            case measure => simp [intOf]; omega
      · obtain rfl : k = n := by omega
        obtain ⟨e1, e2, e3⟩ := HPure.out (fun x hx => HOK.out x (by rwa [List.take_of_length_le (by rw [HN.out]; exact Nat.le_refl _)]))
        have HJ' := Lib.hid (HJ.out wr (Turned.refl _ _))
        clear HJ
        rcases nmE_or (jn ls) with h0 | h0
        · have HE := Lib.hid (show t = jn ls ∧ r = 0 from ⟨e2 h0, e1.trans h0⟩)
          rw [h0] at HCk
          clear e1 e2 e3 h0
          unfold tx at *
          go_wp2_with (first
            | (go_at_call 37; ((with_reducible refine HJ'.out.mono ?_)); rintro e w5 ⟨rfl, hT5⟩)
            | (go_at_call 38; ((with_reducible refine (HCk.out _).mono ?_)); rintro e w6 ⟨rfl, hT6⟩))
          go_ret2
          exact ⟨by rw [HE.out.1, HE.out.2]; rfl, hT5.trans hT6⟩
        · have HE := Lib.hid (show t = [] ∧ r = 80 from ⟨e3 h0, e1.trans h0⟩)
          rw [h0] at HCk
          clear e1 e2 e3 h0
          unfold tx at *
          go_wp2_with (first
            | (go_at_call 37; ((with_reducible refine HJ'.out.mono ?_)); rintro e w5 ⟨rfl, hT5⟩)
            | (go_at_call 38; ((with_reducible refine (HCk.out _).mono ?_)); rintro e w6 ⟨rfl, hT6⟩))
          go_ret2
          exact ⟨by rw [HE.out.1, HE.out.2]; rfl, hT5.trans hT6⟩
end Go.Proofs.YtoailhkgailhhaaDoor
