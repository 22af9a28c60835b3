/- The program's takes: whether a filter's levels match a name's, or cover another filter's, level by level. No condition but that the levels lie where they are told. -/
import Derived.Test.YtoailhkgailhhaaDoorFltTame
import Derived.Scope
import Derived.WalkMore
namespace Go.Proofs.YtoailhkgailhhaaDoor
open Go.RowKit Go.Shelf
attribute [local go_sem] Oper.semAt_some
set_option linter.unusedVariables false
set_option linter.unusedSimpArgs false
set_option maxRecDepth 100000

def hid2 (F N : List Txt) : Bool := (decide (F[0]? = some [43]) || decide (F[0]? = some [35])) && (match N[0]? with | some y => Lib.hasPrefix y [36] | none => false)
def tkB (F N : List Txt) : Bool := !hid2 F N && cvs F N

theorem prefix_any (y : Txt) (w : World) : Calls Tryd.prog 42 #[tx y, tx [36]] w fun e w' => e = .returned (.bool (Lib.hasPrefix y [36])) ∧ w' = w :=
  Tryd.strings_HasPrefix ⟨y.toArray⟩ ⟨#[36]⟩ w

theorem cvs_pair {F N : List Txt} {k : Nat} {x y : Txt} (hx : F[k]? = some x) (hy : N[k]? = some y) (h1 : x ≠ [35]) (h2 : y ≠ [35]) : cvs (F.drop k) (N.drop k) = ((decide (x = [43]) || decide (x = y)) && cvs (F.drop (k + 1)) (N.drop (k + 1))) := by
  obtain ⟨h3, e3⟩ := List.getElem?_eq_some_iff.1 hx
  obtain ⟨h4, e4⟩ := List.getElem?_eq_some_iff.1 hy
  rw [List.drop_eq_getElem_cons h3, e3, List.drop_eq_getElem_cons h4, e4, cvs_go h1 h2]
theorem cvs_hash_at {F N : List Txt} {k : Nat} (hx : F[k]? = some [35]) : cvs (F.drop k) (N.drop k) = true := by
  obtain ⟨h3, e3⟩ := List.getElem?_eq_some_iff.1 hx
  rw [List.drop_eq_getElem_cons h3, e3, cvs_hash]
theorem cvs_low_at {F N : List Txt} {k : Nat} {x : Txt} (hx : F[k]? = some x) (hy : N[k]? = some [35]) (h1 : x ≠ [35]) : cvs (F.drop k) (N.drop k) = false := by
  obtain ⟨h3, e3⟩ := List.getElem?_eq_some_iff.1 hx
  obtain ⟨h4, e4⟩ := List.getElem?_eq_some_iff.1 hy
  rw [List.drop_eq_getElem_cons h3, e3, List.drop_eq_getElem_cons h4, e4, cvs_low h1]
theorem cvs_end_at {F N : List Txt} {k : Nat} {x : Txt} (hx : F[k]? = some x) (hy : N.length ≤ k) (h1 : x ≠ [35]) : cvs (F.drop k) (N.drop k) = false := by
  obtain ⟨h3, e3⟩ := List.getElem?_eq_some_iff.1 hx
  rw [List.drop_eq_getElem_cons h3, e3, List.drop_of_length_le hy, cvs_end h1]
theorem cvs_nil_at {F N : List Txt} {k : Nat} (hx : F.length ≤ k) : cvs (F.drop k) (N.drop k) = decide (N.length ≤ k) := by
  rw [List.drop_of_length_le hx, cvs_nil]
  exact decide_eq_decide.2 List.drop_eq_nil_iff

theorem tkB_at {F N : List Txt} {x y : Txt} (hx : F[0]? = some x) (hy : N[0]? = some y) : tkB F N = (!(((x == [43]) || (x == [35])) && Lib.hasPrefix y [36]) && cvs F N) := by
  have e1 : decide (x = [43]) = (x == [43]) := by rw [Bool.eq_iff_iff]; simp
  have e2 : decide (x = [35]) = (x == [35]) := by rw [Bool.eq_iff_iff]; simp
  simp only [tkB, hid2, hx, hy, Option.some.injEq, e1, e2]
theorem way3 (x : Txt) : ((x == [43]) = true ∧ (x == [35]) = false) ∨ ((x == [43]) = false ∧ (x == [35]) = true) ∨ ((x == [43]) = false ∧ (x == [35]) = false) := by
  by_cases h : x = [43]
  · subst h; exact .inl (by decide)
  · by_cases h' : x = [35]
    · subst h'; exact .inr (.inl (by decide))
    · exact .inr (.inr ⟨by simpa using h, by simpa using h'⟩)

set_option maxHeartbeats 4000000 in
theorem takes_any (F N : List Txt) (w : World) (ao bo : Option Addr) (n m ac bc : Nat) (hn : n = F.length) (hm : m = N.length) (hn0 : 0 < n) (hm0 : 0 < m) (hA : TextsAt w ao F) (hB : TextsAt w bo N) (h1 : n ≤ 1000) (h2 : m ≤ 1000) :
    Calls Tryd.prog 32 #[.slice ao n ac, .slice bo m bc] w fun e w' => e = .returned (.bool (tkB F N)) ∧ Still w w' := by
  obtain ⟨x, hx⟩ := get_some (l := F) (i := 0) (by omega)
  obtain ⟨y, hy⟩ := get_some (l := N) (i := 0) (by omega)
  obtain ⟨b, o, rfl, hcx⟩ := hA 0 x hx
  obtain ⟨b', o', rfl, hcy⟩ := hB 0 y hy
  rw [Nat.add_zero] at hcx hcy
  have HA := Lib.hid hA
  have HB := Lib.hid hB
  have HN := Lib.hid hn
  have HM := Lib.hid hm
  have HP := Lib.hid (prefix_any y)
  clear hA hB hn hm
  obtain ⟨r, hr⟩ : ∃ r, r = tkB F N := ⟨_, rfl⟩
  rw [← hr]
  rw [tkB_at hx hy] at hr
  clear hx hy
  generalize Lib.hasPrefix y [36] = p at *
  unfold tx at *
  rcases way3 x with ⟨hb43, hb35⟩ | ⟨hb43, hb35⟩ | ⟨hb43, hb35⟩
  case' inl => rcases p with _ | _
  case' inr.inl => rcases p with _ | _
  case inl.true | inr.inl.true =>
    rw [hb43, hb35] at hr
    have HR := Lib.hid (show r = false from hr)
    clear hr HA HB
    go_enter Tryd.func32, Tryd.ntmps32
    go_wp2_with fail
    go_step3
    go_wp2_with (go_at_call 42; ((with_reducible refine (HP.out _).mono ?_)); rintro e w1 ⟨rfl, e1⟩; rw [e1]; clear e1)
    rw [Exit.noGoto_ret]
    go_ret
    exact ⟨by rw [HR.out]; rfl, Turned.refl _ _⟩
  all_goals
    rw [hb43, hb35] at hr
    have HR := Lib.hid (show r = cvs F N by rw [hr]; simp)
    clear hr
    go_enter Tryd.func32, Tryd.ntmps32
    go_wp2_with fail
    go_step3
    go_wp2_with (go_at_call 42; ((with_reducible refine (HP.out _).mono ?_)); rintro e w1 ⟨rfl, e1⟩; rw [e1]; clear e1)
    go_step3
    go_wp2_with fail
    go_loopw [5] (fun i wr => ∃ k : Nat, k ≤ n ∧ k ≤ m ∧ i = .int .i64 k ∧ r = cvs (F.drop k) (N.drop k) ∧ Still w wr) (fun i _ => n - (intOf i).toNat)
    case atStart => exact ⟨0, Nat.zero_le _, Nat.zero_le _, rfl, HR.out, Turned.refl _ _⟩
    case round =>
      clear hcx hcy hb43 hb35
      obtain ⟨k, hkn, hkm, rfl, hrk, hst⟩ := hrel
      rcases Nat.lt_or_ge k n with hn1 | hn1
      · obtain ⟨x, hx⟩ := get_some (l := F) (i := k) (by rw [← HN.out]; exact hn1)
        obtain ⟨_, _, e, hcx⟩ := HA.out.still hst k x hx
        cases e
        unfold tx at hcx
        rcases Nat.lt_or_ge k m with hm1 | hm1
        · obtain ⟨y, hy⟩ := get_some (l := N) (i := k) (by rw [← HM.out]; exact hm1)
          obtain ⟨_, _, e, hcy⟩ := HB.out.still hst k y hy
          cases e
          unfold tx at hcy
          have HST := Lib.hid hst
          by_cases hx35 : x = [35]
          · have HRR := Lib.hid (show r = true by rw [hrk]; exact cvs_hash_at (by rw [hx, hx35]))
            have hb35 : (x == [35]) = true := by simpa using hx35
            clear hrk hx hy hx35 hst
            go_wp2_with fail
            rw [Exit.noGoto_ret]
            go_ret
            exact ⟨by rw [HRR.out]; rfl, HST.out⟩
          · have hb35 : (x == [35]) = false := by simpa using hx35
            by_cases hy35 : y = [35]
            · have HRR := Lib.hid (show r = false by rw [hrk]; exact cvs_low_at hx (by rw [hy, hy35]) hx35)
              have hyb35 : (y == [35]) = true := by simpa using hy35
              clear hrk hx hy hx35 hst hy35
              go_wp2_with fail
              rw [Exit.noGoto_ret]
              go_ret
              exact ⟨by rw [HRR.out]; rfl, HST.out⟩
            · have hyb35 : (y == [35]) = false := by simpa using hy35
              rw [cvs_pair hx hy hx35 hy35] at hrk
              by_cases h43 : x = [43]
              · have hb43 : (x == [43]) = true := by simpa using h43
                have HRR := Lib.hid (show r = cvs (F.drop (k + 1)) (N.drop (k + 1)) by rw [hrk]; simp [h43])
                clear hrk hx hy hx35 hst hy35 h43
                go_wp2_with fail
                go_quiet (fail)
                go_wp2_with fail
                go_roundw
                case rel => exact ⟨k + 1, by omega, by omega, by go_num, HRR.out, HST.out.drewN _⟩
                case measure => simp [intOf]; omega
              · have hb43 : (x == [43]) = false := by simpa using h43
                by_cases hxy : x = y
                · have HRR := Lib.hid (show r = cvs (F.drop (k + 1)) (N.drop (k + 1)) by rw [hrk]; simp [hxy])
                  subst hxy
                  clear hrk hx hy hx35 hst hy35 h43
                  go_wp2_with fail
                  go_quiet (fail)
                  go_wp2_with fail
                  go_roundw
                  case rel => exact ⟨k + 1, by omega, by omega, by go_num, HRR.out, HST.out.drewN _⟩
                  case measure => simp [intOf]; omega
                · have hbxy : (x == y) = false := by simpa using hxy
                  have HRR := Lib.hid (show r = false by rw [hrk]; simp [h43, hxy])
                  clear hrk hx hy hx35 hst hy35 h43 hxy
                  go_wp2_with fail
                  go_quiet (fail)
                  go_wp2_with fail
                  rw [Exit.noGoto_ret]
                  go_ret
                  exact ⟨by rw [HRR.out]; rfl, HST.out.drewN _⟩
        · obtain rfl : k = m := by omega
          have HST := Lib.hid hst
          by_cases hx35 : x = [35]
          · have HRR := Lib.hid (show r = true by rw [hrk]; exact cvs_hash_at (by rw [hx, hx35]))
            have hb35 : (x == [35]) = true := by simpa using hx35
            clear hrk hx hx35 hst
            go_wp2_with fail
            rw [Exit.noGoto_ret]
            go_ret
            exact ⟨by rw [HRR.out]; rfl, HST.out⟩
          · have hb35 : (x == [35]) = false := by simpa using hx35
            have HRR := Lib.hid (show r = false by rw [hrk]; exact cvs_end_at hx (by rw [← HM.out]; exact Nat.le_refl _) hx35)
            clear hrk hx hx35 hst
            go_wp2_with fail
            rw [Exit.noGoto_ret]
            go_ret
            exact ⟨by rw [HRR.out]; rfl, HST.out⟩
      · obtain rfl : k = n := by omega
        have HST := Lib.hid hst
        rw [cvs_nil_at (by rw [← HN.out]; exact Nat.le_refl _), ← HM.out] at hrk
        rcases Nat.lt_or_ge k m with hm1 | hm1
        · have HRR := Lib.hid (show r = false by rw [hrk]; exact decide_eq_false (by omega))
          have hkb : ((k : Int) == (m : Int)) = false := by
            have : ¬ (k : Int) = (m : Int) := by omega
            simpa using this
          clear hrk hst
          go_wp2_with fail
          rw [Exit.noGoto_ret]
          go_ret
          exact ⟨by rw [HRR.out]; first | rfl | simp [hkb], HST.out⟩
        · obtain rfl : k = m := by omega
          have HRR := Lib.hid (show r = true by rw [hrk]; exact decide_eq_true (Nat.le_refl _))
          clear hrk hst
          go_wp2_with fail
          rw [Exit.noGoto_ret]
          go_ret
          exact ⟨by rw [HRR.out]; first | rfl | simp, HST.out⟩
end Go.Proofs.YtoailhkgailhhaaDoor
