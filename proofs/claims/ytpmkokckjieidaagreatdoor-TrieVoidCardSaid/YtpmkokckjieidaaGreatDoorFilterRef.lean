/- What has and Check of the document's filter do. No condition but that the texts are no longer than the statements make them. -/
import Derived.Test.YtpmkokckjieidaaGreatDoorFilter
namespace Go.Proofs.YtpmkokckjieidaaGreatDoor
open Go.RowKit
set_option linter.unusedVariables false
set_option linter.unusedSimpArgs false
set_option maxRecDepth 100000

set_option maxHeartbeats 1000000 in
theorem zfhas_any (l : Txt) (c : UInt8) (w : World) (hmax : l.length ≤ 1000000) : Calls Tryz.prog 60 #[tx l, .int .u8 (c.toNat : Int)] w fun e w' => e = .returned (.bool (decide (c ∈ l))) ∧ w' = w := by
  obtain ⟨r, hr⟩ : ∃ r, r = decide (c ∈ l) := ⟨_, rfl⟩
  rw [← hr]
  have HR := Lib.hid hr
  obtain ⟨m, hm⟩ : ∃ m, m = l.length := ⟨_, rfl⟩
  have hmm : m ≤ 1000000 := by omega
  have HL := Lib.hid hm
  obtain ⟨s, hs⟩ : ∃ s, s = ByteArray.mk l.toArray := ⟨_, rfl⟩
  have hsz : s.size = m := by rw [hs, hm, tx_size]
  have HX := Lib.hid (fun (k : Nat) (hk : k < m) => show ∃ x : UInt8, l[k]? = some x ∧ ∀ h, s[k]'h = x from ⟨l[k], by simp, fun h => by subst hs; rfl⟩)
  obtain ⟨v, hv⟩ : ∃ v : Int, v = (c.toNat : Int) := ⟨_, rfl⟩
  rw [← hv]
  have HV := Lib.hid (fun (x : UInt8) (h : (x.toNat : Int) = v) => show x = c from UInt8.toNat_inj.1 (by omega))
  have HV2 := Lib.hid hv
  unfold tx
  rw [← hs]
  clear hs hm hmax hr hv
  go_enter Tryz.func60, Tryz.ntmps60
  go_wp2_with fail
  go_loopw [5] (fun i wr => ∃ k : Nat, k ≤ m ∧ i = .int .i64 k ∧ c ∉ l.take k ∧ wr = w) (fun i _ => m - (intOf i).toNat)
  case atStart => exact ⟨0, Nat.zero_le _, rfl, by simp, rfl⟩
  case round =>
    obtain ⟨k, hk, rfl, hno, rfl⟩ := hrel
    have HNo := Lib.hid hno
    clear hno
    by_cases hlt : k < m
    · obtain ⟨x, hx, hsx⟩ := HX.out k hlt
      have hz : k < s.size := by omega
      have hsx' := hsx hz
      have HXX := Lib.hid hx
      clear hx hsx HX
      by_cases hxc : (x.toNat : Int) = v
      · have HE := Lib.hid (show r = true by rw [HR.out]; exact decide_eq_true (by have := HV.out x hxc; subst this; exact List.mem_of_getElem? HXX.out))
        go_wp2_with fail
        go_ret
        exact ⟨by rw [HE.out]; rfl, rfl⟩
      · have hb : ((x.toNat : Int) == v) = false := by simpa using hxc
        have HN2 := Lib.hid (show c ∉ l.take (k + 1) by
          rw [List.take_add_one, HXX.out]
          intro h
          rcases List.mem_append.1 h with h | h
          · exact HNo.out h
          · simp at h; subst h; exact hxc HV2.out.symm)
        go_wp2_with fail
        go_roundw
        case rel => exact ⟨k + 1, by omega, by go_num, HN2.out, by trivial⟩
        case measure => simp [intOf]; omega
    · obtain rfl : k = m := by omega
      have HE := Lib.hid (show r = false by
        rw [HR.out]
        refine decide_eq_false (fun h => HNo.out ?_)
        rwa [List.take_of_length_le (by rw [HL.out]; exact Nat.le_refl _)])
      clear HX
      go_wp2_with fail
      go_ret
      exact ⟨by rw [HE.out]; rfl, rfl⟩

set_option maxHeartbeats 2000000 in
theorem zfcheck_any (l : Txt) (w : World) (hmax : l.length ≤ 1000000) : Calls Tryz.prog 39 #[tx l] w fun e w' => e = .returned (.int .i64 (fcE l)) ∧ Still w w' := by
  obtain ⟨r, hr⟩ : ∃ r, r = fcE l := ⟨_, rfl⟩
  rw [← hr]
  have HR := Lib.hid hr
  clear hr
  by_cases h0 : l = []
  · have HE := Lib.hid (show r = 90 by rw [HR.out]; exact fcE_no (fun h => (fcE_iff.1 h).1 h0))
    subst h0
    unfold tx
    go_enter Tryz.func39, Tryz.ntmps39
    go_wp2_with fail
    go_ret
    exact ⟨by rw [HE.out]; rfl, Turned.refl _ _⟩
  · obtain ⟨m, hm⟩ : ∃ m, m = l.length := ⟨_, rfl⟩
    have hb0 : (l == []) = false := by simpa using h0
    have hmm : m ≤ 1000000 := by omega
    have HL := Lib.hid hm
    have hlen : (64 < m ∧ fcE l = 90) ∨ m ≤ 64 := by
      rcases Nat.lt_or_ge 64 m with h | h
      · exact .inl ⟨h, fcE_no (fun h' => by have := (fcE_iff.1 h').2.1; omega)⟩
      · exact .inr h
    obtain ⟨s, hs⟩ : ∃ s, s = ByteArray.mk l.toArray := ⟨_, rfl⟩
    have hsz : s.size = m := by rw [hs, hm, tx_size]
    have hsl : s.toList = l := by rw [hs, ByteArray.toList_mk]
    have HX := Lib.hid (fun (k : Nat) (hk : k < m) => show ∃ x : UInt8, l[k]? = some x ∧ ∀ h, s[k]'h = x from ⟨l[k], by simp, fun h => by subst hs; rfl⟩)
    have HS := Lib.hid (show Value.string s = tx l by rw [hs]; rfl)
    have hb : (s.toList == []) = false := by rw [hsl]; exact hb0
    have HSp := Lib.hid (fun V => show Calls Tryz.prog 57 #[.string s, .int .u8 47] V (OutTexts V (spl l) (spl l).length) from by rw [HS.out]; exact bsplit_any l V _ rfl hmax)
    rw [← HS.out]
    have HNE := Lib.hid h0
    clear hs hsl hb0 hm hmax h0
    rcases hlen with ⟨h64, he⟩ | h64
    · have HE := Lib.hid (HR.out.trans he)
      clear HX he
      go_enter Tryz.func39, Tryz.ntmps39
      go_wp2_with fail
      go_ret
      exact ⟨by rw [HE.out]; rfl, Turned.refl _ _⟩
    · go_enter Tryz.func39, Tryz.ntmps39
      go_wp2_with fail
      go_loopw [3] (fun i wr => ∃ k : Nat, k ≤ m ∧ i = .int .i64 k ∧ (∀ b ∈ l.take k, fcC b = true) ∧ wr = w) (fun i _ => m - (intOf i).toNat)
      case atStart => exact ⟨0, Nat.zero_le _, rfl, by simp, rfl⟩
      case round =>
        obtain ⟨k, hk, rfl, hok, rfl⟩ := hrel
        have HOK := Lib.hid hok
        clear hok
        by_cases hlt : k < m
        · obtain ⟨x, hx, hsx⟩ := HX.out k hlt
          have hz : k < s.size := by omega
          have hsx' := hsx hz
          have HXX := Lib.hid hx
          clear hx hsx HX
          have hBad := Lib.hid (fun (h : fcC x = false) => show r = 90 by
            rw [HR.out]
            refine fcE_no (fun h' => ?_)
            have := (fcE_iff.1 h').2.2.1 x (List.mem_of_getElem? HXX.out)
            rw [h] at this; cases this)
          have hGood := Lib.hid (fun (h : fcC x = true) => show ∀ b ∈ l.take (k + 1), fcC b = true by
            intro b hb
            rw [List.take_add_one, HXX.out] at hb
            rcases List.mem_append.1 hb with hb | hb
            · exact HOK.out b hb
            · simp at hb; subst hb; exact h)
          rcases Nat.lt_or_ge x.toNat 33 with h1 | h1
          · have HE := Lib.hid (hBad.out (by simp [fcC]; omega))
            have h1' : (x.toNat : Int) < 33 := by omega
            clear hBad hGood
            go_wp2_with fail
            go_ret
            exact ⟨by rw [HE.out]; rfl, Turned.refl _ _⟩
          · have h1' : ¬ (x.toNat : Int) < 33 := by omega
            rcases Nat.lt_or_ge 126 x.toNat with h2 | h2
            · have HE := Lib.hid (hBad.out (by simp [fcC]; omega))
              have h2' : (126 : Int) < (x.toNat : Int) := by omega
              clear hBad hGood
              go_wp2_with fail
              go_ret
              exact ⟨by rw [HE.out]; rfl, Turned.refl _ _⟩
            · have h2' : ¬ (126 : Int) < (x.toNat : Int) := by omega
              have HG := Lib.hid (hGood.out (by simp [fcC]; omega))
              clear hBad hGood
              go_wp2_with fail
              go_roundw
              case rel => exact ⟨k + 1, by omega, by go_num, HG.out, by trivial⟩
              case measure => simp [intOf]; omega
        · obtain rfl : k = m := by omega
          have hall : ∀ b ∈ l, fcC b = true := fun b hb => HOK.out b (by rwa [List.take_of_length_le (by rw [HL.out]; exact Nat.le_refl _)])
          have h5 : (8 < (spl l).length ∧ fcE l = 90) ∨ (spl l).length ≤ 8 := by
            rcases Nat.lt_or_ge 8 (spl l).length with h | h
            · exact .inl ⟨h, fcE_no (fun h' => by have := (fcE_iff.1 h').2.2.2.1; omega)⟩
            · exact .inr h
          have HSp' := Lib.hid (HSp.out wr)
          have hsml := spl_len l
          clear HX HSp
          rcases h5 with ⟨h5, he⟩ | h5
          · have HE := Lib.hid (HR.out.trans he)
            clear he hall hsml
            generalize (spl l).length = q at *
            have h5' : (8 : Int) < (q : Int) := by omega
            go_wp2_with (go_at_call 57; ((with_reducible refine HSp'.out.mono ?_)); rintro e w6 ⟨a6, c6, rfl, _, hst⟩)
            go_ret
            exact ⟨by rw [HE.out]; rfl, hst⟩
          · obtain ⟨q, hq⟩ : ∃ q, q = (spl l).length := ⟨_, rfl⟩
            rw [← hq] at HSp' h5 hsml
            have HQ := Lib.hid hq
            have h5' : ¬ (8 : Int) < (q : Int) := by omega
            have HEnd := Lib.hid (show (lvB (spl l) = true → r = 0) ∧ (lvB (spl l) = false → r = 90) from
              ⟨fun h => by rw [HR.out]; exact fcE_iff.2 ⟨HNE.out, by rw [← HL.out]; exact h64, hall, by rw [← hq]; exact h5, h⟩, fun h => by rw [HR.out]; exact fcE_no (fun h' => by have := (fcE_iff.1 h').2.2.2.2; rw [h] at this; cases this)⟩)
            have HSm := Lib.hid (fun x (hx : x ∈ spl l) => show x.length ≤ 1000000 from by
              have h1 := jn_spl l
              obtain ⟨i, hi⟩ := List.getElem?_of_mem hx
              have h2 := jn_len_le (spl l) (i + 1)
              rw [jn_spl, jn_take hi] at h2
              split at h2
              · have := HL.out; omega
              · rw [List.length_append, List.length_cons] at h2; have := HL.out; omega)
            clear hall hq
            go_wp2_with (go_at_call 57; ((with_reducible refine HSp'.out.mono ?_)); rintro e w6 ⟨a6, c6, rfl, hown6, hst⟩)
            have HT := Lib.hid (TextsAt.of_own hown6 HQ.out)
            clear hown6
            go_loopw [5] (fun i wr2 => ∃ j : Nat, j ≤ q ∧ i = .int .i64 j ∧ (∀ (k : Nat) (x : Txt), k < j → (spl l)[k]? = some x → ((43 : UInt8) ∈ x → x = [43]) ∧ ((35 : UInt8) ∈ x → x = [35] ∧ k + 1 = q)) ∧ wr2 = w6) (fun i _ => q - (intOf i).toNat)
            case atStart => exact ⟨0, Nat.zero_le _, rfl, fun k x h => absurd h (Nat.not_lt_zero _), rfl⟩
            case round =>
              obtain ⟨j, hj, rfl, hok, rfl⟩ := hrel
              have HOk := Lib.hid hok
              clear hok
              by_cases hltj : j < q
              · obtain ⟨x, hx⟩ := get_some (l := spl l) (i := j) (by rw [← HQ.out]; exact hltj)
                obtain ⟨g, o, rfl, hcx⟩ := HT.out j x hx
                have hxl := HSm.out x (List.mem_of_getElem? hx)
                have HXX := Lib.hid hx
                unfold tx at hcx
                have HH43 := Lib.hid (fun V => show Calls Tryz.prog 60 #[.string ⟨x.toArray⟩, .int .u8 43] V fun e w' => e = .returned (.bool (decide ((43 : UInt8) ∈ x))) ∧ V = w' from (zfhas_any x 43 V hxl).mono fun e w' ⟨h1, h2⟩ => ⟨h1, h2.symm⟩)
                have HH35 := Lib.hid (fun V => show Calls Tryz.prog 60 #[.string ⟨x.toArray⟩, .int .u8 35] V fun e w' => e = .returned (.bool (decide ((35 : UInt8) ∈ x))) ∧ V = w' from (zfhas_any x 35 V hxl).mono fun e w' ⟨h1, h2⟩ => ⟨h1, h2.symm⟩)
                have hBad := Lib.hid (fun (h : ¬ (((43 : UInt8) ∈ x → x = [43]) ∧ ((35 : UInt8) ∈ x → x = [35] ∧ j + 1 = q))) => show r = 90 from HEnd.out.2 (by
                  cases hv : lvB (spl l) with
                  | false => rfl
                  | true => exact absurd (by have := lvB_at hv HXX.out; rwa [← HQ.out] at this) h))
                have hGood := Lib.hid (fun (h : ((43 : UInt8) ∈ x → x = [43]) ∧ ((35 : UInt8) ∈ x → x = [35] ∧ j + 1 = q)) => show ∀ (k : Nat) (y : Txt), k < j + 1 → (spl l)[k]? = some y → ((43 : UInt8) ∈ y → y = [43]) ∧ ((35 : UInt8) ∈ y → y = [35] ∧ k + 1 = q) from by
                  intro k y hk hy
                  rcases Nat.lt_succ_iff_lt_or_eq.1 hk with h' | h'
                  · exact HOk.out k y h' hy
                  · subst h'; rw [HXX.out] at hy; cases hy; exact h)
                clear hx hxl
                by_cases h43 : (43 : UInt8) ∈ x
                · rw [decide_eq_true h43] at HH43
                  by_cases hx : x = [43]
                  · have HG := Lib.hid (hGood.out ⟨fun _ => hx, fun h => by rw [hx] at h; simp at h⟩)
                    have h35 : (35 : UInt8) ∉ x := by rw [hx]; simp
                    rw [decide_eq_false h35] at HH35
                    have hb : (x == [43]) = true := by simpa using hx
                    clear hBad hGood HEnd h43 hx h35
                    go_wp2_with (first
                      | (go_at_call 60; ((with_reducible refine (HH43.out _).mono ?_)); rintro e w0 ⟨rfl, rfl⟩)
                      | (go_at_call 60; ((with_reducible refine (HH35.out _).mono ?_)); rintro e w0 ⟨rfl, rfl⟩))
                    go_roundw
                    case rel => exact ⟨j + 1, by omega, by go_num, HG.out, by trivial⟩
                    case measure => simp [intOf]; omega
                  · have HE := Lib.hid (hBad.out (fun h => hx (h.1 h43)))
                    have hb : (x == [43]) = false := by simpa using hx
                    clear hBad hGood HEnd h43 hx HH35
                    go_wp2_with (first
                      | (go_at_call 60; ((with_reducible refine (HH43.out _).mono ?_)); rintro e w0 ⟨rfl, rfl⟩)
                      | (go_at_call 60; ((with_reducible refine (HH35.out _).mono ?_)); rintro e w0 ⟨rfl, rfl⟩))
                    go_ret
                    exact ⟨by rw [HE.out]; rfl, hst⟩
                · rw [decide_eq_false h43] at HH43
                  by_cases h35 : (35 : UInt8) ∈ x
                  · rw [decide_eq_true h35] at HH35
                    by_cases hx : x = [35]
                    · have hb : (x == [35]) = true := by simpa using hx
                      by_cases hlast : j + 1 = q
                      · have HG := Lib.hid (hGood.out ⟨fun h => absurd h h43, fun _ => ⟨hx, hlast⟩⟩)
                        have hl' : (q : Int) - 1 = (j : Int) := by omega
                        clear hBad hGood HEnd h43 hx h35 hlast
                        go_wp2_with (first
                          | (go_at_call 60; ((with_reducible refine (HH43.out _).mono ?_)); rintro e w0 ⟨rfl, rfl⟩)
                          | (go_at_call 60; ((with_reducible refine (HH35.out _).mono ?_)); rintro e w0 ⟨rfl, rfl⟩))
                        go_roundw
                        case rel => exact ⟨j + 1, by omega, by go_num, HG.out, by trivial⟩
                        case measure => simp [intOf]; omega
                      · have HE := Lib.hid (hBad.out (fun h => hlast (h.2 h35).2))
                        have hl' : (j : Int) < (q : Int) - 1 := by omega
                        clear hBad hGood HEnd h43 hx h35 hlast
                        go_wp2_with (first
                          | (go_at_call 60; ((with_reducible refine (HH43.out _).mono ?_)); rintro e w0 ⟨rfl, rfl⟩)
                          | (go_at_call 60; ((with_reducible refine (HH35.out _).mono ?_)); rintro e w0 ⟨rfl, rfl⟩))
                        go_ret
                        exact ⟨by rw [HE.out]; rfl, hst⟩
                    · have HE := Lib.hid (hBad.out (fun h => hx (h.2 h35).1))
                      have hb : (x == [35]) = false := by simpa using hx
                      clear hBad hGood HEnd h43 hx h35
                      go_wp2_with (first
                        | (go_at_call 60; ((with_reducible refine (HH43.out _).mono ?_)); rintro e w0 ⟨rfl, rfl⟩)
                        | (go_at_call 60; ((with_reducible refine (HH35.out _).mono ?_)); rintro e w0 ⟨rfl, rfl⟩))
                      go_ret
                      exact ⟨by rw [HE.out]; rfl, hst⟩
                  · have HG := Lib.hid (hGood.out ⟨fun h => absurd h h43, fun h => absurd h h35⟩)
                    rw [decide_eq_false h35] at HH35
                    clear hBad hGood HEnd h43 h35
                    go_wp2_with (first
                      | (go_at_call 60; ((with_reducible refine (HH43.out _).mono ?_)); rintro e w0 ⟨rfl, rfl⟩)
                      | (go_at_call 60; ((with_reducible refine (HH35.out _).mono ?_)); rintro e w0 ⟨rfl, rfl⟩))
                    go_roundw
                    case rel => exact ⟨j + 1, by omega, by go_num, HG.out, by trivial⟩
                    case measure => simp [intOf]; omega
              · obtain rfl : j = q := by omega
                have HE := Lib.hid (show r = 0 from HEnd.out.1 (lvB_of (fun k x hx => by have := HOk.out k x (by rw [HQ.out]; exact get_lt hx) hx; rwa [HQ.out] at this)))
                clear HT HEnd
                go_wp2_with fail
                go_ret
                exact ⟨by rw [HE.out]; rfl, hst⟩
end Go.Proofs.YtpmkokckjieidaaGreatDoor
