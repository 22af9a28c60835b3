/- The program's Any tells the first filter that matches; with it the program's filters keep all the words that the walks want of them. No condition. -/
import Derived.Test.YtoailhkgailhhaaDoorFltIs
namespace Go.Proofs.YtoailhkgailhhaaDoor
open Go.RowKit
set_option linter.unusedVariables false
set_option linter.unusedSimpArgs false
set_option maxRecDepth 100000

theorem anR_end {n : Txt} {ls : List Txt} {k : Nat} (h : ls.length ≤ k) : anR n k (ls.drop k) = (-1, 0) := by rw [List.drop_of_length_le h]; rfl
theorem anR_at {n : Txt} {ls : List Txt} {k : Nat} {x : Txt} (hx : ls[k]? = some x) (hn : nmE n = 0) : anR n k (ls.drop k) = if fcE x ≠ 0 then (0, 90) else if isB x n = true then ((k : Int), 0) else anR n (k + 1) (ls.drop (k + 1)) := by
  obtain ⟨h3, e3⟩ := List.getElem?_eq_some_iff.1 hx
  rw [List.drop_eq_getElem_cons h3, e3, anR]
  rcases fcE_or x with h | h
  · have : mtE x n = 0 := by unfold mtE; rw [h, hn]; rfl
    rw [this, h]; rfl
  · have : mtE x n = 90 := by unfold mtE; rw [h]; rfl
    rw [this, h]; first | rfl | done

set_option maxHeartbeats 2000000 in
theorem fany_any (n : Txt) (ls : List Txt) (w : World) (ao : Option Addr) (m cap : Nat) (hm : m = ls.length) (hA : TextsAt w ao ls) (hW : SlW ao m cap) (hm20 : m ≤ 20) (hn3 : n.length ≤ 300) (hs : ∀ x ∈ ls, x.length ≤ 300) :
    Calls Tryd.prog 21 #[tx n, .slice ao m cap] w fun e w' => e = .returned (.tuple #[.int .i64 (anV n ls).1, .int .i64 (anV n ls).2]) ∧ Still w w' := by
  have HN := Lib.hid (levels_any8 n w (by omega))
  obtain ⟨q, hq⟩ : ∃ q, q = (lvls n).length := ⟨_, rfl⟩
  rw [← hq] at HN
  have hq8 : q ≤ 8 := by rw [hq]; exact lvls_len n
  unfold LevPost at HN
  obtain ⟨r1, hr1⟩ : ∃ r, r = (anV n ls).1 := ⟨_, rfl⟩
  obtain ⟨r2, hr2⟩ : ∃ r, r = (anV n ls).2 := ⟨_, rfl⟩
  rw [← hr1, ← hr2]
  rcases nmE_or n with h0 | h0
  · have e2 := lvls_ok h0
    rw [h0, e2] at HN
    rw [e2] at hq
    have hv : anR n 0 ls = (r1, r2) := by rw [hr1, hr2, anV, if_neg (by rw [h0]; simp)]
    have HV := Lib.hid hv
    have HA := Lib.hid hA
    have HM := Lib.hid hm
    have HSM := Lib.hid hs
    have HL := Lib.hid (fun (V : World) (x : Txt) (hx : x.length ≤ 300) => flevels_any x V hx)
    have HT := Lib.hid (fun (W : World) (x : Txt) (a b : Option Addr) (c d : Nat) (hx : fcE x = 0) (hA : TextsAt W a (spl x)) (hB : TextsAt W b (spl n)) => takes_out (spl x) (spl n) W a b (spl x).length q c d (isB x n) (tk_is hx h0).symm rfl hq (spl_ne x) (spl_ne n) hA hB (by have := (fcE_iff.1 hx).2.2.2.1; omega) (by omega))
    have HR := Lib.hid (fun (k : Nat) (x : Txt) (hx : ls[k]? = some x) => anR_at hx h0)
    clear hr1 hr2 hv hA hm hs hq h0 e2 hn3 hW
    unfold tx at HN ⊢
    go_enter Tryd.func21, Tryd.ntmps21
    go_wp2_with (go_at_call 31; ((with_reducible refine HN.out.mono ?_)); rintro e w1 ⟨a1, c1, rfl, hA1, hW1, hS1⟩)
    have HA1 := Lib.hid hA1
    have HS1 := Lib.hid hS1
    clear hA1 hW1 hS1 HN
    go_loopw [22] (fun i wr => ∃ k : Nat, k ≤ m ∧ i = .int .i64 k ∧ anR n k (ls.drop k) = (r1, r2) ∧ Still w1 wr) (fun i _ => m - (intOf i).toNat)
    case atStart => exact ⟨0, Nat.zero_le _, rfl, HV.out, Turned.refl _ _⟩
    case round =>
      obtain ⟨k, hk, rfl, hrk, hst⟩ := hrel
      have HST := Lib.hid hst
      by_cases hlt : k < m
      · obtain ⟨x, hx⟩ := get_some (l := ls) (i := k) (by rw [← HM.out]; exact hlt)
        obtain ⟨b, o, rfl, hc⟩ := (HA.out.still HS1.out).still hst k x hx
        unfold tx at hc
        rw [HR.out k x hx] at hrk
        have HX := Lib.hid (HL.out wr x (HSM.out x (List.mem_of_getElem? hx)))
        have HA1' := Lib.hid (HA1.out.still hst)
        clear hx hst HL HSM
        unfold FlvPost at HX
        rcases fcE_or x with h1 | h1
        · rw [h1, flv_ok h1] at HX
          rw [if_neg (by rw [h1]; simp)] at hrk
          have HTX := Lib.hid (fun W a b c d hA hB => HT.out W x a b c d h1 hA hB)
          obtain ⟨p, hp⟩ : ∃ p, p = (spl x).length := ⟨_, rfl⟩
          rw [← hp] at HX HTX
          clear h1 HT
          by_cases his : isB x n = true
          · rw [if_pos his] at hrk
            have HE := Lib.hid (show r1 = (k : Int) ∧ r2 = 0 by rw [Prod.mk.injEq] at hrk; exact ⟨hrk.1.symm, hrk.2.symm⟩)
            rw [his] at HTX
            clear hrk his hp
            unfold tx at *
            go_wp2_with (first
              | (go_at_call 10; ((with_reducible refine HX.out.mono ?_)); rintro e w2 ⟨a2, c2, rfl, hA2, hW2, hS2⟩)
              | (go_at_call 32; ((with_reducible refine (HTX.out _ _ _ _ _ hA2 (HA1'.out.still hS2)).mono ?_)); rintro e w3 ⟨rfl, hS3⟩))
            go_ret2
            exact ⟨by rw [HE.out.1, HE.out.2]; rfl, HS1.out.trans (HST.out.trans (hS2.trans hS3))⟩
          · rw [if_neg his] at hrk
            have HE := Lib.hid hrk
            rw [show isB x n = false by simpa using his] at HTX
            clear hrk his hp
            unfold tx at *
            go_wp2_with (first
              | (go_at_call 10; ((with_reducible refine HX.out.mono ?_)); rintro e w2 ⟨a2, c2, rfl, hA2, hW2, hS2⟩)
              | (go_at_call 32; ((with_reducible refine (HTX.out _ _ _ _ _ hA2 (HA1'.out.still hS2)).mono ?_)); rintro e w3 ⟨rfl, hS3⟩))
            go_roundw
            case rel => exact ⟨k + 1, by omega, by go_num, HE.out, HST.out.trans (hS2.trans hS3)⟩
            case measure => simp [intOf]; omega
        · rw [h1] at HX
          rw [if_pos (by rw [h1]; simp)] at hrk
          have HE := Lib.hid (show r1 = 0 ∧ r2 = 90 by rw [Prod.mk.injEq] at hrk; exact ⟨hrk.1.symm, hrk.2.symm⟩)
          generalize (flv x).length = p at HX
          clear h1 hrk HT
          unfold tx at *
          go_wp2_with (go_at_call 10; ((with_reducible refine HX.out.mono ?_)); rintro e w2 ⟨a2, c2, rfl, hA2, hW2, hS2⟩)
          go_ret2
          exact ⟨by rw [HE.out.1, HE.out.2]; rfl, HS1.out.trans (HST.out.trans hS2)⟩
      · obtain rfl : k = m := by omega
        rw [anR_end (by rw [← HM.out]; exact Nat.le_refl _)] at hrk
        have HE := Lib.hid (show r1 = -1 ∧ r2 = 0 by rw [Prod.mk.injEq] at hrk; exact ⟨hrk.1.symm, hrk.2.symm⟩)
        clear hrk hst
        go_wp2_with fail
        go_ret2
        exact ⟨by rw [HE.out.1, HE.out.2]; rfl, HS1.out.trans HST.out⟩
  · rw [h0] at HN
    have HE := Lib.hid (show r1 = 0 ∧ r2 = 80 by rw [hr1, hr2, anV, if_pos (by rw [h0]; simp)]; exact ⟨rfl, rfl⟩)
    clear hr1 hr2 hA hm hs hq h0 hn3 hW
    unfold tx at *
    go_enter Tryd.func21, Tryd.ntmps21
    go_wp2_with (go_at_call 31; ((with_reducible refine HN.out.mono ?_)); rintro e w1 ⟨a1, c1, rfl, hA1, hW1, hS1⟩)
    go_ret2
    exact ⟨by rw [HE.out.1, HE.out.2]; rfl, hS1⟩

theorem filter_api : FilterApi where
  check := fun l w h => fcheck_any l w h
  levels := fun l w h => flevels_any l w h
  match_ := fun f n w hf hn => fmatch_any f n w hf hn
  wild := fun l w h => fwild_any l w h
  any := fun n ls w ao m cap hm hA hW h20 hn hs => fany_any n ls w ao m cap hm hA hW h20 hn hs
  covers := fun a b w ha hb => fcovers_any a b w ha hb
end Go.Proofs.YtoailhkgailhhaaDoor
