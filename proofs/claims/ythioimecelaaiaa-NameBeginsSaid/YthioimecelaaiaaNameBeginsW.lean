/- NameBegins: the walk. No condition but that the program's names keep their words. -/
import Derived.Test.YthioimecelaaiaaNameOrderW
namespace Go.Proofs.Ythioimecelaaiaa
open Go.RowKit
set_option linter.unusedVariables false
set_option linter.unusedSimpArgs false
set_option maxRecDepth 100000

theorem jn_empty {L : List Txt} {d : Nat} (h1 : 1 ≤ d) (h2 : d ≤ L.length) (h : jn (L.take d) = []) : d = 1 ∧ L[0]? = some [] := by
  match L, d with
  | [], d => simp at h2; omega
  | x :: r, 1 => simp [jn] at h; subst h; exact ⟨rfl, rfl⟩
  | [x], d + 2 => simp at h2
  | x :: y :: r, d + 2 => rw [List.take_succ_cons, List.take_succ_cons, jn] at h; simp at h
theorem jn_first {L : List Txt} (h : L[0]? = some []) (hj : jn L ≠ []) : (jn L)[0]? = some 47 := by
  match L with
  | [] => simp at h
  | [x] => simp at h; subst h; exact absurd rfl hj
  | x :: y :: r => simp at h; subst h; rfl

set_option maxHeartbeats 4000000 in
theorem begins_walk8 (A : NameApi) (l : Txt) (dd : Int) (w : World) (hl : l.length ≤ maxLen) (hd : i64w dd) :
    Calls Try.prog 8 #[tx l, .int .i64 dd] w fun e w' => e = .returned (.bool true) ∧ Still w w' := by
  have HS := Lib.hid (fun W => show Calls Try.prog 9 #[tx l] W fun e w' => e = .returned (tx (l.take 300)) ∧ W = w' from (short_any l W hl).mono fun e w' ⟨h1, h2⟩ => ⟨h1, h2.symm⟩)
  have hs : (l.take 300).length ≤ 300 := by rw [List.length_take]; omega
  generalize l.take 300 = s at *
  have C1 := Lib.hid (fun W => A.depth s W hs)
  have C8 := Lib.hid (fun W => works8 A W)
  rcases nmE_or s with h0 | h0
  · obtain ⟨q, hq⟩ : ∃ q, q = (spl s).length := ⟨_, rfl⟩
    have hq8 := (nmE_iff.1 h0).2.2.2
    have hne := (nmE_iff.1 h0).1
    have hq1 := (spl_len s).1
    rw [lvls_ok h0, ← hq, h0] at C1
    rw [← hq] at hq8 hq1
    obtain ⟨y, hy⟩ : ∃ y, y = am dd q := ⟨_, rfl⟩
    have hyq : y < q := by rw [hy]; exact am_lt dd (by omega)
    have H1 := Lib.hid (fun W => among_any dd q (by omega) (by omega) W)
    rw [← hy] at H1
    obtain ⟨D, hD⟩ : ∃ D, D = y + 1 := ⟨_, rfl⟩
    have hD1 : 1 ≤ D := by omega
    have hDq : D ≤ q := by omega
    have h1y : (1 : Int) + (y : Int) = (D : Int) := by omega
    have eE : abE s (D : Int) = ofE ((spl s).take D) := by unfold abE; rw [if_neg (by omega), if_neg (by omega)]; rfl
    have eT : abT s (D : Int) = ofT ((spl s).take D) := by unfold abT ofT; rw [eE]; rfl
    have C2 := Lib.hid (fun W => A.above s (D : Int) W hs ⟨by omega, by omega⟩)
    rw [eE, eT] at C2
    have hab := ab_of h0 (d := D) (by omega) (by omega)
    have hy8 : (y : Int) < 8 := by omega
    have hyq' : (y : Int) < (q : Int) := by omega
    have hq0 : (q : Int) ≤ 8 := by omega
    by_cases hj : jn ((spl s).take D) = []
    · rw [if_pos hj] at hab
      obtain ⟨y0, hf⟩ := jn_empty (L := spl s) (d := D) (by omega) (by omega) hj
      have h47 := jn_first hf (by rw [jn_spl]; exact hne)
      rw [jn_spl] at h47
      have hlt := get_lt h47
      have eT2 : ofT ((spl s).take D) = [] := if_neg (by omega)
      rw [hab, eT2] at C2
      subst y0
      have h1y' : (1 : Int) + (y : Int) = 1 := by omega
      rw [show ((1 : Nat) : Int) = 1 from rfl] at C2
      obtain ⟨z, hz⟩ : ∃ z, z = ByteArray.mk s.toArray := ⟨_, rfl⟩
      have hsz : z.size = s.length := by rw [hz, tx_size]
      have hsx : ∀ h, z[0]'h = 47 := fun h => by
        subst hz
        have := (List.getElem?_eq_some_iff.1 h47).2
        exact this
      have hz0 : 0 < z.size := by omega
      have hsx' := hsx hz0
      have hlen : (0 : Int) < (s.length : Int) := by omega
      unfold tx at *
      rw [← hz] at HS C1 C2
      generalize s.length = sl at *
      clear hs hl hd h0 hq hq8 hne hq1 hy hyq eE eT hab hj hf h47 eT2 hz hsx hlt h1y hD hD1 hDq
      go_enter Try.func8, Try.ntmps8
      go_wp2_with (first
        | (go_at_call 18; ((with_reducible refine (C8.out _).mono ?_)); rintro e w9 ⟨rfl, h9⟩)
        | (go_at_call 9; ((with_reducible refine (HS.out _).mono ?_)); rintro e w0 ⟨rfl, rfl⟩)
        | (go_at_call 12; ((with_reducible refine (C1.out _).mono ?_)); rintro e w1 ⟨rfl, h1⟩)
        | (go_at_call 25; ((with_reducible refine (H1.out _).mono ?_)); rintro e w0 ⟨rfl, rfl⟩)
        | (go_at_call 21; ((with_reducible refine (C2.out _).mono ?_)); rintro e w2 ⟨rfl, h2⟩))
      go_ret
      exact ⟨by first | rfl | simp, h9.trans (h1.trans h2)⟩
    · rw [if_neg hj] at hab
      have hnt := (ofE_iff.1 hab).2
      have eT2 : ofT ((spl s).take D) = jn ((spl s).take D) := if_pos hab
      rw [hab, eT2] at C2
      have hsp := (of_back hab).1
      obtain ⟨t, ht⟩ : ∃ t, t = jn ((spl s).take D) := ⟨_, rfl⟩
      rw [← ht] at C2 hnt hsp
      have htl : t.length ≤ 300 := by have := (nmE_iff.1 hnt).2.1; omega
      have hlv : (lvls t).length = D := by rw [lvls_ok hnt, hsp, List.length_take]; omega
      have C3 := Lib.hid (fun W => A.depth t W htl)
      rw [hlv, hnt] at C3
      have hce : cpE t s = 0 := cpE_iff.2 ⟨hnt, h0⟩
      have hcn : cpN t s = if D = q then 0 else -1 := by rw [cpN_eq hce, hsp, cmpL_take (spl s) D (by omega), hq]
      have C4 := Lib.hid (fun W => A.compare t s W htl hs)
      rw [hce, hcn] at C4
      have C5 := Lib.hid (fun W => show Calls Try.prog 26 #[tx s, tx t] W fun e w' => e = .returned (.bool true) ∧ W = w' from by
        have := begins_any s t W (by omega) (by omega)
        have e : s.take t.length = t := by
          obtain ⟨r, hr⟩ := jn_take_pre (spl s) D
          rw [jn_spl, ← ht] at hr
          rw [hr]; simp
        rw [decide_eq_true e] at this
        exact this.mono fun e w' ⟨h1, h2⟩ => ⟨h1, h2.symm⟩)
      unfold tx at *
      clear hs hl hd h0 hq hq8 hne hq1 hy hyq eE eT hab hj eT2 hnt hsp ht htl hlv hce hcn hD
      rcases Nat.lt_or_ge D q with hyy | hyy
      · rw [if_neg (by omega)] at C4
        have hb2 : ¬ (D : Int) = (q : Int) := by omega
        have hb : ((D : Int) == (q : Int)) = false := by simpa using hb2
        clear hyy
        go_enter Try.func8, Try.ntmps8
        go_wp2_with (first
          | (go_at_call 18; ((with_reducible refine (C8.out _).mono ?_)); rintro e w9 ⟨rfl, h9⟩)
          | (go_at_call 9; ((with_reducible refine (HS.out _).mono ?_)); rintro e w0 ⟨rfl, rfl⟩)
          | (go_at_call 12; ((with_reducible refine (C1.out _).mono ?_)); rintro e w1 ⟨rfl, h1⟩)
          | (go_at_call 25; ((with_reducible refine (H1.out _).mono ?_)); rintro e w0 ⟨rfl, rfl⟩)
          | (go_at_call 21; ((with_reducible refine (C2.out _).mono ?_)); rintro e w2 ⟨rfl, h2⟩)
          | (go_at_call 12; ((with_reducible refine (C3.out _).mono ?_)); rintro e w3 ⟨rfl, h3⟩)
          | (go_at_call 23; ((with_reducible refine (C4.out _).mono ?_)); rintro e w4 ⟨rfl, h4⟩)
          | (go_at_call 26; ((with_reducible refine (C5.out _).mono ?_)); rintro e w0 ⟨rfl, rfl⟩))
        go_ret
        exact ⟨by first | rfl | simp [hb, hb2], h9.trans (h1.trans (h2.trans (h3.trans h4)))⟩
      · obtain rfl : q = D := by omega
        rw [if_pos rfl] at C4
        clear hyy
        go_enter Try.func8, Try.ntmps8
        go_wp2_with (first
          | (go_at_call 18; ((with_reducible refine (C8.out _).mono ?_)); rintro e w9 ⟨rfl, h9⟩)
          | (go_at_call 9; ((with_reducible refine (HS.out _).mono ?_)); rintro e w0 ⟨rfl, rfl⟩)
          | (go_at_call 12; ((with_reducible refine (C1.out _).mono ?_)); rintro e w1 ⟨rfl, h1⟩)
          | (go_at_call 25; ((with_reducible refine (H1.out _).mono ?_)); rintro e w0 ⟨rfl, rfl⟩)
          | (go_at_call 21; ((with_reducible refine (C2.out _).mono ?_)); rintro e w2 ⟨rfl, h2⟩)
          | (go_at_call 12; ((with_reducible refine (C3.out _).mono ?_)); rintro e w3 ⟨rfl, h3⟩)
          | (go_at_call 23; ((with_reducible refine (C4.out _).mono ?_)); rintro e w4 ⟨rfl, h4⟩)
          | (go_at_call 26; ((with_reducible refine (C5.out _).mono ?_)); rintro e w0 ⟨rfl, rfl⟩))
        go_ret
        exact ⟨by first | rfl | simp, h9.trans (h1.trans (h2.trans (h3.trans h4)))⟩
  · rw [h0, lvls_no (by omega)] at C1
    unfold tx at *
    clear hs hl hd h0
    go_enter Try.func8, Try.ntmps8
    go_wp2_with (first
      | (go_at_call 18; ((with_reducible refine (C8.out _).mono ?_)); rintro e w9 ⟨rfl, h9⟩)
      | (go_at_call 9; ((with_reducible refine (HS.out _).mono ?_)); rintro e w0 ⟨rfl, rfl⟩)
      | (go_at_call 12; ((with_reducible refine (C1.out _).mono ?_)); rintro e w1 ⟨rfl, h1⟩))
    go_ret
    exact ⟨by first | rfl | simp, h9.trans h1⟩
end Go.Proofs.Ythioimecelaaiaa
