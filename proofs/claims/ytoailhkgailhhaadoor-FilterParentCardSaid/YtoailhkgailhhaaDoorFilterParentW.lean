/- FilterParent: the walk. No condition but that the program's filters keep their words. -/
import Derived.Test.YtoailhkgailhhaaDoorFilterApi
import Derived.Test.YtoailhkgailhhaaDoorFilterMath
namespace Go.Proofs.YtoailhkgailhhaaDoor
open Go.RowKit
set_option linter.unusedVariables false
set_option linter.unusedSimpArgs false
set_option maxRecDepth 100000

theorem spl_small9 {l : Txt} {m : Nat} (h : l.length ≤ m) : ∀ x ∈ spl l, x.length ≤ m := by
  intro x hx
  obtain ⟨i, hi⟩ := List.getElem?_of_mem hx
  have h1 := jn_len_le (spl l) (i + 1)
  rw [jn_spl, jn_take hi] at h1
  split at h1
  · omega
  · rw [List.length_append, List.length_cons] at h1; omega

set_option maxHeartbeats 4000000 in
theorem parent_walk (A : FilterApi) (l m : Txt) (w : World) (hl : l.length ≤ maxLen) (hm : m.length ≤ maxLen) :
    Calls Tryd.prog 8 #[tx l, tx m] w fun e w' => e = .returned (.bool true) ∧ Still w w' := by
  have HS := Lib.hid (fun W => show Calls Tryd.prog 9 #[tx l] W fun e w' => e = .returned (tx (l.take 300)) ∧ W = w' from (short9_any l W hl).mono fun e w' ⟨h1, h2⟩ => ⟨h1, h2.symm⟩)
  have HT := Lib.hid (fun W => show Calls Tryd.prog 9 #[tx m] W fun e w' => e = .returned (tx (m.take 300)) ∧ W = w' from (short9_any m W hm).mono fun e w' ⟨h1, h2⟩ => ⟨h1, h2.symm⟩)
  have hs : (l.take 300).length ≤ 300 := by rw [List.length_take]; omega
  have ht : (m.take 300).length ≤ 300 := by rw [List.length_take]; omega
  generalize l.take 300 = f at *
  generalize m.take 300 = n at *
  have C4 := Lib.hid (fun W => zfcheck_any f W (by omega))
  have C5 := Lib.hid (fun W => zncheck_any n W (by omega))
  have C8 := Lib.hid (fun W => works9 A W)
  rcases fcE_or f with hf | hf
  · rcases nmE_or n with hn | hn
    · obtain ⟨p, hp⟩ : ∃ p, f.length = p + 1 := ⟨f.length - 1, by have := List.length_pos_iff.2 (fcE_iff.1 hf).1; omega⟩
      obtain ⟨y, hy⟩ := get_some (l := f) (i := p) (by omega)
      obtain ⟨s, hs2⟩ : ∃ s, s = ByteArray.mk f.toArray := ⟨_, rfl⟩
      have hsz : s.size = p + 1 := by rw [hs2, tx_size, hp]
      have hsl : s.toList = f := by rw [hs2, ByteArray.toList_mk]
      have hpl : p < s.size := by omega
      have hsy : s[p]'hpl = y := by subst hs2; exact (List.getElem?_eq_some_iff.1 hy).2
      have HF := Lib.hid (show Value.string s = tx f by rw [hs2]; rfl)
      rw [hf] at C4
      rw [hn] at C5
      unfold tx at HS HT C4 C5 ⊢
      rw [← hs2] at HS C4
      have hp62 : (p : Int) ≤ 299 := by omega
      have hpi : (p : Int) + 1 - 1 = (p : Int) := by omega
      by_cases h35 : y = 35
      · have hv : (y.toNat : Int) = 35 := by rw [h35]; rfl
        clear hs ht hl hm hf hn hy hs2 h35
        go_enter Tryd.func8, Tryd.ntmps8
        go_wp2_with (first
          | (go_at_call 17; ((with_reducible refine (C8.out _).mono ?_)); rintro e w9 ⟨rfl, h9⟩)
          | (go_at_call 9; ((with_reducible refine (HS.out _).mono ?_)); rintro e w0 ⟨rfl, rfl⟩)
          | (go_at_call 9; ((with_reducible refine (HT.out _).mono ?_)); rintro e w0 ⟨rfl, rfl⟩)
          | (go_at_call 14; ((with_reducible refine (C4.out _).mono ?_)); rintro e w1 ⟨rfl, h1⟩)
          | (go_at_call 25; ((with_reducible refine (C5.out _).mono ?_)); rintro e w2 ⟨rfl, h2⟩))
        go_ret
        exact ⟨rfl, h9.trans (h1.trans h2)⟩
      · obtain ⟨g1, g2⟩ := byte_ne h35 (v := 35) rfl
        by_cases h62 : 62 < p + 1
        · have hv : (62 : Int) < (p : Int) + 1 := by omega
          clear hs ht hl hm hf hn hy hs2 h35
          go_enter Tryd.func8, Tryd.ntmps8
          go_wp2_with (first
            | (go_at_call 17; ((with_reducible refine (C8.out _).mono ?_)); rintro e w9 ⟨rfl, h9⟩)
            | (go_at_call 9; ((with_reducible refine (HS.out _).mono ?_)); rintro e w0 ⟨rfl, rfl⟩)
            | (go_at_call 9; ((with_reducible refine (HT.out _).mono ?_)); rintro e w0 ⟨rfl, rfl⟩)
            | (go_at_call 14; ((with_reducible refine (C4.out _).mono ?_)); rintro e w1 ⟨rfl, h1⟩)
            | (go_at_call 25; ((with_reducible refine (C5.out _).mono ?_)); rintro e w2 ⟨rfl, h2⟩))
          go_ret
          exact ⟨rfl, h9.trans (h1.trans h2)⟩
        · have hv : ¬ (62 : Int) < (p : Int) + 1 := by omega
          have C6 := Lib.hid (fun W => show Calls Tryd.prog 11 #[.string s, .int .u8 47] W (OutTexts W (spl f) (spl f).length) from by rw [HF.out]; exact bsplit_any f W _ rfl (by omega))
          by_cases h8 : (spl f).length = 8
          · rw [h8] at C6
            clear hs ht hl hm hf hn hy hs2 h35 h8
            go_enter Tryd.func8, Tryd.ntmps8
            go_wp2_with (first
              | (go_at_call 17; ((with_reducible refine (C8.out _).mono ?_)); rintro e w9 ⟨rfl, h9⟩)
              | (go_at_call 9; ((with_reducible refine (HS.out _).mono ?_)); rintro e w0 ⟨rfl, rfl⟩)
              | (go_at_call 9; ((with_reducible refine (HT.out _).mono ?_)); rintro e w0 ⟨rfl, rfl⟩)
              | (go_at_call 14; ((with_reducible refine (C4.out _).mono ?_)); rintro e w1 ⟨rfl, h1⟩)
              | (go_at_call 25; ((with_reducible refine (C5.out _).mono ?_)); rintro e w2 ⟨rfl, h2⟩)
              | (go_at_call 11; ((with_reducible refine (C6.out _).mono ?_)); rintro e w3 ⟨a3, c3, rfl, _, h3⟩))
            go_ret
            exact ⟨rfl, h9.trans (h1.trans (h2.trans h3))⟩
          · have hl35 : f[f.length - 1]? ≠ some 35 := by
              rw [show f.length - 1 = p by omega, hy]
              intro e; cases e; exact h35 rfl
            obtain ⟨e1, e2⟩ := parent_is hf hl35 (by omega) h8 hn
            have C1 := Lib.hid (fun W => show Calls Tryd.prog 19 #[.string (s ++ ⟨#[47, 35]⟩), .string ⟨n.toArray⟩] W fun e w' => e = .returned (.tuple #[.bool (wantK f n (spl n).length), .int .i64 0]) ∧ Still W w' from by
              have := A.match_ (f ++ [47, 35]) n W (by rw [List.length_append]; simp; omega) ht
              rw [e1, e2] at this
              have e3 : tx (f ++ [47, 35]) = .string (s ++ ⟨#[47, 35]⟩) := by
                rw [hs2, show (ByteArray.mk #[47, 35]) = ByteArray.mk ([47, 35] : Txt).toArray from rfl, ByteArray.mk_append_mk]; rfl
              rw [e3] at this
              exact this)
            have C2 := Lib.hid (fun (x : Txt) (h : x.length ≤ 300) W => show Calls Tryd.prog 19 #[.string s, .string ⟨x.toArray⟩] W fun e w' => e = .returned (.tuple #[.bool (mtB f x), .int .i64 (mtE f x)]) ∧ Still W w' from by
              rw [HF.out]; exact A.match_ f x W hs h)
            have HWI := Lib.hid (fun i (hi : i < (spl n).length) => wantI_is hf hl35 hn hi)
            have HJl := Lib.hid (fun k => show (jn ((spl n).take k)).length ≤ 300 from by have := jn_len_le (spl n) k; rw [jn_spl] at this; omega)
            have HXl := Lib.hid (spl_small9 ht)
            have hq8 := (nmE_iff.1 hn).2.2.2
            have hq1 := (spl_len n).1
            have C7 := Lib.hid (fun W => show Calls Tryd.prog 11 #[.string ⟨n.toArray⟩, .int .u8 47] W (OutTexts W (spl n) (spl n).length) from bsplit_any n W _ rfl (by omega))
            obtain ⟨q, hq⟩ : ∃ q, q = (spl n).length := ⟨_, rfl⟩
            rw [← hq] at C1 C7 HWI hq8 hq1
            have HQ := Lib.hid hq
            obtain ⟨q2, hq2⟩ : ∃ q2, q2 = (spl f).length := ⟨_, rfl⟩
            rw [← hq2] at C6 h8
            have h8' : ¬ (q2 : Int) = 8 := by omega
            have h8b : ((q2 : Int) == 8) = false := by simpa using h8'
            have H43 := Lib.hid (show (f == [43]) = decide (f = [43]) from beq_dec f [43])
            have hs0 : s.size + 2 ≤ 9223372036854775807 := by omega
            clear hs ht hl hm hf hn hy hs2 h35 hl35 e1 e2 hq hq2
            go_enter Tryd.func8, Tryd.ntmps8
            go_wp2_with (first
              | (go_at_call 17; ((with_reducible refine (C8.out _).mono ?_)); rintro e w9 ⟨rfl, h9⟩)
              | (go_at_call 9; ((with_reducible refine (HS.out _).mono ?_)); rintro e w0 ⟨rfl, rfl⟩)
              | (go_at_call 9; ((with_reducible refine (HT.out _).mono ?_)); rintro e w0 ⟨rfl, rfl⟩)
              | (go_at_call 14; ((with_reducible refine (C4.out _).mono ?_)); rintro e w1 ⟨rfl, h1⟩)
              | (go_at_call 25; ((with_reducible refine (C5.out _).mono ?_)); rintro e w2 ⟨rfl, h2⟩)
              | (go_at_call 11; ((with_reducible refine (C6.out _).mono ?_)); rintro e w3 ⟨a3, c3, rfl, _, h3⟩)
              | (go_at_call 19; ((with_reducible refine (C1.out _).mono ?_)); rintro e w4 ⟨rfl, h4⟩)
              | (go_at_call 11; ((with_reducible refine (C7.out _).mono ?_)); rintro e w5 ⟨a5, c5, rfl, hO5, h5⟩))
            have HT5 := Lib.hid (TextsAt.of_own hO5 HQ.out)
            have HSA := Lib.hid (h9.trans (h1.trans (h2.trans (h3.trans (h4.trans h5)))))
            clear hO5 C1 C4 C5 C6 C7 C8 HS HT h9 h1 h2 h3 h4 h5
            go_loopw [8, 9, 10] (fun wn fr i wr => ∃ (k : Nat) (c : Txt), k ≤ q ∧ i = .int .i64 k ∧ wn = .bool (wantK f n k) ∧ fr = .string ⟨c.toArray⟩ ∧ c = jn ((spl n).take k) ∧ Still w5 wr) (fun _ _ i _ => q - (intOf i).toNat)
            case atStart => exact ⟨0, [], Nat.zero_le _, rfl, rfl, rfl, by simp [jn], Turned.refl _ _⟩
            case round =>
              obtain ⟨k, c, hk, rfl, rfl, rfl, hc, hst⟩ := hrel
              have HS := Lib.hid hst
              have HC := Lib.hid hc
              have hcl := HJl.out k
              rw [← hc] at hcl
              clear hc
              by_cases hlt : k < q
              · obtain ⟨x, hx⟩ := get_some (l := spl n) (i := k) (by rw [← HQ.out]; exact hlt)
                obtain ⟨g, o, rfl, hcx⟩ := (HT5.out.still hst) k x hx
                have hxl := HXl.out x (List.mem_of_getElem? hx)
                unfold tx at hcx
                obtain ⟨d, hd⟩ : ∃ d, d = jn ((spl n).take (k + 1)) := ⟨_, rfl⟩
                have hdj := jn_take hx
                rw [← hd, ← HC.out] at hdj
                obtain ⟨hw1, hw2⟩ := HWI.out k hlt
                have hdl := HJl.out (k + 1)
                rw [← hd] at hw1 hdl
                have HD := Lib.hid hd
                have HK := Lib.hid (show wantK f n (k + 1) = (wantK f n k || wantI f n k) from rfl)
                have hif : wantI f n k = if d ≠ [] then mtB f d else decide (f = [43]) := by unfold wantI; rw [← hd]
                clear hx hw2 hst HT5 hd
                by_cases hde : d = []
                · have hwi : (f == [43]) = wantI f n k := by rw [hif, if_neg (by simpa using hde), H43.out]
                  have HE := Lib.hid hde
                  generalize wantI f n k = wi at *
                  clear hif hw1 H43 C2
                  by_cases h0 : k = 0
                  · subst h0
                    have hap : ByteArray.mk c.toArray ++ ByteArray.mk x.toArray = ByteArray.mk d.toArray := by
                      rw [ByteArray.mk_append_mk, hdj, if_pos rfl, HC.out]; simp [jn]
                    have hdb : (d == []) = true := by simpa using hde
                    clear hdj hde
                    simp only [Int.natCast_zero, Nat.add_zero] at hcx
                    cases hW : wantK f n 0 with
                    | true =>
                      rw [hW] at HK
                      go_wp2_with fail
                      go_roundw
                      case rel => exact ⟨1, d, by omega, rfl, by rw [HK.out]; rfl, rfl, HD.out, HS.out⟩
                      case measure => simp [intOf]; omega
                    | false =>
                      rw [hW] at HK
                      go_wp2_with fail
                      go_roundw
                      case rel => exact ⟨1, d, by omega, rfl, by rw [HK.out]; simp, rfl, HD.out, HS.out⟩
                      case measure => simp [intOf]; omega
                  · exfalso
                    rw [if_neg h0] at hdj
                    rw [hde] at hdj; simp at hdj
                · have hwi : mtB f d = wantI f n k := by rw [hif, if_pos hde]
                  have HM := Lib.hid (C2.out d hdl)
                  rw [hw1 hde, hwi] at HM
                  generalize wantI f n k = wi at *
                  have hdb : (d == []) = false := by simpa using hde
                  clear hif hw1 H43 C2 hwi hde
                  by_cases h0 : k = 0
                  · subst h0
                    have hap : ByteArray.mk c.toArray ++ ByteArray.mk x.toArray = ByteArray.mk d.toArray := by
                      rw [ByteArray.mk_append_mk, hdj, if_pos rfl, HC.out]; simp [jn]
                    clear hdj
                    simp only [Int.natCast_zero, Nat.add_zero] at hcx
                    cases hW : wantK f n 0 with
                    | true =>
                      rw [hW] at HK
                      go_wp2_with (go_at_call 19; ((with_reducible refine (HM.out _).mono ?_)); rintro e w4 ⟨rfl, h4⟩)
                      go_roundw
                      case rel => exact ⟨1, d, by omega, rfl, by rw [HK.out]; rfl, rfl, HD.out, HS.out.trans h4⟩
                      case measure => simp [intOf]; omega
                    | false =>
                      rw [hW] at HK
                      go_wp2_with (go_at_call 19; ((with_reducible refine (HM.out _).mono ?_)); rintro e w4 ⟨rfl, h4⟩)
                      go_roundw
                      case rel => exact ⟨1, d, by omega, rfl, by rw [HK.out]; simp, rfl, HD.out, HS.out.trans h4⟩
                      case measure => simp [intOf]; omega
                  · have hap : ByteArray.mk c.toArray ++ ByteArray.mk #[47] ++ ByteArray.mk x.toArray = ByteArray.mk d.toArray := by
                      rw [show (ByteArray.mk #[47]) = ByteArray.mk ([47] : Txt).toArray from rfl, ByteArray.mk_append_mk, ByteArray.mk_append_mk, hdj, if_neg h0]; simp
                    have hk0 : (0 : Int) < (k : Int) := by omega
                    clear hdj
                    cases hW : wantK f n k with
                    | true =>
                      rw [hW] at HK
                      go_wp2_with (go_at_call 19; ((with_reducible refine (HM.out _).mono ?_)); rintro e w4 ⟨rfl, h4⟩)
                      go_roundw
                      case rel => exact ⟨k + 1, d, by omega, by go_num, by rw [HK.out]; rfl, rfl, HD.out, HS.out.trans h4⟩
                      case measure => simp [intOf]; omega
                    | false =>
                      rw [hW] at HK
                      go_wp2_with (go_at_call 19; ((with_reducible refine (HM.out _).mono ?_)); rintro e w4 ⟨rfl, h4⟩)
                      go_roundw
                      case rel => exact ⟨k + 1, d, by omega, by go_num, by rw [HK.out]; simp, rfl, HD.out, HS.out.trans h4⟩
                      case measure => simp [intOf]; omega
              · obtain rfl : k = q := by omega
                rw [HQ.out]
                clear hst HT5 C2 HWI
                generalize wantK f n (spl n).length = wk at *
                go_wp2_with fail
                go_ret
                exact ⟨by first | rfl | simp, HSA.out.trans HS.out⟩
    · rw [hf] at C4
      rw [hn] at C5
      unfold tx at *
      clear hs ht hl hm hf hn
      go_enter Tryd.func8, Tryd.ntmps8
      go_wp2_with (first
        | (go_at_call 17; ((with_reducible refine (C8.out _).mono ?_)); rintro e w9 ⟨rfl, h9⟩)
        | (go_at_call 9; ((with_reducible refine (HS.out _).mono ?_)); rintro e w0 ⟨rfl, rfl⟩)
        | (go_at_call 9; ((with_reducible refine (HT.out _).mono ?_)); rintro e w0 ⟨rfl, rfl⟩)
        | (go_at_call 14; ((with_reducible refine (C4.out _).mono ?_)); rintro e w1 ⟨rfl, h1⟩)
        | (go_at_call 25; ((with_reducible refine (C5.out _).mono ?_)); rintro e w2 ⟨rfl, h2⟩))
      go_ret
      exact ⟨rfl, h9.trans (h1.trans h2)⟩
  · rw [hf] at C4
    unfold tx at *
    clear hs ht hl hm hf C5
    go_enter Tryd.func8, Tryd.ntmps8
    go_wp2_with (first
      | (go_at_call 17; ((with_reducible refine (C8.out _).mono ?_)); rintro e w9 ⟨rfl, h9⟩)
      | (go_at_call 9; ((with_reducible refine (HS.out _).mono ?_)); rintro e w0 ⟨rfl, rfl⟩)
      | (go_at_call 9; ((with_reducible refine (HT.out _).mono ?_)); rintro e w0 ⟨rfl, rfl⟩)
      | (go_at_call 14; ((with_reducible refine (C4.out _).mono ?_)); rintro e w1 ⟨rfl, h1⟩))
    go_ret
    exact ⟨rfl, h9.trans h1⟩
end Go.Proofs.YtoailhkgailhhaaDoor
