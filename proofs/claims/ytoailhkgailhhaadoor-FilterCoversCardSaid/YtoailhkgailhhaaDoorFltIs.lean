/- The program's filters keep the words that the walks want of them. No condition. -/
import Derived.Test.YtoailhkgailhhaaDoorFltTakes
import Derived.Test.YtoailhkgailhhaaDoorNameLv
namespace Go.Proofs.YtoailhkgailhhaaDoor
open Go.RowKit
set_option linter.unusedVariables false
set_option linter.unusedSimpArgs false
set_option maxRecDepth 100000

theorem mem_jn_len : ∀ {L : List Txt} {x : Txt}, x ∈ L → x.length ≤ (jn L).length
  | [], x, h => by simp at h
  | [y], x, h => by simp at h; subst h; exact Nat.le_refl _
  | y :: z :: r, x, h => by
    rw [jn, List.length_append, List.length_cons]
    rcases List.mem_cons.1 h with rfl | h
    · omega
    · have := mem_jn_len h; omega
theorem spl_head (l : Txt) (c : UInt8) (hc : c ≠ 47) : ∃ x r, spl l = x :: r ∧ (l[0]? = some c ↔ x[0]? = some c) := by
  rcases ixb l 47 with ⟨_, h2⟩ | ⟨i, h1, h2, h3, h4⟩
  · exact ⟨l, [], spl_one h2, Iff.rfl⟩
  · refine ⟨l.take i, spl (l.drop (i + 1)), (congrArg spl h3).trans (spl_cut h4), ?_⟩
    conv => lhs; rw [h3]
    cases hx : l.take i with
    | nil => simp [Ne.symm hc]
    | cons a t => simp
theorem prefix_iff (x : Txt) : Lib.hasPrefix x [36] = decide (x[0]? = some 36) := by
  cases x with
  | nil => rfl
  | cons a t =>
    show ((36 : UInt8) == a && List.isPrefixOf [] t) = _
    rw [Bool.eq_iff_iff, List.isPrefixOf]
    simp only [Bool.and_true, beq_iff_eq, List.getElem?_cons_zero, Option.some.injEq, decide_eq_true_eq]
    exact eq_comm
theorem tk_hid {f n : Txt} (hf : fcE f = 0) : hid2 (spl f) (spl n) = hidB f n := by
  obtain ⟨x, r, e1, h1⟩ := spl_head f 43 (by decide)
  obtain ⟨x', r', e1', h2⟩ := spl_head f 35 (by decide)
  obtain ⟨rfl, rfl⟩ : x' = x ∧ r' = r := by rw [e1] at e1'; cases e1'; exact ⟨rfl, rfl⟩
  obtain ⟨y, s, e3, h3⟩ := spl_head n 36 (by decide)
  have hl := lvB_at (fcE_iff.1 hf).2.2.2.2 (k := 0) (x := x') (by rw [e1]; rfl)
  have a1 : decide (x' = [43]) = decide (f[0]? = some 43) := decide_eq_decide.2 ⟨fun e => h1.2 (by rw [e]; rfl), fun e => hl.1 (List.mem_of_getElem? (h1.1 e))⟩
  have a2 : decide (x' = [35]) = decide (f[0]? = some 35) := decide_eq_decide.2 ⟨fun e => h2.2 (by rw [e]; rfl), fun e => (hl.2 (List.mem_of_getElem? (h2.1 e))).1⟩
  have a3 : Lib.hasPrefix y [36] = decide (n[0]? = some 36) := by rw [prefix_iff]; exact decide_eq_decide.2 h3.symm
  unfold hid2 hidB
  rw [e1, e3]
  simp only [List.getElem?_cons_zero, Option.some.injEq]
  rw [a1, a2, a3, Bool.and_comm]
theorem mts_cvs9 : ∀ (F N : List Txt), [35] ∉ N → mts F N = cvs F N
  | [], N, _ => by rw [mts_nil, cvs_nil]
  | x :: F, N, h => by
    by_cases hx : x = [35]
    · subst hx; rw [mts_hash, cvs_hash]
    · cases N with
      | nil => rw [mts_end hx, cvs_end hx]
      | cons y N => rw [mts_go hx, cvs_go hx (fun e => h (by simp [e])), mts_cvs9 F N (fun e => h (by simp [e]))]
theorem name_no_hash {n : Txt} (h : nmE n = 0) : ([35] : Txt) ∉ spl n := fun h' => by
  have h1 := (nmE_iff.1 h).2.2.1 35 (by rw [← jn_spl n]; exact mem_jn9 h' (by simp))
  exact absurd h1 (by decide)
theorem tk_is {f n : Txt} (hf : fcE f = 0) (hn : nmE n = 0) : tkB (spl f) (spl n) = isB f n := by
  unfold tkB isB
  rw [tk_hid hf, mts_cvs9 _ _ (name_no_hash hn)]
theorem any_iff (s cs : Txt) : Lib.containsAny s cs = decide (∃ b ∈ s, b ∈ cs) := by
  unfold Lib.containsAny
  refine decide_eq_decide.2 ?_
  induction s with
  | nil => simp [Lib.indexAny]
  | cons a s ih =>
    have hge := Lib.indexAny_ge cs s
    rw [Lib.indexAny]
    by_cases ha : a ∈ cs
    · have : cs.contains a = true := by simpa using ha
      rw [if_pos this]
      exact ⟨fun _ => ⟨a, by simp, ha⟩, fun _ => Int.le_refl _⟩
    · have : ¬ cs.contains a = true := by simpa using ha
      rw [if_neg this]
      have e : (∃ b ∈ a :: s, b ∈ cs) ↔ ∃ b ∈ s, b ∈ cs := by
        constructor
        · rintro ⟨b, hb, hc⟩
          rcases List.mem_cons.1 hb with rfl | hb
          · exact absurd hc ha
          · exact ⟨b, hb, hc⟩
        · rintro ⟨b, hb, hc⟩; exact ⟨b, List.mem_cons_of_mem _ hb, hc⟩
      rw [e, ← ih]
      by_cases h1 : Lib.indexAny s cs = -1
      · rw [h1]; simp
      · have h2 : (Lib.indexAny s cs == -1) = false := beq_eq_false_iff_ne.2 h1
        rw [h2]
        simp only [Bool.false_eq_true, if_false]
        omega
theorem wild_iff {l : Txt} (h : fcE l = 0) : Lib.containsAny l [43, 35] = (decide (([43] : Txt) ∈ spl l) || decide (([35] : Txt) ∈ spl l)) := by
  rw [any_iff, Bool.eq_iff_iff]
  simp only [decide_eq_true_eq, Bool.or_eq_true]
  constructor
  · rintro ⟨b, hb, hc⟩
    rw [← jn_spl l] at hb
    rcases jn_mem hb with rfl | ⟨x, hx, hbx⟩
    · simp at hc
    · obtain ⟨k, hk⟩ := List.getElem?_of_mem hx
      have hl := lvB_at (fcE_iff.1 h).2.2.2.2 hk
      simp only [List.mem_cons, List.not_mem_nil, or_false] at hc
      rcases hc with rfl | rfl
      · exact .inl (by rw [← hl.1 hbx]; exact hx)
      · exact .inr (by rw [← (hl.2 hbx).1]; exact hx)
  · rintro (h1 | h1)
    · exact ⟨43, by rw [← jn_spl l]; exact mem_jn9 h1 (by simp), by simp⟩
    · exact ⟨35, by rw [← jn_spl l]; exact mem_jn9 h1 (by simp), by simp⟩

theorem split_out (l : Txt) (w : World) (n : Nat) (hn : n = (spl l).length) (hmax : l.length ≤ 1000000) : Calls Tryd.prog 26 #[tx l, tx [47]] w fun e w' => ∃ a, e = .returned (.slice a n n) ∧ TextsAt w' a (spl l) ∧ SlW a n n ∧ Still w w' := by
  subst hn
  refine (split_any l w hmax).mono ?_
  rintro e w' ⟨h1, h2⟩
  have hl := (spl_len l).2
  subst h2
  exact ⟨_, h1, TextsAt.lit _ _ _ (Blk.new w (txs (spl l)) 9), ⟨Nat.le_refl _, by unfold maxLen; omega, fun h => by cases h⟩, (Turned.refl _ _).alloc _⟩

set_option maxHeartbeats 2000000 in
theorem flevels_any (l : Txt) (w : World) (hmax : l.length ≤ 300) : Calls Tryd.prog 10 #[tx l] w (FlvPost w l (flv l).length) := by
  obtain ⟨m, hm⟩ : ∃ m, m = l.length := ⟨_, rfl⟩
  have hsz : (ByteArray.mk l.toArray).size = m := by rw [hm]; exact tx_size l
  have hmm : m ≤ 300 := by omega
  have HP := Lib.hid (fun (V : World) (hf : fcE l ≠ 0) (h1 : Still w V) => show FlvPost w l (flv l).length (.returned (.tuple #[.slice none 0 0, .int .i64 90])) V from ⟨none, 0, by rw [fcE_no hf, flv_no hf]; rfl, by rw [flv_no hf]; exact TextsAt.nil _ _, by rw [flv_no hf]; exact ⟨Nat.le_refl _, by unfold maxLen; omega, fun _ => ⟨rfl, rfl⟩⟩, h1⟩)
  rcases Nat.lt_or_ge 64 m with h64 | h64
  · have hf : fcE l ≠ 0 := fun h => by have := (fcE_iff.1 h).2.1; omega
    have HE := Lib.hid (fun V h1 => HP.out V hf h1)
    obtain ⟨k, hQ⟩ : ∃ k, k = (flv l).length := ⟨_, rfl⟩
    rw [← hQ] at HE ⊢
    unfold tx
    have h64' : (64 : Int) < (m : Int) := by omega
    clear hQ HP hf hm hmax
    go_enter Tryd.func10, Tryd.ntmps10
    go_wp2_with fail
    go_ret2
    exact HE.out _ (Turned.refl _ _)
  · obtain ⟨n, hn⟩ : ∃ n, n = (spl l).length := ⟨_, rfl⟩
    have hnl := spl_len l
    have hn65 : n ≤ 65 := by omega
    have hn1 : 0 < n := by omega
    have HS := Lib.hid (split_out l w n hn (by omega))
    have HT := Lib.hid (fun (W : World) (a : Option Addr) (c : Nat) (h1 : TextsAt W a (spl l)) (h2 : SlW a n c) => tamed_any (spl l) W a n c hn hn1 h1 h2 (by omega))
    have hsm : ∀ x ∈ tmd (spl l), x.length ≤ 300 := fun x hx => by
      obtain ⟨y, hy, e⟩ := tmd_len x hx
      have := mem_jn_len hy
      rw [jn_spl] at this
      omega
    have HO := Lib.hid (fun (W : World) (a : Option Addr) (c : Nat) (h1 : TextsAt W a (tmd (spl l))) (h2 : SlW a n c) => of_any8 (tmd (spl l)) W a n c (by rw [tmd_length]; exact hn) h1 h2 (by omega) hsm)
    have HI := Lib.hid (tame_of l)
    have h64' : ¬ (64 : Int) < (m : Int) := by omega
    rcases ofE_or (tmd (spl l)) with h0 | h0
    · have hf : fcE l = 0 := HI.out.2 h0
      have HE := Lib.hid (fun (V : World) (a : Option Addr) (h1 : TextsAt V a (spl l)) (h2 : SlW a n n) (h3 : Still w V) => show FlvPost w l (flv l).length (.returned (.tuple #[.slice a n n, .int .i64 0])) V from ⟨a, n, by rw [hf, flv_ok hf, ← hn], by rw [flv_ok hf]; exact h1, by rw [flv_ok hf, ← hn]; exact h2, h3⟩)
      rw [h0] at HO
      obtain ⟨k, hQ⟩ : ∃ k, k = (flv l).length := ⟨_, rfl⟩
      rw [← hQ] at HE ⊢
      generalize ofT (tmd (spl l)) = t at HO
      unfold tx at *
      clear hQ HP HI hf h0 hsm hn hnl hm hmax
      go_enter Tryd.func10, Tryd.ntmps10
      go_wp2_with (first
        | (go_at_call 26; ((with_reducible refine HS.out.mono ?_)); rintro e w1 ⟨a1, rfl, hA1, hW1, hS1⟩)
        | (go_at_call 28; ((with_reducible refine (HT.out _ _ _ hA1 hW1).mono ?_)); rintro e w2 ⟨a2, c2, rfl, hA2, hW2, hS2⟩)
        | (go_at_call 27; ((with_reducible refine (HO.out _ _ _ hA2 hW2).mono ?_)); rintro e w3 ⟨rfl, hS3⟩))
      go_ret2
      exact HE.out _ _ (hA1.still (hS2.trans hS3)) hW1 (hS1.trans (hS2.trans hS3))
    · have hf : fcE l ≠ 0 := fun h => by have := HI.out.1 h; omega
      have HE := Lib.hid (fun V h1 => HP.out V hf h1)
      rw [h0] at HO
      obtain ⟨k, hQ⟩ : ∃ k, k = (flv l).length := ⟨_, rfl⟩
      rw [← hQ] at HE ⊢
      generalize ofT (tmd (spl l)) = t at HO
      unfold tx at *
      clear hQ HP HI hf h0 hsm hn hnl hm hmax
      go_enter Tryd.func10, Tryd.ntmps10
      go_wp2_with (first
        | (go_at_call 26; ((with_reducible refine HS.out.mono ?_)); rintro e w1 ⟨a1, rfl, hA1, hW1, hS1⟩)
        | (go_at_call 28; ((with_reducible refine (HT.out _ _ _ hA1 hW1).mono ?_)); rintro e w2 ⟨a2, c2, rfl, hA2, hW2, hS2⟩)
        | (go_at_call 27; ((with_reducible refine (HO.out _ _ _ hA2 hW2).mono ?_)); rintro e w3 ⟨rfl, hS3⟩))
      go_ret2
      exact HE.out _ (hS1.trans (hS2.trans hS3))

theorem fcheck_any (l : Txt) (w : World) (hmax : l.length ≤ 300) : Calls Tryd.prog 15 #[tx l] w fun e w' => e = .returned (.int .i64 (fcE l)) ∧ Still w w' := by
  have H := Lib.hid (flevels_any l w hmax)
  clear hmax
  generalize (flv l).length = n at H
  unfold FlvPost at H
  obtain ⟨r, hr⟩ : ∃ r, r = fcE l := ⟨_, rfl⟩
  rw [← hr] at H ⊢
  clear hr
  unfold tx at *
  go_enter Tryd.func15, Tryd.ntmps15
  go_wp2_with (go_at_call 10; ((with_reducible refine H.out.mono ?_)); rintro e w1 ⟨a, c, rfl, _, _, hS⟩)
  go_ret
  exact ⟨rfl, hS⟩

/-- A filter's levels over a name's, or another filter's. -/
theorem takes_out (F N : List Txt) (w : World) (ao bo : Option Addr) (n m ac bc : Nat) (b : Bool) (hb : b = tkB F N) (hn : n = F.length) (hm : m = N.length) (hn0 : F ≠ []) (hm0 : N ≠ []) (hA : TextsAt w ao F) (hB : TextsAt w bo N) (h1 : n ≤ 1000) (h2 : m ≤ 1000) :
    Calls Tryd.prog 32 #[.slice ao n ac, .slice bo m bc] w fun e w' => e = .returned (.bool b) ∧ Still w w' := by
  subst hb
  exact takes_any F N w ao bo n m ac bc hn hm (by have := List.length_pos_iff.2 hn0; omega) (by have := List.length_pos_iff.2 hm0; omega) hA hB h1 h2

set_option maxHeartbeats 2000000 in
theorem fmatch_any (f n : Txt) (w : World) (hf3 : f.length ≤ 300) (hn3 : n.length ≤ 300) : Calls Tryd.prog 19 #[tx f, tx n] w fun e w' => e = .returned (.tuple #[.bool (mtB f n), .int .i64 (mtE f n)]) ∧ Still w w' := by
  have HF := Lib.hid (flevels_any f w hf3)
  have HN := Lib.hid (fun V => levels_any8 n V (by omega))
  obtain ⟨k, hk⟩ : ∃ k, k = (flv f).length := ⟨_, rfl⟩
  obtain ⟨m, hm⟩ : ∃ m, m = (lvls n).length := ⟨_, rfl⟩
  rw [← hk] at HF
  rw [← hm] at HN
  have hk8 : k ≤ 8 := by rw [hk]; exact flv_len f
  have hm8 : m ≤ 8 := by rw [hm]; exact lvls_len n
  unfold FlvPost at HF
  unfold LevPost at HN
  rcases mtE_or f n with ⟨h0, h1, h2⟩ | ⟨h0, h1⟩ | ⟨h0, h1, h2⟩
  · have e1 := flv_ok h1
    have e2 := lvls_ok h2
    have hb : mtB f n = isB f n := by unfold mtB; rw [h0]; rfl
    rw [hb, h0]
    have hi := tk_is h1 h2
    rw [h1, e1] at HF
    rw [h2, e2] at HN
    rw [e1] at hk
    rw [e2] at hm
    have HT := Lib.hid (fun (W : World) (a b : Option Addr) (c d : Nat) (hA : TextsAt W a (spl f)) (hB : TextsAt W b (spl n)) => takes_out (spl f) (spl n) W a b k m c d (isB f n) hi.symm hk hm (spl_ne f) (spl_ne n) hA hB (by omega) (by omega))
    generalize isB f n = r at *
    clear hk hm h0 h1 h2 e1 e2 hb hi hf3 hn3
    unfold tx at *
    go_enter Tryd.func19, Tryd.ntmps19
    go_wp2_with (first
      | (go_at_call 10; ((with_reducible refine HF.out.mono ?_)); rintro e w1 ⟨a1, c1, rfl, hA1, hW1, hS1⟩)
      | (go_at_call 31; ((with_reducible refine (HN.out _).mono ?_)); rintro e w2 ⟨a2, c2, rfl, hA2, hW2, hS2⟩)
      | (go_at_call 32; ((with_reducible refine (HT.out _ _ _ _ _ (hA1.still hS2) hA2).mono ?_)); rintro e w3 ⟨rfl, hS3⟩))
    go_ret2
    exact ⟨rfl, hS1.trans (hS2.trans hS3)⟩
  · have hb : mtB f n = false := by unfold mtB; rw [h0]; rfl
    rw [hb, h0]
    rw [h1] at HF
    clear hk hm h0 h1 hb hf3 hn3
    unfold tx at *
    go_enter Tryd.func19, Tryd.ntmps19
    go_wp2_with (go_at_call 10; ((with_reducible refine HF.out.mono ?_)); rintro e w1 ⟨a1, c1, rfl, hA1, hW1, hS1⟩)
    go_ret2
    exact ⟨rfl, hS1⟩
  · have hb : mtB f n = false := by unfold mtB; rw [h0]; rfl
    rw [hb, h0]
    rw [h1] at HF
    rw [h2] at HN
    clear hk hm h0 h1 h2 hb hf3 hn3
    unfold tx at *
    go_enter Tryd.func19, Tryd.ntmps19
    go_wp2_with (first
      | (go_at_call 10; ((with_reducible refine HF.out.mono ?_)); rintro e w1 ⟨a1, c1, rfl, hA1, hW1, hS1⟩)
      | (go_at_call 31; ((with_reducible refine (HN.out _).mono ?_)); rintro e w2 ⟨a2, c2, rfl, hA2, hW2, hS2⟩))
    go_ret2
    exact ⟨rfl, hS1.trans hS2⟩

set_option maxHeartbeats 2000000 in
theorem fcovers_any (f n : Txt) (w : World) (hf3 : f.length ≤ 300) (hn3 : n.length ≤ 300) : Calls Tryd.prog 23 #[tx f, tx n] w fun e w' => e = .returned (.tuple #[.bool (cvB f n), .int .i64 (cvE f n)]) ∧ Still w w' := by
  have HF := Lib.hid (flevels_any f w hf3)
  have HN := Lib.hid (fun V => flevels_any n V hn3)
  obtain ⟨k, hk⟩ : ∃ k, k = (flv f).length := ⟨_, rfl⟩
  obtain ⟨m, hm⟩ : ∃ m, m = (flv n).length := ⟨_, rfl⟩
  rw [← hk] at HF
  rw [← hm] at HN
  have hk8 : k ≤ 8 := by rw [hk]; exact flv_len f
  have hm8 : m ≤ 8 := by rw [hm]; exact flv_len n
  unfold FlvPost at HF HN
  rcases fcE_or f with h1 | h1
  · rcases fcE_or n with h2 | h2
    · have h0 : cvE f n = 0 := cvE_iff.2 ⟨h1, h2⟩
      have e1 := flv_ok h1
      have e2 := flv_ok h2
      have hb : cvB f n = tkB (spl f) (spl n) := by unfold cvB tkB; rw [h0, tk_hid h1]; rfl
      rw [hb, h0]
      rw [h1, e1] at HF
      rw [h2, e2] at HN
      rw [e1] at hk
      rw [e2] at hm
      have HT := Lib.hid (fun (W : World) (a b : Option Addr) (c d : Nat) (hA : TextsAt W a (spl f)) (hB : TextsAt W b (spl n)) => takes_out (spl f) (spl n) W a b k m c d _ rfl hk hm (spl_ne f) (spl_ne n) hA hB (by omega) (by omega))
      generalize tkB (spl f) (spl n) = r at *
      clear hk hm h0 h1 h2 e1 e2 hb hf3 hn3
      unfold tx at *
      go_enter Tryd.func23, Tryd.ntmps23
      go_wp2_with (first
        | (go_at_call 10; ((with_reducible refine HF.out.mono ?_)); rintro e w1 ⟨a1, c1, rfl, hA1, hW1, hS1⟩)
        | (go_at_call 10; ((with_reducible refine (HN.out _).mono ?_)); rintro e w2 ⟨a2, c2, rfl, hA2, hW2, hS2⟩)
        | (go_at_call 32; ((with_reducible refine (HT.out _ _ _ _ _ (hA1.still hS2) hA2).mono ?_)); rintro e w3 ⟨rfl, hS3⟩))
      go_ret2
      exact ⟨rfl, hS1.trans (hS2.trans hS3)⟩
    · have h0 : cvE f n = 90 := (cvE_or f n).resolve_left (fun h => by have := (cvE_iff.1 h).2; omega)
      have hb : cvB f n = false := by unfold cvB; rw [h0]; rfl
      rw [hb, h0]
      rw [h1] at HF
      rw [h2] at HN
      clear hk hm h0 h1 h2 hb hf3 hn3
      unfold tx at *
      go_enter Tryd.func23, Tryd.ntmps23
      go_wp2_with (first
        | (go_at_call 10; ((with_reducible refine HF.out.mono ?_)); rintro e w1 ⟨a1, c1, rfl, hA1, hW1, hS1⟩)
        | (go_at_call 10; ((with_reducible refine (HN.out _).mono ?_)); rintro e w2 ⟨a2, c2, rfl, hA2, hW2, hS2⟩))
      go_ret2
      exact ⟨rfl, hS1.trans hS2⟩
  · have h0 : cvE f n = 90 := (cvE_or f n).resolve_left (fun h => by have := (cvE_iff.1 h).1; omega)
    have hb : cvB f n = false := by unfold cvB; rw [h0]; rfl
    rw [hb, h0]
    rw [h1] at HF
    clear hk hm h0 h1 hb hf3 hn3
    unfold tx at *
    go_enter Tryd.func23, Tryd.ntmps23
    go_wp2_with (go_at_call 10; ((with_reducible refine HF.out.mono ?_)); rintro e w1 ⟨a1, c1, rfl, hA1, hW1, hS1⟩)
    go_ret2
    exact ⟨rfl, hS1⟩

set_option maxHeartbeats 2000000 in
theorem fwild_any (l : Txt) (w : World) (hmax : l.length ≤ 300) : Calls Tryd.prog 16 #[tx l] w fun e w' => e = .returned (.bool (wldB l)) ∧ Still w w' := by
  have HC := Lib.hid (fcheck_any l w hmax)
  obtain ⟨r, hr⟩ : ∃ r, r = wldB l := ⟨_, rfl⟩
  rw [← hr]
  rcases fcE_or l with h1 | h1
  · have hr' : r = Lib.containsAny l [43, 35] := by rw [hr, wild_iff h1, wldB, h1]; rfl
    have hsz : (ByteArray.mk l.toArray).size = l.length := tx_size l
    have has : ∀ (j : Nat) (b : UInt8), l[j]? = some b → b.toNat < 128 := fun j b hj => by
      have := (fcE_iff.1 h1).2.2.1 b (List.mem_of_getElem? hj)
      simp only [fcC, Bool.and_eq_true, decide_eq_true_eq] at this
      omega
    have HA := Lib.hid (fun V : World => (Tryd.strings_ContainsAny_laid ⟨l.toArray⟩ ⟨#[43, 35]⟩ V (by rw [hsz]; omega) (by decide) has (by intro j b hj; match j, hj with | 0, hj => (cases hj; decide) | 1, hj => (cases hj; decide))).mono (P := Tryd.prog) fun e w' ⟨h2, h3⟩ => show e = Ending.returned (.bool r) ∧ Still V w' from ⟨h2.trans (by rw [hr']), below_turned h3 (Nat.le_refl _)⟩)
    rw [h1] at HC
    clear hr hr' hsz has h1 hmax
    unfold tx at *
    go_enter Tryd.func16, Tryd.ntmps16
    go_wp2_with (first
      | (go_at_call 15; ((with_reducible refine HC.out.mono ?_)); rintro e w1 ⟨rfl, hS1⟩)
      | (go_at_call 30; ((with_reducible refine (HA.out _).mono ?_)); rintro e w2 ⟨rfl, hS2⟩))
    go_ret
    exact ⟨rfl, hS1.trans hS2⟩
  · have hr' : r = false := by rw [hr, wldB, h1]; rfl
    rw [h1] at HC
    rw [hr']
    clear hr hr' h1 hmax
    unfold tx at *
    go_enter Tryd.func16, Tryd.ntmps16
    go_wp2_with (go_at_call 15; ((with_reducible refine HC.out.mono ?_)); rintro e w1 ⟨rfl, hS1⟩)
    go_ret
    exact ⟨rfl, hS1⟩
end Go.Proofs.YtoailhkgailhhaaDoor
