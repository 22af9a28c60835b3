/- The program's filters keep the words that the walks want of them. No condition. -/
import Derived.Test.YtpmkokckjieidaaGreatDoorFltTakes
import Derived.Test.YtpmkokckjieidaaGreatDoorBdName
import Derived.Lib.IndexAny
namespace Go.Proofs.YtpmkokckjieidaaGreatDoor
open Go.RowKit
set_option linter.unusedVariables false
set_option linter.unusedSimpArgs false
set_option maxRecDepth 100000

theorem mem_jn_len : ∀ {L : List Txt} {x : Txt}, x ∈ L → x.length ≤ (jn L).length
  | [], x, h => by simp at h
  | [y], x, h => by simp at h; subst h; exact Nat.le_refl _
  | y :: z :: r, x, h => by
    rw [jn, List.length_append, List.length_cons]
    rcases List.mem_cons.1 h with rfl | h
    · omega
    · have := mem_jn_len h; omega
theorem spl_head (l : Txt) (c : UInt8) (hc : c ≠ 47) : ∃ x r, spl l = x :: r ∧ (l[0]? = some c ↔ x[0]? = some c) := by
  rcases ixb l 47 with ⟨_, h2⟩ | ⟨i, h1, h2, h3, h4⟩
  · exact ⟨l, [], spl_one h2, Iff.rfl⟩
  · refine ⟨l.take i, spl (l.drop (i + 1)), (congrArg spl h3).trans (spl_cut h4), ?_⟩
    conv => lhs; rw [h3]
    cases hx : l.take i with
    | nil => simp [Ne.symm hc]
    | cons a t => simp
theorem prefix_iff (x : Txt) : Lib.hasPrefix x [36] = decide (x[0]? = some 36) := by
  cases x with
  | nil => rfl
  | cons a t =>
    show ((36 : UInt8) == a && List.isPrefixOf [] t) = _
    rw [Bool.eq_iff_iff, List.isPrefixOf]
    simp only [Bool.and_true, beq_iff_eq, List.getElem?_cons_zero, Option.some.injEq, decide_eq_true_eq]
    exact eq_comm
theorem tk_hid {f n : Txt} (hf : fcE f = 0) : hid2 (spl f) (spl n) = hidB f n := by
  obtain ⟨x, r, e1, h1⟩ := spl_head f 43 (by decide)
  obtain ⟨x', r', e1', h2⟩ := spl_head f 35 (by decide)
  obtain ⟨rfl, rfl⟩ : x' = x ∧ r' = r := by rw [e1] at e1'; cases e1'; exact ⟨rfl, rfl⟩
  obtain ⟨y, s, e3, h3⟩ := spl_head n 36 (by decide)
  have hl := lvB_at (fcE_iff.1 hf).2.2.2.2 (k := 0) (x := x') (by rw [e1]; rfl)
  have a1 : decide (x' = [43]) = decide (f[0]? = some 43) := decide_eq_decide.2 ⟨fun e => h1.2 (by rw [e]; rfl), fun e => hl.1 (List.mem_of_getElem? (h1.1 e))⟩
  have a2 : decide (x' = [35]) = decide (f[0]? = some 35) := decide_eq_decide.2 ⟨fun e => h2.2 (by rw [e]; rfl), fun e => (hl.2 (List.mem_of_getElem? (h2.1 e))).1⟩
  have a3 : Lib.hasPrefix y [36] = decide (n[0]? = some 36) := by rw [prefix_iff]; exact decide_eq_decide.2 h3.symm
  unfold hid2 hidB
  rw [e1, e3]
  simp only [List.getElem?_cons_zero, Option.some.injEq]
  rw [a1, a2, a3, Bool.and_comm]
theorem mts_cvs9 : ∀ (F N : List Txt), [35] ∉ N → mts F N = cvs F N
  | [], N, _ => by rw [mts_nil, cvs_nil]
  | x :: F, N, h => by
    by_cases hx : x = [35]
    · subst hx; rw [mts_hash, cvs_hash]
    · cases N with
      | nil => rw [mts_end hx, cvs_end hx]
      | cons y N => rw [mts_go hx, cvs_go hx (fun e => h (by simp [e])), mts_cvs9 F N (fun e => h (by simp [e]))]
theorem name_no_hash {n : Txt} (h : nmE n = 0) : ([35] : Txt) ∉ spl n := fun h' => by
  have h1 := (nmE_iff.1 h).2.2.1 35 (by rw [← jn_spl n]; exact mem_jn9 h' (by simp))
  exact absurd h1 (by decide)
theorem tk_is {f n : Txt} (hf : fcE f = 0) (hn : nmE n = 0) : tkB (spl f) (spl n) = isB f n := by
  unfold tkB isB
  rw [tk_hid hf, mts_cvs9 _ _ (name_no_hash hn)]
theorem any_iff (s cs : Txt) : Lib.containsAny s cs = decide (∃ b ∈ s, b ∈ cs) := by
  unfold Lib.containsAny
  refine decide_eq_decide.2 ?_
  induction s with
  | nil => simp [Lib.indexAny]
  | cons a s ih =>
    have hge := Lib.indexAny_ge cs s
    rw [Lib.indexAny]
    by_cases ha : a ∈ cs
    · have : cs.contains a = true := by simpa using ha
      rw [if_pos this]
      exact ⟨fun _ => ⟨a, by simp, ha⟩, fun _ => Int.le_refl _⟩
    · have : ¬ cs.contains a = true := by simpa using ha
      rw [if_neg this]
      have e : (∃ b ∈ a :: s, b ∈ cs) ↔ ∃ b ∈ s, b ∈ cs := by
        constructor
        · rintro ⟨b, hb, hc⟩
          rcases List.mem_cons.1 hb with rfl | hb
          · exact absurd hc ha
          · exact ⟨b, hb, hc⟩
        · rintro ⟨b, hb, hc⟩; exact ⟨b, List.mem_cons_of_mem _ hb, hc⟩
      rw [e, ← ih]
      by_cases h1 : Lib.indexAny s cs = -1
      · rw [h1]; simp
      · have h2 : (Lib.indexAny s cs == -1) = false := beq_eq_false_iff_ne.2 h1
        rw [h2]
        simp only [Bool.false_eq_true, if_false]
        omega
theorem wild_iff {l : Txt} (h : fcE l = 0) : Lib.containsAny l [43, 35] = (decide (([43] : Txt) ∈ spl l) || decide (([35] : Txt) ∈ spl l)) := by
  rw [any_iff, Bool.eq_iff_iff]
  simp only [decide_eq_true_eq, Bool.or_eq_true]
  constructor
  · rintro ⟨b, hb, hc⟩
    rw [← jn_spl l] at hb
    rcases jn_mem hb with rfl | ⟨x, hx, hbx⟩
    · simp at hc
    · obtain ⟨k, hk⟩ := List.getElem?_of_mem hx
      have hl := lvB_at (fcE_iff.1 h).2.2.2.2 hk
      simp only [List.mem_cons, List.not_mem_nil, or_false] at hc
      rcases hc with rfl | rfl
      · exact .inl (by rw [← hl.1 hbx]; exact hx)
      · exact .inr (by rw [← (hl.2 hbx).1]; exact hx)
  · rintro (h1 | h1)
    · exact ⟨43, by rw [← jn_spl l]; exact mem_jn9 h1 (by simp), by simp⟩
    · exact ⟨35, by rw [← jn_spl l]; exact mem_jn9 h1 (by simp), by simp⟩

theorem split_out (l : Txt) (w : World) (n : Nat) (hn : n = (spl l).length) (hmax : l.length ≤ 1000000) : Calls Tryz.prog 82 #[tx l, tx [47]] w fun e w' => ∃ a, e = .returned (.slice a n n) ∧ TextsAt w' a (spl l) ∧ SlW a n n ∧ Still w w' := by
  subst hn
  refine (split_any l w hmax).mono ?_
  rintro e w' ⟨h1, h2⟩
  have hl := (spl_len l).2
  subst h2
  exact ⟨_, h1, TextsAt.lit _ _ _ (Blk.new w (txs (spl l)) 9), ⟨Nat.le_refl _, by unfold maxLen; omega, fun h => by cases h⟩, (Turned.refl _ _).alloc _⟩

/-- Levels that lie in memory that is new. -/
def FlvFr (w : World) (l : Txt) (n : Nat) (e : Ending) (w' : World) : Prop := ∃ a c, e = .returned (.tuple #[.slice a n c, .int .i64 (fcE l)]) ∧ TextsAt w' a (flv l) ∧ SlW a n c ∧ Still w w' ∧ ∀ x, a = some x → w.heap.size ≤ x.block
theorem split_fresh (l : Txt) (w : World) (n : Nat) (hn : n = (spl l).length) (hmax : l.length ≤ 1000000) : Calls Tryz.prog 82 #[tx l, tx [47]] w fun e w' => ∃ a, e = .returned (.slice a n n) ∧ TextsAt w' a (spl l) ∧ SlW a n n ∧ Still w w' ∧ ∀ x, a = some x → w.heap.size ≤ x.block := by
  subst hn
  refine (split_any l w hmax).mono ?_
  rintro e w' ⟨h1, h2⟩
  have hl := (spl_len l).2
  subst h2
  exact ⟨_, h1, TextsAt.lit _ _ _ (Blk.new w (txs (spl l)) 9), ⟨Nat.le_refl _, by unfold maxLen; omega, fun h => by cases h⟩, (Turned.refl _ _).alloc _, fun x hx => by cases hx; exact Nat.le_refl _⟩

set_option maxHeartbeats 2000000 in
theorem flevels_fr (l : Txt) (w : World) (hmax : l.length ≤ 300) : Calls Tryz.prog 63 #[tx l] w (FlvFr w l (flv l).length) := by
  obtain ⟨m, hm⟩ : ∃ m, m = l.length := ⟨_, rfl⟩
  have hsz : (ByteArray.mk l.toArray).size = m := by rw [hm]; exact tx_size l
  have hmm : m ≤ 300 := by omega
  have HP := Lib.hid (fun (V : World) (hf : fcE l ≠ 0) (h1 : Still w V) => show FlvFr w l (flv l).length (.returned (.tuple #[.slice none 0 0, .int .i64 90])) V from ⟨none, 0, by rw [fcE_no hf, flv_no hf]; rfl, by rw [flv_no hf]; exact TextsAt.nil _ _, by rw [flv_no hf]; exact ⟨Nat.le_refl _, by unfold maxLen; omega, fun _ => ⟨rfl, rfl⟩⟩, h1, fun x hx => by cases hx⟩)
  rcases Nat.lt_or_ge 64 m with h64 | h64
  · have hf : fcE l ≠ 0 := fun h => by have := (fcE_iff.1 h).2.1; omega
    have HE := Lib.hid (fun V h1 => HP.out V hf h1)
    obtain ⟨k, hQ⟩ : ∃ k, k = (flv l).length := ⟨_, rfl⟩
    rw [← hQ] at HE ⊢
    unfold tx
    have h64' : (64 : Int) < (m : Int) := by omega
    clear hQ HP hf hm hmax
    go_enter Tryz.func63, Tryz.ntmps63
    go_wp2_with fail
    go_ret2
    exact HE.out _ (Turned.refl _ _)
  · obtain ⟨n, hn⟩ : ∃ n, n = (spl l).length := ⟨_, rfl⟩
    have hnl := spl_len l
    have hn65 : n ≤ 65 := by omega
    have hn1 : 0 < n := by omega
    have HS := Lib.hid (split_fresh l w n hn (by omega))
    have HT := Lib.hid (fun (W : World) (a : Option Addr) (c : Nat) (h1 : TextsAt W a (spl l)) (h2 : SlW a n c) => tamed_any (spl l) W a n c hn hn1 h1 h2 (by omega))
    have hsm : ∀ x ∈ tmd (spl l), x.length ≤ 300 := fun x hx => by
      obtain ⟨y, hy, e⟩ := tmd_len x hx
      have := mem_jn_len hy
      rw [jn_spl] at this
      omega
    have HO := Lib.hid (fun (W : World) (a : Option Addr) (c : Nat) (h1 : TextsAt W a (tmd (spl l))) (h2 : SlW a n c) => of_any8 (tmd (spl l)) W a n c (by rw [tmd_length]; exact hn) h1 h2 (by omega) hsm)
    have HI := Lib.hid (tame_of l)
    have h64' : ¬ (64 : Int) < (m : Int) := by omega
    rcases ofE_or (tmd (spl l)) with h0 | h0
    · have hf : fcE l = 0 := HI.out.2 h0
      have HE := Lib.hid (fun (V : World) (a : Option Addr) (h1 : TextsAt V a (spl l)) (h2 : SlW a n n) (h3 : Still w V) (h4 : ∀ x, a = some x → w.heap.size ≤ x.block) => show FlvFr w l (flv l).length (.returned (.tuple #[.slice a n n, .int .i64 0])) V from ⟨a, n, by rw [hf, flv_ok hf, ← hn], by rw [flv_ok hf]; exact h1, by rw [flv_ok hf, ← hn]; exact h2, h3, h4⟩)
      rw [h0] at HO
      obtain ⟨k, hQ⟩ : ∃ k, k = (flv l).length := ⟨_, rfl⟩
      rw [← hQ] at HE ⊢
      generalize ofT (tmd (spl l)) = t at HO
      unfold tx at *
      clear hQ HP HI hf h0 hsm hn hnl hm hmax
      go_enter Tryz.func63, Tryz.ntmps63
      go_wp2_with (first
        | (go_at_call 82; ((with_reducible refine HS.out.mono ?_)); rintro e w1 ⟨a1, rfl, hA1, hW1, hS1, hF1⟩)
        | (go_at_call 84; ((with_reducible refine (HT.out _ _ _ hA1 hW1).mono ?_)); rintro e w2 ⟨a2, c2, rfl, hA2, hW2, hS2⟩)
        | (go_at_call 83; ((with_reducible refine (HO.out _ _ _ hA2 hW2).mono ?_)); rintro e w3 ⟨rfl, hS3⟩))
      go_ret2
      exact HE.out _ _ (hA1.still (hS2.trans hS3)) hW1 (hS1.trans (hS2.trans hS3)) hF1
    · have hf : fcE l ≠ 0 := fun h => by have := HI.out.1 h; omega
      have HE := Lib.hid (fun V h1 => HP.out V hf h1)
      rw [h0] at HO
      obtain ⟨k, hQ⟩ : ∃ k, k = (flv l).length := ⟨_, rfl⟩
      rw [← hQ] at HE ⊢
      generalize ofT (tmd (spl l)) = t at HO
      unfold tx at *
      clear hQ HP HI hf h0 hsm hn hnl hm hmax
      go_enter Tryz.func63, Tryz.ntmps63
      go_wp2_with (first
        | (go_at_call 82; ((with_reducible refine HS.out.mono ?_)); rintro e w1 ⟨a1, rfl, hA1, hW1, hS1, hF1⟩)
        | (go_at_call 84; ((with_reducible refine (HT.out _ _ _ hA1 hW1).mono ?_)); rintro e w2 ⟨a2, c2, rfl, hA2, hW2, hS2⟩)
        | (go_at_call 83; ((with_reducible refine (HO.out _ _ _ hA2 hW2).mono ?_)); rintro e w3 ⟨rfl, hS3⟩))
      go_ret2
      exact HE.out _ (hS1.trans (hS2.trans hS3))

theorem flevels_any (l : Txt) (w : World) (hmax : l.length ≤ 300) : Calls Tryz.prog 63 #[tx l] w (FlvPost w l (flv l).length) :=
  (flevels_fr l w hmax).mono fun e w' ⟨a, c, h1, h2, h3, h4, _⟩ => ⟨a, c, h1, h2, h3, h4⟩

end Go.Proofs.YtpmkokckjieidaaGreatDoor