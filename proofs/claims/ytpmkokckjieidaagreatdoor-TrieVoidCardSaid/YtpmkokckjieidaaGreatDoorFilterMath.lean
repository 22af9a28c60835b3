/- What follows of plain filters: covers and matches, names as filters, a filter with all below it. No condition. -/
import Derived.Test.YtpmkokckjieidaaGreatDoorFilter
namespace Go.Proofs.YtpmkokckjieidaaGreatDoor
open Go.RowKit
set_option linter.unusedVariables false
set_option linter.unusedSimpArgs false

theorem hidB_iff {f n : Txt} : hidB f n = true ↔ n[0]? = some 36 ∧ (f[0]? = some 43 ∨ f[0]? = some 35) := by simp [hidB]
theorem hidB_self (a : Txt) : hidB a a = false := by
  cases h : hidB a a with
  | false => rfl
  | true =>
    obtain ⟨h1, h2⟩ := hidB_iff.1 h
    rw [h1] at h2
    rcases h2 with h2 | h2 <;> simp at h2
theorem cvs_self : ∀ L : List Txt, cvs L L = true
  | [] => by simp [cvs]
  | x :: r => by
    by_cases h : x = [35]
    · rw [h, cvs_hash]
    · rw [cvs_go h h, cvs_self r]; simp
theorem mts_cvs : ∀ A B N : List Txt, cvs A B = true → mts B N = true → mts A N = true
  | [], B, N, h1, h2 => by
    rw [cvs_nil] at h1
    have : B = [] := by simpa using h1
    rw [this] at h2; exact h2
  | x :: A, B, N, h1, h2 => by
    by_cases hx : x = [35]
    · rw [hx, mts_hash]
    · cases B with
      | nil => rw [cvs_end hx] at h1; cases h1
      | cons y B =>
        by_cases hy : y = [35]
        · rw [hy, cvs_low hx] at h1; cases h1
        · rw [cvs_go hx hy] at h1
          cases N with
          | nil => rw [mts_end hy] at h2; cases h2
          | cons z N =>
            rw [mts_go hy] at h2
            rw [mts_go hx]
            simp only [Bool.and_eq_true, Bool.or_eq_true, decide_eq_true_eq] at h1 h2 ⊢
            refine ⟨?_, mts_cvs A B N h1.2 h2.2⟩
            rcases h1.1 with h | h
            · exact .inl h
            · rcases h2.1 with h' | h'
              · exact .inl (h.trans h')
              · exact .inr (h.trans h')

theorem spl_cons (s : Txt) : ∃ x r, spl s = x :: r := by
  cases h : spl s with
  | nil => exact absurd h (spl_ne s)
  | cons x r => exact ⟨x, r, rfl⟩
theorem jn_cons (x : Txt) (r : List Txt) : jn (x :: r) = x ∨ ∃ t, jn (x :: r) = x ++ 47 :: t := by
  cases r with
  | nil => exact .inl rfl
  | cons y r => exact .inr ⟨jn (y :: r), rfl⟩
theorem first_up {s x : Txt} {r : List Txt} {c : UInt8} (h : spl s = x :: r) (hx : x[0]? = some c) : s[0]? = some c := by
  have e := jn_spl s
  rw [h] at e
  rcases jn_cons x r with h' | ⟨t, h'⟩
  · rw [h'] at e; subst e; exact hx
  · rw [h'] at e; rw [← e, List.getElem?_append_left (get_lt hx)]; exact hx
theorem first_down {s x : Txt} {r : List Txt} {c : UInt8} (h : spl s = x :: r) (hs : s[0]? = some c) (hc : c ≠ 47) : x[0]? = some c := by
  have e := jn_spl s
  rw [h] at e
  rcases jn_cons x r with h' | ⟨t, h'⟩
  · rw [h'] at e; subst e; exact hs
  · rw [h'] at e
    cases x with
    | nil => rw [← e] at hs; simp at hs; exact absurd hs.symm hc
    | cons y x => rw [← e] at hs; simpa using hs
theorem mem_first {x : Txt} {c : UInt8} (h : x[0]? = some c) : c ∈ x := List.mem_of_getElem? h

/-- What a filter that is covered matches its cover matches, too. -/
theorem cov_below {a b n : Txt} (h1 : cvB a b = true) (h2 : mtB b n = true) : mtE a n = 0 ∧ mtB a n = true := by
  unfold cvB at h1
  unfold mtB at h2
  simp only [Bool.and_eq_true, decide_eq_true_eq, Bool.not_eq_true'] at h1 h2
  obtain ⟨h3, h4, h5⟩ := h1
  obtain ⟨h6, h7⟩ := h2
  obtain ⟨fa, fb⟩ := cvE_iff.1 h3
  have hn : nmE n = 0 := by rcases mtE_or b n with h | h | h <;> omega
  have he : mtE a n = 0 := by unfold mtE; rw [if_neg (by omega), if_neg (by omega)]
  refine ⟨he, ?_⟩
  unfold isB at h7
  simp only [Bool.and_eq_true, Bool.not_eq_true'] at h7
  obtain ⟨h8, h9⟩ := h7
  have hm := mts_cvs _ _ _ h5 h9
  have hh : hidB a n = false := by
    cases hh : hidB a n with
    | false => rfl
    | true =>
      exfalso
      obtain ⟨g1, g2⟩ := hidB_iff.1 hh
      have g3 : b[0]? ≠ some 36 := fun e => by
        have := hidB_iff.2 ⟨e, g2⟩
        rw [h4] at this; cases this
      have g4 : b[0]? ≠ some 43 := fun e => by
        have := hidB_iff.2 ⟨g1, .inl e⟩
        rw [h8] at this; cases this
      have g5 : b[0]? ≠ some 35 := fun e => by
        have := hidB_iff.2 ⟨g1, .inr e⟩
        rw [h8] at this; cases this
      obtain ⟨x, r, hx⟩ := spl_cons b
      obtain ⟨y, m, hy⟩ := spl_cons n
      have x1 : x ≠ [35] := fun e => g5 (first_up hx (by rw [e]; rfl))
      have x2 : x ≠ [43] := fun e => g4 (first_up hx (by rw [e]; rfl))
      rw [hx, hy, mts_go x1] at h9
      simp only [Bool.and_eq_true, Bool.or_eq_true, decide_eq_true_eq] at h9
      have e := h9.1.resolve_left x2
      have := first_down hy g1 (by decide)
      rw [← e] at this
      exact g3 (first_up hx this)
  unfold mtB isB
  rw [he, hh, hm]; simp

theorem mem_jn : ∀ {ls : List Txt} {x : Txt} {c : UInt8}, x ∈ ls → c ∈ x → c ∈ jn ls
  | [], _, _, h, _ => by simp at h
  | [y], x, c, h, hc => by simp at h; subst h; exact hc
  | y :: z :: r, x, c, h, hc => by
    rw [jn]
    rcases List.mem_cons.1 h with h | h
    · subst h; simp [hc]
    · have := mem_jn (ls := z :: r) h hc
      simp [this]
theorem mem_spl {s x : Txt} {c : UInt8} (h : x ∈ spl s) (hc : c ∈ x) : c ∈ s := by have := mem_jn h hc; rwa [jn_spl] at this
theorem okC_wild {b : UInt8} (h : okC b = true) : fcC b = true ∧ b ≠ 43 ∧ b ≠ 35 := by
  simp only [okC, Bool.and_eq_true, decide_eq_true_eq] at h
  refine ⟨by simp [fcC]; omega, fun e => ?_, fun e => ?_⟩
  · subst e; exact h.1.2 rfl
  · subst e; exact h.2 rfl
/-- A name's levels bear no wild byte. -/
theorem name_pure {a : Txt} (h : nmE a = 0) : ∀ x ∈ spl a, (43 : UInt8) ∉ x ∧ (35 : UInt8) ∉ x := fun x hx =>
  ⟨fun hc => (okC_wild ((nmE_iff.1 h).2.2.1 _ (mem_spl hx hc))).2.1 rfl, fun hc => (okC_wild ((nmE_iff.1 h).2.2.1 _ (mem_spl hx hc))).2.2 rfl⟩
theorem name_filter {a : Txt} (h : nmE a = 0) : fcE a = 0 := by
  obtain ⟨h1, h2, h3, h4⟩ := nmE_iff.1 h
  exact fcE_iff.2 ⟨h1, h2, fun b hb => (okC_wild (h3 b hb)).1, h4, lvB_of (fun k x hx => ⟨fun e => absurd e (name_pure h x (List.mem_of_getElem? hx)).1, fun e => absurd e (name_pure h x (List.mem_of_getElem? hx)).2⟩)⟩
theorem mts_pure : ∀ (F N : List Txt), (∀ x ∈ F, (43 : UInt8) ∉ x ∧ (35 : UInt8) ∉ x) → mts F N = decide (F = N)
  | [], N, _ => by rw [mts_nil]; cases N <;> simp
  | x :: F, N, h => by
    obtain ⟨h1, h2⟩ := h x (by simp)
    have x1 : x ≠ [35] := fun e => h2 (by rw [e]; simp)
    have x2 : x ≠ [43] := fun e => h1 (by rw [e]; simp)
    cases N with
    | nil => rw [mts_end x1]; simp
    | cons y N =>
      rw [mts_go x1, mts_pure F N (fun z hz => h z (by simp [hz]))]
      by_cases e1 : x = y <;> by_cases e2 : F = N <;> simp [e1, e2, x2]
theorem name_match {a b : Txt} (ha : nmE a = 0) (hb : nmE b = 0) : mtE a b = 0 ∧ mtB a b = decide (a = b) ∧ wldB a = false := by
  have he : mtE a b = 0 := by unfold mtE; rw [if_neg (by rw [name_filter ha]; simp), if_neg (by omega)]
  obtain ⟨h1, h2, h3, h4⟩ := nmE_iff.1 ha
  have hh : hidB a b = false := by
    cases hh : hidB a b with
    | false => rfl
    | true =>
      obtain ⟨_, g2⟩ := hidB_iff.1 hh
      rcases g2 with g2 | g2
      · exact absurd rfl (okC_wild (h3 _ (mem_first g2))).2.1
      · exact absurd rfl (okC_wild (h3 _ (mem_first g2))).2.2
  refine ⟨he, ?_, ?_⟩
  · unfold mtB isB
    rw [he, hh, mts_pure _ _ (name_pure ha)]
    simp only [decide_true, Bool.not_false, Bool.true_and]
    by_cases e : a = b
    · subst e; simp
    · have : spl a ≠ spl b := fun h => e (by rw [← jn_spl a, h, jn_spl])
      simp [e, this]
  · unfold wldB
    have w1 : ([43] : Txt) ∉ spl a := fun h => (name_pure ha _ h).1 (by simp)
    have w2 : ([35] : Txt) ∉ spl a := fun h => (name_pure ha _ h).2 (by simp)
    simp [w1, w2]
theorem hash_match {a : Txt} (ha : nmE a = 0) : mtE [35] a = 0 ∧ mtB [35] a = !decide (a[0]? = some 36) := by
  have he : mtE [35] a = 0 := by unfold mtE; rw [if_neg (by decide), if_neg (by omega)]
  refine ⟨he, ?_⟩
  unfold mtB isB hidB
  rw [he, show spl [35] = [[35]] by decide, mts_hash]
  simp
theorem hash_none {a : Txt} (ha : nmE a = 80) : mtE [35] a = 80 := by unfold mtE; rw [if_neg (by decide), if_pos (by omega)]

/-! A filter with all below it -/
theorem spl_snoc (l x : Txt) (hx : (47 : UInt8) ∉ x) : spl (l ++ 47 :: x) = spl l ++ [x] := by
  have h1 : jn (spl l ++ [x]) = l ++ 47 :: x := by rw [jn_snoc _ _ (spl_ne l), jn_spl]
  rw [← h1]
  refine spl_jn (by simp) (fun y hy => ?_)
  rcases List.mem_append.1 hy with h | h
  · exact spl_pure l y h
  · simp at h; subst h; exact hx
theorem jn_last {ls : List Txt} {x : Txt} {c : UInt8} (h : ls[ls.length - 1]? = some (x ++ [c])) : (jn ls)[(jn ls).length - 1]? = some c := by
  have hne : ls ≠ [] := fun e => by subst e; simp at h
  obtain ⟨d, y, e⟩ : ∃ d y, ls = d ++ [y] := ⟨ls.dropLast, ls.getLast hne, (List.dropLast_concat_getLast hne).symm⟩
  subst e
  rw [List.length_append] at h
  simp at h
  subst h
  rw [jn_grow]
  simp
/-- No level of it is # where its last byte is none. -/
theorem no_hash {f : Txt} (hf : fcE f = 0) (hl : f[f.length - 1]? ≠ some 35) : ∀ x ∈ spl f, (35 : UInt8) ∉ x := by
  intro x hx hc
  obtain ⟨i, hi⟩ := List.getElem?_of_mem hx
  obtain ⟨h1, h2⟩ := (lvB_at (fcE_iff.1 hf).2.2.2.2 hi).2 hc
  refine hl ?_
  have := jn_last (ls := spl f) (x := []) (c := 35) (by rw [show (spl f).length - 1 = i by omega, hi, h1]; rfl)
  rwa [jn_spl] at this
theorem par_filter {f : Txt} (hf : fcE f = 0) (hl : f[f.length - 1]? ≠ some 35) (h62 : f.length ≤ 62) (h8 : (spl f).length ≠ 8) : fcE (f ++ [47, 35]) = 0 ∧ spl (f ++ [47, 35]) = spl f ++ [[35]] := by
  have e := spl_snoc f [35] (by decide)
  obtain ⟨h1, h2, h3, h4, h5⟩ := fcE_iff.1 hf
  refine ⟨fcE_iff.2 ⟨by simp, by rw [List.length_append]; simp; omega, fun b hb => ?_, by rw [e, List.length_append]; simp; omega, ?_⟩, e⟩
  · rcases List.mem_append.1 hb with h | h
    · exact h3 b h
    · simp at h; rcases h with h | h <;> subst h <;> decide
  · rw [e]
    refine lvB_of (fun k x hx => ?_)
    rcases Nat.lt_or_ge k (spl f).length with hk | hk
    · rw [List.getElem?_append_left hk] at hx
      exact ⟨(lvB_at h5 hx).1, fun hc => absurd hc (no_hash hf hl x (List.mem_of_getElem? hx))⟩
    · rw [List.getElem?_append_right hk] at hx
      have hk0 : k - (spl f).length = 0 := by
        have := get_lt hx
        simp at this; omega
      rw [hk0] at hx
      simp at hx
      subst hx
      exact ⟨fun hc => absurd hc (by decide), fun _ => ⟨rfl, by rw [List.length_append]; simp; omega⟩⟩
theorem mts_par : ∀ (L N : List Txt), (∀ x ∈ L, x ≠ [35]) → (mts (L ++ [[35]]) N = true ↔ ∃ i, i ≤ N.length ∧ mts L (N.take i) = true)
  | [], N, _ => by
    rw [List.nil_append, mts_hash]
    exact ⟨fun _ => ⟨0, Nat.zero_le _, by simp [mts]⟩, fun _ => rfl⟩
  | x :: L, N, h => by
    have hx := h x (by simp)
    have ih := mts_par L
    cases N with
    | nil =>
      rw [List.cons_append, mts_end hx]
      refine ⟨fun e => (by cases e), fun ⟨i, _, e⟩ => ?_⟩
      rw [List.take_nil, mts_end hx] at e; cases e
    | cons y N =>
      rw [List.cons_append, mts_go hx]
      simp only [Bool.and_eq_true]
      rw [ih N (fun z hz => h z (by simp [hz]))]
      constructor
      · rintro ⟨h1, i, h2, h3⟩
        exact ⟨i + 1, by simp; omega, by rw [List.take_succ_cons, mts_go hx, h1, h3]; rfl⟩
      · rintro ⟨i, h2, h3⟩
        cases i with
        | zero => rw [List.take_zero, mts_end hx] at h3; cases h3
        | succ i =>
          rw [List.take_succ_cons, mts_go hx] at h3
          simp only [Bool.and_eq_true] at h3
          exact ⟨h3.1, i, by simp at h2; omega, h3.2⟩
/-- What the first so many levels of a name tell. -/
def wantI (f n : Txt) (i : Nat) : Bool := if jn ((spl n).take (i + 1)) ≠ [] then mtB f (jn ((spl n).take (i + 1))) else decide (f = [43])
def wantK (f n : Txt) : Nat → Bool
  | 0 => false
  | k + 1 => wantK f n k || wantI f n k
theorem wantK_iff (f n : Txt) : ∀ k, wantK f n k = true ↔ ∃ i, i < k ∧ wantI f n i = true
  | 0 => by simp [wantK]
  | k + 1 => by
    rw [wantK, Bool.or_eq_true, wantK_iff f n k]
    constructor
    · rintro (⟨i, h1, h2⟩ | h)
      · exact ⟨i, by omega, h2⟩
      · exact ⟨k, Nat.lt_succ_self _, h⟩
    · rintro ⟨i, h1, h2⟩
      rcases Nat.lt_succ_iff_lt_or_eq.1 h1 with h | h
      · exact .inl ⟨i, h, h2⟩
      · subst h; exact .inr h2
theorem jn_empty9 {L : List Txt} {d : Nat} (h1 : 1 ≤ d) (h2 : d ≤ L.length) (h : jn (L.take d) = []) : d = 1 ∧ L[0]? = some [] := by
  match L, d with
  | [], d => simp at h2; omega
  | x :: r, 1 => simp [jn] at h; subst h; exact ⟨rfl, rfl⟩
  | [x], d + 2 => simp at h2
  | x :: y :: r, d + 2 => rw [List.take_succ_cons, List.take_succ_cons, jn] at h; simp at h
theorem wantI_is {f n : Txt} (hf : fcE f = 0) (hl : f[f.length - 1]? ≠ some 35) (hn : nmE n = 0) {i : Nat} (hi : i < (spl n).length) :
    (jn ((spl n).take (i + 1)) ≠ [] → mtE f (jn ((spl n).take (i + 1))) = 0) ∧ wantI f n i = (!hidB f n && mts (spl f) ((spl n).take (i + 1))) := by
  have hab := ab_of hn (d := i + 1) (by omega) (by omega)
  obtain ⟨r, hr⟩ := jn_take_pre (spl n) (i + 1)
  rw [jn_spl] at hr
  by_cases hj : jn ((spl n).take (i + 1)) = []
  · refine ⟨fun h => absurd hj h, ?_⟩
    obtain ⟨h1, h2⟩ := jn_empty9 (by omega) (by omega) hj
    obtain rfl : i = 0 := by omega
    obtain ⟨y, m, hy⟩ := spl_cons n
    rw [hy] at h2
    simp at h2
    subst h2
    have hh : hidB f n = false := by
      cases hh : hidB f n with
      | false => rfl
      | true =>
        have := first_down hy (hidB_iff.1 hh).1 (by decide)
        simp at this
    unfold wantI
    rw [if_neg (by simpa using hj), hh, hy]
    obtain ⟨x, q, hx⟩ := spl_cons f
    have hx35 : x ≠ [35] := fun e => no_hash hf hl x (by rw [hx]; simp) (by rw [e]; simp)
    rw [hx]
    simp only [List.take_succ_cons, List.take_zero, Bool.not_false, Bool.true_and]
    rw [mts_go hx35]
    have hq : mts q [] = decide (q = []) := by
      cases q with
      | nil => rw [mts_nil]
      | cons z q => rw [mts_end (fun e => no_hash hf hl z (by rw [hx]; simp) (by rw [e]; simp))]; simp
    rw [hq]
    have hjf := jn_spl f
    rw [hx] at hjf
    by_cases e1 : q = []
    · subst e1
      rw [jn] at hjf
      have hxne : x ≠ [] := fun e => (fcE_iff.1 hf).1 (by rw [← hjf, e])
      rw [← hjf]
      simp [hxne]
    · have : f ≠ [43] := fun e => by
        rcases jn_cons x q with h' | ⟨t, h'⟩
        · cases q with
          | nil => exact e1 rfl
          | cons z q =>
            rw [jn] at hjf
            rw [e] at hjf
            have := congrArg (fun l => (47 : UInt8) ∈ l) hjf
            simp at this
        · rw [h', e] at hjf
          have := congrArg (fun l => (47 : UInt8) ∈ l) hjf
          simp at this
      simp [e1, this]
  · rw [if_neg hj] at hab
    have hnm := (ofE_iff.1 hab).2
    have hsp := (of_back hab).1
    have he : mtE f (jn ((spl n).take (i + 1))) = 0 := by unfold mtE; rw [if_neg (by omega), if_neg (by omega)]
    refine ⟨fun _ => he, ?_⟩
    unfold wantI
    rw [if_pos hj]
    unfold mtB isB
    rw [he, hsp]
    have hfirst : n[0]? = (jn ((spl n).take (i + 1)))[0]? := by
      conv => lhs; rw [hr]
      rw [List.getElem?_append_left (List.length_pos_iff.2 hj)]
    have hh : hidB f (jn ((spl n).take (i + 1))) = hidB f n := by unfold hidB; rw [hfirst]
    rw [hh]; simp
theorem parent_is {f n : Txt} (hf : fcE f = 0) (hl : f[f.length - 1]? ≠ some 35) (h62 : f.length ≤ 62) (h8 : (spl f).length ≠ 8) (hn : nmE n = 0) :
    mtE (f ++ [47, 35]) n = 0 ∧ mtB (f ++ [47, 35]) n = wantK f n (spl n).length := by
  obtain ⟨h1, h2⟩ := par_filter hf hl h62 h8
  have he : mtE (f ++ [47, 35]) n = 0 := by unfold mtE; rw [if_neg (by omega), if_neg (by omega)]
  refine ⟨he, ?_⟩
  have hnh : ∀ x ∈ spl f, x ≠ [35] := fun x hx e => no_hash hf hl x hx (by rw [e]; simp)
  have hm := mts_par (spl f) (spl n) hnh
  have hfn := (fcE_iff.1 hf).1
  have hh : hidB (f ++ [47, 35]) n = hidB f n := by
    unfold hidB
    rw [List.getElem?_append_left (List.length_pos_iff.2 hfn)]
  unfold mtB isB
  rw [he, hh, h2]
  simp only [decide_true, Bool.true_and]
  rw [Bool.eq_iff_iff, Bool.and_eq_true, hm, wantK_iff]
  constructor
  · rintro ⟨h3, i, h4, h5⟩
    cases i with
    | zero =>
      obtain ⟨x, q, hx⟩ := spl_cons f
      rw [hx, List.take_zero, mts_end (hnh x (by rw [hx]; simp))] at h5; cases h5
    | succ i => exact ⟨i, by omega, by rw [(wantI_is hf hl hn (by omega)).2, h5, h3]; rfl⟩
  · rintro ⟨i, h4, h5⟩
    rw [(wantI_is hf hl hn h4).2, Bool.and_eq_true] at h5
    exact ⟨h5.1, i + 1, by omega, h5.2⟩
end Go.Proofs.YtpmkokckjieidaaGreatDoor
