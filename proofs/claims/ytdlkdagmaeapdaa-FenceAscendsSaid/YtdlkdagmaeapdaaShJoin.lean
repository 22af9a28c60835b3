/- Plain mathematics of shares: one member more, one member less. No condition. -/
import Derived.Test.YtdlkdagmaeapdaaShGive
namespace Go.Proofs.Ytdlkdagmaeapdaa
open Go.RowKit
set_option linter.unusedVariables false

/-! ### Places in a list that has one more at t -/
def emb (t k : Nat) : Nat := if k < t then k else k + 1
def del (t k : Nat) : Option Nat := if k = t then none else if k < t then some k else some (k - 1)
theorem emb_ne (t k : Nat) : emb t k ≠ t := by unfold emb; split <;> omega
theorem emb_lt {n t k : Nat} (ht : t ≤ n) (hk : k < n) : emb t k < n + 1 := by unfold emb; split <;> omega
theorem emb_inj {t a b : Nat} (h : emb t a = emb t b) : a = b := by unfold emb at h; split at h <;> split at h <;> omega
theorem del_emb (t k : Nat) : del t (emb t k) = some k := by
  unfold del
  rw [if_neg (emb_ne t k)]
  unfold emb
  by_cases h : k < t
  · rw [if_pos h, if_pos h]
  · rw [if_neg h, if_neg (by omega)]; simp
theorem del_self (t : Nat) : del t t = none := by unfold del; rw [if_pos rfl]
theorem emb_del {n t j : Nat} (ht : t ≤ n) (hj : j < n + 1) (h : j ≠ t) : ∃ k, k < n ∧ emb t k = j ∧ del t j = some k := by
  by_cases hl : j < t
  · have e : emb t j = j := by unfold emb; rw [if_pos hl]
    exact ⟨j, by omega, e, by have := del_emb t j; rwa [e] at this⟩
  · have e : emb t (j - 1) = j := by unfold emb; rw [if_neg (by omega)]; omega
    exact ⟨j - 1, by omega, e, by have := del_emb t (j - 1); rwa [e] at this⟩
theorem sumTo_emb (f : Nat → Nat) (t : Nat) : ∀ {n : Nat}, t ≤ n → sumTo (n + 1) f = sumTo n (fun k => f (emb t k)) + f t
  | 0, h => by
    have : t = 0 := by omega
    subst this; rfl
  | n + 1, h => by
    by_cases ht : t = n + 1
    · subst ht
      rw [sumTo, sumTo_congr (f := f) (g := fun k => f (emb (n + 1) k)) (fun k hk => by unfold emb; rw [if_pos hk])]
    · rw [sumTo, sumTo_emb f t (n := n) (by omega), sumTo, show emb t n = n + 1 from by unfold emb; rw [if_neg (by omega)]]; omega
def cntP (m : Nat) (p : Nat → Bool) : Nat := ((List.range m).filter p).length
theorem cntP_emb (p : Nat → Bool) {t n : Nat} (ht : t ≤ n) : cntP (n + 1) p = cntP n (fun k => p (emb t k)) + if p t = true then 1 else 0 := by
  unfold cntP
  rw [← sumTo_if, ← sumTo_if, sumTo_emb _ t ht]
theorem cntP_le {m : Nat} {p q : Nat → Bool} (h : ∀ k, k < m → p k = true → q k = true) : cntP m p ≤ cntP m q := flt_le (fun i hi => h i (List.mem_range.1 hi))
theorem cntP_lt {m a : Nat} {p q : Nat → Bool} (h : ∀ k, k < m → p k = true → q k = true) (ha : a < m) (hq : q a = true) (hp : p a = false) : cntP m p < cntP m q := flt_lt (fun i hi => h i (List.mem_range.1 hi)) (List.mem_range.2 ha) hq hp
/-- Of what was given just the rest have one more. -/
theorem more_count (n m : Nat) (h c : Nat → Nat) (hm : 0 < m) (hc : ∀ k, k < m → c k = quotaN n m h k) : cntP m (fun k => decide (c k = n / m + 1)) = n % m := by
  have h1 := ahead_count (m := m) (r := n % m) h (Nat.le_of_lt (Nat.mod_lt _ hm))
  rw [← h1]
  unfold cntP
  rw [List.filter_congr (fun k hk => ?_)]
  have e := hc k (List.mem_range.1 hk)
  unfold quotaN at e
  by_cases ha : aheadN m h k < n % m
  · rw [if_pos ha] at e; simp [e, ha]
  · rw [if_neg ha] at e; simp [e, ha]
theorem div_next (p n : Nat) (hn : 0 < n) : p / (n + 1) ≤ p / n := Nat.div_le_div_left (by omega) hn
theorem mod_next {p n : Nat} (hn : 0 < n) (h : p / (n + 1) = p / n) : p % (n + 1) ≤ p % n := by
  have h1 := Nat.div_add_mod p n
  have h2 := Nat.div_add_mod p (n + 1)
  rw [h, Nat.add_mul, Nat.one_mul] at h2
  generalize n * (p / n) = x at h1 h2
  generalize p / n = y at h2
  generalize p % n = u at h1 ⊢
  generalize p % (n + 1) = v at h2 ⊢
  omega
/-- One more: no quota is above what each has. -/
theorem join_le {p n t : Nat} {h a c : Nat → Nat} (hn : 0 < n) (ht : t ≤ n) (ha : ∀ k, k < n → a k = quotaN p n h k) (hc : ∀ k, k < n → c (emb t k) = a k) {k : Nat} (hk : k < n) :
    quotaN p (n + 1) c (emb t k) ≤ a k := by
  have h1 := quota_ge p n h k
  have h2 := quota_ge p (n + 1) c (emb t k)
  have h3 := div_next p n hn
  have e := ha k hk
  by_cases hq : p / (n + 1) = p / n
  · by_cases hb : a k = p / n + 1
    · omega
    · have hm := mod_next hn hq
      have h4 := more_count p n h a hn ha
      have h5 : cntP n (fun j => decide (a j = p / n + 1)) ≤ aheadN (n + 1) c (emb t k) := by
        show _ ≤ cntP (n + 1) (fun j => bef c j (emb t k))
        rw [cntP_emb _ ht]
        refine Nat.le_trans (cntP_le (fun j hj hp => ?_)) (Nat.le_add_right _ _)
        have hp : a j = p / n + 1 := by simpa using hp
        exact bef_iff.2 (.inl (by rw [hc k hk, hc j hj]; omega))
      have h6 : quotaN p (n + 1) c (emb t k) = p / (n + 1) := by unfold quotaN; rw [if_neg (by omega)]; rfl
      omega
  · omega
/-- One less: no quota is below what each has. -/
theorem leave_le {p n t : Nat} {h b c : Nat → Nat} (hn : 0 < n) (ht : t ≤ n) (hb : ∀ k, k < n + 1 → b k = quotaN p (n + 1) h k) (hc : ∀ k, k < n → c k = b (emb t k)) {k : Nat} (hk : k < n) :
    b (emb t k) ≤ quotaN p n c k := by
  have h1 := quota_ge p (n + 1) h (emb t k)
  have h2 := quota_ge p n c k
  have h3 := div_next p n hn
  have e := hb _ (emb_lt ht hk)
  by_cases hq : p / (n + 1) = p / n
  · by_cases hk1 : b (emb t k) = p / n + 1
    · have hm := mod_next hn hq
      have h4 := more_count p (n + 1) h b (by omega) hb
      have h5 : aheadN n c k < cntP n (fun j => decide (b (emb t j) = p / n + 1)) := by
        show cntP n (fun j => bef c j k) < _
        refine cntP_lt (a := k) (fun j hj hp => ?_) hk (by simpa using hk1) ?_
        · have hp := bef_iff.1 hp
          rw [hc j hj, hc k hk] at hp
          have := quota_ge p (n + 1) h (emb t j)
          have := hb _ (emb_lt ht hj)
          simp; omega
        · cases hx : bef c k k with
          | false => rfl
          | true => have := bef_iff.1 hx; omega
      have h6 := cntP_emb (fun j => decide (b j = p / n + 1)) ht
      rw [hq] at h4
      have h7 : cntP n (fun j => decide (b (emb t j) = p / n + 1)) ≤ p % n := by omega
      have h8 : quotaN p n c k = p / n + 1 := by unfold quotaN; rw [if_pos (by omega)]
      omega
    · omega
  · omega

/-! ### Owners anew -/
def embL (t : Nat) (l : List (Option Nat)) : List (Option Nat) := l.map (fun o => o.map (emb t))
def delL (t : Nat) (l : List (Option Nat)) : List (Option Nat) := l.map (fun o => o.bind (del t))
theorem cnt_embL (t k : Nat) : ∀ l : List (Option Nat), cntO (embL t l) (emb t k) = cntO l k
  | [] => rfl
  | o :: l => by
    show cntO (o.map (emb t) :: embL t l) (emb t k) = _
    rw [cntO_cons, cntO_cons, cnt_embL t k l]
    cases o with
    | none => simp
    | some j =>
      by_cases h : j = k
      · subst h; simp
      · rw [if_neg (by simpa using fun e => h (emb_inj e)), if_neg (by simpa using h)]
theorem cnt_embL_self (t : Nat) : ∀ l : List (Option Nat), cntO (embL t l) t = 0
  | [] => rfl
  | o :: l => by
    show cntO (o.map (emb t) :: embL t l) t = _
    rw [cntO_cons, cnt_embL_self t l]
    cases o with
    | none => simp
    | some j => rw [if_neg (by simpa using emb_ne t j)]
theorem del_some {t j k : Nat} : del t j = some k ↔ j = emb t k := by
  constructor
  · intro h
    unfold del at h
    split at h
    · cases h
    · split at h
      · cases h; rename_i h2; unfold emb; rw [if_pos h2]
      · cases h; unfold emb; rw [if_neg (by omega)]; omega
  · rintro rfl; exact del_emb t k
theorem cnt_delL (t k : Nat) : ∀ l : List (Option Nat), cntO (delL t l) k = cntO l (emb t k)
  | [] => rfl
  | o :: l => by
    show cntO (o.bind (del t) :: delL t l) k = _
    rw [cntO_cons, cntO_cons, cnt_delL t k l]
    cases o with
    | none => simp
    | some j =>
      by_cases h : j = emb t k
      · subst h; rw [if_pos (by simpa using del_emb t k), if_pos rfl]
      · rw [if_neg (by simpa using fun e => h (del_some.1 e)), if_neg (by simpa using h)]
/-- As many here as there, and all of these there: the same. -/
theorem cnt_same {k : Nat} : ∀ {l r : List (Option Nat)}, (∀ i : Nat, l[i]? = some (some k) → r[i]? = some (some k)) → cntO r k ≤ cntO l k → l.length = r.length → ∀ i : Nat, r[i]? = some (some k) → l[i]? = some (some k)
  | [], [], _, _, _, i, h => h
  | [], _ :: _, _, _, h, _, _ => by simp at h
  | _ :: _, [], _, _, h, _, _ => by simp at h
  | a :: l, b :: r, hs, hc, hl, i, h => by
    have hs' : ∀ i : Nat, l[i]? = some (some k) → r[i]? = some (some k) := fun i hi => by
      have := hs (i + 1) (by simpa using hi); simpa using this
    have hge : ∀ {l r : List (Option Nat)}, (∀ i : Nat, l[i]? = some (some k) → r[i]? = some (some k)) → cntO l k ≤ cntO r k := by
      intro l
      induction l with
      | nil => intro r _; rw [cntO_nil]; omega
      | cons a l ih =>
        intro r hs
        cases r with
        | nil =>
          have : a ≠ some k := fun e => by have := hs 0 (by simp [e]); simp at this
          have h2 := ih (r := []) (fun i hi => by have := hs (i + 1) (by simpa using hi); simp at this)
          rw [cntO_cons, if_neg this]; omega
        | cons b r =>
          have h2 := ih (r := r) (fun i hi => by have := hs (i + 1) (by simpa using hi); simpa using this)
          rw [cntO_cons, cntO_cons]
          by_cases ha : a = some k
          · have : b = some k := by have := hs 0 (by simp [ha]); simpa using this
            rw [if_pos ha, if_pos this]; omega
          · rw [if_neg ha]; omega
    rw [cntO_cons, cntO_cons] at hc
    have h2 := hge hs'
    have hab : b = some k → a = some k := fun hb => by
      by_cases ha : a = some k
      · exact ha
      · rw [if_pos hb, if_neg ha] at hc; omega
    cases i with
    | zero => simp at h ⊢; exact hab h
    | succ i =>
      rw [List.getElem?_cons_succ] at h ⊢
      refine cnt_same (l := l) (r := r) hs' ?_ (by simpa using hl) i h
      by_cases hb : b = some k
      · rw [if_pos hb, if_pos (hab hb)] at hc; omega
      · rw [if_neg hb] at hc
        by_cases ha : a = some k
        · exact absurd (by have := hs 0 (by simp [ha]); simpa using this) hb
        · rw [if_neg ha] at hc; omega
/-- All have somebody, and as many as shares were given. -/
structure Given (n : Nat) (who : List (Option Nat)) (h : Nat → Nat) : Prop where
  all : ∀ o, o ∈ who → ∃ k, k < n ∧ o = some k
  cnt : ∀ k, k < n → cntO who k = quotaN who.length n h k
theorem AsgO.given {m : Nat} {who out : List (Option Nat)} (A : AsgO m who out) : Given m out (cntO who) :=
  ⟨A.all, fun k hk => by rw [A.cnt k hk, A.len]; rfl⟩
theorem Given.okE {n t : Nat} {who : List (Option Nat)} {h : Nat → Nat} (G : Given n who h) (ht : t ≤ n) : okW (n + 1) (embL t who) := fun o ho => by
  obtain ⟨x, hx, rfl⟩ := List.mem_map.1 ho
  obtain ⟨k, hk, rfl⟩ := G.all x hx
  exact .inr ⟨_, emb_lt ht hk, rfl⟩
theorem Given.okD {n t : Nat} {who : List (Option Nat)} {h : Nat → Nat} (G : Given (n + 1) who h) (ht : t ≤ n) : okW n (delL t who) := fun o ho => by
  obtain ⟨x, hx, rfl⟩ := List.mem_map.1 ho
  obtain ⟨j, hj, rfl⟩ := G.all x hx
  by_cases hjt : j = t
  · subst hjt; exact .inl (by simpa using del_self j)
  · obtain ⟨k, hk, _, e⟩ := emb_del ht hj hjt
    exact .inr ⟨k, hk, by simpa using e⟩
/-- One member comes: just what it gets has moved. -/
theorem join_moves {n t : Nat} {who : List (Option Nat)} {h : Nat → Nat} (hn : 0 < n) (ht : t ≤ n) (G : Given n who h) {i : Nat} (hi : i < who.length) :
    (∃ k, k < n ∧ who[i]? = some (some k) ∧ (asgO (n + 1) (embL t who))[i]? = some (some (emb t k))) ∨ (asgO (n + 1) (embL t who))[i]? = some (some t) := by
  have A := asg_main (m := n + 1) (by omega) (G.okE ht)
  have hlen : (embL t who).length = who.length := List.length_map _
  obtain ⟨o, ho⟩ := get_some (l := asgO (n + 1) (embL t who)) (i := i) (by rw [A.len, hlen]; exact hi)
  obtain ⟨j, hj, rfl⟩ := A.all o (List.mem_of_getElem? ho)
  by_cases hjt : j = t
  · subst hjt; exact .inr ho
  · obtain ⟨k, hk, rfl, _⟩ := emb_del ht hj hjt
    have hq : quoO (n + 1) (embL t who) (emb t k) ≤ cntO (embL t who) (emb t k) := by
      show quotaN (embL t who).length (n + 1) (cntO (embL t who)) (emb t k) ≤ _
      rw [cnt_embL, hlen]
      exact join_le hn ht G.cnt (fun k _ => cnt_embL t k who) hk
    have h1 := cnt_same (k := emb t k) (l := keptO (n + 1) (embL t who)) (r := asgO (n + 1) (embL t who)) (fun i hi => (A.stay i _ hi).2) (by rw [A.cnt _ hj, A.kept]; omega)
      (by rw [A.len]; exact keep_len _ _ _) i ho
    have h2 := (A.stay i _ h1).1
    refine .inl ⟨k, hk, ?_, ho⟩
    obtain ⟨x, hx⟩ := get_some (l := who) (i := i) hi
    obtain ⟨y, hy, rfl⟩ := G.all x (List.mem_of_getElem? hx)
    unfold embL at h2
    rw [List.getElem?_map, hx] at h2
    have : emb t y = emb t k := by simpa using h2
    rw [hx, emb_inj this]
theorem join_gets {n t : Nat} {who : List (Option Nat)} {h : Nat → Nat} (hn : 0 < n) (ht : t ≤ n) (G : Given n who h) :
    who.length / (n + 1) ≤ cntO (asgO (n + 1) (embL t who)) t ∧ cntO (asgO (n + 1) (embL t who)) t ≤ who.length / (n + 1) + 1 := by
  have A := asg_main (m := n + 1) (by omega) (G.okE ht)
  have hlen : (embL t who).length = who.length := List.length_map _
  rw [A.cnt t (by omega)]
  have := quota_ge (embL t who).length (n + 1) (cntO (embL t who)) t
  rw [hlen] at this
  unfold quoO
  rw [hlen]; exact this
/-- One member goes: just its own move. -/
theorem leave_moves {n t : Nat} {who : List (Option Nat)} {h : Nat → Nat} (hn : 0 < n) (ht : t ≤ n) (G : Given (n + 1) who h) {i : Nat} {k : Nat} (hk : k < n) (hi : who[i]? = some (some (emb t k))) :
    (asgO n (delL t who))[i]? = some (some k) := by
  have A := asg_main (m := n) hn (G.okD ht)
  have hlen : (delL t who).length = who.length := List.length_map _
  refine A.keep i k ?_ ?_
  · show _ ≤ quotaN (delL t who).length n (cntO (delL t who)) k
    rw [cnt_delL, hlen]
    exact leave_le hn ht G.cnt (fun k _ => cnt_delL t k who) hk
  · unfold delL
    rw [List.getElem?_map, hi]
    simp [del_emb]
end Go.Proofs.Ytdlkdagmaeapdaa
