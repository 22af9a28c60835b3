/- Texts: their bytes as lists, cut at strokes and joined again, in order; rows of texts in memory. No condition. -/
import Derived.Test.YtpmkokckjieidaaGreatDoorOwn
import Derived.Test.YtpmkokckjieidaaGreatDoorRead
namespace Go.Proofs.YtpmkokckjieidaaGreatDoor
open Go.RowKit
set_option linter.unusedVariables false
set_option linter.unusedSimpArgs false

abbrev Txt := List UInt8
def tx (l : Txt) : Value := .string ⟨l.toArray⟩

/-- The levels of what is left, behind those that are done and the one at hand. -/
def spF (d : List Txt) (c : Txt) : Txt → List Txt
  | [] => d ++ [c]
  | b :: r => if b = 47 then spF (d ++ [c]) [] r else spF d (c ++ [b]) r
def spl (l : Txt) : List Txt := spF [] [] l
/-- Levels between strokes. -/
def jn : List Txt → Txt
  | [] => []
  | [x] => x
  | x :: y :: r => x ++ 47 :: jn (y :: r)

theorem jn_snoc (c : Txt) : ∀ d : List Txt, d ≠ [] → jn (d ++ [c]) = jn d ++ 47 :: c
  | [], h => absurd rfl h
  | [x], _ => rfl
  | x :: y :: r, _ => by
    have := jn_snoc c (y :: r) (by simp)
    show x ++ 47 :: jn ((y :: r) ++ [c]) = (x ++ 47 :: jn (y :: r)) ++ 47 :: c
    rw [this]; simp
theorem jn_grow (c e : Txt) (d : List Txt) : jn (d ++ [c ++ e]) = jn (d ++ [c]) ++ e := by
  cases d with
  | nil => rfl
  | cons x r => rw [jn_snoc _ _ (by simp), jn_snoc _ _ (by simp)]; simp
theorem jn_spF : ∀ (l : Txt) (d : List Txt) (c : Txt), jn (spF d c l) = jn (d ++ [c]) ++ l
  | [], d, c => by simp [spF]
  | b :: r, d, c => by
    rw [spF]
    split
    · rename_i h
      rw [jn_spF r, jn_snoc [] (d ++ [c]) (by simp), h]; simp
    · rw [jn_spF r, jn_grow]; simp
theorem jn_spl (l : Txt) : jn (spl l) = l := by unfold spl; rw [jn_spF]; rfl
theorem spF_pure : ∀ (l : Txt) (d : List Txt) (c : Txt), (∀ x ∈ d, (47 : UInt8) ∉ x) → (47 : UInt8) ∉ c → ∀ x ∈ spF d c l, (47 : UInt8) ∉ x
  | [], d, c, hd, hc => fun x hx => by
    rw [spF] at hx
    rcases List.mem_append.1 hx with h | h
    · exact hd x h
    · simp at h; subst h; exact hc
  | b :: r, d, c, hd, hc => by
    rw [spF]
    split
    · exact spF_pure r _ _ (fun x hx => by
        rcases List.mem_append.1 hx with h | h
        · exact hd x h
        · simp at h; subst h; exact hc) (by simp)
    · rename_i h
      exact spF_pure r _ _ hd (fun hx => by
        rcases List.mem_append.1 hx with h' | h'
        · exact hc h'
        · simp at h'; exact h h'.symm)
theorem spl_pure (l : Txt) : ∀ x ∈ spl l, (47 : UInt8) ∉ x := spF_pure l [] [] (by simp) (by simp)
theorem spF_skip : ∀ (x : Txt) (d : List Txt) (c r : Txt), (47 : UInt8) ∉ x → spF d c (x ++ r) = spF d (c ++ x) r
  | [], d, c, r, _ => by simp
  | b :: x, d, c, r, h => by
    have h1 : b ≠ 47 := fun e => h (by simp [e])
    have h2 : (47 : UInt8) ∉ x := fun e => h (by simp [e])
    rw [List.cons_append, spF, if_neg h1, spF_skip x _ _ _ h2]; simp
theorem spF_jn : ∀ (ls : List Txt) (d : List Txt), ls ≠ [] → (∀ x ∈ ls, (47 : UInt8) ∉ x) → spF d [] (jn ls) = d ++ ls
  | [], _, h, _ => absurd rfl h
  | [x], d, _, hp => by
    have := spF_skip x d [] [] (hp x (by simp))
    rw [List.append_nil] at this
    rw [jn, this]; rfl
  | x :: y :: r, d, _, hp => by
    rw [jn, spF_skip x d [] _ (hp x (by simp)), spF, if_pos rfl, spF_jn (y :: r) _ (by simp) (fun z hz => hp z (by simp at hz ⊢; exact .inr hz))]
    simp
theorem spl_jn {ls : List Txt} (h : ls ≠ []) (hp : ∀ x ∈ ls, (47 : UInt8) ∉ x) : spl (jn ls) = ls := by unfold spl; rw [spF_jn ls [] h hp]; rfl
theorem spF_len : ∀ (l : Txt) (d : List Txt) (c : Txt), d.length + 1 ≤ (spF d c l).length ∧ (spF d c l).length ≤ d.length + 1 + l.length
  | [], d, c => by simp [spF]
  | b :: r, d, c => by
    rw [spF]
    split
    · have := spF_len r (d ++ [c]) []
      simp only [List.length_append, List.length_cons, List.length_nil] at this ⊢
      omega
    · have := spF_len r d (c ++ [b])
      simp only [List.length_cons] at this ⊢
      omega
theorem spl_len (l : Txt) : 1 ≤ (spl l).length ∧ (spl l).length ≤ l.length + 1 := by
  have := spF_len l [] []
  simp at this
  unfold spl
  omega
theorem spl_ne (l : Txt) : spl l ≠ [] := fun h => by have := (spl_len l).1; rw [h] at this; simp at this
theorem spF_step {l : Txt} {k : Nat} {x : UInt8} (hx : l[k]? = some x) (d : List Txt) (c : Txt) : spF d c (l.drop k) = if x = 47 then spF (d ++ [c]) [] (l.drop (k + 1)) else spF d (c ++ [x]) (l.drop (k + 1)) := by
  obtain ⟨hk, e⟩ := List.getElem?_eq_some_iff.1 hx
  rw [List.drop_eq_getElem_cons hk, e, spF]
theorem jn_take_pre : ∀ (ls : List Txt) (d : Nat), ∃ r, jn ls = jn (ls.take d) ++ r
  | [], d => ⟨[], by simp [jn]⟩
  | x :: ls, 0 => ⟨jn (x :: ls), by simp [jn]⟩
  | [x], d + 1 => ⟨[], by simp [jn]⟩
  | x :: y :: r, 1 => ⟨47 :: jn (y :: r), by simp [jn]⟩
  | x :: y :: r, d + 2 => by
    obtain ⟨t, ht⟩ := jn_take_pre (y :: r) (d + 1)
    refine ⟨t, ?_⟩
    rw [List.take_succ_cons, List.take_succ_cons] at *
    rw [jn, jn, ht]; simp
theorem jn_len_le (ls : List Txt) (d : Nat) : (jn (ls.take d)).length ≤ (jn ls).length := by
  obtain ⟨r, h⟩ := jn_take_pre ls d
  rw [h]; simp

/-! Order -/
theorem bl_irrefl : ∀ x : Txt, Op.bytesLess x x = false
  | [] => rfl
  | a :: x => by simp [Op.bytesLess, bl_irrefl x]
theorem bl_total : ∀ x y : Txt, Op.bytesLess x y = true ∨ x = y ∨ Op.bytesLess y x = true
  | [], [] => .inr (.inl rfl)
  | [], _ :: _ => .inl rfl
  | _ :: _, [] => .inr (.inr rfl)
  | a :: x, b :: y => by
    simp only [Op.bytesLess, Bool.or_eq_true, Bool.and_eq_true, decide_eq_true_eq, beq_iff_eq, List.cons.injEq]
    rcases UInt8.lt_or_lt_of_ne (a := a) (b := b) |> fun f => (Classical.em (a = b)).imp id f with h | h | h
    · subst h
      rcases bl_total x y with h | h | h
      · exact .inl (.inr ⟨rfl, h⟩)
      · exact .inr (.inl ⟨rfl, h⟩)
      · exact .inr (.inr (.inr ⟨rfl, h⟩))
    · exact .inl (.inl h)
    · exact .inr (.inr (.inl h))
theorem bl_trans : ∀ x y z : Txt, Op.bytesLess x y = true → Op.bytesLess y z = true → Op.bytesLess x z = true
  | _, _, [], _, h => by cases ‹List UInt8› <;> simp [Op.bytesLess] at h
  | [], _, _ :: _, _, _ => rfl
  | _ :: _, [], _ :: _, h, _ => by simp [Op.bytesLess] at h
  | a :: x, b :: y, c :: z, h1, h2 => by
    simp only [Op.bytesLess, Bool.or_eq_true, Bool.and_eq_true, decide_eq_true_eq, beq_iff_eq] at h1 h2 ⊢
    rcases h1 with h1 | ⟨rfl, h1⟩
    · rcases h2 with h2 | ⟨rfl, h2⟩
      · exact .inl (UInt8.lt_trans h1 h2)
      · exact .inl h1
    · rcases h2 with h2 | ⟨rfl, h2⟩
      · exact .inl h2
      · exact .inr ⟨rfl, bl_trans x y z h1 h2⟩
theorem bl_asymm {x y : Txt} (h : Op.bytesLess x y = true) : Op.bytesLess y x = false := by
  cases h' : Op.bytesLess y x with
  | false => rfl
  | true => have := bl_trans _ _ _ h h'; rw [bl_irrefl] at this; cases this

/-- Level by level, byte by byte; one that begins the other ahead of it. -/
def cmpL : List Txt → List Txt → Int
  | [], [] => 0
  | [], _ :: _ => -1
  | _ :: _, [] => 1
  | x :: a, y :: b => if Op.bytesLess x y = true then -1 else if Op.bytesLess y x = true then 1 else cmpL a b
theorem cmpL_range : ∀ a b, cmpL a b = -1 ∨ cmpL a b = 0 ∨ cmpL a b = 1
  | [], [] => by simp [cmpL]
  | [], _ :: _ => by simp [cmpL]
  | _ :: _, [] => by simp [cmpL]
  | x :: a, y :: b => by
    rw [cmpL]
    split
    · simp
    · split
      · simp
      · exact cmpL_range a b
theorem cmpL_anti : ∀ a b, cmpL a b = - cmpL b a
  | [], [] => by simp [cmpL]
  | [], _ :: _ => by simp [cmpL]
  | _ :: _, [] => by simp [cmpL]
  | x :: a, y :: b => by
    rw [cmpL, cmpL]
    cases h1 : Op.bytesLess x y with
    | true => rw [bl_asymm h1]; simp
    | false =>
      cases h2 : Op.bytesLess y x with
      | true => simp
      | false => simpa using cmpL_anti a b
theorem cmpL_zero : ∀ a b, cmpL a b = 0 ↔ a = b
  | [], [] => by simp [cmpL]
  | [], _ :: _ => by simp [cmpL]
  | _ :: _, [] => by simp [cmpL]
  | x :: a, y :: b => by
    rw [cmpL]
    cases h1 : Op.bytesLess x y with
    | true =>
      simp only [if_pos, List.cons.injEq]
      constructor
      · intro h; omega
      · rintro ⟨rfl, _⟩; rw [bl_irrefl] at h1; cases h1
    | false =>
      cases h2 : Op.bytesLess y x with
      | true =>
        simp only [List.cons.injEq]
        constructor
        · intro h; simp at h
        · rintro ⟨rfl, _⟩; rw [bl_irrefl] at h2; cases h2
      | false =>
        have e : x = y := by
          rcases bl_total x y with h | h | h
          · rw [h1] at h; cases h
          · exact h
          · rw [h2] at h; cases h
        subst e
        simpa using cmpL_zero a b
/-- a is not behind b, nor b behind c: then a is not behind c, and stands ahead of it just where one of them does. -/
theorem cmpL_le : ∀ a b c, cmpL a b ≤ 0 → cmpL b c ≤ 0 → cmpL a c ≤ 0 ∧ (cmpL a c < 0 ↔ (cmpL a b < 0 ∨ cmpL b c < 0))
  | [], [], c, _, h => by simp only [cmpL] at *; exact ⟨h, by simp⟩
  | [], _ :: _, [], _, h => by simp [cmpL] at h
  | [], _ :: _, _ :: _, _, _ => by simp [cmpL]
  | _ :: _, [], _, h, _ => by simp [cmpL] at h
  | _ :: _, _ :: _, [], _, h => by simp [cmpL] at h
  | x :: a, y :: b, z :: c, h1, h2 => by
    have ih := cmpL_le a b c
    rw [cmpL] at h1 h2 ⊢
    rw [show cmpL (x :: a) (y :: b) = (if Op.bytesLess x y = true then -1 else if Op.bytesLess y x = true then 1 else cmpL a b) from rfl, show cmpL (y :: b) (z :: c) = (if Op.bytesLess y z = true then -1 else if Op.bytesLess z y = true then 1 else cmpL b c) from rfl]
    cases e1 : Op.bytesLess x y with
    | true =>
      cases e2 : Op.bytesLess y z with
      | true => rw [bl_trans _ _ _ e1 e2]; simp
      | false =>
        rw [e2] at h2
        cases e3 : Op.bytesLess z y with
        | true => rw [e3] at h2; simp at h2
        | false =>
          have e : y = z := by
            rcases bl_total y z with h | h | h
            · rw [e2] at h; cases h
            · exact h
            · rw [e3] at h; cases h
          subst e
          rw [e1]; simp
    | false =>
      rw [e1] at h1
      cases e2 : Op.bytesLess y x with
      | true => rw [e2] at h1; simp at h1
      | false =>
        have e : x = y := by
          rcases bl_total x y with h | h | h
          · rw [e1] at h; cases h
          · exact h
          · rw [e2] at h; cases h
        subst e
        rw [e2] at h1
        cases e3 : Op.bytesLess x z with
        | true => simp
        | false =>
          rw [e3] at h2
          cases e4 : Op.bytesLess z x with
          | true => rw [e4] at h2; simp at h2
          | false =>
            rw [e4] at h2
            simp only [Bool.false_eq_true, if_false] at h1 h2 ⊢
            exact ih h1 h2
theorem cmpL_take : ∀ (ls : List Txt) (d : Nat), d ≤ ls.length → cmpL (ls.take d) ls = if d = ls.length then 0 else -1
  | [], d, h => by simp at h; subst h; simp [cmpL]
  | x :: ls, 0, _ => by simp [cmpL]
  | x :: ls, d + 1, h => by
    simp only [List.length_cons] at h ⊢
    rw [List.take_succ_cons, cmpL, bl_irrefl]
    simp only [Bool.false_eq_true, if_false]
    rw [cmpL_take ls d (by omega)]
    by_cases h' : d = ls.length
    · rw [if_pos h', if_pos (by omega)]
    · rw [if_neg h', if_neg (by omega)]
end Go.Proofs.YtpmkokckjieidaaGreatDoor
