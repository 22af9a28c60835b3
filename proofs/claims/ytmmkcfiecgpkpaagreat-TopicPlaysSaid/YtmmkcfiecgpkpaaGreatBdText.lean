/- Texts that lie next to one another, laid into one: each says what it holds. No condition but what each states. -/
import Derived.Test.YtmmkcfiecgpkpaaGreatBdThing
import Derived.Test.YtmmkcfiecgpkpaaGreatBdRead
import Derived.Deep.RegionHeld3
import Derived.Deep.DeepCutAuto
import Derived.Deep.CutBlock
import Derived.Maps.AppendAt
import Derived.BigQuiet

/- Texts: their bytes as lists, cut at strokes and joined again, in order; rows of texts in memory. No condition. -/
namespace Go.Proofs.YtmmkcfiecgpkpaaGreat
open Go.RowKit
set_option linter.unusedVariables false
set_option linter.unusedSimpArgs false

abbrev Txt := List UInt8
def tx (l : Txt) : Value := .string ⟨l.toArray⟩

/-- The levels of what is left, behind those that are done and the one at hand. -/
def spF (d : List Txt) (c : Txt) : Txt → List Txt
  | [] => d ++ [c]
  | b :: r => if b = 47 then spF (d ++ [c]) [] r else spF d (c ++ [b]) r
def spl (l : Txt) : List Txt := spF [] [] l
/-- Levels between strokes. -/
def jn : List Txt → Txt
  | [] => []
  | [x] => x
  | x :: y :: r => x ++ 47 :: jn (y :: r)

theorem jn_snoc (c : Txt) : ∀ d : List Txt, d ≠ [] → jn (d ++ [c]) = jn d ++ 47 :: c
  | [], h => absurd rfl h
  | [x], _ => rfl
  | x :: y :: r, _ => by
    have := jn_snoc c (y :: r) (by simp)
    show x ++ 47 :: jn ((y :: r) ++ [c]) = (x ++ 47 :: jn (y :: r)) ++ 47 :: c
    rw [this]; simp
theorem jn_grow (c e : Txt) (d : List Txt) : jn (d ++ [c ++ e]) = jn (d ++ [c]) ++ e := by
  cases d with
  | nil => rfl
  | cons x r => rw [jn_snoc _ _ (by simp), jn_snoc _ _ (by simp)]; simp
theorem jn_spF : ∀ (l : Txt) (d : List Txt) (c : Txt), jn (spF d c l) = jn (d ++ [c]) ++ l
  | [], d, c => by simp [spF]
  | b :: r, d, c => by
    rw [spF]
    split
    · rename_i h
      rw [jn_spF r, jn_snoc [] (d ++ [c]) (by simp), h]; simp
    · rw [jn_spF r, jn_grow]; simp
theorem jn_spl (l : Txt) : jn (spl l) = l := by unfold spl; rw [jn_spF]; rfl
theorem spF_pure : ∀ (l : Txt) (d : List Txt) (c : Txt), (∀ x ∈ d, (47 : UInt8) ∉ x) → (47 : UInt8) ∉ c → ∀ x ∈ spF d c l, (47 : UInt8) ∉ x
  | [], d, c, hd, hc => fun x hx => by
    rw [spF] at hx
    rcases List.mem_append.1 hx with h | h
    · exact hd x h
    · simp at h; subst h; exact hc
  | b :: r, d, c, hd, hc => by
    rw [spF]
    split
    · exact spF_pure r _ _ (fun x hx => by
        rcases List.mem_append.1 hx with h | h
        · exact hd x h
        · simp at h; subst h; exact hc) (by simp)
    · rename_i h
      exact spF_pure r _ _ hd (fun hx => by
        rcases List.mem_append.1 hx with h' | h'
        · exact hc h'
        · simp at h'; exact h h'.symm)
theorem spl_pure (l : Txt) : ∀ x ∈ spl l, (47 : UInt8) ∉ x := spF_pure l [] [] (by simp) (by simp)
theorem spF_skip : ∀ (x : Txt) (d : List Txt) (c r : Txt), (47 : UInt8) ∉ x → spF d c (x ++ r) = spF d (c ++ x) r
  | [], d, c, r, _ => by simp
  | b :: x, d, c, r, h => by
    have h1 : b ≠ 47 := fun e => h (by simp [e])
    have h2 : (47 : UInt8) ∉ x := fun e => h (by simp [e])
    rw [List.cons_append, spF, if_neg h1, spF_skip x _ _ _ h2]; simp
theorem spF_jn : ∀ (ls : List Txt) (d : List Txt), ls ≠ [] → (∀ x ∈ ls, (47 : UInt8) ∉ x) → spF d [] (jn ls) = d ++ ls
  | [], _, h, _ => absurd rfl h
  | [x], d, _, hp => by
    have := spF_skip x d [] [] (hp x (by simp))
    rw [List.append_nil] at this
    rw [jn, this]; rfl
  | x :: y :: r, d, _, hp => by
    rw [jn, spF_skip x d [] _ (hp x (by simp)), spF, if_pos rfl, spF_jn (y :: r) _ (by simp) (fun z hz => hp z (by simp at hz ⊢; exact .inr hz))]
    simp
theorem spl_jn {ls : List Txt} (h : ls ≠ []) (hp : ∀ x ∈ ls, (47 : UInt8) ∉ x) : spl (jn ls) = ls := by unfold spl; rw [spF_jn ls [] h hp]; rfl
theorem spF_len : ∀ (l : Txt) (d : List Txt) (c : Txt), d.length + 1 ≤ (spF d c l).length ∧ (spF d c l).length ≤ d.length + 1 + l.length
  | [], d, c => by simp [spF]
  | b :: r, d, c => by
    rw [spF]
    split
    · have := spF_len r (d ++ [c]) []
      simp only [List.length_append, List.length_cons, List.length_nil] at this ⊢
      omega
    · have := spF_len r d (c ++ [b])
      simp only [List.length_cons] at this ⊢
      omega
theorem spl_len (l : Txt) : 1 ≤ (spl l).length ∧ (spl l).length ≤ l.length + 1 := by
  have := spF_len l [] []
  simp at this
  unfold spl
  omega
theorem spl_ne (l : Txt) : spl l ≠ [] := fun h => by have := (spl_len l).1; rw [h] at this; simp at this
theorem spF_step {l : Txt} {k : Nat} {x : UInt8} (hx : l[k]? = some x) (d : List Txt) (c : Txt) : spF d c (l.drop k) = if x = 47 then spF (d ++ [c]) [] (l.drop (k + 1)) else spF d (c ++ [x]) (l.drop (k + 1)) := by
  obtain ⟨hk, e⟩ := List.getElem?_eq_some_iff.1 hx
  rw [List.drop_eq_getElem_cons hk, e, spF]
theorem jn_take_pre : ∀ (ls : List Txt) (d : Nat), ∃ r, jn ls = jn (ls.take d) ++ r
  | [], d => ⟨[], by simp [jn]⟩
  | x :: ls, 0 => ⟨jn (x :: ls), by simp [jn]⟩
  | [x], d + 1 => ⟨[], by simp [jn]⟩
  | x :: y :: r, 1 => ⟨47 :: jn (y :: r), by simp [jn]⟩
  | x :: y :: r, d + 2 => by
    obtain ⟨t, ht⟩ := jn_take_pre (y :: r) (d + 1)
    refine ⟨t, ?_⟩
    rw [List.take_succ_cons, List.take_succ_cons] at *
    rw [jn, jn, ht]; simp
theorem jn_len_le (ls : List Txt) (d : Nat) : (jn (ls.take d)).length ≤ (jn ls).length := by
  obtain ⟨r, h⟩ := jn_take_pre ls d
  rw [h]; simp

/-! Order -/
theorem bl_irrefl : ∀ x : Txt, Op.bytesLess x x = false
  | [] => rfl
  | a :: x => by simp [Op.bytesLess, bl_irrefl x]
theorem bl_total : ∀ x y : Txt, Op.bytesLess x y = true ∨ x = y ∨ Op.bytesLess y x = true
  | [], [] => .inr (.inl rfl)
  | [], _ :: _ => .inl rfl
  | _ :: _, [] => .inr (.inr rfl)
  | a :: x, b :: y => by
    simp only [Op.bytesLess, Bool.or_eq_true, Bool.and_eq_true, decide_eq_true_eq, beq_iff_eq, List.cons.injEq]
    rcases UInt8.lt_or_lt_of_ne (a := a) (b := b) |> fun f => (Classical.em (a = b)).imp id f with h | h | h
    · subst h
      rcases bl_total x y with h | h | h
      · exact .inl (.inr ⟨rfl, h⟩)
      · exact .inr (.inl ⟨rfl, h⟩)
      · exact .inr (.inr (.inr ⟨rfl, h⟩))
    · exact .inl (.inl h)
    · exact .inr (.inr (.inl h))
theorem bl_trans : ∀ x y z : Txt, Op.bytesLess x y = true → Op.bytesLess y z = true → Op.bytesLess x z = true
  | _, _, [], _, h => by cases ‹List UInt8› <;> simp [Op.bytesLess] at h
  | [], _, _ :: _, _, _ => rfl
  | _ :: _, [], _ :: _, h, _ => by simp [Op.bytesLess] at h
  | a :: x, b :: y, c :: z, h1, h2 => by
    simp only [Op.bytesLess, Bool.or_eq_true, Bool.and_eq_true, decide_eq_true_eq, beq_iff_eq] at h1 h2 ⊢
    rcases h1 with h1 | ⟨rfl, h1⟩
    · rcases h2 with h2 | ⟨rfl, h2⟩
      · exact .inl (UInt8.lt_trans h1 h2)
      · exact .inl h1
    · rcases h2 with h2 | ⟨rfl, h2⟩
      · exact .inl h2
      · exact .inr ⟨rfl, bl_trans x y z h1 h2⟩
theorem bl_asymm {x y : Txt} (h : Op.bytesLess x y = true) : Op.bytesLess y x = false := by
  cases h' : Op.bytesLess y x with
  | false => rfl
  | true => have := bl_trans _ _ _ h h'; rw [bl_irrefl] at this; cases this

/-- Level by level, byte by byte; one that begins the other ahead of it. -/
def cmpL : List Txt → List Txt → Int
  | [], [] => 0
  | [], _ :: _ => -1
  | _ :: _, [] => 1
  | x :: a, y :: b => if Op.bytesLess x y = true then -1 else if Op.bytesLess y x = true then 1 else cmpL a b
theorem cmpL_range : ∀ a b, cmpL a b = -1 ∨ cmpL a b = 0 ∨ cmpL a b = 1
  | [], [] => by simp [cmpL]
  | [], _ :: _ => by simp [cmpL]
  | _ :: _, [] => by simp [cmpL]
  | x :: a, y :: b => by
    rw [cmpL]
    split
    · simp
    · split
      · simp
      · exact cmpL_range a b
theorem cmpL_anti : ∀ a b, cmpL a b = - cmpL b a
  | [], [] => by simp [cmpL]
  | [], _ :: _ => by simp [cmpL]
  | _ :: _, [] => by simp [cmpL]
  | x :: a, y :: b => by
    rw [cmpL, cmpL]
    cases h1 : Op.bytesLess x y with
    | true => rw [bl_asymm h1]; simp
    | false =>
      cases h2 : Op.bytesLess y x with
      | true => simp
      | false => simpa using cmpL_anti a b
theorem cmpL_zero : ∀ a b, cmpL a b = 0 ↔ a = b
  | [], [] => by simp [cmpL]
  | [], _ :: _ => by simp [cmpL]
  | _ :: _, [] => by simp [cmpL]
  | x :: a, y :: b => by
    rw [cmpL]
    cases h1 : Op.bytesLess x y with
    | true =>
      simp only [if_pos, List.cons.injEq]
      constructor
      · intro h; omega
      · rintro ⟨rfl, _⟩; rw [bl_irrefl] at h1; cases h1
    | false =>
      cases h2 : Op.bytesLess y x with
      | true =>
        simp only [List.cons.injEq]
        constructor
        · intro h; simp at h
        · rintro ⟨rfl, _⟩; rw [bl_irrefl] at h2; cases h2
      | false =>
        have e : x = y := by
          rcases bl_total x y with h | h | h
          · rw [h1] at h; cases h
          · exact h
          · rw [h2] at h; cases h
        subst e
        simpa using cmpL_zero a b
/-- a is not behind b, nor b behind c: then a is not behind c, and stands ahead of it just where one of them does. -/
theorem cmpL_le : ∀ a b c, cmpL a b ≤ 0 → cmpL b c ≤ 0 → cmpL a c ≤ 0 ∧ (cmpL a c < 0 ↔ (cmpL a b < 0 ∨ cmpL b c < 0))
  | [], [], c, _, h => by simp only [cmpL] at *; exact ⟨h, by simp⟩
  | [], _ :: _, [], _, h => by simp [cmpL] at h
  | [], _ :: _, _ :: _, _, _ => by simp [cmpL]
  | _ :: _, [], _, h, _ => by simp [cmpL] at h
  | _ :: _, _ :: _, [], _, h => by simp [cmpL] at h
  | x :: a, y :: b, z :: c, h1, h2 => by
    have ih := cmpL_le a b c
    rw [cmpL] at h1 h2 ⊢
    rw [show cmpL (x :: a) (y :: b) = (if Op.bytesLess x y = true then -1 else if Op.bytesLess y x = true then 1 else cmpL a b) from rfl, show cmpL (y :: b) (z :: c) = (if Op.bytesLess y z = true then -1 else if Op.bytesLess z y = true then 1 else cmpL b c) from rfl]
    cases e1 : Op.bytesLess x y with
    | true =>
      cases e2 : Op.bytesLess y z with
      | true => rw [bl_trans _ _ _ e1 e2]; simp
      | false =>
        rw [e2] at h2
        cases e3 : Op.bytesLess z y with
        | true => rw [e3] at h2; simp at h2
        | false =>
          have e : y = z := by
            rcases bl_total y z with h | h | h
            · rw [e2] at h; cases h
            · exact h
            · rw [e3] at h; cases h
          subst e
          rw [e1]; simp
    | false =>
      rw [e1] at h1
      cases e2 : Op.bytesLess y x with
      | true => rw [e2] at h1; simp at h1
      | false =>
        have e : x = y := by
          rcases bl_total x y with h | h | h
          · rw [e1] at h; cases h
          · exact h
          · rw [e2] at h; cases h
        subst e
        rw [e2] at h1
        cases e3 : Op.bytesLess x z with
        | true => simp
        | false =>
          rw [e3] at h2
          cases e4 : Op.bytesLess z x with
          | true => rw [e4] at h2; simp at h2
          | false =>
            rw [e4] at h2
            simp only [Bool.false_eq_true, if_false] at h1 h2 ⊢
            exact ih h1 h2
theorem cmpL_take : ∀ (ls : List Txt) (d : Nat), d ≤ ls.length → cmpL (ls.take d) ls = if d = ls.length then 0 else -1
  | [], d, h => by simp at h; subst h; simp [cmpL]
  | x :: ls, 0, _ => by simp [cmpL]
  | x :: ls, d + 1, h => by
    simp only [List.length_cons] at h ⊢
    rw [List.take_succ_cons, cmpL, bl_irrefl]
    simp only [Bool.false_eq_true, if_false]
    rw [cmpL_take ls d (by omega)]
    by_cases h' : d = ls.length
    · rw [if_pos h', if_pos (by omega)]
    · rw [if_neg h', if_neg (by omega)]
end Go.Proofs.YtmmkcfiecgpkpaaGreat

/- Rows of texts in memory; what the base's Split, SameTexts, Begins do. No condition. -/
namespace Go.Proofs.YtmmkcfiecgpkpaaGreat
open Go.RowKit
set_option linter.unusedVariables false
set_option linter.unusedSimpArgs false
set_option maxRecDepth 100000

def txs (l : List Txt) : List Value := l.map tx
theorem txs_length (l : List Txt) : (txs l).length = l.length := by simp [txs]
theorem txs_get {l : List Txt} {i : Nat} {x : Txt} (h : l[i]? = some x) : (txs l)[i]? = some (tx x) := by simp [txs, h]
theorem txs_one (l : List Txt) : ∀ u ∈ txs l, u.oneCell' = true := by
  intro u hu
  simp only [txs, List.mem_map] at hu
  obtain ⟨x, _, rfl⟩ := hu
  rfl
theorem tx_of (s : ByteArray) : Value.string s = tx s.data.toList := by cases s; simp [tx]
theorem tx_size (l : Txt) : (ByteArray.mk l.toArray).size = l.length := by show l.toArray.size = _; simp

def TextsAt (w : World) (ao : Option Addr) (l : List Txt) : Prop := ∀ i x, l[i]? = some x → ∃ b o, ao = some ⟨b, o, none⟩ ∧ w.cell? ⟨b, o + i, none⟩ = some (tx x)
theorem TextsAt.nil (w : World) (ao : Option Addr) : TextsAt w ao [] := fun i x h => by simp at h
theorem TextsAt.turned {S : Nat → Prop} {w w' : World} {ao : Option Addr} {l : List Txt} (h : TextsAt w ao l) (ht : Turned S w w') (hs : ∀ a, ao = some a → ¬ S a.block) : TextsAt w' ao l := fun i x hx => by
  obtain ⟨b, o, rfl, hc⟩ := h i x hx
  exact ⟨b, o, rfl, by rw [ht.cell (p := ⟨b, o + i, none⟩) (cell_lt hc) (hs ⟨b, o, none⟩ rfl)]; exact hc⟩
theorem TextsAt.still {w w' : World} {ao : Option Addr} {l : List Txt} (h : TextsAt w ao l) (ht : Still w w') : TextsAt w' ao l := h.turned ht (fun _ _ hs => hs)
theorem TextsAt.take {w : World} {ao : Option Addr} {l : List Txt} (h : TextsAt w ao l) (n : Nat) : TextsAt w ao (l.take n) := fun i x hx => by
  rw [List.getElem?_take] at hx
  split at hx
  · exact h i x hx
  · cases hx
theorem TextsAt.of_own {w : World} {base : Nat} {a : Option Addr} {c n : Nat} {l : List Txt} (h : w.ownsRow base 9 1 (.slice a n c) n (txs l)) (hn : n = l.length) : TextsAt w a l := by
  subst hn
  intro i x hx
  obtain ⟨g, r, rfl, _, hb⟩ := ow_blk h (Nat.lt_of_le_of_lt (Nat.zero_le _) (get_lt hx))
  refine ⟨g, 0, rfl, ?_⟩
  rw [Nat.zero_add]
  refine hb.cell ?_
  rw [List.getElem?_append_left (by rw [txs_length]; exact get_lt hx)]
  exact txs_get hx
def encT (s : ByteArray) : List Value := [.string s]
theorem cellsString : Tryz.prog.cellsOf 9 = 1 := by kernel_rfl
theorem rdTexts : Rd Tryz.prog 122 encSl (SlOk encT okS 1) := rd_slice Tryz.underlying122 cellsString (by omega) (fun _ => rfl) (rd_string Tryz.underlying9)
theorem TextsAt.of_row {w : World} {a : Option Addr} {l : List ByteArray} (h : RowAt encT 1 w a l) : TextsAt w a (l.map fun s => s.data.toList) := by
  intro i x hx
  simp only [List.getElem?_map, Option.map_eq_some_iff] at hx
  obtain ⟨s, hs, rfl⟩ := hx
  obtain ⟨b, o, rfl, hc⟩ := h i s hs
  refine ⟨b, o, rfl, ?_⟩
  rw [← tx_of]
  simpa using hc 0 _ rfl

theorem infoStr : (Tryz.prog.info? 9).map (fun i => (i.zero, i.size, i.bytes)) = some (some (.string ⟨#[]⟩), 1, 16) := by kernel_rfl

/-- Texts that are handed out: a slice of one's own. -/
def OutTexts (w : World) (l : List Txt) (n : Nat) (e : Ending) (w' : World) : Prop := ∃ a c, e = .returned (.slice a n c) ∧ w'.ownsRow w.heap.size 9 1 (.slice a n c) n (txs l) ∧ Still w w'
/-- What append of one value leaves of a row of one's own. -/
theorem ow_put {w wr w6 : World} {e : TypeId} {ao : Option Addr} {k cc : Nat} {xs : List Value} {o : Obj} (hs : Still w wr) (h : wr.ownsRow w.heap.size e 1 (.slice ao k cc) k xs) (hg : (wr.alloc o).grownBy w6 (Value.slice ao k cc).ownBlock) : Still w w6 := by
  refine (hs.alloc o).past ((Turned.refl (fun i => (Value.slice ao k cc).ownBlock = some i) _).grown hg (fun i e => .inl e)) (fun i hi => ?_)
  cases ao with
  | none => cases hi
  | some x => have := (ow_lt h x rfl).1
              have e : x.block = i := by simpa [Value.ownBlock] using hi
              exact .inr (by omega)

set_option maxHeartbeats 1000000 in
theorem bsplit_any (l : Txt) (w : World) (n : Nat) (hn : n = (spl l).length) (hmax : l.length ≤ 1000000) :
    Calls Tryz.prog 64 #[tx l, .int .u8 47] w (OutTexts w (spl l) n) := by
  obtain ⟨i0, hi, hz0, hz1, hz2⟩ := info_parts infoStr
  obtain ⟨m, hm⟩ : ∃ m, m = l.length := ⟨_, rfl⟩
  have hmm : m ≤ 1000000 := by omega
  obtain ⟨s, hs⟩ : ∃ s, s = ByteArray.mk l.toArray := ⟨_, rfl⟩
  have hsz : s.size = m := by rw [hs, hm, tx_size]
  have HX := Lib.hid (fun (k : Nat) (hk : k < m) => show ∃ x : UInt8, l[k]? = some x ∧ ∀ h, s[k]'h = x from ⟨l[k], by simp, fun h => by subst hs; rfl⟩)
  have HE := Lib.hid (fun (f k : Nat) => show s.extract f k = ByteArray.mk ((l.drop f).take (k - f)).toArray by rw [hs, ByteArray.extract_mk])
  have HN := Lib.hid hn
  have HL := Lib.hid hm
  unfold tx
  rw [← hs]
  clear hs hn hm hmax
  have HW := Lib.hid (World.ownsRow_made (e := 9) (size := 1) w #[] 0 (Nat.le_refl _) (by simp) (by simp))
  go_enter Tryz.func64, Tryz.ntmps64
  go_wp2
  go_loopw [5, 6, 7] (fun o f i wr => ∃ (k fr : Nat) (d : List Txt) (c : Txt) (dn : Nat) (ao : Option Addr) (cc : Nat), k ≤ m ∧ fr ≤ k ∧ dn ≤ k ∧ dn = d.length ∧ i = .int .i64 k ∧ f = .int .i64 fr ∧ o = .slice ao dn cc ∧ (l.drop fr).take (k - fr) = c ∧ spl l = spF d c (l.drop k) ∧ wr.ownsRow w.heap.size 9 1 (.slice ao dn cc) dn (txs d) ∧ Still w wr) (fun _ _ i _ => m - (intOf i).toNat)
  case atStart => exact ⟨0, 0, [], [], 0, _, 0, Nat.zero_le _, Nat.le_refl _, Nat.le_refl _, rfl, rfl, rfl, rfl, by simp, by rw [List.drop_zero]; rfl, HW.out, (Turned.refl _ _).alloc _⟩
  case round =>
    obtain ⟨k, fr, d, c, dn, ao, cc, hk, hfr, hdn, hdl, rfl, rfl, rfl, hc, hsp, hown, hst⟩ := hrel
    have HO := Lib.hid hown
    have HS := Lib.hid hst
    have HC := Lib.hid hc
    have HSP := Lib.hid hsp
    have HDL := Lib.hid hdl
    have hlo := hst.size
    clear hown hst hc hsp hdl
    by_cases hlt : k < m
    · obtain ⟨x, hx, hsx⟩ := HX.out k hlt
      have hsx' := hsx (by omega)
      have HXX := Lib.hid hx
      clear hx hsx HX
      by_cases h47 : x = 47
      · have hxv : (x.toNat : Int) = 47 := by rw [h47]; rfl
        have HT := Lib.hid (show Value.string (s.extract fr k) = tx c by rw [HE.out, HC.out]; rfl)
        clear h47
        go_wp2_with (at_builtin; refine wpList_append_own_at _ rfl _ _ 122 rfl w.heap.size 9 i0 (.string ⟨#[]⟩) 1 16 Tryz.underlying122 hi hz0 hz1 hz2 rfl (by decide) (.slice ao dn cc) dn (txs d) rfl (ow_still HO.out ((Turned.refl _ _).alloc _)) ⟨wr.heap.size, 0, none⟩ 1 1 [.string (s.extract fr k)] rfl rfl (ow_cells wr _ _) (by simp [Value.oneCell']) (by unfold maxLen; omega) (by omega) (by simp; omega) ?_; intro v6 w6 hown6 hg6 _ hat6; obtain ⟨a6, c6, rfl⟩ := ow_slice hown6; have HS6 := Lib.hid (ow_put HS.out HO.out hg6); have HO6 := Lib.hid hown6; clear hown6 hg6 hat6)
        go_roundw
        case rel =>
          refine ⟨k + 1, k + 1, d ++ [c], [], dn + 1, a6, c6, by omega, by omega, by omega, by simp [HDL.out], by go_num, by go_num, rfl, by simp, ?_, ?_, HS6.out⟩
          · rw [HSP.out, spF_step HXX.out, if_pos (UInt8.toNat_inj.1 (by have : (47 : UInt8).toNat = 47 := rfl; omega))]
          · have := HO6.out
            rw [HT.out] at this
            simpa [txs] using this
        case measure => simp [intOf]; omega
      · have hxv : ¬ (x.toNat : Int) = 47 := fun h => h47 (UInt8.toNat_inj.1 (by have : (47 : UInt8).toNat = 47 := rfl; omega))
        go_wp2_with fail
        go_roundw
        case rel =>
          refine ⟨k + 1, fr, d, c ++ [x], dn, ao, cc, by omega, by omega, by omega, HDL.out, by go_num, rfl, rfl, ?_, ?_, HO.out, HS.out⟩
          · rw [← HC.out, show k + 1 - fr = (k - fr) + 1 by omega, List.take_add_one, List.getElem?_drop, show fr + (k - fr) = k by omega, HXX.out]; rfl
          · rw [HSP.out, spF_step HXX.out, if_neg h47]
        case measure => simp [intOf]; omega
    · obtain rfl : k = m := by omega
      have HT := Lib.hid (show Value.string (s.extract fr k) = tx c by rw [HE.out, HC.out]; rfl)
      clear HX
      go_wp2_with (at_builtin; refine wpList_append_own_at _ rfl _ _ 122 rfl w.heap.size 9 i0 (.string ⟨#[]⟩) 1 16 Tryz.underlying122 hi hz0 hz1 hz2 rfl (by decide) (.slice ao dn cc) dn (txs d) rfl (ow_still HO.out ((Turned.refl _ _).alloc _)) ⟨wr.heap.size, 0, none⟩ 1 1 [.string (s.extract fr k)] rfl rfl (ow_cells wr _ _) (by simp [Value.oneCell']) (by unfold maxLen; omega) (by omega) (by simp; omega) ?_; intro v6 w6 hown6 hg6 _ hat6; obtain ⟨a6, c6, rfl⟩ := ow_slice hown6; have HS6 := Lib.hid (ow_put HS.out HO.out hg6); have HO6 := Lib.hid hown6; clear hown6 hg6 hat6)
      go_ret
      have e : spl l = d ++ [c] := by rw [HSP.out, List.drop_of_length_le (by rw [HL.out]; exact Nat.le_refl _)]; rfl
      have en : n = dn + 1 := by rw [HN.out, e, HDL.out]; simp
      refine ⟨a6, c6, by rw [en]; rfl, ?_, HS6.out⟩
      have := HO6.out
      rw [HT.out] at this
      rw [e, en]
      simpa [txs] using this

@[go_sem] theorem binOp_text_gtr (t : TypeId) (a b : ByteArray) : binOp .gtr t (.string a) (.string b) = pure (.bool !(Op.bytesLess a.toList b.toList || (a.toList == b.toList))) := by simp [binOp, Op.stringOp]

theorem beq_dec (x y : Txt) : (x == y) = decide (x = y) := by
  by_cases h : x = y
  · subst h; simp
  · rw [decide_eq_false h]; simpa using h

end Go.Proofs.YtmmkcfiecgpkpaaGreat

/- The plain names: what layer 8 says of texts and levels. No condition. -/
namespace Go.Proofs.YtmmkcfiecgpkpaaGreat
open Go.RowKit
set_option linter.unusedVariables false
set_option linter.unusedSimpArgs false

/-- May a name have this byte? -/
def okC (b : UInt8) : Bool := decide (33 ≤ b.toNat) && decide (b.toNat ≤ 126) && decide (b.toNat ≠ 43) && decide (b.toNat ≠ 35)
/-- Is it a name? -/
def nmE (l : Txt) : Int := if l ≠ [] ∧ l.length ≤ 64 ∧ (∀ b ∈ l, okC b = true) ∧ (spl l).length ≤ 8 then 0 else 80
def lvls (l : Txt) : List Txt := if nmE l = 0 then spl l else []
/-- Are they the levels of a name? -/
def ofE (ls : List Txt) : Int := if (∀ x ∈ ls, (47 : UInt8) ∉ x) ∧ nmE (jn ls) = 0 then 0 else 80
def ofT (ls : List Txt) : Txt := if ofE ls = 0 then jn ls else []
def hdB (l : Txt) : Bool := decide (nmE l = 0 ∧ l[0]? = some 36)
def abE (l : Txt) (d : Int) : Int := if nmE l ≠ 0 then 80 else if d < 1 ∨ ((spl l).length : Int) < d then 2 else ofE ((spl l).take d.toNat)
def abT (l : Txt) (d : Int) : Txt := if abE l d = 0 then jn ((spl l).take d.toNat) else []
def cpE (a b : Txt) : Int := if nmE a = 0 ∧ nmE b = 0 then 0 else 80
def cpN (a b : Txt) : Int := if cpE a b = 0 then cmpL (spl a) (spl b) else 0

theorem nmE_iff {l : Txt} : nmE l = 0 ↔ l ≠ [] ∧ l.length ≤ 64 ∧ (∀ b ∈ l, okC b = true) ∧ (spl l).length ≤ 8 := by
  unfold nmE; split
  · rename_i h; exact ⟨fun _ => h, fun _ => rfl⟩
  · rename_i h; exact ⟨fun e => (by cases e), fun e => absurd e h⟩
theorem nmE_or (l : Txt) : nmE l = 0 ∨ nmE l = 80 := by unfold nmE; split <;> simp
theorem nmE_no {l : Txt} (h : nmE l ≠ 0) : nmE l = 80 := (nmE_or l).resolve_left h
theorem ofE_iff {ls : List Txt} : ofE ls = 0 ↔ (∀ x ∈ ls, (47 : UInt8) ∉ x) ∧ nmE (jn ls) = 0 := by
  unfold ofE; split
  · rename_i h; exact ⟨fun _ => h, fun _ => rfl⟩
  · rename_i h; exact ⟨fun e => (by cases e), fun e => absurd e h⟩
theorem ofE_or (ls : List Txt) : ofE ls = 0 ∨ ofE ls = 80 := by unfold ofE; split <;> simp
theorem ofE_no {ls : List Txt} (h : ofE ls ≠ 0) : ofE ls = 80 := (ofE_or ls).resolve_left h
theorem cpE_or (a b : Txt) : cpE a b = 0 ∨ cpE a b = 80 := by unfold cpE; split <;> simp
theorem cpE_iff {a b : Txt} : cpE a b = 0 ↔ nmE a = 0 ∧ nmE b = 0 := by
  unfold cpE; split
  · rename_i h; exact ⟨fun _ => h, fun _ => rfl⟩
  · rename_i h; exact ⟨fun e => (by cases e), fun e => absurd e h⟩
theorem lvls_ok {l : Txt} (h : nmE l = 0) : lvls l = spl l := if_pos h
theorem lvls_no {l : Txt} (h : nmE l ≠ 0) : lvls l = [] := if_neg h
theorem lvls_len (l : Txt) : (lvls l).length ≤ 8 := by
  unfold lvls; split
  · rename_i h; exact (nmE_iff.1 h).2.2.2
  · simp

theorem spl_one {x : Txt} (h : (47 : UInt8) ∉ x) : spl x = [x] := by
  have := spF_skip x [] [] [] h
  rw [List.append_nil] at this
  unfold spl; rw [this]; rfl
theorem spl_many {x : Txt} : 1 < (spl x).length ↔ (47 : UInt8) ∈ x := by
  constructor
  · intro h
    by_cases h' : (47 : UInt8) ∈ x
    · exact h'
    · rw [spl_one h'] at h; simp at h
  · intro h
    have h1 := (spl_len x).1
    rcases Nat.lt_or_ge 1 (spl x).length with h2 | h2
    · exact h2
    · obtain ⟨y, hy⟩ : ∃ y, spl x = [y] := List.length_eq_one_iff.1 (by omega)
      have h3 := jn_spl x
      rw [hy] at h3
      have h4 := spl_pure x y (by rw [hy]; simp)
      rw [jn] at h3
      rw [h3] at h4
      exact absurd h h4
/-- Levels that make a name are its levels. -/
theorem of_back {ls : List Txt} (h : ofE ls = 0) : spl (jn ls) = ls ∧ ls ≠ [] := by
  obtain ⟨h1, h2⟩ := ofE_iff.1 h
  have h3 : ls ≠ [] := by
    rintro rfl
    exact (nmE_iff.1 h2).1 rfl
  exact ⟨spl_jn h3 h1, h3⟩
theorem ofE_spl (l : Txt) : ofE (spl l) = nmE l := by
  rcases nmE_or l with h | h
  · rw [h]; exact ofE_iff.2 ⟨spl_pure l, by rw [jn_spl]; exact h⟩
  · rw [h]; refine ofE_no (fun h' => ?_)
    have := (ofE_iff.1 h').2
    rw [jn_spl, h] at this; cases this
theorem of_many {ls : List Txt} (h : 8 < ls.length) : ofE ls = 80 := ofE_no (fun h' => by
  have h1 := (of_back h').1
  have h2 := (nmE_iff.1 (ofE_iff.1 h').2).2.2.2
  rw [h1] at h2; omega)
theorem of_long {ls : List Txt} {k : Nat} (h : 64 < (jn (ls.take k)).length) : ofE ls = 80 := ofE_no (fun h' => by
  have h1 := jn_len_le ls k
  have h2 := (nmE_iff.1 (ofE_iff.1 h').2).2.1
  omega)
theorem of_stroke {ls : List Txt} {x : Txt} (hx : x ∈ ls) (h : (47 : UInt8) ∈ x) : ofE ls = 80 := ofE_no (fun h' => (ofE_iff.1 h').1 x hx h)
theorem jn_take {ls : List Txt} {k : Nat} {x : Txt} (hx : ls[k]? = some x) : jn (ls.take (k + 1)) = if k = 0 then x else jn (ls.take k) ++ 47 :: x := by
  rw [List.take_add_one, hx]
  show jn (ls.take k ++ [x]) = _
  have hk := get_lt hx
  by_cases h0 : k = 0
  · subst h0; rw [if_pos rfl]; simp [jn]
  · rw [if_neg h0, jn_snoc]
    intro h
    rcases List.take_eq_nil_iff.1 h with h1 | h1
    · exact h0 h1
    · subst h1; simp at hk
/-- The name of the first so many levels: none just where that is one empty level. -/
theorem ab_of {l : Txt} (h : nmE l = 0) {d : Nat} (h1 : 1 ≤ d) (h2 : d ≤ (spl l).length) : ofE ((spl l).take d) = if jn ((spl l).take d) = [] then 80 else 0 := by
  obtain ⟨a1, a2, a3, a4⟩ := nmE_iff.1 h
  have hp : ∀ x ∈ (spl l).take d, (47 : UInt8) ∉ x := fun x hx => spl_pure l x (List.mem_of_mem_take hx)
  have hne : (spl l).take d ≠ [] := fun e => by
    rcases List.take_eq_nil_iff.1 e with e | e
    · omega
    · exact spl_ne l e
  obtain ⟨r, hr⟩ := jn_take_pre (spl l) d
  rw [jn_spl] at hr
  by_cases h0 : jn ((spl l).take d) = []
  · rw [if_pos h0]
    exact ofE_no (fun e => (nmE_iff.1 (ofE_iff.1 e).2).1 h0)
  · rw [if_neg h0]
    refine ofE_iff.2 ⟨hp, nmE_iff.2 ⟨h0, ?_, fun b hb => a3 b (by rw [hr]; simp [hb]), ?_⟩⟩
    · have := congrArg List.length hr
      rw [List.length_append] at this
      omega
    · rw [spl_jn hne hp, List.length_take]; omega
end Go.Proofs.YtmmkcfiecgpkpaaGreat
