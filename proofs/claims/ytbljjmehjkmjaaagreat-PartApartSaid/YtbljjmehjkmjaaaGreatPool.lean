/- The plain pool: slots with a generation, a count and bytes, and the stack of free slots; what its calls do, as plain functions. No condition. -/
import Derived.Test.YtbljjmehjkmjaaaGreatHandle
namespace Go.Proofs.YtbljjmehjkmjaaaGreat
open Go.RowKit
set_option linter.unusedVariables false

/-- A slot: its generation, its count, its bytes. -/
structure Slt where
  g : Nat
  c : Nat
  b : List UInt8

/-- A pool: its slots, the free ones (the top first), how many bytes a slot has room for. -/
structure PM where
  sl : List Slt
  fr : List Nat
  size : Nat

/-- The slot that a number names as a handle, and its generation. -/
def hSlot (h : Int) : Nat := ((h - 1) % 128).toNat
def hGen (h : Int) : Int := (h - 1) / 128

/-- The error of a number that is told as a handle: 0, if it is live. -/
def PM.err (M : PM) (h : Int) : Int :=
  if ¬ haIs h then 2 else
  match M.sl[hSlot h]? with
  | none => 5
  | some s => if (s.g : Int) = hGen h ∧ s.c ≠ 0 then 0 else 40

def PM.new (n size : Nat) : PM := ⟨List.replicate n ⟨0, 0, []⟩, List.range n, size⟩

/-- What a call leaves, and what it answers. -/
def PM.takeM (M : PM) (n : Int) : PM :=
  if n < 0 ∨ (M.size : Int) < n then M else
  match M.fr with
  | [] => M
  | k :: r => { M with sl := M.sl.set k ⟨(M.sl[k]?.getD ⟨0, 0, []⟩).g, 1, List.replicate n.toNat 0⟩, fr := r }
def PM.takeE (M : PM) (n : Int) : Int := if n < 0 then 2 else if (M.size : Int) < n then 3 else if M.fr = [] then 50 else 0
def PM.takeH (M : PM) (n : Int) : Int :=
  if n < 0 ∨ (M.size : Int) < n then 0 else
  match M.fr with
  | [] => 0
  | k :: _ => ((M.sl[k]?.getD ⟨0, 0, []⟩).g : Int) * 128 + (k : Nat) + 1
def PM.slt (M : PM) (h : Int) : Slt := M.sl[hSlot h]?.getD ⟨0, 0, []⟩
def PM.fillE (M : PM) (h : Int) (b : List UInt8) : Int := if M.err h ≠ 0 then M.err h else if b.length ≠ (M.slt h).b.length then 2 else 0
def PM.fillM (M : PM) (h : Int) (b : List UInt8) : PM := if M.fillE h b ≠ 0 then M else { M with sl := M.sl.set (hSlot h) { M.slt h with b := b } }
def PM.bytes (M : PM) (h : Int) : List UInt8 := if M.err h ≠ 0 then [] else (M.slt h).b
def PM.keepM (M : PM) (h : Int) : PM := if M.err h ≠ 0 then M else { M with sl := M.sl.set (hSlot h) { M.slt h with c := (M.slt h).c + 1 } }
def PM.dropM (M : PM) (h : Int) : PM :=
  if M.err h ≠ 0 then M else
  if (M.slt h).c = 1 then { M with sl := M.sl.set (hSlot h) ⟨(M.slt h).g + 1, 0, []⟩, fr := hSlot h :: M.fr }
  else { M with sl := M.sl.set (hSlot h) { M.slt h with c := (M.slt h).c - 1 } }
def PM.dropN (M : PM) (h : Int) : Int := if M.err h ≠ 0 then 0 else (((M.slt h).c - 1 : Nat) : Int)

/-- A pool as it may be, with no generation and no count above a bound. -/
structure PM.Ok (M : PM) (N : Nat) : Prop where
  pos : 0 < M.sl.length
  len : M.sl.length ≤ 128
  size0 : 1 ≤ M.size
  size1 : M.size ≤ 256
  nodup : M.fr.Nodup
  lt : ∀ k ∈ M.fr, k < M.sl.length
  free : ∀ (k : Nat) (s : Slt), M.sl[k]? = some s → (s.c = 0 ↔ k ∈ M.fr)
  void : ∀ (k : Nat) (s : Slt), M.sl[k]? = some s → s.c = 0 → s.b = []
  bytes : ∀ (k : Nat) (s : Slt), M.sl[k]? = some s → s.b.length ≤ M.size
  low : ∀ (k : Nat) (s : Slt), M.sl[k]? = some s → s.g ≤ N ∧ s.c ≤ N

theorem PM.Ok.mono {M : PM} {N N' : Nat} (h : M.Ok N) (hN : N ≤ N') : M.Ok N' :=
  ⟨h.pos, h.len, h.size0, h.size1, h.nodup, h.lt, h.free, h.void, h.bytes, fun k s hs => by have := h.low k s hs; omega⟩

theorem PM.new_ok {n size : Nat} (h0 : 1 ≤ n) (h1 : n ≤ 128) (h2 : 1 ≤ size) (h3 : size ≤ 256) : (PM.new n size).Ok 0 := by
  have key : ∀ (k : Nat) (s : Slt), (PM.new n size).sl[k]? = some s → k < n ∧ s = ⟨0, 0, []⟩ := by
    intro k s hs
    simp only [PM.new, List.getElem?_replicate] at hs
    split at hs
    · exact ⟨by assumption, (Option.some.inj hs).symm⟩
    · cases hs
  refine ⟨by simp [PM.new]; omega, by simp [PM.new]; omega, h2, h3, by simp [PM.new, List.nodup_range], by simp [PM.new], ?_, ?_, ?_, ?_⟩
  · intro k s hs; obtain ⟨h, rfl⟩ := key k s hs; simp [PM.new, h]
  · intro k s hs; obtain ⟨h, rfl⟩ := key k s hs; simp
  · intro k s hs; obtain ⟨h, rfl⟩ := key k s hs; simp
  · intro k s hs; obtain ⟨h, rfl⟩ := key k s hs; simp

/-- A live handle. -/
theorem PM.live {M : PM} {h : Int} (he : M.err h = 0) : haIs h ∧ hSlot h < M.sl.length ∧ M.sl[hSlot h]? = some (M.slt h) ∧ ((M.slt h).g : Int) = hGen h ∧ (M.slt h).c ≠ 0 := by
  unfold PM.err at he
  split at he
  · cases he
  · rename_i hh
    unfold PM.slt
    cases hs : M.sl[hSlot h]? with
    | none => rw [hs] at he; cases he
    | some s =>
      rw [hs] at he
      simp only at he
      split at he
      · rename_i h2
        exact ⟨by simpa using hh, (List.getElem?_eq_some_iff.1 hs).1, rfl, h2.1, h2.2⟩
      · cases he

theorem PM.err_vals (M : PM) (h : Int) : M.err h = 0 ∨ M.err h = 2 ∨ M.err h = 5 ∨ M.err h = 40 := by
  unfold PM.err
  split
  · exact .inr (.inl rfl)
  · cases M.sl[hSlot h]? with
    | none => exact .inr (.inr (.inl rfl))
    | some s => simp only; split; exact .inl rfl; exact .inr (.inr (.inr rfl))

theorem hSlot_of {k : Nat} (g : Nat) (hk : k < 128) : hSlot ((g : Int) * 128 + (k : Nat) + 1) = k := by unfold hSlot; omega
theorem hGen_of {k : Nat} (g : Nat) (hk : k < 128) : hGen ((g : Int) * 128 + (k : Nat) + 1) = g := by unfold hGen; omega
theorem hIs_of {k : Nat} {g : Nat} (hk : k < 128) (hg : g < 1099511627776) : haIs ((g : Int) * 128 + (k : Nat) + 1) := ⟨by omega, by omega⟩

/-- One slot is turned: what still stands. -/
theorem set_get {l : List Slt} {k : Nat} {t : Slt} (hk : k < l.length) {i : Nat} {s : Slt} (h : (l.set k t)[i]? = some s) : (i = k ∧ s = t) ∨ (i ≠ k ∧ l[i]? = some s) := by
  by_cases e : i = k
  · subst e
    rw [List.getElem?_set_self hk] at h
    exact .inl ⟨rfl, (Option.some.inj h).symm⟩
  · rw [List.getElem?_set_ne (fun h => e h.symm)] at h
    exact .inr ⟨e, h⟩

theorem PM.Ok.take {M : PM} {N : Nat} (h : M.Ok N) (hN : 1 ≤ N) (n : Int) : (M.takeM n).Ok N := by
  unfold PM.takeM
  split
  · exact h
  · rename_i hn
    cases hf : M.fr with
    | nil => exact h
    | cons k r =>
      have hkl : k < M.sl.length := h.lt k (by rw [hf]; exact List.mem_cons_self)
      obtain ⟨s0, hs0⟩ := get_some hkl
      have hnd := h.nodup
      rw [hf, List.nodup_cons] at hnd
      have hg := (h.low k s0 hs0).1
      simp only [hs0, Option.getD_some]
      refine ⟨by simp; exact h.pos, by simp; exact h.len, h.size0, h.size1, hnd.2, ?_, ?_, ?_, ?_, ?_⟩
      · intro i hi; simp; exact h.lt i (by rw [hf]; exact List.mem_cons_of_mem _ hi)
      · intro i s hs
        rcases set_get hkl hs with ⟨rfl, rfl⟩ | ⟨hne, hs⟩
        · simp; exact hnd.1
        · have := h.free i s hs
          rw [this, hf, List.mem_cons]
          simp [hne]
      · intro i s hs
        rcases set_get hkl hs with ⟨rfl, rfl⟩ | ⟨hne, hs⟩
        · intro h0; simp at h0
        · exact h.void i s hs
      · intro i s hs
        rcases set_get hkl hs with ⟨rfl, rfl⟩ | ⟨hne, hs⟩
        · simp; omega
        · exact h.bytes i s hs
      · intro i s hs
        rcases set_get hkl hs with ⟨rfl, rfl⟩ | ⟨hne, hs⟩
        · exact ⟨hg, hN⟩
        · exact h.low i s hs

theorem PM.Ok.fill {M : PM} {N : Nat} (h : M.Ok N) (x : Int) (b : List UInt8) : (M.fillM x b).Ok N := by
  unfold PM.fillM
  split
  · exact h
  · rename_i he
    have he : M.fillE x b = 0 := by simpa using he
    have h0 : M.err x = 0 := by
      unfold PM.fillE at he
      split at he
      · exact he
      · rename_i h1; simpa using h1
    have hb : b.length = (M.slt x).b.length := by
      unfold PM.fillE at he
      rw [if_neg (by rw [h0]; simp)] at he
      split at he
      · cases he
      · rename_i h1; simpa using h1
    obtain ⟨h1, hkl, h3, h4, h5⟩ := PM.live h0
    refine ⟨by simp; exact h.pos, by simp; exact h.len, h.size0, h.size1, h.nodup, by simpa using h.lt, ?_, ?_, ?_, ?_⟩
    · intro i s hs
      rcases set_get hkl hs with ⟨rfl, rfl⟩ | ⟨hne, hs⟩
      · have := h.free _ _ h3; exact this
      · exact h.free i s hs
    · intro i s hs
      rcases set_get hkl hs with ⟨rfl, rfl⟩ | ⟨hne, hs⟩
      · intro hc; exact absurd hc h5
      · exact h.void i s hs
    · intro i s hs
      rcases set_get hkl hs with ⟨rfl, rfl⟩ | ⟨hne, hs⟩
      · have := h.bytes _ _ h3; simp only; omega
      · exact h.bytes i s hs
    · intro i s hs
      rcases set_get hkl hs with ⟨rfl, rfl⟩ | ⟨hne, hs⟩
      · have := h.low _ _ h3; exact this
      · exact h.low i s hs

theorem PM.Ok.keep {M : PM} {N : Nat} (h : M.Ok N) (x : Int) : (M.keepM x).Ok (N + 1) := by
  unfold PM.keepM
  split
  · exact h.mono (by omega)
  · rename_i he
    obtain ⟨h1, hkl, h3, h4, h5⟩ := PM.live (show M.err x = 0 by simpa using he)
    refine ⟨by simp; exact h.pos, by simp; exact h.len, h.size0, h.size1, h.nodup, by simpa using h.lt, ?_, ?_, ?_, ?_⟩
    · intro i s hs
      rcases set_get hkl hs with ⟨rfl, rfl⟩ | ⟨hne, hs⟩
      · have := h.free _ _ h3
        simp only [Nat.add_eq_zero_iff, Nat.succ_ne_self, and_false, false_iff]
        intro hm; exact h5 (this.2 hm)
      · exact h.free i s hs
    · intro i s hs
      rcases set_get hkl hs with ⟨rfl, rfl⟩ | ⟨hne, hs⟩
      · intro hc; simp at hc
      · exact h.void i s hs
    · intro i s hs
      rcases set_get hkl hs with ⟨rfl, rfl⟩ | ⟨hne, hs⟩
      · have := h.bytes _ _ h3; exact this
      · exact h.bytes i s hs
    · intro i s hs
      rcases set_get hkl hs with ⟨rfl, rfl⟩ | ⟨hne, hs⟩
      · have := h.low _ _ h3; simp only; omega
      · have := h.low i s hs; omega

theorem PM.Ok.drop {M : PM} {N : Nat} (h : M.Ok N) (x : Int) : (M.dropM x).Ok (N + 1) := by
  unfold PM.dropM
  split
  · exact h.mono (by omega)
  · rename_i he
    obtain ⟨h1, hkl, h3, h4, h5⟩ := PM.live (show M.err x = 0 by simpa using he)
    have hnf : hSlot x ∉ M.fr := fun hm => h5 ((h.free _ _ h3).2 hm)
    split
    · rename_i hc
      refine ⟨by simp; exact h.pos, by simp; exact h.len, h.size0, h.size1, List.nodup_cons.2 ⟨hnf, h.nodup⟩, ?_, ?_, ?_, ?_, ?_⟩
      · intro i hi
        simp
        rcases List.mem_cons.1 hi with rfl | hi
        · exact hkl
        · exact h.lt i hi
      · intro i s hs
        rcases set_get hkl hs with ⟨rfl, rfl⟩ | ⟨hne, hs⟩
        · simp
        · rw [h.free i s hs, List.mem_cons]; simp [hne]
      · intro i s hs
        rcases set_get hkl hs with ⟨rfl, rfl⟩ | ⟨hne, hs⟩
        · intro _; rfl
        · exact h.void i s hs
      · intro i s hs
        rcases set_get hkl hs with ⟨rfl, rfl⟩ | ⟨hne, hs⟩
        · simp
        · exact h.bytes i s hs
      · intro i s hs
        rcases set_get hkl hs with ⟨rfl, rfl⟩ | ⟨hne, hs⟩
        · have := h.low _ _ h3; simp only; omega
        · have := h.low i s hs; omega
    · rename_i hc
      refine ⟨by simp; exact h.pos, by simp; exact h.len, h.size0, h.size1, h.nodup, by simpa using h.lt, ?_, ?_, ?_, ?_⟩
      · intro i s hs
        rcases set_get hkl hs with ⟨rfl, rfl⟩ | ⟨hne, hs⟩
        · simp only
          constructor
          · intro h0; exfalso; omega
          · intro hm; exact absurd hm hnf
        · exact h.free i s hs
      · intro i s hs
        rcases set_get hkl hs with ⟨rfl, rfl⟩ | ⟨hne, hs⟩
        · intro h0; simp only at h0; exfalso; omega
        · exact h.void i s hs
      · intro i s hs
        rcases set_get hkl hs with ⟨rfl, rfl⟩ | ⟨hne, hs⟩
        · have := h.bytes _ _ h3; exact this
        · exact h.bytes i s hs
      · intro i s hs
        rcases set_get hkl hs with ⟨rfl, rfl⟩ | ⟨hne, hs⟩
        · have := h.low _ _ h3; simp only; omega
        · have := h.low i s hs; omega

theorem nodup_len : ∀ (n : Nat) (l : List Nat), l.Nodup → (∀ x ∈ l, x < n) → l.length ≤ n
  | 0, l, _, h => by cases l with
    | nil => exact Nat.le_refl _
    | cons a r => exact absurd (h a List.mem_cons_self) (Nat.not_lt_zero _)
  | n + 1, l, hd, h => by
    by_cases hm : n ∈ l
    · have h1 := nodup_len n (l.erase n) (hd.erase n) (fun x hx => by
        have h2 := (hd.mem_erase_iff).1 hx
        have := h x h2.2
        omega)
      rw [List.length_erase_of_mem hm] at h1
      omega
    · have := nodup_len n l hd (fun x hx => by
        have := h x hx
        have : x ≠ n := fun e => hm (e ▸ hx)
        omega)
      omega
theorem PM.Ok.frlen {M : PM} {N : Nat} (h : M.Ok N) : M.fr.length ≤ 128 := Nat.le_trans (nodup_len _ _ h.nodup h.lt) h.len
end Go.Proofs.YtbljjmehjkmjaaaGreat
