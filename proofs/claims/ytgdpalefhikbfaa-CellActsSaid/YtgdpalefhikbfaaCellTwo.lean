/- A memory of package cell and the document's own beside it: what each call does, at all arguments, in the words of one plain function, while the other stays. Conditions: both were made, lie apart, and holders are sessions or nobody. -/
import Derived.Test.YtgdpalefhikbfaaCellAll
namespace Go.Proofs.Ytgdpalefhikbfaa
open Go.RowKit
set_option linter.unusedVariables false

/-- The cell that a number tells, if there is one. -/
def cat (st : List Cel) (a : Int) : Option Cel := if 0 ≤ a then st[a.toNat]? else none

theorem cat_some {st : List Cel} {a : Int} (h : InR st a) : ∃ (i : Nat) (c : Cel), a = i ∧ st[i]? = some c ∧ cat st a = some c := by
  obtain ⟨h1, h2⟩ := h
  obtain ⟨i, rfl⟩ := Int.eq_ofNat_of_zero_le h1
  obtain ⟨c, hc⟩ := get_some (l := st) (i := i) (by omega)
  exact ⟨i, c, rfl, hc, by simp [cat, hc]⟩
theorem cat_none {st : List Cel} {a : Int} (h : ¬ InR st a) : cat st a = none := by
  unfold cat InR at *
  split
  · rw [List.getElem?_eq_none]; omega
  · rfl

def ldN (st : List Cel) (a : Int) : Int := match cat st a with | some c => c.n | none => 0
def ldE (st : List Cel) (a : Int) : Int := match cat st a with | some _ => 0 | none => 2
def stS (st : List Cel) (a v : Int) : List Cel := match cat st a with | some c => st.set a.toNat { c with n := v, w := wrap64 (c.w + 1) } | none => st
def adS (st : List Cel) (a d : Int) : List Cel := match cat st a with | some c => st.set a.toNat { c with n := wrap64 (c.n + d), w := wrap64 (c.w + 1) } | none => st
def swB (st : List Cel) (a was : Int) : Bool := match cat st a with | some c => decide (c.n = was) | none => false
def swS (st : List Cel) (a was v : Int) : List Cel := match cat st a with | some c => if c.n = was then st.set a.toNat { c with n := v, w := wrap64 (c.w + 1) } else st | none => st
open Classical in
noncomputable def lkE (st : List Cel) (a who : Int) : Int := match cat st a with | some c => if Ses who then (if c.h = -1 then 0 else 8) else 2 | none => 2
open Classical in
noncomputable def lkS (st : List Cel) (a who : Int) : List Cel := match cat st a with | some c => if Ses who ∧ c.h = -1 then st.set a.toNat { c with h := who } else st | none => st
open Classical in
noncomputable def frE (st : List Cel) (a who : Int) : Int := match cat st a with | some c => if Ses who then (if c.h = who then 0 else 5) else 2 | none => 2
open Classical in
noncomputable def frS (st : List Cel) (a who : Int) : List Cel := match cat st a with | some c => if Ses who ∧ c.h = who then st.set a.toNat { c with h := -1 } else st | none => st
def hoR (st : List Cel) (a : Int) : Int := match cat st a with | some c => c.h | none => -1
def wrR (st : List Cel) (a : Int) : Int := match cat st a with | some c => c.w | none => 0

def HolOk (st : List Cel) : Prop := ∀ c ∈ st, c.h = -1 ∨ Ses c.h

theorem set_ok {st : List Cel} {i : Nat} {c d : Cel} (h : HolOk st) (hd : d.h = -1 ∨ Ses d.h) : HolOk (st.set i d) := fun c' hc' => by
  rcases List.mem_or_eq_of_mem_set hc' with h1 | h1
  · exact h c' h1
  · rw [h1]; exact hd
theorem cat_mem {st : List Cel} {a : Int} {c : Cel} (h : cat st a = some c) : c ∈ st := by
  unfold cat at h
  split at h
  · exact List.mem_of_getElem? h
  · cases h

theorem stS_len (st : List Cel) (a v : Int) : (stS st a v).length = st.length := by unfold stS; split <;> simp
theorem adS_len (st : List Cel) (a v : Int) : (adS st a v).length = st.length := by unfold adS; split <;> simp
theorem swS_len (st : List Cel) (a was v : Int) : (swS st a was v).length = st.length := by unfold swS; split <;> (try split) <;> simp
theorem lkS_len (st : List Cel) (a v : Int) : (lkS st a v).length = st.length := by unfold lkS; split <;> (try split) <;> simp
theorem frS_len (st : List Cel) (a v : Int) : (frS st a v).length = st.length := by unfold frS; split <;> (try split) <;> simp
theorem stS_ok {st : List Cel} {a v : Int} (h : HolOk st) : HolOk (stS st a v) := by
  unfold stS; split
  · rename_i c hc; exact set_ok (c := c) h (h c (cat_mem hc))
  · exact h
theorem adS_ok {st : List Cel} {a v : Int} (h : HolOk st) : HolOk (adS st a v) := by
  unfold adS; split
  · rename_i c hc; exact set_ok (c := c) h (h c (cat_mem hc))
  · exact h
theorem swS_ok {st : List Cel} {a was v : Int} (h : HolOk st) : HolOk (swS st a was v) := by
  unfold swS; split
  · rename_i c hc
    split
    · exact set_ok (c := c) h (h c (cat_mem hc))
    · exact h
  · exact h
theorem lkS_ok {st : List Cel} {a who : Int} (h : HolOk st) : HolOk (lkS st a who) := by
  unfold lkS; split
  · rename_i c hc
    split
    · rename_i h2; exact set_ok (c := c) h (.inr h2.1)
    · exact h
  · exact h
theorem frS_ok {st : List Cel} {a who : Int} (h : HolOk st) : HolOk (frS st a who) := by
  unfold frS; split
  · rename_i c hc
    split
    · exact set_ok (c := c) h (.inl rfl)
    · exact h
  · exact h

section one
variable {W : World} {mb ab : Nat} {st : List Cel}

theorem xload (H : Mem W mb ab st) (a : Int) : Calls Try.prog 12 #[.pointer (some ⟨mb, 0, none⟩), .int .i64 a] W fun e w' => e = .returned (.tuple #[.int .i64 (ldN st a), .int .i64 (ldE st a)]) ∧ W = w' := by
  by_cases h : InR st a
  · obtain ⟨i, c, rfl, hi, hc⟩ := cat_some h
    simp only [ldN, ldE, hc]; exact load_ok H hi
  · simp only [ldN, ldE, cat_none h]; exact load_arg H h
theorem xstore (H : Mem W mb ab st) (a v : Int) : Calls Try.prog 14 #[.pointer (some ⟨mb, 0, none⟩), .int .i64 a, .int .i64 v] W fun e w' => e = .returned (.int .i64 (ldE st a)) ∧ Mem w' mb ab (stS st a v) ∧ Turned (· = ab) W w' := by
  by_cases h : InR st a
  · obtain ⟨i, c, rfl, hi, hc⟩ := cat_some h
    simp only [stS, ldE, hc, Int.toNat_natCast]; exact store_ok H hi v
  · simp only [stS, ldE, cat_none h]; exact (store_arg H h v).mono fun e w' ⟨he, hw⟩ => ⟨he, hw ▸ H, hw ▸ Turned.refl _ _⟩
theorem xadd (H : Mem W mb ab st) (a v : Int) : Calls Try.prog 18 #[.pointer (some ⟨mb, 0, none⟩), .int .i64 a, .int .i64 v] W fun e w' => e = .returned (.tuple #[.int .i64 (ldN st a), .int .i64 (ldE st a)]) ∧ Mem w' mb ab (adS st a v) ∧ Turned (· = ab) W w' := by
  by_cases h : InR st a
  · obtain ⟨i, c, rfl, hi, hc⟩ := cat_some h
    simp only [adS, ldN, ldE, hc, Int.toNat_natCast]; exact add_ok H hi v
  · simp only [adS, ldN, ldE, cat_none h]; exact (add_arg H h v).mono fun e w' ⟨he, hw⟩ => ⟨he, hw ▸ H, hw ▸ Turned.refl _ _⟩
theorem xswap (H : Mem W mb ab st) (a was v : Int) : Calls Try.prog 16 #[.pointer (some ⟨mb, 0, none⟩), .int .i64 a, .int .i64 was, .int .i64 v] W fun e w' => e = .returned (.tuple #[.bool (swB st a was), .int .i64 (ldE st a)]) ∧ Mem w' mb ab (swS st a was v) ∧ Turned (· = ab) W w' := by
  by_cases h : InR st a
  · obtain ⟨i, c, rfl, hi, hc⟩ := cat_some h
    simp only [swS, swB, ldE, hc, Int.toNat_natCast]
    by_cases hw : c.n = was
    · subst hw; simp only [if_true, decide_true]; exact swap_yes H hi v
    · simp only [hw, if_false, decide_false]; exact (swap_no H hi hw v).mono fun e w' ⟨he, hw⟩ => ⟨he, hw ▸ H, hw ▸ Turned.refl _ _⟩
  · simp only [swS, swB, ldE, cat_none h]; exact (swap_arg H h was v).mono fun e w' ⟨he, hw⟩ => ⟨he, hw ▸ H, hw ▸ Turned.refl _ _⟩
theorem xlock (H : Mem W mb ab st) (a who : Int) : Calls Try.prog 20 #[.pointer (some ⟨mb, 0, none⟩), .int .i64 a, .int .i64 who] W fun e w' => e = .returned (.int .i64 (lkE st a who)) ∧ Mem w' mb ab (lkS st a who) ∧ Turned (· = ab) W w' := by
  by_cases h : InR st a
  · obtain ⟨i, c, rfl, hi, hc⟩ := cat_some h
    simp only [lkS, lkE, hc, Int.toNat_natCast]
    by_cases hs : Ses who
    · by_cases hh : c.h = -1
      · simp only [hs, hh, and_self, if_true]; exact lock_ok H hi hh hs
      · simp only [hs, hh, and_false, if_true, if_false]; exact (lock_busy H hi hh hs).mono fun e w' ⟨he, hw⟩ => ⟨he, hw ▸ H, hw ▸ Turned.refl _ _⟩
    · simp only [hs, false_and, if_false]; exact (lock_arg H (fun hx => hs hx.2)).mono fun e w' ⟨he, hw⟩ => ⟨he, hw ▸ H, hw ▸ Turned.refl _ _⟩
  · simp only [lkS, lkE, cat_none h]; exact (lock_arg H (fun hx => h hx.1)).mono fun e w' ⟨he, hw⟩ => ⟨he, hw ▸ H, hw ▸ Turned.refl _ _⟩
theorem xfree (H : Mem W mb ab st) (a who : Int) : Calls Try.prog 22 #[.pointer (some ⟨mb, 0, none⟩), .int .i64 a, .int .i64 who] W fun e w' => e = .returned (.int .i64 (frE st a who)) ∧ Mem w' mb ab (frS st a who) ∧ Turned (· = ab) W w' := by
  by_cases h : InR st a
  · obtain ⟨i, c, rfl, hi, hc⟩ := cat_some h
    simp only [frS, frE, hc, Int.toNat_natCast]
    by_cases hs : Ses who
    · by_cases hh : c.h = who
      · subst hh; simp only [hs, and_self, if_true]; exact free_ok H hi hs
      · simp only [hs, hh, and_false, if_true, if_false]; exact (free_none H hi hh hs).mono fun e w' ⟨he, hw⟩ => ⟨he, hw ▸ H, hw ▸ Turned.refl _ _⟩
    · simp only [hs, false_and, if_false]; exact (free_arg H (fun hx => hs hx.2)).mono fun e w' ⟨he, hw⟩ => ⟨he, hw ▸ H, hw ▸ Turned.refl _ _⟩
  · simp only [frS, frE, cat_none h]; exact (free_arg H (fun hx => h hx.1)).mono fun e w' ⟨he, hw⟩ => ⟨he, hw ▸ H, hw ▸ Turned.refl _ _⟩
theorem xholder (H : Mem W mb ab st) (a : Int) : Calls Try.prog 24 #[.pointer (some ⟨mb, 0, none⟩), .int .i64 a] W fun e w' => e = .returned (.int .i64 (hoR st a)) ∧ W = w' := by
  by_cases h : InR st a
  · obtain ⟨i, c, rfl, hi, hc⟩ := cat_some h
    simp only [hoR, hc]; exact holder_ok H hi
  · simp only [hoR, cat_none h]; exact holder_arg H h
theorem xwrites (H : Mem W mb ab st) (a : Int) : Calls Try.prog 26 #[.pointer (some ⟨mb, 0, none⟩), .int .i64 a] W fun e w' => e = .returned (.int .i64 (wrR st a)) ∧ W = w' := by
  by_cases h : InR st a
  · obtain ⟨i, c, rfl, hi, hc⟩ := cat_some h
    simp only [wrR, hc]; exact writes_ok H hi
  · simp only [wrR, cat_none h]; exact writes_arg H h
end one

section two
variable {W : World} {rb vb bb wb : Nat} {st : List Cel}
theorem yload (H : Ref W rb vb bb wb st) (a : Int) : Calls Try.prog 13 #[.pointer (some ⟨rb, 0, none⟩), .int .i64 a] W fun e w' => e = .returned (.tuple #[.int .i64 (ldN st a), .int .i64 (ldE st a)]) ∧ W = w' := by
  by_cases h : InR st a
  · obtain ⟨i, c, rfl, hi, hc⟩ := cat_some h
    simp only [ldN, ldE, hc]; exact rload_ok H hi
  · simp only [ldN, ldE, cat_none h]; exact rload_arg H h
theorem ystore (H : Ref W rb vb bb wb st) (a v : Int) : Calls Try.prog 15 #[.pointer (some ⟨rb, 0, none⟩), .int .i64 a, .int .i64 v] W fun e w' => e = .returned (.int .i64 (ldE st a)) ∧ Ref w' rb vb bb wb (stS st a v) ∧ Turned (rS vb bb wb) W w' := by
  by_cases h : InR st a
  · obtain ⟨i, c, rfl, hi, hc⟩ := cat_some h
    simp only [stS, ldE, hc, Int.toNat_natCast]; exact rstore_ok H hi v
  · simp only [stS, ldE, cat_none h]; exact (rstore_arg H h v).mono fun e w' ⟨he, hw⟩ => ⟨he, hw ▸ H, hw ▸ Turned.refl _ _⟩
theorem yadd (H : Ref W rb vb bb wb st) (a v : Int) : Calls Try.prog 19 #[.pointer (some ⟨rb, 0, none⟩), .int .i64 a, .int .i64 v] W fun e w' => e = .returned (.tuple #[.int .i64 (ldN st a), .int .i64 (ldE st a)]) ∧ Ref w' rb vb bb wb (adS st a v) ∧ Turned (rS vb bb wb) W w' := by
  by_cases h : InR st a
  · obtain ⟨i, c, rfl, hi, hc⟩ := cat_some h
    simp only [adS, ldN, ldE, hc, Int.toNat_natCast]; exact radd_ok H hi v
  · simp only [adS, ldN, ldE, cat_none h]; exact (radd_arg H h v).mono fun e w' ⟨he, hw⟩ => ⟨he, hw ▸ H, hw ▸ Turned.refl _ _⟩
theorem yswap (H : Ref W rb vb bb wb st) (a was v : Int) : Calls Try.prog 17 #[.pointer (some ⟨rb, 0, none⟩), .int .i64 a, .int .i64 was, .int .i64 v] W fun e w' => e = .returned (.tuple #[.bool (swB st a was), .int .i64 (ldE st a)]) ∧ Ref w' rb vb bb wb (swS st a was v) ∧ Turned (rS vb bb wb) W w' := by
  by_cases h : InR st a
  · obtain ⟨i, c, rfl, hi, hc⟩ := cat_some h
    simp only [swS, swB, ldE, hc, Int.toNat_natCast]
    by_cases hw : c.n = was
    · subst hw; simp only [if_true, decide_true]; exact rswap_yes H hi v
    · simp only [hw, if_false, decide_false]; exact (rswap_no H hi hw v).mono fun e w' ⟨he, hw⟩ => ⟨he, hw ▸ H, hw ▸ Turned.refl _ _⟩
  · simp only [swS, swB, ldE, cat_none h]; exact (rswap_arg H h was v).mono fun e w' ⟨he, hw⟩ => ⟨he, hw ▸ H, hw ▸ Turned.refl _ _⟩
theorem ylock (H : Ref W rb vb bb wb st) (hH : HolOk st) (a who : Int) : Calls Try.prog 21 #[.pointer (some ⟨rb, 0, none⟩), .int .i64 a, .int .i64 who] W fun e w' => e = .returned (.int .i64 (lkE st a who)) ∧ Ref w' rb vb bb wb (lkS st a who) ∧ Turned (rS vb bb wb) W w' := by
  by_cases h : InR st a
  · obtain ⟨i, c, rfl, hi, hc⟩ := cat_some h
    simp only [lkS, lkE, hc, Int.toNat_natCast]
    by_cases hs : Ses who
    · by_cases hh : c.h = -1
      · simp only [hs, hh, and_self, if_true]; exact rlock_ok H hi hh hs
      · have hge : 0 ≤ c.h := by
          rcases hH c (cat_mem hc) with h1 | h1
          · exact absurd h1 hh
          · exact h1.1
        simp only [hs, hh, and_false, if_true, if_false]; exact (rlock_busy H hi hge hs).mono fun e w' ⟨he, hw⟩ => ⟨he, hw ▸ H, hw ▸ Turned.refl _ _⟩
    · simp only [hs, false_and, if_false]; exact (rlock_arg H (fun hx => hs hx.2)).mono fun e w' ⟨he, hw⟩ => ⟨he, hw ▸ H, hw ▸ Turned.refl _ _⟩
  · simp only [lkS, lkE, cat_none h]; exact (rlock_arg H (fun hx => h hx.1)).mono fun e w' ⟨he, hw⟩ => ⟨he, hw ▸ H, hw ▸ Turned.refl _ _⟩
theorem yfree (H : Ref W rb vb bb wb st) (a who : Int) : Calls Try.prog 23 #[.pointer (some ⟨rb, 0, none⟩), .int .i64 a, .int .i64 who] W fun e w' => e = .returned (.int .i64 (frE st a who)) ∧ Ref w' rb vb bb wb (frS st a who) ∧ Turned (rS vb bb wb) W w' := by
  by_cases h : InR st a
  · obtain ⟨i, c, rfl, hi, hc⟩ := cat_some h
    simp only [frS, frE, hc, Int.toNat_natCast]
    by_cases hs : Ses who
    · by_cases hh : c.h = who
      · subst hh; simp only [hs, and_self, if_true]; exact rfree_ok H hi hs
      · simp only [hs, hh, and_false, if_true, if_false]; exact (rfree_none H hi hh hs).mono fun e w' ⟨he, hw⟩ => ⟨he, hw ▸ H, hw ▸ Turned.refl _ _⟩
    · simp only [hs, false_and, if_false]; exact (rfree_arg H (fun hx => hs hx.2)).mono fun e w' ⟨he, hw⟩ => ⟨he, hw ▸ H, hw ▸ Turned.refl _ _⟩
  · simp only [frS, frE, cat_none h]; exact (rfree_arg H (fun hx => h hx.1)).mono fun e w' ⟨he, hw⟩ => ⟨he, hw ▸ H, hw ▸ Turned.refl _ _⟩
theorem yholder (H : Ref W rb vb bb wb st) (a : Int) : Calls Try.prog 25 #[.pointer (some ⟨rb, 0, none⟩), .int .i64 a] W fun e w' => e = .returned (.int .i64 (hoR st a)) ∧ W = w' := by
  by_cases h : InR st a
  · obtain ⟨i, c, rfl, hi, hc⟩ := cat_some h
    simp only [hoR, hc]; exact rholder_ok H hi
  · simp only [hoR, cat_none h]; exact rholder_arg H h
theorem ywrites (H : Ref W rb vb bb wb st) (a : Int) : Calls Try.prog 27 #[.pointer (some ⟨rb, 0, none⟩), .int .i64 a] W fun e w' => e = .returned (.int .i64 (wrR st a)) ∧ W = w' := by
  by_cases h : InR st a
  · obtain ⟨i, c, rfl, hi, hc⟩ := cat_some h
    simp only [wrR, hc]; exact rwrites_ok H hi
  · simp only [wrR, cat_none h]; exact rwrites_arg H h
end two

/-- Both, one apart from the other, beside a block that neither touches. -/
structure Two (w : World) (mb ab rb vb bb wb bx : Nat) (xs : List Value) (T : TypeId) (W : World) (s1 s2 : List Cel) : Prop where
  m : Mem W mb ab s1
  r : Ref W rb vb bb wb s2
  x : Blk W bx xs T
  st : Still w W
  o1 : HolOk s1
  o2 : HolOk s2

structure Apart (w : World) (mb ab rb vb bb wb bx : Nat) : Prop where
  a1 : ab ≠ rb ∧ ab ≠ vb ∧ ab ≠ bb ∧ ab ≠ wb ∧ ab ≠ bx
  a2 : mb ≠ vb ∧ mb ≠ bb ∧ mb ≠ wb
  a3 : bx ≠ vb ∧ bx ≠ bb ∧ bx ≠ wb
  b1 : w.heap.size ≤ ab
  b2 : w.heap.size ≤ vb ∧ w.heap.size ≤ bb ∧ w.heap.size ≤ wb

variable {w : World} {mb ab rb vb bb wb bx : Nat} {xs : List Value} {T : TypeId} {W W' : World} {s1 s2 s : List Cel}

theorem Two.drewN (h : Two w mb ab rb vb bb wb bx xs T W s1 s2) (n : Nat) : Two w mb ab rb vb bb wb bx xs T (W.drewN n) s1 s2 :=
  ⟨h.m.drewN n, h.r.turned (S := fun _ => False) ((Turned.refl _ _).drewN n) (fun h => h) (fun h => h) (fun h => h) (fun h => h), h.x, h.st.drewN n, h.o1, h.o2⟩
theorem Two.drew (h : Two w mb ab rb vb bb wb bx xs T W s1 s2) : Two w mb ab rb vb bb wb bx xs T W.drew s1 s2 :=
  ⟨h.m.drew, h.r.turned (S := fun _ => False) (Turned.refl _ _).drew (fun h => h) (fun h => h) (fun h => h) (fun h => h), h.x, h.st.drew, h.o1, h.o2⟩
theorem Two.byX (A : Apart w mb ab rb vb bb wb bx) (h : Two w mb ab rb vb bb wb bx xs T W s1 s2) (hm : Mem W' mb ab s) (ho : HolOk s) (ht : Turned (· = ab) W W') : Two w mb ab rb vb bb wb bx xs T W' s s2 :=
  ⟨hm, h.r.turned ht (fun e => A.a1.1 e.symm) (fun e => A.a1.2.1 e.symm) (fun e => A.a1.2.2.1 e.symm) (fun e => A.a1.2.2.2.1 e.symm), h.x.turned ht (fun e => A.a1.2.2.2.2 e.symm), h.st.pastOne ht A.b1, ho, h.o2⟩
theorem Two.byY (A : Apart w mb ab rb vb bb wb bx) (h : Two w mb ab rb vb bb wb bx xs T W s1 s2) (hr : Ref W' rb vb bb wb s) (ho : HolOk s) (ht : Turned (rS vb bb wb) W W') : Two w mb ab rb vb bb wb bx xs T W' s1 s :=
  ⟨h.m.turned ht (fun e => by rcases e with e | e | e; exact A.a2.1 e; exact A.a2.2.1 e; exact A.a2.2.2 e) (fun e => by rcases e with e | e | e; exact A.a1.2.1 e; exact A.a1.2.2.1 e; exact A.a1.2.2.2.1 e),
    hr, h.x.turned ht (fun e => by rcases e with e | e | e; exact A.a3.1 e; exact A.a3.2.1 e; exact A.a3.2.2 e), h.st.past ht (fun i e => by rcases e with e | e | e <;> subst e; exact .inr A.b2.1; exact .inr A.b2.2.1; exact .inr A.b2.2.2), h.o1, ho⟩

theorem Two.still (h : Two w mb ab rb vb bb wb bx xs T W s1 s2) (ht : Still W W') : Two w mb ab rb vb bb wb bx xs T W' s1 s2 :=
  ⟨h.m.turned ht (fun h => h) (fun h => h), h.r.turned ht (fun h => h) (fun h => h) (fun h => h) (fun h => h), h.x.turned ht (fun h => h), h.st.trans ht, h.o1, h.o2⟩

theorem sameVs {W : World} {ao bo : Option Addr} {st : List Cel} (hl : st.length ≤ 64) (c d : Nat) (hA : NumsAt W ao (vs st)) (hB : NumsAt W bo (vs st)) :
    Calls Try.prog 28 #[.slice ao st.length c, .slice bo st.length d] W fun e w' => e = .returned (.bool true) ∧ ∃ n, w' = W.drewN n := by
  have := sameInts_any W ao bo (vs st) (vs st) c d rfl (by rw [vs_len]; omega) hA hB
  rw [vs_len] at this
  simpa using this
end Go.Proofs.Ytgdpalefhikbfaa
