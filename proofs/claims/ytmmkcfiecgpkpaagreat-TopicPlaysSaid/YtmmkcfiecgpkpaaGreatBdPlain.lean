/- Texts that lie next to one another, laid into one: each says what it holds. No condition but what each states. -/
import Derived.Test.YtmmkcfiecgpkpaaGreatBxBase
import Derived.OwnWalk
import Derived.Test.YtmmkcfiecgpkpaaGreatBxKit

/- Package handle and the document's answers of layer 4: what each function answers, as plain functions on numbers. No condition. -/
namespace Go.Proofs.YtmmkcfiecgpkpaaGreat
open Go.RowKit
set_option linter.unusedVariables false
set_option maxRecDepth 100000

/-- A slot and a generation that may be; the handle that they make, and the error. -/
def sgOk (s g : Int) : Prop := 0 ≤ s ∧ s < 128 ∧ 0 ≤ g ∧ g < 1099511627776
instance (s g : Int) : Decidable (sgOk s g) := by unfold sgOk; infer_instance
def haOf (s g : Int) : Int := if sgOk s g then g * 128 + s + 1 else 0
def haErr (s g : Int) : Int := if sgOk s g then 0 else 2
def haV (s g : Int) : Value := .tuple #[.int .i64 (haOf s g), .int .i64 (haErr s g)]
/-- A number that is a handle; its slot, its generation, the error. -/
def haIs (h : Int) : Prop := 1 ≤ h ∧ h ≤ 140737488355328
instance (h : Int) : Decidable (haIs h) := by unfold haIs; infer_instance
def slOf (h : Int) : Int := if haIs h then (h - 1) % 128 else 0
def geOf (h : Int) : Int := if haIs h then (h - 1) / 128 else 0
def isE (h : Int) : Int := if haIs h then 0 else 2
def slV (h : Int) : Value := .tuple #[.int .i64 (slOf h), .int .i64 (isE h)]
def geV (h : Int) : Value := .tuple #[.int .i64 (geOf h), .int .i64 (isE h)]
def spV (h : Int) : Value := .tuple #[.int .i64 (slOf h), .int .i64 (geOf h), .int .i64 (isE h)]
/-- The handle of the same slot, a generation on. -/
def neOk (h : Int) : Prop := haIs h ∧ h ≤ 140737488355200
instance (h : Int) : Decidable (neOk h) := by unfold neOk; infer_instance
def neOf (h : Int) : Int := if neOk h then h + 128 else 0
def neErr (h : Int) : Int := if neOk h then 0 else 2
def neV (h : Int) : Value := .tuple #[.int .i64 (neOf h), .int .i64 (neErr h)]

def i64 (a : Int) : Prop := -9223372036854775808 ≤ a ∧ a ≤ 9223372036854775807

theorem haV_ok {s g : Int} (h : sgOk s g) : haV s g = .tuple #[.int .i64 (g * 128 + s + 1), .int .i64 0] := by simp [haV, haOf, haErr, h]
theorem haV_no {s g : Int} (h : ¬ sgOk s g) : haV s g = .tuple #[.int .i64 0, .int .i64 2] := by simp [haV, haOf, haErr, h]
theorem slV_ok {h : Int} (k : haIs h) : slV h = .tuple #[.int .i64 ((h - 1) % 128), .int .i64 0] := by simp [slV, slOf, isE, k]
theorem slV_no {h : Int} (k : ¬ haIs h) : slV h = .tuple #[.int .i64 0, .int .i64 2] := by simp [slV, slOf, isE, k]
theorem geV_ok {h : Int} (k : haIs h) : geV h = .tuple #[.int .i64 ((h - 1) / 128), .int .i64 0] := by simp [geV, geOf, isE, k]
theorem geV_no {h : Int} (k : ¬ haIs h) : geV h = .tuple #[.int .i64 0, .int .i64 2] := by simp [geV, geOf, isE, k]
theorem spV_ok {h : Int} (k : haIs h) : spV h = .tuple #[.int .i64 ((h - 1) % 128), .int .i64 ((h - 1) / 128), .int .i64 0] := by simp [spV, slOf, geOf, isE, k]
theorem spV_no {h : Int} (k : ¬ haIs h) : spV h = .tuple #[.int .i64 0, .int .i64 0, .int .i64 2] := by simp [spV, slOf, geOf, isE, k]
theorem neV_ok {h : Int} (k : neOk h) : neV h = .tuple #[.int .i64 (h + 128), .int .i64 0] := by simp [neV, neOf, neErr, k]
theorem neV_no {h : Int} (k : ¬ neOk h) : neV h = .tuple #[.int .i64 0, .int .i64 2] := by simp [neV, neOf, neErr, k]

theorem of_any (s g : Int) (w : World) : Calls Tryz.prog 103 #[.int .i64 s, .int .i64 g] w fun e w' => e = .returned (haV s g) ∧ w = w' := by
  by_cases h : sgOk s g
  · have HV := Lib.hid (haV_ok h)
    obtain ⟨h1, h2, h3, h4⟩ := h
    go_enter Tryz.func103, Tryz.ntmps103
    go_wp2
    go_ret2
    exact ⟨by rw [HV.out]; rfl, rfl⟩
  · have HV := Lib.hid (haV_no h)
    unfold sgOk at h
    go_enter Tryz.func103, Tryz.ntmps103
    go_wp2
    all_goals first | (exfalso; omega) | (go_ret2; exact ⟨by rw [HV.out]; rfl, rfl⟩)

theorem split_any (h : Int) (w : World) : Calls Tryz.prog 144 #[.int .i64 h] w fun e w' => e = .returned (spV h) ∧ w = w' := by
  by_cases k : haIs h
  · have HV := Lib.hid (spV_ok k)
    obtain ⟨h1, h2⟩ := k
    have HM := Lib.hid (Int.tmod_eq_emod_of_nonneg (a := h - 1) (b := 128) (by omega))
    have HD := Lib.hid (Int.tdiv_eq_ediv_of_nonneg (a := h - 1) (b := 128) (by omega))
    go_enter Tryz.func144, Tryz.ntmps144
    go_wp2
    go_ret3
    exact ⟨by rw [HV.out]; rfl, rfl⟩
  · have HV := Lib.hid (spV_no k)
    unfold haIs at k
    go_enter Tryz.func144, Tryz.ntmps144
    go_wp2
    all_goals first | (exfalso; omega) | (go_ret3; exact ⟨by rw [HV.out]; rfl, rfl⟩)

theorem slot_any (h : Int) (w : World) : Calls Tryz.prog 137 #[.int .i64 h] w fun e w' => e = .returned (slV h) ∧ w = w' := by
  have H := split_any h w
  unfold spV at H
  unfold slV
  generalize slOf h = a at *
  generalize geOf h = b at *
  generalize isE h = c at *
  go_enter Tryz.func137, Tryz.ntmps137
  go_wp2_with (go_at_call 144; refine H.mono ?_; rintro e w' ⟨rfl, rfl⟩)
  go_ret2
  exact ⟨rfl, rfl⟩

theorem next_is {h : Int} (k : haIs h) : haV ((h - 1) % 128) ((h - 1) / 128 + 1) = neV h := by
  obtain ⟨h1, h2⟩ := k
  by_cases k2 : neOk h
  · rw [neV_ok k2, haV_ok (by obtain ⟨_, k3⟩ := k2; refine ⟨?_, ?_, ?_, ?_⟩ <;> omega)]
    rw [show ((h - 1) / 128 + 1) * 128 + (h - 1) % 128 + 1 = h + 128 by omega]
  · rw [neV_no k2, haV_no (fun q => k2 ⟨⟨h1, h2⟩, by obtain ⟨q1, q2, q3, q4⟩ := q; omega⟩)]

theorem next_any (h : Int) (w : World) : Calls Tryz.prog 138 #[.int .i64 h] w fun e w' => e = .returned (neV h) ∧ w = w' := by
  have H := split_any h w
  by_cases k : haIs h
  · rw [spV_ok k] at H
    have H2 := of_any ((h - 1) % 128) ((h - 1) / 128 + 1) w
    rw [next_is k] at H2
    obtain ⟨h1, h2⟩ := k
    obtain ⟨a, ha⟩ : ∃ a, a = (h - 1) % 128 := ⟨_, rfl⟩
    obtain ⟨b, hb⟩ : ∃ b, b = (h - 1) / 128 := ⟨_, rfl⟩
    rw [← ha, ← hb] at H
    rw [← ha, ← hb] at H2
    unfold neV at H2 ⊢
    generalize neOf h = x at *
    generalize neErr h = y at *
    have hb1 : 0 ≤ b := by omega
    have hb2 : b ≤ 1099511627776 := by omega
    clear ha hb
    go_enter Tryz.func138, Tryz.ntmps138
    go_wp2_with (first | (go_at_call 144; refine H.mono ?_; rintro e w' ⟨rfl, rfl⟩) | (go_at_call 103; refine H2.mono ?_; rintro e w' ⟨rfl, rfl⟩))
    go_ret2
    exact ⟨rfl, rfl⟩
  · rw [spV_no k] at H
    have HV := Lib.hid (neV_no (fun q => k q.1))
    go_enter Tryz.func138, Tryz.ntmps138
    go_wp2_with (go_at_call 144; refine H.mono ?_; rintro e w' ⟨rfl, rfl⟩)
    go_ret2
    exact ⟨by rw [HV.out]; rfl, rfl⟩

theorem is_any (h : Int) (w : World) : Calls Tryz.prog 109 #[.int .i64 h] w fun e w' => e = .returned (.bool (decide (haIs h))) ∧ w = w' := by
  by_cases k : haIs h
  · rw [decide_eq_true k]
    obtain ⟨h1, h2⟩ := k
    go_enter Tryz.func109, Tryz.ntmps109
    go_wp2
    go_ret
    exact ⟨ret_bool (by simp; try omega), rfl⟩
  · rw [decide_eq_false k]
    unfold haIs at k
    go_enter Tryz.func109, Tryz.ntmps109
    go_wp2
    all_goals first | (exfalso; omega) | (go_ret; exact ⟨ret_bool (by first | rfl | (simp; omega)), rfl⟩)

theorem refOf_any (s g : Int) (w : World) : Calls Tryz.prog 111 #[.int .i64 s, .int .i64 g] w fun e w' => e = .returned (haV s g) ∧ w = w' := by
  by_cases h : sgOk s g
  · have HV := Lib.hid (haV_ok h)
    obtain ⟨h1, h2, h3, h4⟩ := h
    go_enter Tryz.func111, Tryz.ntmps111
    go_wp2
    go_ret2
    exact ⟨by rw [HV.out]; rfl, rfl⟩
  · have HV := Lib.hid (haV_no h)
    unfold sgOk at h
    go_enter Tryz.func111, Tryz.ntmps111
    go_wp2
    all_goals first | (exfalso; omega) | (exfalso; rename_i q; simp at q; omega) | (go_ret2; exact ⟨by rw [HV.out]; rfl, rfl⟩)

theorem refSlot_any (h : Int) (w : World) : Calls Tryz.prog 74 #[.int .i64 h] w fun e w' => e = .returned (slV h) ∧ w = w' := by
  have H := is_any h w
  by_cases k : haIs h
  · have HV := Lib.hid (slV_ok k)
    rw [decide_eq_true k] at H
    obtain ⟨h1, h2⟩ := k
    have HM := Lib.hid (Int.tmod_eq_emod_of_nonneg (a := h - 1) (b := 128) (by omega))
    go_enter Tryz.func74, Tryz.ntmps74
    go_wp2_with (go_at_call 109; refine H.mono ?_; rintro e w' ⟨rfl, rfl⟩)
    go_ret2
    exact ⟨by rw [HV.out]; rfl, rfl⟩
  · have HV := Lib.hid (slV_no k)
    rw [decide_eq_false k] at H
    clear k
    go_enter Tryz.func74, Tryz.ntmps74
    go_wp2_with (go_at_call 109; refine H.mono ?_; rintro e w' ⟨rfl, rfl⟩)
    go_ret2
    exact ⟨by rw [HV.out]; rfl, rfl⟩

end Go.Proofs.YtmmkcfiecgpkpaaGreat

/- The plain pool: slots with a generation, a count and bytes, and the stack of free slots; what its calls do, as plain functions. No condition. -/
namespace Go.Proofs.YtmmkcfiecgpkpaaGreat
open Go.RowKit
set_option linter.unusedVariables false

/-- A slot: its generation, its count, its bytes. -/
structure Slt where
  g : Nat
  c : Nat
  b : List UInt8

/-- A pool: its slots, the free ones (the top first), how many bytes a slot has room for. -/
structure PM where
  sl : List Slt
  fr : List Nat
  size : Nat

/-- The slot that a number names as a handle, and its generation. -/
def hSlot (h : Int) : Nat := ((h - 1) % 128).toNat
def hGen (h : Int) : Int := (h - 1) / 128

/-- The error of a number that is told as a handle: 0, if it is live. -/
def PM.err (M : PM) (h : Int) : Int :=
  if ¬ haIs h then 2 else
  match M.sl[hSlot h]? with
  | none => 5
  | some s => if (s.g : Int) = hGen h ∧ s.c ≠ 0 then 0 else 40

def PM.new (n size : Nat) : PM := ⟨List.replicate n ⟨0, 0, []⟩, List.range n, size⟩

/-- What a call leaves, and what it answers. -/
def PM.takeM (M : PM) (n : Int) : PM :=
  if n < 0 ∨ (M.size : Int) < n then M else
  match M.fr with
  | [] => M
  | k :: r => { M with sl := M.sl.set k ⟨(M.sl[k]?.getD ⟨0, 0, []⟩).g, 1, List.replicate n.toNat 0⟩, fr := r }
def PM.takeE (M : PM) (n : Int) : Int := if n < 0 then 2 else if (M.size : Int) < n then 3 else if M.fr = [] then 50 else 0
def PM.takeH (M : PM) (n : Int) : Int :=
  if n < 0 ∨ (M.size : Int) < n then 0 else
  match M.fr with
  | [] => 0
  | k :: _ => ((M.sl[k]?.getD ⟨0, 0, []⟩).g : Int) * 128 + (k : Nat) + 1
def PM.slt (M : PM) (h : Int) : Slt := M.sl[hSlot h]?.getD ⟨0, 0, []⟩
def PM.fillE (M : PM) (h : Int) (b : List UInt8) : Int := if M.err h ≠ 0 then M.err h else if b.length ≠ (M.slt h).b.length then 2 else 0
def PM.fillM (M : PM) (h : Int) (b : List UInt8) : PM := if M.fillE h b ≠ 0 then M else { M with sl := M.sl.set (hSlot h) { M.slt h with b := b } }
def PM.bytes (M : PM) (h : Int) : List UInt8 := if M.err h ≠ 0 then [] else (M.slt h).b
def PM.keepM (M : PM) (h : Int) : PM := if M.err h ≠ 0 then M else { M with sl := M.sl.set (hSlot h) { M.slt h with c := (M.slt h).c + 1 } }
def PM.dropM (M : PM) (h : Int) : PM :=
  if M.err h ≠ 0 then M else
  if (M.slt h).c = 1 then { M with sl := M.sl.set (hSlot h) ⟨(M.slt h).g + 1, 0, []⟩, fr := hSlot h :: M.fr }
  else { M with sl := M.sl.set (hSlot h) { M.slt h with c := (M.slt h).c - 1 } }
def PM.dropN (M : PM) (h : Int) : Int := if M.err h ≠ 0 then 0 else (((M.slt h).c - 1 : Nat) : Int)

/-- A pool as it may be, with no generation and no count above a bound. -/
structure PM.Ok (M : PM) (N : Nat) : Prop where
  pos : 0 < M.sl.length
  len : M.sl.length ≤ 128
  size0 : 1 ≤ M.size
  size1 : M.size ≤ 256
  nodup : M.fr.Nodup
  lt : ∀ k ∈ M.fr, k < M.sl.length
  free : ∀ (k : Nat) (s : Slt), M.sl[k]? = some s → (s.c = 0 ↔ k ∈ M.fr)
  void : ∀ (k : Nat) (s : Slt), M.sl[k]? = some s → s.c = 0 → s.b = []
  bytes : ∀ (k : Nat) (s : Slt), M.sl[k]? = some s → s.b.length ≤ M.size
  low : ∀ (k : Nat) (s : Slt), M.sl[k]? = some s → s.g ≤ N ∧ s.c ≤ N

theorem PM.Ok.mono {M : PM} {N N' : Nat} (h : M.Ok N) (hN : N ≤ N') : M.Ok N' :=
  ⟨h.pos, h.len, h.size0, h.size1, h.nodup, h.lt, h.free, h.void, h.bytes, fun k s hs => by have := h.low k s hs; omega⟩

theorem PM.new_ok {n size : Nat} (h0 : 1 ≤ n) (h1 : n ≤ 128) (h2 : 1 ≤ size) (h3 : size ≤ 256) : (PM.new n size).Ok 0 := by
  have key : ∀ (k : Nat) (s : Slt), (PM.new n size).sl[k]? = some s → k < n ∧ s = ⟨0, 0, []⟩ := by
    intro k s hs
    simp only [PM.new, List.getElem?_replicate] at hs
    split at hs
    · exact ⟨by assumption, (Option.some.inj hs).symm⟩
    · cases hs
  refine ⟨by simp [PM.new]; omega, by simp [PM.new]; omega, h2, h3, by simp [PM.new, List.nodup_range], by simp [PM.new], ?_, ?_, ?_, ?_⟩
  · intro k s hs; obtain ⟨h, rfl⟩ := key k s hs; simp [PM.new, h]
  · intro k s hs; obtain ⟨h, rfl⟩ := key k s hs; simp
  · intro k s hs; obtain ⟨h, rfl⟩ := key k s hs; simp
  · intro k s hs; obtain ⟨h, rfl⟩ := key k s hs; simp

/-- A live handle. -/
theorem PM.live {M : PM} {h : Int} (he : M.err h = 0) : haIs h ∧ hSlot h < M.sl.length ∧ M.sl[hSlot h]? = some (M.slt h) ∧ ((M.slt h).g : Int) = hGen h ∧ (M.slt h).c ≠ 0 := by
  unfold PM.err at he
  split at he
  · cases he
  · rename_i hh
    unfold PM.slt
    cases hs : M.sl[hSlot h]? with
    | none => rw [hs] at he; cases he
    | some s =>
      rw [hs] at he
      simp only at he
      split at he
      · rename_i h2
        exact ⟨by simpa using hh, (List.getElem?_eq_some_iff.1 hs).1, rfl, h2.1, h2.2⟩
      · cases he

theorem PM.err_vals (M : PM) (h : Int) : M.err h = 0 ∨ M.err h = 2 ∨ M.err h = 5 ∨ M.err h = 40 := by
  unfold PM.err
  split
  · exact .inr (.inl rfl)
  · cases M.sl[hSlot h]? with
    | none => exact .inr (.inr (.inl rfl))
    | some s => simp only; split; exact .inl rfl; exact .inr (.inr (.inr rfl))

theorem hSlot_of {k : Nat} (g : Nat) (hk : k < 128) : hSlot ((g : Int) * 128 + (k : Nat) + 1) = k := by unfold hSlot; omega
theorem hGen_of {k : Nat} (g : Nat) (hk : k < 128) : hGen ((g : Int) * 128 + (k : Nat) + 1) = g := by unfold hGen; omega
theorem hIs_of {k : Nat} {g : Nat} (hk : k < 128) (hg : g < 1099511627776) : haIs ((g : Int) * 128 + (k : Nat) + 1) := ⟨by omega, by omega⟩

/-- One slot is turned: what still stands. -/
theorem set_get {l : List Slt} {k : Nat} {t : Slt} (hk : k < l.length) {i : Nat} {s : Slt} (h : (l.set k t)[i]? = some s) : (i = k ∧ s = t) ∨ (i ≠ k ∧ l[i]? = some s) := by
  by_cases e : i = k
  · subst e
    rw [List.getElem?_set_self hk] at h
    exact .inl ⟨rfl, (Option.some.inj h).symm⟩
  · rw [List.getElem?_set_ne (fun h => e h.symm)] at h
    exact .inr ⟨e, h⟩

theorem PM.Ok.take {M : PM} {N : Nat} (h : M.Ok N) (hN : 1 ≤ N) (n : Int) : (M.takeM n).Ok N := by
  unfold PM.takeM
  split
  · exact h
  · rename_i hn
    cases hf : M.fr with
    | nil => exact h
    | cons k r =>
      have hkl : k < M.sl.length := h.lt k (by rw [hf]; exact List.mem_cons_self)
      obtain ⟨s0, hs0⟩ := get_some hkl
      have hnd := h.nodup
      rw [hf, List.nodup_cons] at hnd
      have hg := (h.low k s0 hs0).1
      simp only [hs0, Option.getD_some]
      refine ⟨by simp; exact h.pos, by simp; exact h.len, h.size0, h.size1, hnd.2, ?_, ?_, ?_, ?_, ?_⟩
      · intro i hi; simp; exact h.lt i (by rw [hf]; exact List.mem_cons_of_mem _ hi)
      · intro i s hs
        rcases set_get hkl hs with ⟨rfl, rfl⟩ | ⟨hne, hs⟩
        · simp; exact hnd.1
        · have := h.free i s hs
          rw [this, hf, List.mem_cons]
          simp [hne]
      · intro i s hs
        rcases set_get hkl hs with ⟨rfl, rfl⟩ | ⟨hne, hs⟩
        · intro h0; simp at h0
        · exact h.void i s hs
      · intro i s hs
        rcases set_get hkl hs with ⟨rfl, rfl⟩ | ⟨hne, hs⟩
        · simp; omega
        · exact h.bytes i s hs
      · intro i s hs
        rcases set_get hkl hs with ⟨rfl, rfl⟩ | ⟨hne, hs⟩
        · exact ⟨hg, hN⟩
        · exact h.low i s hs

theorem PM.Ok.fill {M : PM} {N : Nat} (h : M.Ok N) (x : Int) (b : List UInt8) : (M.fillM x b).Ok N := by
  unfold PM.fillM
  split
  · exact h
  · rename_i he
    have he : M.fillE x b = 0 := by simpa using he
    have h0 : M.err x = 0 := by
      unfold PM.fillE at he
      split at he
      · exact he
      · rename_i h1; simpa using h1
    have hb : b.length = (M.slt x).b.length := by
      unfold PM.fillE at he
      rw [if_neg (by rw [h0]; simp)] at he
      split at he
      · cases he
      · rename_i h1; simpa using h1
    obtain ⟨h1, hkl, h3, h4, h5⟩ := PM.live h0
    refine ⟨by simp; exact h.pos, by simp; exact h.len, h.size0, h.size1, h.nodup, by simpa using h.lt, ?_, ?_, ?_, ?_⟩
    · intro i s hs
      rcases set_get hkl hs with ⟨rfl, rfl⟩ | ⟨hne, hs⟩
      · have := h.free _ _ h3; exact this
      · exact h.free i s hs
    · intro i s hs
      rcases set_get hkl hs with ⟨rfl, rfl⟩ | ⟨hne, hs⟩
      · intro hc; exact absurd hc h5
      · exact h.void i s hs
    · intro i s hs
      rcases set_get hkl hs with ⟨rfl, rfl⟩ | ⟨hne, hs⟩
      · have := h.bytes _ _ h3; simp only; omega
      · exact h.bytes i s hs
    · intro i s hs
      rcases set_get hkl hs with ⟨rfl, rfl⟩ | ⟨hne, hs⟩
      · have := h.low _ _ h3; exact this
      · exact h.low i s hs

theorem PM.Ok.keep {M : PM} {N : Nat} (h : M.Ok N) (x : Int) : (M.keepM x).Ok (N + 1) := by
  unfold PM.keepM
  split
  · exact h.mono (by omega)
  · rename_i he
    obtain ⟨h1, hkl, h3, h4, h5⟩ := PM.live (show M.err x = 0 by simpa using he)
    refine ⟨by simp; exact h.pos, by simp; exact h.len, h.size0, h.size1, h.nodup, by simpa using h.lt, ?_, ?_, ?_, ?_⟩
    · intro i s hs
      rcases set_get hkl hs with ⟨rfl, rfl⟩ | ⟨hne, hs⟩
      · have := h.free _ _ h3
        simp only [Nat.add_eq_zero_iff, Nat.succ_ne_self, and_false, false_iff]
        intro hm; exact h5 (this.2 hm)
      · exact h.free i s hs
    · intro i s hs
      rcases set_get hkl hs with ⟨rfl, rfl⟩ | ⟨hne, hs⟩
      · intro hc; simp at hc
      · exact h.void i s hs
    · intro i s hs
      rcases set_get hkl hs with ⟨rfl, rfl⟩ | ⟨hne, hs⟩
      · have := h.bytes _ _ h3; exact this
      · exact h.bytes i s hs
    · intro i s hs
      rcases set_get hkl hs with ⟨rfl, rfl⟩ | ⟨hne, hs⟩
      · have := h.low _ _ h3; simp only; omega
      · have := h.low i s hs; omega

theorem PM.Ok.drop {M : PM} {N : Nat} (h : M.Ok N) (x : Int) : (M.dropM x).Ok (N + 1) := by
  unfold PM.dropM
  split
  · exact h.mono (by omega)
  · rename_i he
    obtain ⟨h1, hkl, h3, h4, h5⟩ := PM.live (show M.err x = 0 by simpa using he)
    have hnf : hSlot x ∉ M.fr := fun hm => h5 ((h.free _ _ h3).2 hm)
    split
    · rename_i hc
      refine ⟨by simp; exact h.pos, by simp; exact h.len, h.size0, h.size1, List.nodup_cons.2 ⟨hnf, h.nodup⟩, ?_, ?_, ?_, ?_, ?_⟩
      · intro i hi
        simp
        rcases List.mem_cons.1 hi with rfl | hi
        · exact hkl
        · exact h.lt i hi
      · intro i s hs
        rcases set_get hkl hs with ⟨rfl, rfl⟩ | ⟨hne, hs⟩
        · simp
        · rw [h.free i s hs, List.mem_cons]; simp [hne]
      · intro i s hs
        rcases set_get hkl hs with ⟨rfl, rfl⟩ | ⟨hne, hs⟩
        · intro _; rfl
        · exact h.void i s hs
      · intro i s hs
        rcases set_get hkl hs with ⟨rfl, rfl⟩ | ⟨hne, hs⟩
        · simp
        · exact h.bytes i s hs
      · intro i s hs
        rcases set_get hkl hs with ⟨rfl, rfl⟩ | ⟨hne, hs⟩
        · have := h.low _ _ h3; simp only; omega
        · have := h.low i s hs; omega
    · rename_i hc
      refine ⟨by simp; exact h.pos, by simp; exact h.len, h.size0, h.size1, h.nodup, by simpa using h.lt, ?_, ?_, ?_, ?_⟩
      · intro i s hs
        rcases set_get hkl hs with ⟨rfl, rfl⟩ | ⟨hne, hs⟩
        · simp only
          constructor
          · intro h0; exfalso; omega
          · intro hm; exact absurd hm hnf
        · exact h.free i s hs
      · intro i s hs
        rcases set_get hkl hs with ⟨rfl, rfl⟩ | ⟨hne, hs⟩
        · intro h0; simp only at h0; exfalso; omega
        · exact h.void i s hs
      · intro i s hs
        rcases set_get hkl hs with ⟨rfl, rfl⟩ | ⟨hne, hs⟩
        · have := h.bytes _ _ h3; exact this
        · exact h.bytes i s hs
      · intro i s hs
        rcases set_get hkl hs with ⟨rfl, rfl⟩ | ⟨hne, hs⟩
        · have := h.low _ _ h3; simp only; omega
        · have := h.low i s hs; omega

theorem nodup_len : ∀ (n : Nat) (l : List Nat), l.Nodup → (∀ x ∈ l, x < n) → l.length ≤ n
  | 0, l, _, h => by cases l with
    | nil => exact Nat.le_refl _
    | cons a r => exact absurd (h a List.mem_cons_self) (Nat.not_lt_zero _)
  | n + 1, l, hd, h => by
    by_cases hm : n ∈ l
    · have h1 := nodup_len n (l.erase n) (hd.erase n) (fun x hx => by
        have h2 := (hd.mem_erase_iff).1 hx
        have := h x h2.2
        omega)
      rw [List.length_erase_of_mem hm] at h1
      omega
    · have := nodup_len n l hd (fun x hx => by
        have := h x hx
        have : x ≠ n := fun e => hm (e ▸ hx)
        omega)
      omega
theorem PM.Ok.frlen {M : PM} {N : Nat} (h : M.Ok N) : M.fr.length ≤ 128 := Nat.le_trans (nodup_len _ _ h.nodup h.lt) h.len
end Go.Proofs.YtmmkcfiecgpkpaaGreat

/- The plain pool: generations only rise, handles that were given stay a slot's and a generation's, and free and live slots are all slots. No condition. -/
namespace Go.Proofs.YtmmkcfiecgpkpaaGreat
open Go.RowKit
set_option linter.unusedVariables false

/-- As many slots, no generation less, and a slot of the same generation is not given back. -/
structure PM.Le (M M' : PM) : Prop where
  len : M'.sl.length = M.sl.length
  gen : ∀ (k : Nat) (s : Slt), M.sl[k]? = some s → ∃ s', M'.sl[k]? = some s' ∧ (s.g < s'.g ∨ s.g = s'.g ∧ (s.c ≠ 0 → s'.c ≠ 0))

theorem PM.Le.refl (M : PM) : M.Le M := ⟨rfl, fun k s h => ⟨s, h, .inr ⟨rfl, fun h => h⟩⟩⟩
theorem PM.Le.trans {a b c : PM} (h : a.Le b) (k : b.Le c) : a.Le c :=
  ⟨k.len.trans h.len, fun i s hs => by
    obtain ⟨s1, h1, h2⟩ := h.gen i s hs
    obtain ⟨s2, h3, h4⟩ := k.gen i s1 h1
    refine ⟨s2, h3, ?_⟩
    rcases h2 with h2 | ⟨h2, h2'⟩
    · rcases h4 with h4 | ⟨h4, _⟩ <;> exact .inl (by omega)
    · rcases h4 with h4 | ⟨h4, h4'⟩
      · exact .inl (by omega)
      · exact .inr ⟨by omega, fun hc => h4' (h2' hc)⟩⟩

theorem PM.Le.set {M : PM} {k : Nat} {s t : Slt} {fr : List Nat} (hs : M.sl[k]? = some s) (hg : s.g < t.g ∨ s.g = t.g ∧ (s.c ≠ 0 → t.c ≠ 0)) : M.Le { M with sl := M.sl.set k t, fr := fr } := by
  refine ⟨by simp, fun i u hu => ?_⟩
  by_cases e : i = k
  · subst e
    rw [hs] at hu; cases hu
    exact ⟨t, List.getElem?_set_self (get_lt hs), hg⟩
  · exact ⟨u, by rw [List.getElem?_set_ne (fun h => e h.symm)]; exact hu, .inr ⟨rfl, fun h => h⟩⟩

theorem PM.Ok.take_le {M : PM} {N : Nat} (h : M.Ok N) (n : Int) : M.Le (M.takeM n) := by
  unfold PM.takeM
  split
  · exact PM.Le.refl M
  · cases hf : M.fr with
    | nil => exact PM.Le.refl M
    | cons k r =>
      obtain ⟨s, hs⟩ := get_some (h.lt k (by rw [hf]; exact List.mem_cons_self))
      exact PM.Le.set hs (.inr ⟨by rw [hs]; rfl, fun _ => by simp⟩)
theorem PM.keep_le (M : PM) (x : Int) : M.Le (M.keepM x) := by
  unfold PM.keepM
  split
  · exact PM.Le.refl M
  · rename_i he
    exact PM.Le.set (fr := M.fr) (PM.live (show M.err x = 0 by simpa using he)).2.2.1 (.inr ⟨rfl, fun _ => Nat.succ_ne_zero _⟩)
theorem PM.drop_le (M : PM) (x : Int) : M.Le (M.dropM x) := by
  unfold PM.dropM
  split
  · exact PM.Le.refl M
  · rename_i he
    have hl := PM.live (show M.err x = 0 by simpa using he)
    have hs := hl.2.2.1
    have hc := hl.2.2.2.2
    split
    · exact PM.Le.set hs (.inl (Nat.lt_succ_self _))
    · exact PM.Le.set (fr := M.fr) hs (.inr ⟨rfl, fun _ => by show (M.slt x).c - 1 ≠ 0; omega⟩)
theorem PM.fill_le (M : PM) (x : Int) (b : List UInt8) : M.Le (M.fillM x b) := by
  unfold PM.fillM
  split
  · exact PM.Le.refl M
  · rename_i he
    have he : M.fillE x b = 0 := by simpa using he
    have h0 : M.err x = 0 := by
      unfold PM.fillE at he
      split at he
      · exact he
      · rename_i h1; simpa using h1
    exact PM.Le.set (fr := M.fr) (PM.live h0).2.2.1 (.inr ⟨rfl, fun h => h⟩)

/-- A handle that was given: of a slot that there is, live, or of a generation gone. -/
def PM.Given (M : PM) (h : Int) : Prop := ∃ (k g : Nat) (s : Slt), h = (g : Int) * 128 + (k : Nat) + 1 ∧ M.sl[k]? = some s ∧ (g < s.g ∨ g = s.g ∧ s.c ≠ 0)
theorem PM.Given.le {M M' : PM} {h : Int} (hg : M.Given h) (hle : M.Le M') : M'.Given h := by
  obtain ⟨k, g, s, e, h1, h2⟩ := hg
  obtain ⟨s', h3, h4⟩ := hle.gen k s h1
  refine ⟨k, g, s', e, h3, ?_⟩
  rcases h2 with h2 | ⟨h2, h2'⟩
  · rcases h4 with h4 | ⟨h4, _⟩ <;> exact .inl (by omega)
  · rcases h4 with h4 | ⟨h4, h4'⟩
    · exact .inl (by omega)
    · exact .inr ⟨by omega, h4' h2'⟩
theorem PM.Given.small {M : PM} {N : Nat} {h : Int} (hg : M.Given h) (hM : M.Ok N) : 1 ≤ h ∧ h ≤ (N : Int) * 128 + 128 := by
  obtain ⟨k, g, s, rfl, h1, h2⟩ := hg
  have := (hM.low k s h1).1
  have := get_lt h1
  have := hM.len
  omega

theorem PM.Ok.given {M : PM} {N : Nat} (h : M.Ok N) {n : Int} (he : M.takeE n = 0) : (M.takeM n).Given (M.takeH n) ∧ M.takeH n ≠ 0 := by
  unfold PM.takeE at he
  split at he
  · cases he
  · rename_i h1
    split at he
    · cases he
    · rename_i h2
      split at he
      · cases he
      · rename_i h3
        cases hf : M.fr with
        | nil => exact absurd hf h3
        | cons k r =>
          obtain ⟨s, hs⟩ := get_some (h.lt k (by rw [hf]; exact List.mem_cons_self))
          have e1 : M.takeH n = (s.g : Int) * 128 + (k : Nat) + 1 := by unfold PM.takeH; rw [if_neg (by omega), hf]; simp [hs]
          have e2 : M.takeM n = { M with sl := M.sl.set k ⟨s.g, 1, List.replicate n.toNat 0⟩, fr := r } := by unfold PM.takeM; rw [if_neg (by omega), hf]; simp [hs]
          refine ⟨?_, by rw [e1]; omega⟩
          rw [e1, e2]
          exact ⟨k, s.g, _, rfl, List.getElem?_set_self (get_lt hs), .inr ⟨rfl, by simp⟩⟩

/-- How many slots are live, up to one. -/
def PM.cnt (M : PM) (k : Nat) : Nat := (M.sl[k]?.getD ⟨0, 0, []⟩).c
def PM.liveTo (M : PM) (k : Nat) : Nat := (List.range k).countP fun i => decide (0 < M.cnt i)
theorem PM.liveTo_succ (M : PM) (k : Nat) : M.liveTo (k + 1) = M.liveTo k + if 0 < M.cnt k then 1 else 0 := by
  unfold PM.liveTo
  rw [List.range_succ, List.countP_append]
  simp [List.countP_cons]
theorem PM.Ok.cnt_free {M : PM} {N : Nat} (h : M.Ok N) {k : Nat} (hk : k < M.sl.length) : (0 < M.cnt k ↔ k ∉ M.fr) := by
  obtain ⟨s, hs⟩ := get_some hk
  have := h.free k s hs
  unfold PM.cnt
  rw [hs, Option.getD_some, ← this]
  omega
theorem PM.Ok.all {M : PM} {N : Nat} (h : M.Ok N) : M.fr.length + M.liveTo M.sl.length = M.sl.length := by
  have h1 := List.length_eq_countP_add_countP (fun i => decide (0 < M.cnt i)) (l := List.range M.sl.length)
  rw [List.length_range] at h1
  have h2 : M.fr.length = (List.range M.sl.length).countP (fun a => decide ¬decide (0 < M.cnt a) = true) := by
    rw [List.countP_eq_length_filter]
    refine List.Perm.length_eq ((List.perm_ext_iff_of_nodup h.nodup (List.Pairwise.filter _ List.nodup_range)).2 (fun k => ?_))
    rw [List.mem_filter, List.mem_range]
    constructor
    · intro hk
      have hlt := h.lt k hk
      refine ⟨hlt, ?_⟩
      have := (h.cnt_free hlt)
      simp only [decide_eq_true_eq]
      intro hc
      exact this.1 hc hk
    · rintro ⟨hlt, hc⟩
      have := (h.cnt_free hlt)
      simp only [decide_eq_true_eq] at hc
      by_cases hk : k ∈ M.fr
      · exact hk
      · exact absurd (this.2 hk) hc
  unfold PM.liveTo
  omega
theorem liveTo_le (M : PM) (k : Nat) : M.liveTo k ≤ k := by
  have := List.countP_le_length (p := fun i => decide (0 < M.cnt i)) (l := List.range k)
  rwa [List.length_range] at this
end Go.Proofs.YtmmkcfiecgpkpaaGreat

/- The plain ring: places one behind the other, in a window that moves; what its calls do, as plain functions. No condition. -/
namespace Go.Proofs.YtmmkcfiecgpkpaaGreat
open Go.RowKit
set_option linter.unusedVariables false

/-- A number of 64 bits. -/
def w64 (a : Int) : Prop := -9223372036854775808 ≤ a ∧ a ≤ 9223372036854775807
theorem w64_lit {a : Int} (h1 : -1000000000000000 ≤ a) (h2 : a ≤ 1000000000000000) : w64 a := ⟨by omega, by omega⟩

/-- A place: its reference, and whether it is published. -/
structure Plc where
  r : Int
  d : Bool

/-- A ring: its room, whether a full one lets its eldest place go, its head, the window's places. -/
structure RM where
  n : Nat
  ov : Bool
  h : Nat
  l : List Plc

def RM.tail (M : RM) : Nat := M.h + M.l.length
def RM.findE (M : RM) (a : Int) : Int := if a < 0 then 2 else if a < (M.h : Int) then 61 else if (M.tail : Int) ≤ a then 5 else 0
def RM.cut (M : RM) (a : Int) : Nat := (a - (M.h : Int)).toNat
def RM.pl (M : RM) (a : Int) : Plc := M.l[M.cut a]?.getD ⟨0, false⟩
def RM.pubE (M : RM) (a : Int) : Int := if M.findE a ≠ 0 then M.findE a else if (M.pl a).d = true then 6 else 0
def RM.pubM (M : RM) (a : Int) : RM := if M.pubE a ≠ 0 then M else { M with l := M.l.set (M.cut a) ⟨(M.pl a).r, true⟩ }
def RM.getE (M : RM) (a : Int) : Int := if M.findE a ≠ 0 then M.findE a else if (M.pl a).d = true then 0 else 8
def RM.getR (M : RM) (a : Int) : Int := if M.getE a ≠ 0 then 0 else (M.pl a).r
def RM.hdp (M : RM) : Plc := M.l[0]?.getD ⟨0, false⟩
def RM.claimE (M : RM) (x : Int) : Int := if x < 1 then 2 else if 1099511627776 ≤ M.tail then 4 else if M.l.length = M.n ∧ (M.ov = false ∨ M.hdp.d = false) then 60 else 0
def RM.claimW (M : RM) (x : Int) : Int := if M.claimE x ≠ 0 then 0 else if M.l.length = M.n then M.hdp.r else 0
def RM.claimA (M : RM) (x : Int) : Int := if M.claimE x ≠ 0 then 0 else M.tail
def RM.claimM (M : RM) (x : Int) : RM :=
  if M.claimE x ≠ 0 then M else
  if M.l.length = M.n then { M with h := M.h + 1, l := M.l.drop 1 ++ [⟨x, false⟩] } else { M with l := M.l ++ [⟨x, false⟩] }
def RM.trimE (M : RM) (a : Int) : Int := if a < 0 ∨ (M.tail : Int) < a then 2 else if (M.l.take (M.cut a)).all (·.d) = true then 0 else 8
def RM.trimL (M : RM) (a : Int) : List Int := if M.trimE a ≠ 0 then [] else (M.l.take (M.cut a)).map (·.r)
def RM.trimM (M : RM) (a : Int) : RM := if M.trimE a ≠ 0 then M else { M with h := M.h + M.cut a, l := M.l.drop (M.cut a) }
def RM.ready (M : RM) (a : Int) : Nat := min (M.h + M.cut a + ((M.l.drop (M.cut a)).takeWhile (·.d)).length) M.tail
def RM.refs (M : RM) : List Int := M.l.map (·.r)

def RM.new (n : Nat) (ov : Bool) : RM := ⟨n, ov, 0, []⟩

/-- A ring as it may be, whose tail is not above a bound. -/
structure RM.Ok (M : RM) (N : Nat) : Prop where
  pos : 1 ≤ M.n
  max : M.n ≤ 64
  len : M.l.length ≤ M.n
  low : M.tail ≤ N

theorem RM.Ok.mono {M : RM} {N N' : Nat} (h : M.Ok N) (hN : N ≤ N') : M.Ok N' := ⟨h.pos, h.max, h.len, Nat.le_trans h.low hN⟩
theorem RM.new_ok {n : Nat} {ov : Bool} (h0 : 1 ≤ n) (h1 : n ≤ 64) : (RM.new n ov).Ok 0 := ⟨h0, h1, Nat.zero_le _, Nat.le_refl _⟩
theorem RM.Ok.claim {M : RM} {N : Nat} (h : M.Ok N) (x : Int) : (M.claimM x).Ok (N + 1) := by
  unfold RM.claimM
  have := h.low
  unfold RM.tail at this
  split
  · exact h.mono (by omega)
  · split
    · rename_i h1 h2
      have h3 := h.pos
      refine ⟨h.pos, h.max, ?_, ?_⟩
      · simp; omega
      · unfold RM.tail; simp; omega
    · rename_i h1 h2
      have h3 := h.len
      refine ⟨h.pos, h.max, ?_, ?_⟩
      · simp; omega
      · unfold RM.tail; simp; omega
theorem RM.Ok.pub {M : RM} {N : Nat} (h : M.Ok N) (x : Int) : (M.pubM x).Ok N := by
  unfold RM.pubM
  split
  · exact h
  · exact ⟨h.pos, h.max, by simpa using h.len, by have := h.low; unfold RM.tail at this ⊢; simpa using this⟩
theorem RM.trim_cut {M : RM} {a : Int} (h : M.trimE a = 0) : M.cut a ≤ M.l.length ∧ 0 ≤ a ∧ a ≤ M.tail ∧ (M.l.take (M.cut a)).all (·.d) = true := by
  unfold RM.trimE at h
  split at h
  · cases h
  · rename_i h1
    split at h
    · rename_i h2
      refine ⟨?_, by omega, by omega, h2⟩
      unfold RM.cut
      unfold RM.tail at h1
      omega
    · cases h
theorem RM.Ok.trim {M : RM} {N : Nat} (h : M.Ok N) (x : Int) : (M.trimM x).Ok N := by
  unfold RM.trimM
  split
  · exact h
  · rename_i he
    have hc := (RM.trim_cut (show M.trimE x = 0 by simpa using he)).1
    have h1 := h.len
    have h2 := h.low
    unfold RM.tail at h2
    refine ⟨h.pos, h.max, ?_, ?_⟩
    · simp; omega
    · unfold RM.tail; simp; omega

/-- A place that is found. -/
theorem RM.found {M : RM} {a : Int} (h : M.findE a = 0) : M.cut a < M.l.length ∧ a = (M.h : Int) + (M.cut a : Nat) ∧ M.l[M.cut a]? = some (M.pl a) := by
  unfold RM.findE at h
  split at h
  · cases h
  · split at h
    · cases h
    · split at h
      · cases h
      · rename_i h1 h2 h3
        unfold RM.tail at h3
        have : M.cut a < M.l.length := by unfold RM.cut; omega
        refine ⟨this, by unfold RM.cut; omega, ?_⟩
        unfold RM.pl
        rw [List.getElem?_eq_getElem this]; rfl
theorem RM.find_vals (M : RM) (a : Int) : M.findE a = 0 ∨ M.findE a = 2 ∨ M.findE a = 61 ∨ M.findE a = 5 := by
  unfold RM.findE
  split
  · exact .inr (.inl rfl)
  · split
    · exact .inr (.inr (.inl rfl))
    · split
      · exact .inr (.inr (.inr rfl))
      · exact .inl rfl
end Go.Proofs.YtmmkcfiecgpkpaaGreat

/- Rings over a pool: whose handles are counted, and what each call leaves of the counts. No condition. -/
namespace Go.Proofs.YtmmkcfiecgpkpaaGreat
open Go.RowKit
set_option linter.unusedVariables false
set_option linter.unusedSimpArgs false

/-- All handles in a list are live, and each slot's count is how often the list has a handle of it. -/
structure PtInv (P : PM) (R : List Int) : Prop where
  live : ∀ h ∈ R, P.err h = 0
  cnt : ∀ (k : Nat) (s : Slt), P.sl[k]? = some s → s.c = R.countP (fun h => hSlot h == k)

theorem PtInv.perm {P : PM} {R R' : List Int} (h : PtInv P R) (e : R.Perm R') : PtInv P R' :=
  ⟨fun x hx => h.live x (e.mem_iff.2 hx), fun k s hs => by rw [h.cnt k s hs]; exact e.countP_eq _⟩
theorem PtInv.new (n size : Nat) : PtInv (PM.new n size) [] :=
  ⟨fun h hh => (by cases hh), fun k s hs => by
    simp only [PM.new, List.getElem?_replicate] at hs
    split at hs
    · cases hs; rfl
    · cases hs⟩

theorem err_zero {P : PM} {h : Int} {s : Slt} (h1 : haIs h) (hs : P.sl[hSlot h]? = some s) (hg : (s.g : Int) = hGen h) (hc : s.c ≠ 0) : P.err h = 0 := by
  unfold PM.err
  rw [if_neg (fun hn => hn h1), hs]
  simp [hg, hc]
theorem err_same {P : PM} {h h' : Int} (h0 : P.err h = 0) (h1 : P.err h' = 0) (e : hSlot h = hSlot h') : h = h' := by
  obtain ⟨a1, a2, a3, a4, _⟩ := PM.live h0
  obtain ⟨b1, b2, b3, b4, _⟩ := PM.live h1
  rw [e, b3] at a3
  rw [Option.some.inj a3] at b4
  unfold hSlot at e
  unfold hGen at a4 b4
  omega
theorem slt_of {P : PM} {h : Int} {s : Slt} (hs : P.sl[hSlot h]? = some s) : P.slt h = s := by unfold PM.slt; rw [hs]; rfl
theorem cnt_zero {R : List Int} {k : Nat} (h : R.countP (fun h => hSlot h == k) = 0) : ∀ x ∈ R, hSlot x ≠ k := by
  intro x hx e
  rw [List.countP_eq_zero] at h
  exact h x hx (by simp [e])
theorem err_set {P : PM} {k : Nat} {t : Slt} {fr : List Nat} {x : Int} (hx : P.err x = 0) (hk : hSlot x ≠ k) : ({ P with sl := P.sl.set k t, fr := fr } : PM).err x = 0 ∧ ({ P with sl := P.sl.set k t, fr := fr } : PM).slt x = P.slt x := by
  obtain ⟨a1, a2, a3, a4, a5⟩ := PM.live hx
  have e : (P.sl.set k t)[hSlot x]? = some (P.slt x) := by rw [List.getElem?_set_ne (fun h => hk h.symm)]; exact a3
  exact ⟨err_zero a1 e a4 a5, slt_of e⟩
theorem err_set_same {P : PM} {t : Slt} {fr : List Nat} {x : Int} (hx : P.err x = 0) (hg : t.g = (P.slt x).g) (hc : t.c ≠ 0) : ({ P with sl := P.sl.set (hSlot x) t, fr := fr } : PM).err x = 0 ∧ ({ P with sl := P.sl.set (hSlot x) t, fr := fr } : PM).slt x = t := by
  obtain ⟨a1, a2, a3, a4, a5⟩ := PM.live hx
  have e : (P.sl.set (hSlot x) t)[hSlot x]? = some t := by rw [List.getElem?_set_self a2]
  exact ⟨err_zero a1 e (by rw [hg]; exact a4) hc, slt_of e⟩

theorem takeE_zero {P : PM} {n : Int} (h : P.takeE n = 0) : 0 ≤ n ∧ n ≤ P.size ∧ ∃ k r, P.fr = k :: r := by
  unfold PM.takeE at h
  split at h
  · cases h
  · split at h
    · cases h
    · split at h
      · cases h
      · rename_i h1 h2 h3
        refine ⟨by omega, by omega, ?_⟩
        cases hf : P.fr with
        | nil => exact absurd hf h3
        | cons k r => exact ⟨k, r, rfl⟩

/-- One more is taken. -/
theorem PtInv.take {P : PM} {R : List Int} {N : Nat} (h : PtInv P R) (hO : P.Ok N) (hN : N < 1000000) {n : Int} (he : P.takeE n = 0) :
    PtInv (P.takeM n) (P.takeH n :: R) ∧ 1 ≤ P.takeH n ∧ P.takeH n ≤ 200000000 ∧ P.err (P.takeH n) ≠ 0 ∧ (∀ x, P.err x = 0 → (P.takeM n).err x = 0 ∧ (P.takeM n).slt x = P.slt x) ∧ ((P.takeM n).slt (P.takeH n)).b = List.replicate n.toNat 0 := by
  obtain ⟨h0, h1, k, r, hf⟩ := takeE_zero he
  have hkl : k < P.sl.length := hO.lt k (by rw [hf]; exact List.mem_cons_self)
  have hk128 : k < 128 := Nat.lt_of_lt_of_le hkl hO.len
  obtain ⟨s0, hs0⟩ := get_some hkl
  have hgl := (hO.low k s0 hs0).1
  have hc0 : s0.c = 0 := (hO.free k s0 hs0).2 (by rw [hf]; exact List.mem_cons_self)
  have eM : P.takeM n = { P with sl := P.sl.set k ⟨s0.g, 1, List.replicate n.toNat 0⟩, fr := r } := by
    unfold PM.takeM; rw [if_neg (by omega), hf]; simp only [hs0, Option.getD_some]
  have eH : P.takeH n = (s0.g : Int) * 128 + (k : Nat) + 1 := by
    unfold PM.takeH; rw [if_neg (by omega), hf]; simp only [hs0, Option.getD_some]
  have es : hSlot (P.takeH n) = k := by rw [eH]; exact hSlot_of _ hk128
  have eg : hGen (P.takeH n) = s0.g := by rw [eH]; exact hGen_of _ hk128
  have hz := cnt_zero (k := k) (R := R) (by rw [← h.cnt k s0 hs0]; exact hc0)
  have hget : (P.sl.set k ⟨s0.g, 1, List.replicate n.toNat 0⟩)[hSlot (P.takeH n)]? = some ⟨s0.g, 1, List.replicate n.toNat 0⟩ := by rw [es, List.getElem?_set_self hkl]
  have hoth : ∀ x, P.err x = 0 → hSlot x ≠ k := fun x hx e => by
    obtain ⟨_, _, a3, _, a5⟩ := PM.live hx
    rw [e, hs0] at a3
    exact a5 (by rw [← Option.some.inj a3]; exact hc0)
  refine ⟨⟨fun x hx => ?_, fun j s hs => ?_⟩, by omega, by omega, fun e => ?_, fun x hx => ?_, ?_⟩
  · rw [eM]
    rcases List.mem_cons.1 hx with rfl | hx
    · exact err_zero (by rw [eH]; exact hIs_of hk128 (by omega)) hget (by rw [eg]) Nat.one_ne_zero
    · exact (err_set (h.live x hx) (hoth x (h.live x hx))).1
  · rw [eM] at hs
    rw [List.countP_cons, es]
    rcases set_get hkl hs with ⟨rfl, rfl⟩ | ⟨hne, hs⟩
    · rw [← h.cnt j s0 hs0, hc0]; simp
    · rw [← h.cnt j s hs]
      simp [Ne.symm hne]
  · exact hoth _ e es
  · rw [eM]; exact err_set hx (hoth x hx)
  · rw [eM]; rw [slt_of hget]

/-- One is counted once more. -/
theorem PtInv.keep {P : PM} {R : List Int} (h : PtInv P R) {x : Int} (hx : P.err x = 0) :
    PtInv (P.keepM x) (x :: R) ∧ ∀ y, P.err y = 0 → (P.keepM x).err y = 0 ∧ ((P.keepM x).slt y).b = (P.slt y).b := by
  obtain ⟨a1, a2, a3, a4, a5⟩ := PM.live hx
  have eM : P.keepM x = { P with sl := P.sl.set (hSlot x) { P.slt x with c := (P.slt x).c + 1 } } := by unfold PM.keepM; rw [if_neg (by simp [hx])]
  have hall : ∀ y, P.err y = 0 → (P.keepM x).err y = 0 ∧ ((P.keepM x).slt y).b = (P.slt y).b := fun y hy => by
    rw [eM]
    by_cases e : hSlot y = hSlot x
    · obtain rfl := err_same hy hx e
      have := err_set_same (fr := P.fr) (t := { P.slt y with c := (P.slt y).c + 1 }) hx rfl (Nat.succ_ne_zero _)
      exact ⟨this.1, by rw [this.2]⟩
    · have := err_set (fr := P.fr) (t := { P.slt x with c := (P.slt x).c + 1 }) hy e
      exact ⟨this.1, by rw [this.2]⟩
  refine ⟨⟨fun y hy => ?_, fun j s hs => ?_⟩, hall⟩
  · rcases List.mem_cons.1 hy with rfl | hy
    · exact (hall y hx).1
    · exact (hall y (h.live y hy)).1
  · rw [eM] at hs
    rw [List.countP_cons]
    rcases set_get a2 hs with ⟨rfl, rfl⟩ | ⟨hne, hs⟩
    · rw [← h.cnt _ _ a3]; simp
    · rw [← h.cnt j s hs]
      simp [Ne.symm hne]

/-- One of those that are counted is given back. -/
theorem PtInv.drop {P : PM} {R : List Int} {x : Int} (h : PtInv P (x :: R)) :
    PtInv (P.dropM x) R ∧ (∀ y ∈ R, ((P.dropM x).slt y).b = (P.slt y).b) ∧ (P.dropM x).fr = (if (P.slt x).c = 1 then hSlot x :: P.fr else P.fr) := by
  have hx := h.live x List.mem_cons_self
  obtain ⟨a1, a2, a3, a4, a5⟩ := PM.live hx
  have hc := h.cnt _ _ a3
  rw [List.countP_cons] at hc
  simp only [beq_self_eq_true, if_true] at hc
  by_cases h1 : (P.slt x).c = 1
  · have hz := cnt_zero (k := hSlot x) (R := R) (by omega)
    have eM : P.dropM x = { P with sl := P.sl.set (hSlot x) ⟨(P.slt x).g + 1, 0, []⟩, fr := hSlot x :: P.fr } := by unfold PM.dropM; rw [if_neg (by simp [hx]), if_pos h1]
    rw [eM]
    refine ⟨⟨fun y hy => ?_, fun j s hs => ?_⟩, fun y hy => ?_, by rw [if_pos h1]⟩
    · exact (err_set (h.live y (List.mem_cons_of_mem _ hy)) (hz y hy)).1
    · rcases set_get a2 hs with ⟨rfl, rfl⟩ | ⟨hne, hs⟩
      · simp only; omega
      · have := h.cnt j s hs
        rw [List.countP_cons] at this
        simpa [Ne.symm hne] using this
    · rw [(err_set (h.live y (List.mem_cons_of_mem _ hy)) (hz y hy)).2]
  · have eM : P.dropM x = { P with sl := P.sl.set (hSlot x) { P.slt x with c := (P.slt x).c - 1 } } := by unfold PM.dropM; rw [if_neg (by simp [hx]), if_neg h1]
    have hall : ∀ y, P.err y = 0 → (P.dropM x).err y = 0 ∧ ((P.dropM x).slt y).b = (P.slt y).b := fun y hy => by
      rw [eM]
      by_cases e : hSlot y = hSlot x
      · obtain rfl := err_same hy hx e
        have := err_set_same (fr := P.fr) (t := { P.slt y with c := (P.slt y).c - 1 }) hx rfl (by simp only; omega)
        exact ⟨this.1, by rw [this.2]⟩
      · have := err_set (fr := P.fr) (t := { P.slt x with c := (P.slt x).c - 1 }) hy e
        exact ⟨this.1, by rw [this.2]⟩
    refine ⟨⟨fun y hy => (hall y (h.live y (List.mem_cons_of_mem _ hy))).1, fun j s hs => ?_⟩, fun y hy => (hall y (h.live y (List.mem_cons_of_mem _ hy))).2, by rw [eM, if_neg h1]⟩
    rw [eM] at hs
    rcases set_get a2 hs with ⟨rfl, rfl⟩ | ⟨hne, hs⟩
    · simp only; omega
    · have := h.cnt j s hs
      rw [List.countP_cons] at this
      simpa [Ne.symm hne] using this

/-- One is filled. -/
theorem PtInv.fill {P : PM} {R : List Int} (h : PtInv P R) (x : Int) (b : List UInt8) :
    PtInv (P.fillM x b) R ∧ (P.fillM x b).fr = P.fr ∧ (∀ y ∈ R, hSlot y ≠ hSlot x → ((P.fillM x b).slt y).b = (P.slt y).b) ∧ (P.fillE x b = 0 → ((P.fillM x b).slt x).b = b) := by
  by_cases he : P.fillE x b = 0
  · have h0 : P.err x = 0 := by
      unfold PM.fillE at he
      split at he
      · exact he
      · rename_i h1; simpa using h1
    obtain ⟨a1, a2, a3, a4, a5⟩ := PM.live h0
    have eM : P.fillM x b = { P with sl := P.sl.set (hSlot x) { P.slt x with b := b } } := by unfold PM.fillM; rw [if_neg (by simp [he])]
    have hsame := err_set_same (fr := P.fr) (t := { P.slt x with b := b }) h0 rfl a5
    refine ⟨⟨fun y hy => ?_, fun j s hs => ?_⟩, by rw [eM], fun y hy hne => ?_, fun _ => by rw [eM]; rw [hsame.2]⟩
    · rw [eM]
      by_cases e : hSlot y = hSlot x
      · obtain rfl := err_same (h.live y hy) h0 e
        exact hsame.1
      · exact (err_set (fr := P.fr) (t := { P.slt x with b := b }) (h.live y hy) e).1
    · rw [eM] at hs
      rcases set_get a2 hs with ⟨rfl, rfl⟩ | ⟨hne, hs⟩
      · have := h.cnt _ _ a3; exact this
      · exact h.cnt j s hs
    · rw [eM, (err_set (fr := P.fr) (t := { P.slt x with b := b }) (h.live y hy) hne).2]
  · have eM : P.fillM x b = P := by unfold PM.fillM; rw [if_pos he]
    rw [eM]
    exact ⟨h, rfl, fun _ _ _ => rfl, fun hh => absurd hh he⟩

/-! What a partition's calls do. -/
def ptClE (P : PM) (M : RM) (n : Int) : Int :=
  if n < 0 then 2 else if (P.size : Int) < n then 3 else if 1099511627776 ≤ M.tail then 4 else
  if M.l.length = M.n ∧ (M.ov = false ∨ M.hdp.d = false) then 60 else
  if P.fr = [] ∧ (M.l.length ≠ M.n ∨ 1 < (P.slt M.hdp.r).c) then 50 else 0
def ptP0 (P : PM) (M : RM) : PM := if M.l.length = M.n then P.dropM M.hdp.r else P
def ptClH (P : PM) (M : RM) (n : Int) : Int := if ptClE P M n ≠ 0 then 0 else (ptP0 P M).takeH n
def ptClP (P : PM) (M : RM) (n : Int) : PM := if ptClE P M n ≠ 0 then P else (ptP0 P M).takeM n
def ptClA (P : PM) (M : RM) (n : Int) : Int := if ptClE P M n ≠ 0 then 0 else M.tail
/-- The window behind a claim of a handle. -/
def ptWin (M : RM) (h : Int) : RM := if M.l.length = M.n then { M with h := M.h + 1, l := M.l.drop 1 ++ [⟨h, false⟩] } else { M with l := M.l ++ [⟨h, false⟩] }
def ptClM (P : PM) (M : RM) (n : Int) : RM := if ptClE P M n ≠ 0 then M else ptWin M (ptClH P M n)
def ptFiE (P : PM) (M : RM) (a : Int) (b : List UInt8) : Int := if M.getE a = 0 then 6 else if M.getE a ≠ 8 then M.getE a else P.fillE (M.pl a).r b
def ptFiP (P : PM) (M : RM) (a : Int) (b : List UInt8) : PM := if M.getE a = 8 then P.fillM (M.pl a).r b else P
def ptRdP (P : PM) (M : RM) (a : Int) : PM := if M.getE a = 0 then P.keepM (M.getR a) else P
def ptPk (P : PM) (M : RM) (a : Int) : List UInt8 := if M.getE a = 0 then P.bytes (M.getR a) else []
def ptDrops (P : PM) (l : List Int) : PM := l.foldl (fun P h => P.dropM h) P
def ptTrP (P : PM) (M : RM) (a : Int) : PM := ptDrops P (M.trimL a)

/-- All places of a window are live. -/
def PtCpl (P : PM) (M : RM) : Prop := ∀ h ∈ M.refs, P.err h = 0
theorem PtInv.cpl {P : PM} {M : RM} {X : List Int} (h : PtInv P (M.refs ++ X)) : PtCpl P M := fun x hx => h.live x (List.mem_append_left _ hx)

theorem refs_hdp {M : RM} (h : 0 < M.l.length) : M.refs = M.hdp.r :: (M.l.drop 1).map (·.r) := by
  unfold RM.refs RM.hdp
  cases hl : M.l with
  | nil => rw [hl] at h; cases h
  | cons p l => rfl
theorem ptWin_refs {M : RM} {h : Int} (hp : 1 ≤ M.n) : (ptWin M h).refs = (if M.l.length = M.n then (M.l.drop 1).map (·.r) else M.refs) ++ [h] := by
  unfold ptWin RM.refs
  split <;> simp

/-- What a claim leaves. -/
theorem pt_claim {P : PM} {M : RM} {X : List Int} {N K : Nat} (h : PtInv P (M.refs ++ X)) (hO : P.Ok N) (hM : M.Ok K) (hN : N < 900000) {n : Int} (he : ptClE P M n = 0) :
    PtInv (ptClP P M n) ((ptClM P M n).refs ++ X) ∧ (ptP0 P M).takeE n = 0 ∧ (ptP0 P M).Ok (N + 1) ∧ 1 ≤ ptClH P M n ∧ ptClH P M n ≤ 200000000 ∧ (M.l.length = M.n → P.err M.hdp.r = 0) ∧
    (∀ x ∈ (if M.l.length = M.n then (M.l.drop 1).map (·.r) else M.refs) ++ X, ((ptClP P M n).slt x).b = (P.slt x).b ∧ hSlot x ≠ hSlot (ptClH P M n)) ∧ ((ptClP P M n).slt (ptClH P M n)).b = List.replicate n.toNat 0 := by
  have hp := hM.pos
  have e1 : ptClP P M n = (ptP0 P M).takeM n := if_neg (by simp [he])
  have e2 : ptClH P M n = (ptP0 P M).takeH n := if_neg (by simp [he])
  have e3 : ptClM P M n = ptWin M (ptClH P M n) := if_neg (by simp [he])
  obtain ⟨X0, hX0⟩ : ∃ X0, X0 = (if M.l.length = M.n then (M.l.drop 1).map (·.r) else M.refs) := ⟨_, rfl⟩
  have hlv : M.l.length = M.n → P.err M.hdp.r = 0 := fun hf => h.live _ (by rw [refs_hdp (by omega)]; exact List.mem_append_left _ List.mem_cons_self)
  have hI0 : PtInv (ptP0 P M) (X0 ++ X) ∧ (∀ y ∈ X0 ++ X, ((ptP0 P M).slt y).b = (P.slt y).b) := by
    unfold ptP0
    by_cases hf : M.l.length = M.n
    · rw [if_pos hf] at hX0 ⊢
      rw [refs_hdp (by omega), List.cons_append, ← hX0] at h
      exact ⟨h.drop.1, h.drop.2.1⟩
    · rw [if_neg hf] at hX0 ⊢
      rw [← hX0] at h
      exact ⟨h, fun _ _ => rfl⟩
  have hO0 : (ptP0 P M).Ok (N + 1) := by
    unfold ptP0
    split
    · exact hO.drop _
    · exact hO.mono (by omega)
  have hsz : (ptP0 P M).size = P.size := by
    unfold ptP0
    split
    · unfold PM.dropM; split <;> (try split) <;> rfl
    · rfl
  have hte : (ptP0 P M).takeE n = 0 := by
    have he' := he
    unfold ptClE at he'
    unfold PM.takeE
    rw [hsz]
    split at he'
    · cases he'
    · rename_i c1
      split at he'
      · cases he'
      · rename_i c2
        rw [if_neg c1, if_neg c2]
        split at he'
        · cases he'
        · split at he'
          · cases he'
          · split at he'
            · cases he'
            · rename_i c5
              rw [if_neg]
              intro hfr
              unfold ptP0 at hfr
              by_cases hf : M.l.length = M.n
              · rw [if_pos hf] at hfr
                rw [refs_hdp (by omega), List.cons_append] at h
                have h2 := h.drop.2.2
                rw [hfr] at h2
                split at h2
                · cases h2
                · rename_i c6
                  have hc := (PM.live (hlv hf)).2.2.2.2
                  exact c5 ⟨h2.symm, .inr (by omega)⟩
              · rw [if_neg hf] at hfr
                exact c5 ⟨hfr, .inl hf⟩
  obtain ⟨t1, t2, t3, t4, t5, t6⟩ := hI0.1.take hO0 (by omega) hte
  have hsl : ∀ x ∈ X0 ++ X, hSlot x ≠ hSlot ((ptP0 P M).takeH n) := fun x hx e => by
    have h1 := (t5 x (hI0.1.live x hx)).1
    have h2 := t1.live _ List.mem_cons_self
    have := err_same h1 h2 e
    exact t4 (this ▸ hI0.1.live x hx)
  refine ⟨?_, hte, hO0, by rw [e2]; exact t2, by rw [e2]; exact t3, hlv, ?_, by rw [e1, e2]; exact t6⟩
  · rw [e1, e3, e2, ptWin_refs hp, ← hX0]
    refine t1.perm ?_
    rw [List.append_assoc]
    exact (List.perm_middle (l₁ := X0) (l₂ := X) (a := (ptP0 P M).takeH n)).symm
  · rw [← hX0, e1, e2]
    exact fun x hx => ⟨by rw [(t5 x (hI0.1.live x hx)).2]; exact hI0.2 x hx, hsl x hx⟩

/-- What giving several back leaves. -/
theorem pt_drops : ∀ {l : List Int} {P : PM} {X : List Int} {N : Nat}, PtInv P (l ++ X) → P.Ok N → PtInv (ptDrops P l) X ∧ (ptDrops P l).Ok (N + l.length) ∧ (ptDrops P l).sl.length = P.sl.length ∧ (ptDrops P l).size = P.size ∧ ∀ y ∈ X, ((ptDrops P l).slt y).b = (P.slt y).b
  | [], P, X, N, h, hO => ⟨h, hO, rfl, rfl, fun _ _ => rfl⟩
  | x :: l, P, X, N, h, hO => by
    rw [List.cons_append] at h
    obtain ⟨h1, h2, _⟩ := h.drop
    obtain ⟨g1, g2, g3, g4, g5⟩ := pt_drops (l := l) h1 (hO.drop x)
    refine ⟨g1, g2.mono (by simp; omega), by rw [show ptDrops P (x :: l) = ptDrops (P.dropM x) l from rfl, g3, (PM.drop_le P x).len], ?_, fun y hy => ?_⟩
    · rw [show ptDrops P (x :: l) = ptDrops (P.dropM x) l from rfl, g4]
      unfold PM.dropM; split <;> (try split) <;> rfl
    · rw [show ptDrops P (x :: l) = ptDrops (P.dropM x) l from rfl, g5 y hy]
      exact h2 y (List.mem_append_right _ hy)

theorem refs_trim {M : RM} {a : Int} : M.refs = M.trimL a ++ (M.trimM a).refs := by
  unfold RM.trimL RM.trimM RM.refs
  split
  · rfl
  · rw [← List.map_append, List.take_append_drop]
theorem pub_refs {M : RM} {a : Int} : (M.pubM a).refs = M.refs := by
  unfold RM.pubM
  split
  · rfl
  · rename_i he
    have hf : M.findE a = 0 := by
      unfold RM.pubE at he
      by_cases h : M.findE a = 0
      · exact h
      · rw [if_pos h] at he; exact absurd h he
    obtain ⟨h1, _, h3⟩ := RM.found hf
    unfold RM.refs
    rw [List.map_set]
    apply List.ext_getElem?
    intro i
    by_cases e : M.cut a = i
    · subst e
      rw [List.getElem?_set_self (by simpa using h1), List.getElem?_map, h3]; rfl
    · rw [List.getElem?_set_ne e]
theorem get_refs {M : RM} {a : Int} (h : M.getE a = 0 ∨ M.getE a = 8) : (M.pl a).r ∈ M.refs := by
  have hf : M.findE a = 0 := by
    unfold RM.getE at h
    by_cases hf : M.findE a = 0
    · exact hf
    · rw [if_pos hf] at h
      rcases RM.find_vals M a with e | e | e | e <;> omega
  exact List.mem_map.2 ⟨_, List.mem_of_getElem? (RM.found hf).2.2, rfl⟩
theorem getR_pl {M : RM} {a : Int} (h : M.getE a = 0) : M.getR a = (M.pl a).r := by unfold RM.getR; rw [if_neg (by simp [h])]
theorem ptCl_ok {P : PM} {M : RM} {N K : Nat} (hO : P.Ok N) (hM : M.Ok K) (n : Int) : (ptClP P M n).Ok (N + 2) ∧ (ptClM P M n).Ok (K + 1) ∧ (ptClP P M n).sl.length = P.sl.length ∧ (ptClP P M n).size = P.size := by
  have hl := hM.low
  have hp := hM.pos
  have hm := hM.len
  unfold RM.tail at hl
  refine ⟨?_, ?_, ?_, ?_⟩
  · unfold ptClP
    split
    · exact hO.mono (by omega)
    · refine PM.Ok.take ?_ (by omega) n
      unfold ptP0
      split
      · exact (hO.drop _).mono (by omega)
      · exact hO.mono (by omega)
  · unfold ptClM
    split
    · exact hM.mono (by omega)
    · unfold ptWin
      split
      · exact ⟨hM.pos, hM.max, by simp; omega, by unfold RM.tail; simp; omega⟩
      · exact ⟨hM.pos, hM.max, by simp; omega, by unfold RM.tail; simp; omega⟩
  · unfold ptClP
    split
    · rfl
    · have h1 : ((ptP0 P M).takeM n).sl.length = (ptP0 P M).sl.length := by unfold PM.takeM; split; rfl; cases (ptP0 P M).fr <;> simp
      rw [h1]
      unfold ptP0
      split
      · exact (PM.drop_le P _).len
      · rfl
  · unfold ptClP
    split
    · rfl
    · have h1 : ((ptP0 P M).takeM n).size = (ptP0 P M).size := by unfold PM.takeM; split; rfl; cases (ptP0 P M).fr <;> rfl
      rw [h1]
      unfold ptP0
      split
      · unfold PM.dropM; split <;> (try split) <;> rfl
      · rfl
end Go.Proofs.YtmmkcfiecgpkpaaGreat
