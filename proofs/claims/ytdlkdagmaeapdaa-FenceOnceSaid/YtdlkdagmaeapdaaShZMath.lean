/- The document's shares, step by step: what lies in its counts and its owners behind each round. No condition. -/
import Derived.Test.YtdlkdagmaeapdaaShPlain
namespace Go.Proofs.Ytdlkdagmaeapdaa
open Go.RowKit
set_option linter.unusedVariables false

/-- Counts as a row. -/
def cL (m : Nat) (c : Nat → Nat) : List Int := (List.range m).map fun k => ((c k : Nat) : Int)
theorem cL_len (m : Nat) (c : Nat → Nat) : (cL m c).length = m := by simp [cL]
theorem cL_get {m k : Nat} (c : Nat → Nat) (hk : k < m) : (cL m c)[k]? = some ((c k : Nat) : Int) := by
  unfold cL
  rw [List.getElem?_map, List.getElem?_range hk]; rfl
theorem cL_congr {m : Nat} {c d : Nat → Nat} (h : ∀ j, j < m → c j = d j) : cL m c = cL m d := by
  unfold cL
  exact List.map_congr_left fun j hj => by rw [h j (List.mem_range.1 hj)]
theorem cL_set {m k : Nat} {c d : Nat → Nat} (hk : k < m) (h : ∀ j, j < m → j ≠ k → c j = d j) : (cL m c).set k ((d k : Nat) : Int) = cL m d := by
  apply List.ext_getElem?
  intro i
  by_cases hi : i < m
  · rw [cL_get d hi]
    by_cases hik : i = k
    · subst hik
      rw [List.getElem?_set_self (by rw [cL_len]; exact hi)]
    · rw [List.getElem?_set_ne (fun e => hik e.symm), cL_get c hi, h i hi hik]
  · rw [List.getElem?_eq_none (by rw [List.length_set, cL_len]; omega), List.getElem?_eq_none (by rw [cL_len]; omega)]
theorem cL_zero (m : Nat) : cL m (fun _ => 0) = List.replicate m 0 := by
  unfold cL
  apply List.ext_getElem?
  intro i
  by_cases hi : i < m
  · rw [List.getElem?_map, List.getElem?_range hi, List.getElem?_replicate, if_pos hi]; rfl
  · rw [List.getElem?_eq_none (by simp; omega), List.getElem?_eq_none (by simp; omega)]

/-! ### How many each had -/
def hadC (who : List (Option Nat)) (k i : Nat) : Nat → Nat := fun j => if j < k then cntO who j else if j = k then cntO (who.take i) k else 0
theorem hadC_zero (who : List (Option Nat)) : hadC who 0 0 = fun _ => 0 := by
  funext j
  unfold hadC
  rw [if_neg (by omega)]
  split <;> rfl
theorem cnt_take {who : List (Option Nat)} {i : Nat} {o : Option Nat} (h : who[i]? = some o) (k : Nat) : cntO (who.take (i + 1)) k = cntO (who.take i) k + if o = some k then 1 else 0 := by
  have ht : who.take (i + 1) = who.take i ++ [o] := by rw [List.take_add_one, h]; rfl
  rw [ht]
  unfold cntO
  rw [List.filter_append, List.length_append, List.filter_cons, List.filter_nil]
  by_cases e : o = some k
  · rw [if_pos (by simpa using e), if_pos e]; rfl
  · rw [if_neg (by simpa using e), if_neg e]; rfl
theorem hadC_at (who : List (Option Nat)) (k i : Nat) : hadC who k i k = cntO (who.take i) k := by unfold hadC; rw [if_neg (Nat.lt_irrefl _), if_pos rfl]
theorem hadC_other {who : List (Option Nat)} {k i i' j : Nat} (h : j ≠ k) : hadC who k i j = hadC who k i' j := by unfold hadC; rw [if_neg h, if_neg h]
theorem hadC_next (who : List (Option Nat)) (k : Nat) : hadC who k who.length = hadC who (k + 1) 0 := by
  funext j
  unfold hadC
  rw [List.take_length]
  by_cases h1 : j < k
  · rw [if_pos h1, if_pos (by omega)]
  · rw [if_neg h1]
    by_cases h2 : j = k
    · subst h2; rw [if_pos rfl, if_pos (by omega)]
    · rw [if_neg h2, if_neg (by omega)]
      split <;> rfl
theorem hadC_all (who : List (Option Nat)) (m : Nat) : cL m (hadC who m 0) = cL m (cntO who) := cL_congr fun j hj => by unfold hadC; rw [if_pos hj]

/-! ### Quotas -/
def aheadTo (h : Nat → Nat) (k j : Nat) : Nat := ((List.range j).filter (fun x => bef h x k)).length
theorem aheadTo_step (h : Nat → Nat) (k j : Nat) : aheadTo h k (j + 1) = aheadTo h k j + if bef h j k = true then 1 else 0 := by
  unfold aheadTo
  rw [List.range_succ, List.filter_append, List.length_append, List.filter_cons, List.filter_nil]
  split <;> rfl
theorem aheadTo_le (h : Nat → Nat) (k j : Nat) : aheadTo h k j ≤ j := by
  unfold aheadTo
  refine Nat.le_trans (List.length_filter_le _ _) ?_
  rw [List.length_range]; exact Nat.le_refl _
def quoC (n m : Nat) (h : Nat → Nat) (k : Nat) : Nat → Nat := fun j => if j < k then quotaN n m h j else 0
def quoC1 (n m : Nat) (h : Nat → Nat) (k : Nat) : Nat → Nat := fun j => if j < k then quotaN n m h j else if j = k then n / m else 0

/-! ### Each keeps -/
def stK (q : Nat → Nat) : (Nat → Nat) → List (Option Nat) → Nat → Nat → Nat
  | c, _, 0 => c
  | c, [], _ + 1 => c
  | c, none :: r, i + 1 => stK q c r i
  | c, some k :: r, i + 1 => if c k < q k then stK q (upd c k) r i else stK q c r i
theorem stK_n (q c : Nat → Nat) (r : List (Option Nat)) (i : Nat) : stK q c (none :: r) (i + 1) = stK q c r i := rfl
theorem stK_s (q c : Nat → Nat) (k : Nat) (r : List (Option Nat)) (i : Nat) : stK q c (some k :: r) (i + 1) = if c k < q k then stK q (upd c k) r i else stK q c r i := rfl
theorem stK_zero (q c : Nat → Nat) (l : List (Option Nat)) : stK q c l 0 = c := by cases l <;> rfl
theorem stK_none {q : Nat → Nat} : ∀ {l : List (Option Nat)} {c : Nat → Nat} {i : Nat}, l[i]? = some none → stK q c l (i + 1) = stK q c l i
  | [], c, i, h => by simp at h
  | none :: r, c, 0, h => by rw [stK_n, stK_zero, stK_zero]
  | none :: r, c, i + 1, h => by
    rw [stK_n, stK_n]; exact stK_none (by simpa using h)
  | some k :: r, c, 0, h => by simp at h
  | some k :: r, c, i + 1, h => by
    rw [stK_s, stK_s]
    split
    · exact stK_none (by simpa using h)
    · exact stK_none (by simpa using h)
theorem stK_some {q : Nat → Nat} {k : Nat} : ∀ {l : List (Option Nat)} {c : Nat → Nat} {i : Nat}, l[i]? = some (some k) → stK q c l (i + 1) = if stK q c l i k < q k then upd (stK q c l i) k else stK q c l i
  | [], c, i, h => by simp at h
  | none :: r, c, 0, h => by simp at h
  | none :: r, c, i + 1, h => by
    rw [stK_n, stK_n]; exact stK_some (by simpa using h)
  | some j :: r, c, 0, h => by
    obtain rfl : j = k := by simpa using h
    rw [stK_s, stK_zero, stK_zero, stK_zero]
  | some j :: r, c, i + 1, h => by
    rw [stK_s, stK_s]
    split
    · exact stK_some (by simpa using h)
    · exact stK_some (by simpa using h)
theorem keep_none {q : Nat → Nat} : ∀ {l : List (Option Nat)} {c : Nat → Nat} {i : Nat}, l[i]? = some none → (keepL q c l)[i]? = some none
  | [], c, i, h => by simp at h
  | none :: r, c, 0, h => by rw [keepL]; rfl
  | none :: r, c, i + 1, h => by rw [keepL]; exact keep_none (l := r) (by simpa using h)
  | some k :: r, c, 0, h => by simp at h
  | some k :: r, c, i + 1, h => by
    rw [keepL]
    split
    · exact keep_none (l := r) (by simpa using h)
    · exact keep_none (l := r) (by simpa using h)
theorem keep_some {q : Nat → Nat} {k : Nat} : ∀ {l : List (Option Nat)} {c : Nat → Nat} {i : Nat}, l[i]? = some (some k) → (keepL q c l)[i]? = some (if stK q c l i k < q k then some k else none)
  | [], c, i, h => by simp at h
  | none :: r, c, 0, h => by simp at h
  | none :: r, c, i + 1, h => by rw [keepL, stK_n]; exact keep_some (l := r) (by simpa using h)
  | some j :: r, c, 0, h => by
    obtain rfl : j = k := by simpa using h
    rw [keepL, stK_zero]
    split <;> rfl
  | some j :: r, c, i + 1, h => by
    rw [keepL, stK_s]
    split
    · exact keep_some (l := r) (by simpa using h)
    · exact keep_some (l := r) (by simpa using h)
theorem stK_all {q : Nat → Nat} : ∀ (l : List (Option Nat)) (c : Nat → Nat) (k : Nat), stK q c l l.length k = c k + cntO (keepL q c l) k
  | [], c, k => by rw [keepL, cntO_nil]; rfl
  | none :: r, c, k => by
    rw [List.length_cons, stK_n, keepL, cntO_cons, if_neg (by simp), stK_all r c k]; omega
  | some j :: r, c, k => by
    rw [List.length_cons, stK_s, keepL]
    split
    · rw [stK_all r _ k, cntO_cons]
      unfold upd
      by_cases h : k = j
      · subst h; rw [if_pos rfl, if_pos rfl]; omega
      · rw [if_neg h, if_neg (by simpa using fun e => h e.symm)]; omega
    · rw [stK_all r c k, cntO_cons, if_neg (by simp)]; omega

/-! ### The others go -/
def stF (m : Nat) (q : Nat → Nat) : (Nat → Nat) → List (Option Nat) → Nat → Nat → Nat
  | c, _, 0 => c
  | c, [], _ + 1 => c
  | c, some _ :: r, i + 1 => stF m q c r i
  | c, none :: r, i + 1 => match roomK m q c with
    | some k => stF m q (upd c k) r i
    | none => stF m q c r i
theorem stF_s (m : Nat) (q c : Nat → Nat) (k : Nat) (r : List (Option Nat)) (i : Nat) : stF m q c (some k :: r) (i + 1) = stF m q c r i := rfl
theorem stF_n (m : Nat) (q c : Nat → Nat) (r : List (Option Nat)) (i : Nat) : stF m q c (none :: r) (i + 1) = match roomK m q c with | some k => stF m q (upd c k) r i | none => stF m q c r i := rfl
theorem stF_zero (m : Nat) (q c : Nat → Nat) (l : List (Option Nat)) : stF m q c l 0 = c := by cases l <;> rfl
theorem stF_some {m k : Nat} {q : Nat → Nat} : ∀ {l : List (Option Nat)} {c : Nat → Nat} {i : Nat}, l[i]? = some (some k) → stF m q c l (i + 1) = stF m q c l i
  | [], c, i, h => by simp at h
  | some j :: r, c, 0, h => by rw [stF_s, stF_zero, stF_zero]
  | some j :: r, c, i + 1, h => by rw [stF_s, stF_s]; exact stF_some (l := r) (by simpa using h)
  | none :: r, c, 0, h => by simp at h
  | none :: r, c, i + 1, h => by
    have h' : r[i]? = some (some k) := by simpa using h
    rw [stF_n, stF_n]
    cases roomK m q c with
    | none => exact stF_some (l := r) h'
    | some j => exact stF_some (l := r) h'
theorem stF_none {m : Nat} {q : Nat → Nat} : ∀ {l : List (Option Nat)} {c : Nat → Nat} {i : Nat}, l[i]? = some none → stF m q c l (i + 1) = match roomK m q (stF m q c l i) with | some k => upd (stF m q c l i) k | none => stF m q c l i
  | [], c, i, h => by simp at h
  | some j :: r, c, 0, h => by simp at h
  | some j :: r, c, i + 1, h => by rw [stF_s, stF_s]; exact stF_none (l := r) (by simpa using h)
  | none :: r, c, 0, h => by
    rw [stF_n, stF_zero m q c (none :: r)]
    cases roomK m q c with
    | none => exact stF_zero ..
    | some j => exact stF_zero ..
  | none :: r, c, i + 1, h => by
    have h' : r[i]? = some none := by simpa using h
    rw [stF_n, stF_n]
    cases roomK m q c with
    | none => exact stF_none (l := r) h'
    | some j => exact stF_none (l := r) h'
theorem fill_none {m : Nat} {q : Nat → Nat} : ∀ {l : List (Option Nat)} {c : Nat → Nat} {i : Nat}, l[i]? = some none → (fillL m q c l)[i]? = some (roomK m q (stF m q c l i))
  | [], c, i, h => by simp at h
  | some j :: r, c, 0, h => by simp at h
  | some j :: r, c, i + 1, h => by rw [fillL, stF_s]; exact fill_none (l := r) (by simpa using h)
  | none :: r, c, 0, h => by
    rw [fillL, stF_zero]
    cases roomK m q c with
    | none => rfl
    | some j => rfl
  | none :: r, c, i + 1, h => by
    have h' : r[i]? = some none := by simpa using h
    rw [fillL, stF_n]
    cases roomK m q c with
    | none => exact fill_none (l := r) h'
    | some j => exact fill_none (l := r) h'
theorem room_is {m : Nat} {q c : Nat → Nat} {k : Nat} (hk : k < m) (h1 : c k < q k) (h2 : ∀ j, j < k → ¬ c j < q j) : roomK m q c = some k := by
  unfold roomK
  rw [List.find?_range_eq_some]
  exact ⟨decide_eq_true h1, List.mem_range.2 hk, fun j hj => by simpa using h2 j hj⟩
theorem room_no {m : Nat} {q c : Nat → Nat} (h : ∀ j, j < m → ¬ c j < q j) : roomK m q c = none := by
  unfold roomK
  rw [List.find?_eq_none]
  intro j hj
  simpa using h j (List.mem_range.1 hj)

/-! ### Owners, place by place -/
def oL (ps : List Plc) (xs : List Int) : List Own := List.zipWith (fun p x => (p, x)) ps xs
theorem oL_len {ps : List Plc} {xs : List Int} (h : xs.length = ps.length) : (oL ps xs).length = ps.length := by unfold oL; rw [List.length_zipWith, h]; omega
theorem oL_get {ps : List Plc} {xs : List Int} {i : Nat} {p : Plc} {x : Int} (hp : ps[i]? = some p) (hx : xs[i]? = some x) : (oL ps xs)[i]? = some (p, x) := by
  unfold oL; rw [List.getElem?_zipWith, hp, hx]
theorem oL_set {ps : List Plc} {xs : List Int} {i : Nat} {p : Plc} (hp : ps[i]? = some p) (x : Int) : (oL ps xs).set i (p, x) = oL ps (xs.set i x) := by
  unfold oL
  apply List.ext_getElem?
  intro j
  rw [List.getElem?_zipWith]
  by_cases hj : j = i
  · subst hj
    by_cases hx : j < xs.length
    · rw [List.getElem?_set_self (by rw [List.length_zipWith]; have := (List.getElem?_eq_some_iff.1 hp).1; omega), List.getElem?_set_self hx, hp]
    · rw [List.getElem?_eq_none (by rw [List.length_set, List.length_zipWith]; omega), List.getElem?_eq_none (l := xs.set j x) (by rw [List.length_set]; omega), hp]
  · rw [List.getElem?_set_ne (fun e => hj e.symm), List.getElem?_set_ne (fun e => hj e.symm), List.getElem?_zipWith]
/-- Those who are told so far, and nobody behind. -/
def mix (a b : List Int) (i : Nat) : List Int := a.take i ++ b.drop i
theorem mix_len {a b : List Int} (h : a.length = b.length) (i : Nat) : (mix a b i).length = b.length := by
  unfold mix; rw [List.length_append, List.length_take, List.length_drop]; omega
theorem mix_get {a b : List Int} (h : a.length = b.length) {i j : Nat} (hj : j < b.length) : (mix a b i)[j]? = if j < i then a[j]? else b[j]? := by
  unfold mix
  by_cases hji : j < i
  · rw [if_pos hji, List.getElem?_append_left (by rw [List.length_take]; omega), List.getElem?_take, if_pos hji]
  · rw [if_neg hji, List.getElem?_append_right (by rw [List.length_take]; omega), List.getElem?_drop]
    congr 1
    rw [List.length_take]; omega
theorem mix_set {a b : List Int} (h : a.length = b.length) {i : Nat} {x : Int} (hx : a[i]? = some x) : (mix a b i).set i x = mix a b (i + 1) := by
  have hi := (List.getElem?_eq_some_iff.1 hx).1
  apply List.ext_getElem?
  intro j
  by_cases hj : j < b.length
  · rw [mix_get h hj]
    by_cases hji : j = i
    · subst hji
      rw [List.getElem?_set_self (by rw [mix_len h]; omega), if_pos (by omega), hx]
    · rw [List.getElem?_set_ne (fun e => hji e.symm), mix_get h hj]
      by_cases h1 : j < i
      · rw [if_pos h1, if_pos (by omega)]
      · rw [if_neg h1, if_neg (by omega)]
  · rw [List.getElem?_eq_none (by rw [List.length_set, mix_len h]; omega), List.getElem?_eq_none (by rw [mix_len h]; omega)]
theorem mix_same {a b : List Int} (h : a.length = b.length) {i : Nat} (hx : a[i]? = b[i]?) : mix a b (i + 1) = mix a b i := by
  apply List.ext_getElem?
  intro j
  by_cases hj : j < b.length
  · rw [mix_get h hj, mix_get h hj]
    by_cases h1 : j < i
    · rw [if_pos h1, if_pos (by omega)]
    · rw [if_neg h1]
      by_cases h2 : j = i
      · subst h2; rw [if_pos (by omega), hx]
      · rw [if_neg (by omega)]
  · rw [List.getElem?_eq_none (by rw [mix_len h]; omega), List.getElem?_eq_none (by rw [mix_len h]; omega)]
theorem mix_zero (a b : List Int) : mix a b 0 = b := by unfold mix; simp
theorem mix_all {a b : List Int} (h : a.length = b.length) : mix a b b.length = a := by unfold mix; rw [List.take_of_length_le (by omega), List.drop_length, List.append_nil]
end Go.Proofs.Ytdlkdagmaeapdaa
