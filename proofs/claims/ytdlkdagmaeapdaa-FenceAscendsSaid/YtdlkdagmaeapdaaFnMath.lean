/- What FenceAscends and FenceOnce want of the plain track. No condition. -/
import Derived.Test.YtdlkdagmaeapdaaFnModel
import Derived.Test.YtdlkdagmaeapdaaLgMath
namespace Go.Proofs.Ytdlkdagmaeapdaa
open Go.RowKit
set_option linter.unusedVariables false
set_option maxRecDepth 100000

/-- In how many spans an offset lies. -/
def cntSp (n : Int) (l : List (Int × Int)) : Nat := l.countP (inP n)
theorem cntSp_app (n : Int) (l m : List (Int × Int)) : cntSp n (l ++ m) = cntSp n l + cntSp n m := List.countP_append
theorem cntSp_step {n : Int} {l : List (Int × Int)} {j : Nat} {p : Int × Int} (h : l[j]? = some p) : cntSp n (l.take (j + 1)) = cntSp n (l.take j) + (if inP n p = true then 1 else 0) := by
  rw [List.take_add_one, h]
  show cntSp n (l.take j ++ [p]) = _
  rw [cntSp_app]
  unfold cntSp
  rw [List.countP_singleton]
theorem cntSp_all (n : Int) (l : List (Int × Int)) : cntSp n (l.take l.length) = cntSp n l := by rw [List.take_length]
/-- A chain's spans of both kinds hold each offset from its start to its end, and just once. -/
theorem once_cntSp (n : Int) : ∀ {l : List Pc} {a : Int} {k : Option Bool}, chn a k l → cntSp n (spOf l true ++ spOf l false) = if a ≤ n ∧ n < endF a l then 1 else 0
  | [], a, _, _ => by
    have : ¬ (a ≤ n ∧ n < endF a []) := by show ¬ (a ≤ n ∧ n < a); omega
    rw [if_neg this]; rfl
  | y :: l, a, _, ⟨h1, h2, _, h4⟩ => by
    have ih := once_cntSp n h4
    have he := (endF_le h4).1
    have hs : cntSp n (spOf (y :: l) true ++ spOf (y :: l) false) = cntSp n [(y.1, y.2.1)] + cntSp n (spOf l true ++ spOf l false) := by
      rw [spOf_cons, spOf_cons]
      cases hy : y.2.2 with
      | true =>
        rw [if_pos rfl, if_neg (by decide), cntSp_app, cntSp_app, show (y.1, y.2.1) :: spOf l true = [(y.1, y.2.1)] ++ spOf l true from rfl, cntSp_app]; omega
      | false =>
        rw [if_neg (by decide), if_pos rfl, cntSp_app, cntSp_app, show (y.1, y.2.1) :: spOf l false = [(y.1, y.2.1)] ++ spOf l false from rfl, cntSp_app]; omega
    rw [hs, ih]
    show (List.countP (inP n) [(y.1, y.2.1)]) + (if y.2.1 ≤ n ∧ n < endF y.2.1 l then 1 else 0) = if a ≤ n ∧ n < endF y.2.1 l then 1 else 0
    rw [List.countP_singleton]
    unfold inP
    rw [← h1]
    by_cases c1 : y.1 ≤ n <;> by_cases c2 : n < y.2.1 <;> by_cases c3 : n < endF y.2.1 l <;> simp [c1, c2, c3] <;> first | omega | (split <;> omega)

theorem add_len {M : LgM} {t : Int} {k : Bool} : (M.add t k).L.length ≤ M.L.length + 1 := by
  show (addL M t k).length ≤ _
  unfold addL
  split
  · omega
  · split
    · rename_i h
      obtain ⟨l', x, hl, _⟩ := lastK_split h
      rw [hl, setTo_app]; simp
    · simp
theorem add_from {M : LgM} {t : Int} {k : Bool} : (M.add t k).b = M.b := rfl

/-- What holds behind each act: all from what is committed up to the next one was delivered; the last one lies ahead of the next one; no more spans than acts. -/
structure Asc (from_ : Int) (M : FnM) (had : List Int) (last : Int) (i : Nat) : Prop where
  ok : M.Ok
  had : ∀ k, M.L.fin ≤ k → k < M.N → k ∈ had
  last : last < M.N
  len : M.L.L.length ≤ i
  b : M.L.b = from_
theorem Asc.new {a : Int} (h1 : 0 ≤ a) (h2 : a ≤ 1099511627776) : Asc a (FnM.new a) [] (a - 1) 0 :=
  ⟨FnM.new_ok h1 h2, fun k h3 h4 => by
    have e1 : (FnM.new a).L.fin = a := rfl
    have e2 : (FnM.new a).N = a := rfl
    omega, by show a - 1 < a; omega, Nat.le_refl _, rfl⟩
section
variable {a last : Int} {M : FnM} {had : List Int} {i : Nat}
theorem Asc.no (h : Asc a M had last i) : Asc a M had last (i + 1) := ⟨h.ok, h.had, h.last, by have := h.len; omega, h.b⟩
theorem Asc.back (h : Asc a M had last i) : Asc a M.back had (M.L.fin - 1) (i + 1) :=
  ⟨h.ok.back, fun k h1 h2 => by
    have e1 : M.back.L.fin = M.L.fin := rfl
    have e2 : M.back.N = M.L.fin := rfl
    omega, by show M.L.fin - 1 < M.L.fin; omega, by have := h.len; show M.L.L.length ≤ _; omega, h.b⟩
theorem skip_len {M : FnM} {x : Int} : (M.skipL x).L.length ≤ M.L.L.length + 1 := by
  unfold FnM.skipL
  split
  · omega
  · exact add_len
theorem skip_b {M : FnM} {x : Int} : (M.skipL x).b = M.L.b := by
  unfold FnM.skipL
  split <;> rfl
theorem Asc.com (h : Asc a M had last i) {x : Int} (he : M.comE x = 0) : Asc a (M.com x) had last (i + 1) ∧ (∀ k, M.L.fin ≤ k → k < x → k ∈ had) ∧ (M.com x).L.fin = x ∧ M.L.fin < x ∧ x ≤ (M.com x).N := by
  obtain ⟨c1, c2, c3, c4, c5, c6, c7⟩ := com_is h.ok he
  refine ⟨⟨c1, fun k h1 h2 => h.had k (by omega) (by omega), by rw [c2]; exact h.last, by rw [c3]; have := add_len (M := M.L) (t := x) (k := true); have := h.len; omega, by rw [c3]; exact h.b⟩, fun k h1 h2 => h.had k h1 (by omega), c5, c6, by omega⟩
theorem Asc.seek (h : Asc a M had last i) {x hh t : Int} (he : M.seekE x hh t = 0) : Asc a (M.seek x hh t) had ((M.seek x hh t).N - 1) (i + 1) := by
  obtain ⟨c1, c2, c3, c4⟩ := seek_is h.ok he
  have hlen := h.len
  refine ⟨c1, fun k h1 h2 => ?_, by omega, ?_, ?_⟩
  · rcases c4 with c4 | ⟨c5, c6, c7⟩
    · rw [c4] at h1
      have hx : x ≤ M.N ∨ M.N < x := by omega
      rcases hx with hx | hx
      · exact h.had k h1 (by omega)
      · have hf : (M.seek x hh t).L = M.skipL x := by unfold FnM.seek; rw [if_pos he, if_pos hx]
        have h5 := h.ok.lo
        have h6 : M.skipE x = 0 := by
          have h7 := he
          unfold FnM.seekE at h7
          split at h7
          · split at h7
            · omega
            · split at h7
              · omega
              · first | exact h7 | (rw [if_pos hx] at h7; exact h7)
          · omega
        have h8 := (skip_ok h.ok h6).2
        rw [← hf, c4] at h8
        omega
    · have h8 := (skip_ok h.ok c7).2
      rw [c6, h8] at h1
      omega
  · rcases c4 with c4 | ⟨c5, c6, c7⟩
    · rw [c4]; omega
    · rw [c6]; have := skip_len (M := M) (x := x); omega
  · rcases c4 with c4 | ⟨c5, c6, c7⟩
    · rw [c4]; exact h.b
    · rw [c6, skip_b]; exact h.b
theorem Asc.del (h : Asc a M had last i) {hh t : Int} (he : M.delE hh t = 0) : Asc a (M.del hh t) (had ++ [M.delV hh t]) (M.delV hh t) (i + 1) ∧ last < M.delV hh t ∧ hh ≤ M.delV hh t ∧ M.delV hh t < t ∧ M.L.fin ≤ (M.del hh t).L.fin := by
  obtain ⟨c1, c2, c3, c4, c5, c6, c7⟩ := del_is h.ok he
  have hlen := h.len
  have hlast := h.last
  refine ⟨⟨c1, fun k h1 h2 => ?_, by omega, ?_, ?_⟩, by omega, c4, c5, c6⟩
  · refine List.mem_append.2 ?_
    by_cases hk : k = M.delV hh t
    · exact .inr (by rw [hk]; exact List.mem_singleton.2 rfl)
    · refine .inl (h.had k (by omega) ?_)
      have hv : M.delV hh t = max M.N hh := by unfold FnM.delV; rw [if_pos he]
      rcases c7 with c7 | ⟨c8, c9⟩
      · by_cases hx : M.N < hh
        · have hf : (M.del hh t).L = M.skipL hh := by unfold FnM.del; rw [if_pos he, if_pos hx]
          have h8 := (skip_ok h.ok ((del_ok he).2 hx)).2
          rw [← hf] at h8
          omega
        · omega
      · have h8 := (skip_ok h.ok ((del_ok he).2 c8)).2
        rw [c9, h8] at h1
        omega
  · rcases c7 with c7 | ⟨c8, c9⟩
    · rw [c7]; omega
    · rw [c9]; have := skip_len (M := M) (x := hh); omega
  · rcases c7 with c7 | ⟨c8, c9⟩
    · rw [c7]; exact h.b
    · rw [c9, skip_b]; exact h.b
/-- In a window, and with room for spans, there is one or there is none. -/
theorem Asc.del_no (h : Asc a M had last i) (hi : i < 256) {hh t : Int} (h1 : 0 ≤ hh) (h2 : hh ≤ t) (h3 : t ≤ 1099511627776) (he : M.delE hh t ≠ 0) : M.delE hh t = 5 ∧ M.del hh t = M := by
  refine ⟨?_, by unfold FnM.del; rw [if_neg he]⟩
  have hw : winE hh t = 0 := by unfold winE; rw [if_neg (by omega)]
  have hp : M.peekE hh t = if t ≤ max M.N hh then 5 else 0 := by unfold FnM.peekE; rw [if_pos hw]
  unfold FnM.delE at he ⊢
  by_cases hc : t ≤ max M.N hh
  · rw [if_pos hc] at hp
    rw [hp] at he ⊢
    rfl
  · rw [if_neg hc] at hp
    rw [if_pos hp] at he
    exfalso
    apply he
    by_cases hx : M.N < hh
    · rw [if_pos hx]
      unfold FnM.skipE
      have h5 := h.ok.lo
      have h6 := h.len
      rw [if_neg (by omega)]
      unfold addE
      rw [if_neg (by omega)]
      split
      · rfl
      · rw [if_neg (by omega)]
    · rw [if_neg hx]
theorem Asc.com_no (h : Asc a M had last i) {x : Int} (he : M.comE x ≠ 0) : M.com x = M := by unfold FnM.com; rw [if_neg he]
theorem Asc.seek_no (h : Asc a M had last i) {x hh t : Int} (he : M.seekE x hh t ≠ 0) : M.seek x hh t = M := by unfold FnM.seek; rw [if_neg he]
/-- What it comes to at the end. -/
theorem Asc.once (h : Asc a M had last i) (n : Int) : cntSp n (spOf M.L.L true ++ spOf M.L.L false) = if a ≤ n ∧ n < M.L.fin then 1 else 0 := by
  have := once_cntSp n h.ok.led.ch
  rw [h.b] at this
  rw [this]
  unfold LgM.fin
  rw [h.b]
end
end Go.Proofs.Ytdlkdagmaeapdaa
