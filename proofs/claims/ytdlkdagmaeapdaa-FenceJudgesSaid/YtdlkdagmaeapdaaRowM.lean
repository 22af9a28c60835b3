/- Rows of one's own whose elements have several cells: their block, and a store into one of them. No condition. -/
import Derived.Test.YtdlkdagmaeapdaaOwn
namespace Go.Proofs.Ytdlkdagmaeapdaa
open Go.RowKit
set_option linter.unusedVariables false

theorem owm_parts {w : World} {B : Nat} {m g n cc : Nat} {xs : List Value} {e : TypeId} (h : w.ownsRow B e m (.slice (some ⟨g, 0, none⟩) n cc) n xs) :
    ∃ r, Blk w g (xs ++ r) e ∧ xs.length = n * m ∧ (xs ++ r).length = cc * m ∧ n ≤ cc ∧ cc ≤ maxLen ∧ B ≤ g := by
  have hx : xs.length = n * m := h.1
  rcases h.2 with ⟨h', _⟩ | ⟨g', cap', cur, h', hB, hg, hnc, hcm, hcs, htake⟩
  · simp at h'
  · simp only [Value.slice.injEq, Option.some.injEq, Addr.mk.injEq, and_true, true_and] at h'
    obtain ⟨rfl, rfl⟩ := h'
    have e : xs ++ cur.toList.drop (n * m) = cur.toList := by rw [← htake]; exact List.take_append_drop _ _
    refine ⟨cur.toList.drop (n * m), by rw [e]; exact hg, hx, by rw [e]; simpa using hcs, hnc, hcm, hB⟩
theorem owm_of_parts {w : World} {B : Nat} {m g n cc : Nat} {xs r : List Value} {e : TypeId} (hb : Blk w g (xs ++ r) e) (hx : xs.length = n * m) (hl : (xs ++ r).length = cc * m) (hn : n ≤ cc) (hm : cc ≤ maxLen) (hB : B ≤ g) :
    w.ownsRow B e m (.slice (some ⟨g, 0, none⟩) n cc) n xs := by
  refine ⟨hx, .inr ⟨g, cc, (xs ++ r).toArray, rfl, hB, hb, hn, hm, by simpa using hl, ?_⟩⟩
  rw [← hx]; simp

/-- A cell of such a row. -/
theorem owm_cell {w : World} {B : Nat} {m g n cc : Nat} {xs : List Value} {e : TypeId} (h : w.ownsRow B e m (.slice (some ⟨g, 0, none⟩) n cc) n xs) {j : Nat} {v : Value} (hj : xs[j]? = some v) :
    w.cell? ⟨g, j, none⟩ = some v ∧ w.frozen? ⟨g, j, none⟩ = false := by
  obtain ⟨r, hb, _⟩ := owm_parts h
  exact ⟨hb.cell (by rw [List.getElem?_append_left (List.getElem?_eq_some_iff.1 hj).1]; exact hj), hb.free _⟩
/-- A store into it. -/
theorem owm_set {w : World} {B : Nat} {m g n cc : Nat} {xs : List Value} {e : TypeId} (h : w.ownsRow B e m (.slice (some ⟨g, 0, none⟩) n cc) n xs) {j : Nat} (hj : j < xs.length) (v : Value) :
    (w.setCell ⟨g, j, none⟩ v).ownsRow B e m (.slice (some ⟨g, 0, none⟩) n cc) n (xs.set j v) := by
  obtain ⟨r, hb, h1, h2, h3, h4, h5⟩ := owm_parts h
  have := hb.set j v
  rw [List.set_append_left _ _ hj] at this
  exact owm_of_parts this (by simpa using h1) (by simpa using h2) h3 h4 h5
/-- The address of a row that has elements. -/
theorem owm_addr {w : World} {B : Nat} {m n cc : Nat} {ao : Option Addr} {xs : List Value} {e : TypeId} (h : w.ownsRow B e m (.slice ao n cc) n xs) (h0 : 0 < n) : ∃ g, ao = some ⟨g, 0, none⟩ := by
  rcases h.2 with ⟨_, rfl⟩ | ⟨g, cap, cur, h', _⟩
  · omega
  · simp only [Value.slice.injEq] at h'
    exact ⟨g, h'.1⟩
theorem owm_addr' {w : World} {B : Nat} {e : TypeId} {m n cc : Nat} {a : Addr} {xs : List Value} (h : w.ownsRow B e m (.slice (some a) n cc) n xs) : ∃ g, a = ⟨g, 0, none⟩ := by
  rcases h.2 with ⟨h', _⟩ | ⟨g, cap, cur, h', _⟩
  · simp at h'
  · simp only [Value.slice.injEq, Option.some.injEq] at h'
    exact ⟨g, h'.1⟩
end Go.Proofs.Ytdlkdagmaeapdaa
