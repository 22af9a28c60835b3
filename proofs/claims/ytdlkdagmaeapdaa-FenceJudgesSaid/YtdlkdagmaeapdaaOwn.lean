/- Slices of one's own (made, then appended to): what they hold, and what may turn around them. No condition. -/
import Derived.Test.YtdlkdagmaeapdaaRows
import Derived.Test.YtdlkdagmaeapdaaBase
import Derived.OwnWalk
import Derived.Laws.AppendOwnNone
namespace Go.Proofs.Ytdlkdagmaeapdaa
open Go.RowKit
set_option linter.unusedVariables false
set_option maxRecDepth 100000

theorem ow_turned {S : Nat → Prop} {w w' : World} {base : Nat} {e : TypeId} {size n : Nat} {v : Value} {xs : List Value} (h : w.ownsRow base e size v n xs) (ht : Turned S w w') (hs : ∀ b, v.ownBlock = some b → ¬ S b) : w'.ownsRow base e size v n xs := by
  refine ⟨h.1, ?_⟩
  rcases h.2 with ⟨rfl, rfl⟩ | ⟨g, cap, cur, rfl, h1, h2, h3⟩
  · exact .inl ⟨rfl, rfl⟩
  · exact .inr ⟨g, cap, cur, rfl, h1, (ht.block g (Array.getElem?_eq_some_iff.1 h2).1 (hs g rfl)).trans h2, h3⟩
theorem ow_still {w w' : World} {base : Nat} {e : TypeId} {size n : Nat} {v : Value} {xs : List Value} (h : w.ownsRow base e size v n xs) (ht : Still w w') : w'.ownsRow base e size v n xs := ow_turned h ht (fun _ _ h => h)
theorem ow_base {w : World} {B B' : Nat} {e : TypeId} {m n : Nat} {v : Value} {xs : List Value} (h : w.ownsRow B e m v n xs) (hB : B' ≤ B) : w.ownsRow B' e m v n xs := by
  refine ⟨h.1, ?_⟩
  rcases h.2 with h1 | ⟨g, cap, cur, h1, h2, h3⟩
  · exact .inl h1
  · exact .inr ⟨g, cap, cur, h1, Nat.le_trans hB h2, h3⟩
theorem ow_slice {w : World} {base : Nat} {e : TypeId} {size n : Nat} {v : Value} {xs : List Value} (h : w.ownsRow base e size v n xs) : ∃ ao cc, v = .slice ao n cc := by
  rcases h.2 with ⟨rfl, rfl⟩ | ⟨g, cp, cur, rfl, _⟩
  · exact ⟨none, 0, rfl⟩
  · exact ⟨_, _, rfl⟩
theorem ow_le {w : World} {B : Nat} {e : TypeId} {m n cc : Nat} {ao : Option Addr} {xs : List Value} (h : w.ownsRow B e m (.slice ao n cc) n xs) : n ≤ cc ∧ cc ≤ maxLen ∧ (ao = none → n = 0 ∧ cc = 0) := by
  rcases h.2 with ⟨e0, rfl⟩ | ⟨g, cap, cur, e0, _, hg, h1, h2, _, ht⟩
  · obtain ⟨rfl, _, rfl⟩ : ao = none ∧ True ∧ cc = 0 := by simpa using e0
    exact ⟨Nat.le_refl _, Nat.zero_le _, fun _ => ⟨rfl, rfl⟩⟩
  · obtain ⟨rfl, rfl⟩ : ao = some ⟨g, 0, none⟩ ∧ cc = cap := by simpa using e0
    exact ⟨h1, h2, fun h => by cases h⟩
theorem ow_lt {w : World} {B : Nat} {e : TypeId} {m n cc : Nat} {ao : Option Addr} {xs : List Value} (h : w.ownsRow B e m (.slice ao n cc) n xs) : ∀ a, ao = some a → B ≤ a.block ∧ a.block < w.heap.size := by
  rintro a rfl
  rcases h.2 with ⟨e0, rfl⟩ | ⟨g, cap, cur, e0, h0, hg, _⟩
  · simp at e0
  · obtain ⟨rfl, rfl⟩ : a = ⟨g, 0, none⟩ ∧ cc = cap := by simpa using e0
    exact ⟨h0, (Array.getElem?_eq_some_iff.1 hg).1⟩
/-- The block that it lies in, known whole, where it isn't empty. -/
theorem ow_blk {w : World} {B : Nat} {e : TypeId} {n cc : Nat} {ao : Option Addr} {xs : List Value} (h : w.ownsRow B e 1 (.slice ao n cc) n xs) (h0 : 0 < n) : ∃ g r, ao = some ⟨g, 0, none⟩ ∧ B ≤ g ∧ Blk w g (xs ++ r) e := by
  rcases h.2 with ⟨e0, rfl⟩ | ⟨g, cap, cur, e0, hB, hg, h1, h2, _, ht⟩
  · omega
  · obtain ⟨rfl, rfl⟩ : ao = some ⟨g, 0, none⟩ ∧ cc = cap := by simpa using e0
    refine ⟨g, cur.toList.drop (n * 1), rfl, hB, ?_⟩
    unfold Blk
    rw [hg, ← ht, List.take_append_drop]
theorem ow_cells (w : World) (l : List Value) (t : TypeId) : ∀ (j : Nat) (u : Value), l[j]? = some u → (w.alloc (.cells l.toArray t)).cell? ((⟨w.heap.size, 0, none⟩ : Addr).add j) = some u := by
  intro j u h
  rw [Addr.add_lit, Nat.zero_add]
  exact (Blk.new w l t).cell h
/-- One element, just made. -/
theorem ow_one (w : World) (v : Value) (e : TypeId) {base : Nat} (hb : base ≤ w.heap.size) : (w.alloc (.cells #[v] e)).ownsRow base e 1 (.slice (some ⟨w.heap.size, 0, none⟩) 1 1) 1 [v] :=
  ⟨rfl, .inr ⟨w.heap.size, 1, #[v], rfl, hb, heap_alloc_new w _, Nat.le_refl _, by unfold maxLen; omega, rfl, rfl⟩⟩
def isIntW : Value → Bool
  | .int _ _ => true
  | _ => false
theorem ow_ints {l : List Value} (h : l.all isIntW = true) : ∀ u ∈ l, u.oneCell' = true := fun u hu => by
  rw [List.all_eq_true] at h
  have := h u hu
  cases u <;> first | rfl | cases this

theorem infoIntW : (Try.prog.info? 3).map (fun i => (i.zero, i.size, i.bytes)) = some (some (.int .i64 0), 1, 8) := by kernel_rfl

theorem NumsAt.of_own {w : World} {base : Nat} {a : Option Addr} {c n : Nat} {l : List Int} (h : w.ownsRow base 3 1 (.slice a n c) n (ints l)) (hn : n = l.length) : NumsAt w a l := by
  subst hn
  intro i x hx
  obtain ⟨g, r, rfl, _, hb⟩ := ow_blk h (Nat.lt_of_le_of_lt (Nat.zero_le _) (get_lt hx))
  refine ⟨g, 0, rfl, ?_⟩
  rw [Nat.zero_add]
  refine hb.cell ?_
  rw [List.getElem?_append_left (by rw [ints_length]; exact get_lt hx)]
  exact ints_get hx

/-- One number of a block of numbers is stored. -/
theorem nums_set {w : World} {g : Nat} {l : List Int} (hA : NumsAt w (some ⟨g, 0, none⟩) l) (t : Nat) (y : Int) : NumsAt (w.setCell ⟨g, t, none⟩ (.int .i64 y)) (some ⟨g, 0, none⟩) (l.set t y) := by
  intro i x hx
  refine ⟨g, 0, rfl, ?_⟩
  have hi : i < l.length := by have := get_lt hx; rwa [List.length_set] at this
  rw [Nat.zero_add]
  by_cases hk : t = i
  · subst hk
    rw [List.getElem?_set_self hi] at hx
    cases hx
    obtain ⟨z, hz⟩ := get_some hi
    obtain ⟨b, o, e, hc⟩ := hA t z hz
    cases e
    rw [Nat.zero_add] at hc
    exact World.cell?_setCell_same' _ _ _ (by rw [hc]; rfl)
  · rw [List.getElem?_set_ne hk] at hx
    obtain ⟨b, o, e, hc⟩ := hA i x hx
    cases e
    rw [Nat.zero_add] at hc
    rw [World.cell?_setCell_other (h := by intro e; cases e; exact hk rfl)]
    exact hc
end Go.Proofs.Ytdlkdagmaeapdaa
