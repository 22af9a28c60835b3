/- Texts that lie next to one another, laid into one: each says what it holds. No condition but what each states. -/
import Derived.Test.YtmmkcfiecgpkpaaGreatBdText
import Derived.Test.YtmmkcfiecgpkpaaGreatBxSlW

/- Rows of texts: lengths and capacities, literal ones, those that came in cut short. No condition. -/
namespace Go.Proofs.YtmmkcfiecgpkpaaGreat
open Go.RowKit
set_option linter.unusedVariables false
set_option linter.unusedSimpArgs false
set_option maxRecDepth 100000

theorem TextsAt.lit (w : World) (b : Nat) (l : List Txt) {e : TypeId} (h : Blk w b (txs l) e) : TextsAt w (some ⟨b, 0, none⟩) l := fun i x hx => ⟨b, 0, rfl, by rw [Nat.zero_add]; exact h.cell (txs_get hx)⟩

/-- The first so many of the texts that came in, each cut short. -/
def cutT (xs : List ByteArray) (k : Nat) : List Txt := (xs.take k).map fun s => s.data.toList.take 300
theorem cutT_step {xs : List ByteArray} {k : Nat} {s : ByteArray} (h : xs[k]? = some s) : cutT xs (k + 1) = cutT xs k ++ [s.data.toList.take 300] := by
  unfold cutT
  rw [List.take_add_one, h]; simp
theorem cutT_len {xs : List ByteArray} {k : Nat} (h : k ≤ xs.length) : (cutT xs k).length = k := by unfold cutT; simp; omega
theorem cutT_small (xs : List ByteArray) (k : Nat) : ∀ x ∈ cutT xs k, x.length ≤ 300 := by
  intro x hx
  unfold cutT at hx
  simp only [List.mem_map] at hx
  obtain ⟨s, _, rfl⟩ := hx
  rw [List.length_take]; omega
/-- A row of texts that is no nil one: where it lies. -/
theorem row_some {w : World} {B : Nat} {k cc : Nat} {a : Option Addr} {L : List Txt} (h : w.ownsRow B 9 1 (.slice a k cc) k (txs L)) (hk : 0 < k) : ∃ g, a = some ⟨g, 0, none⟩ := by
  obtain ⟨g, r, h1, _⟩ := ow_blk h hk
  exact ⟨g, h1⟩
theorem row_cells {w : World} {B : Nat} {k cc g : Nat} {L : List Txt} (h : w.ownsRow B 9 1 (.slice (some ⟨g, 0, none⟩) k cc) k (txs L)) (hk : k = L.length) : ∀ (j : Nat) (u : Value), (txs L)[j]? = some u → w.cell? ((⟨g, 0, none⟩ : Addr).add j) = some u := by
  intro j u hj
  simp only [txs, List.getElem?_map, Option.map_eq_some_iff] at hj
  obtain ⟨x, hx, rfl⟩ := hj
  obtain ⟨b, o, e, hc⟩ := (TextsAt.of_own h hk) j x hx
  cases e
  rw [Addr.add_lit]
  exact hc
end Go.Proofs.YtmmkcfiecgpkpaaGreat
