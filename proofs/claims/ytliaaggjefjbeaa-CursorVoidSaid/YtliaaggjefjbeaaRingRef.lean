/- The document's ring, as it lies in memory. No condition. -/
import Derived.Test.YtliaaggjefjbeaaRing
import Derived.Test.YtliaaggjefjbeaaRowM
import Derived.Test.YtliaaggjefjbeaaThing
import Derived.Test.YtliaaggjefjbeaaRead
namespace Go.Proofs.Ytliaaggjefjbeaa
open Go.RowKit
set_option linter.unusedVariables false
set_option maxRecDepth 100000

def encP (p : Plc) : List Value := [.int .i64 p.r, .bool p.d]
theorem encP_len (p : Plc) : (encP p).length = 2 := rfl
theorem encP_one (p : Plc) : ∀ u ∈ encP p, u.oneCell' = true := by intro u hu; simp [encP] at hu; rcases hu with rfl | rfl <;> rfl
theorem encP_ones (l : List Plc) : ∀ u ∈ rowOf encP l, u.oneCell' = true := by
  intro u hu
  unfold rowOf at hu
  obtain ⟨p, _, hp⟩ := List.mem_flatMap.1 hu
  exact encP_one p u hp
def polB (b : Bool) : Int := if b then 1 else 0

structure RIn (w : World) (W : Nat → Prop) (q : Nat) (la : Option Addr) (lc : Nat) (M : RM) : Prop where
  lt : ∀ k, W k → k < w.heap.size
  own : W q ∧ ∀ a, la = some a → W a.block ∧ a.block ≠ q
  hd : Blk w q [.int .i64 M.n, .int .i64 (polB M.ov), .int .i64 M.h, .slice la M.l.length lc] 48
  ls : w.ownsRow 0 75 2 (.slice la M.l.length lc) M.l.length (rowOf encP M.l)

theorem RIn.turned {w w' : World} {W S : Nat → Prop} {q lc : Nat} {la : Option Addr} {M : RM} (h : RIn w W q la lc M) (ht : Turned S w w') (hs : ∀ k, W k → ¬ S k) : RIn w' W q la lc M :=
  ⟨fun k hk => Nat.lt_of_lt_of_le (h.lt k hk) ht.size, h.own, h.hd.turned ht (hs _ h.own.1), ow_turned h.ls ht (fun b hb => by
    cases la with
    | none => cases hb
    | some a => have := (h.own.2 a rfl).1
                have e : a.block = b := by simpa [Value.ownBlock] using hb
                rw [← e]; exact hs _ this)⟩
theorem RIn.still {w w' : World} {W : Nat → Prop} {q lc : Nat} {la : Option Addr} {M : RM} (h : RIn w W q la lc M) (ht : Still w w') : RIn w' W q la lc M := h.turned ht (fun _ _ h => h)

/-- The document's ring as a thing. -/
def zrT (q : Nat) (M : RM) : Thing where
  at_ w W := ∃ la lc, RIn w W q la lc M
  lt := by rintro w W ⟨la, lc, h⟩ k hk; exact h.lt k hk
  keep := by rintro w w' W S ⟨la, lc, h⟩ ht hs; exact ⟨la, lc, h.turned ht hs⟩
theorem zrT_goes {q : Nat} {M : RM} {W W' : Nat → Prop} {w w' : World} {la : Option Addr} {lc : Nat} (h : RIn w' W' q la lc M) (ht : Turned W w w') (hW : ∀ k, W' k → W k ∨ w.heap.size ≤ k) : Goes (zrT q M) W w w' := ⟨W', ⟨la, lc, h⟩, ht, hW⟩
theorem zrT_still {q : Nat} {M : RM} {W : Nat → Prop} {w w' : World} {la : Option Addr} {lc : Nat} (h : RIn w W q la lc M) (ht : Still w w') : Goes (zrT q M) W w w' := Goes.still (Q := zrT q M) ⟨la, lc, h⟩ ht

theorem RIn.cells {w : World} {W : Nat → Prop} {q lc : Nat} {la : Option Addr} {M : RM} (h : RIn w W q la lc M) : w.cell? ⟨q, 0, none⟩ = some (.int .i64 M.n) ∧ w.cell? ⟨q, 1, none⟩ = some (.int .i64 (polB M.ov)) ∧ w.cell? ⟨q, 2, none⟩ = some (.int .i64 M.h) ∧ w.cell? ⟨q, 3, none⟩ = some (.slice la M.l.length lc) :=
  ⟨h.hd.cell rfl, h.hd.cell rfl, h.hd.cell rfl, h.hd.cell rfl⟩
theorem RIn.place {w : World} {W : Nat → Prop} {q lc : Nat} {la : Option Addr} {M : RM} (h : RIn w W q la lc M) {k : Nat} {p : Plc} (hk : M.l[k]? = some p) :
    ∃ g, la = some ⟨g, 0, none⟩ ∧ w.cell? ⟨g, k * 2, none⟩ = some (.int .i64 p.r) ∧ w.cell? ⟨g, k * 2 + 1, none⟩ = some (.bool p.d) ∧ w.frozen? ⟨g, k * 2 + 1, none⟩ = false ∧ g ≠ q ∧ W g := by
  have hl := (List.getElem?_eq_some_iff.1 hk).1
  obtain ⟨g, rfl⟩ := owm_addr h.ls (by omega)
  have e0 := rowOf_get encP_len hk (j := 0) (v := .int .i64 p.r) rfl
  have e1 := rowOf_get encP_len hk (j := 1) (v := .bool p.d) rfl
  rw [Nat.add_zero] at e0
  exact ⟨g, rfl, (owm_cell h.ls e0).1, (owm_cell h.ls e1).1, (owm_cell h.ls e1).2, (h.own.2 _ rfl).2, (h.own.2 _ rfl).1⟩

/-- A place is published. -/
theorem RIn.setD {w : World} {W : Nat → Prop} {q lc g : Nat} {M : RM} (h : RIn w W q (some ⟨g, 0, none⟩) lc M) {k : Nat} {p : Plc} (hk : M.l[k]? = some p) :
    RIn (w.setCell ⟨g, k * 2 + 1, none⟩ (.bool true)) W q (some ⟨g, 0, none⟩) lc { M with l := M.l.set k ⟨p.r, true⟩ } := by
  have hl := (List.getElem?_eq_some_iff.1 hk).1
  have hg := (h.own.2 _ rfl).2
  have hrow := rowOf_set encP_len hk (j := 1) (v := .bool true) (b := ⟨p.r, true⟩) (by omega) rfl
  refine ⟨fun i hi => by simp [World.setCell]; exact h.lt i hi, h.own, ?_, ?_⟩
  · have := h.hd.other (p := ⟨g, k * 2 + 1, none⟩) hg (.bool true)
    simpa using this
  · have := owm_set h.ls (j := k * 2 + 1) (by rw [rowOf_length encP_len]; omega) (.bool true)
    rw [hrow] at this
    simpa using this
end Go.Proofs.Ytliaaggjefjbeaa
