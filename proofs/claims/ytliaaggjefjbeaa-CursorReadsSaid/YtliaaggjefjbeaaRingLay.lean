/- The program's ring, as it lies in memory: what it holds, and what single stores leave of it. No condition. -/
import Derived.Test.YtliaaggjefjbeaaPart
import Derived.Test.YtliaaggjefjbeaaRingRefTrim
namespace Go.Proofs.Ytliaaggjefjbeaa
open Go.RowKit
set_option linter.unusedVariables false
set_option maxRecDepth 100000

def bools (l : List Bool) : List Value := l.map Value.bool
theorem bools_length (l : List Bool) : (bools l).length = l.length := by simp [bools]
theorem bools_get {l : List Bool} {i : Nat} {b : Bool} (h : l[i]? = some b) : (bools l)[i]? = some (.bool b) := by simp [bools, h]

/-- A ring in memory: its room, policy and head; its references, and which places are published, each in a part of a block. -/
structure RgIn (w : World) (W : Nat → Prop) (q : Nat) (la : Option Addr) (lc : Nat) (pa : Option Addr) (pc : Nat) (n : Nat) (ov : Bool) (h : Nat) (R : List Int) (D : List Bool) : Prop where
  lt : ∀ k, W k → k < w.heap.size
  own : W q
  lW : ∀ k, PB la lc k → W k ∧ k ≠ q
  pW : ∀ k, PB pa pc k → W k ∧ k ≠ q
  ne : ∀ k, PB la lc k → ¬ PB pa pc k
  hd : Blk w q [.int .i64 n, .int .i64 (polB ov), .int .i64 h, .slice la R.length lc, .slice pa D.length pc] 63
  ls : Part w 3 la R.length lc (ints R)
  ps : Part w 4 pa D.length pc (bools D)

section
variable {w w' : World} {W S : Nat → Prop} {q lc pc n h : Nat} {la pa : Option Addr} {ov : Bool} {R : List Int} {D : List Bool}

theorem RgIn.turned (H : RgIn w W q la lc pa pc n ov h R D) (ht : Turned S w w') (hs : ∀ k, W k → ¬ S k) : RgIn w' W q la lc pa pc n ov h R D :=
  ⟨fun k hk => Nat.lt_of_lt_of_le (H.lt k hk) ht.size, H.own, H.lW, H.pW, H.ne, H.hd.turned ht (hs _ H.own), H.ls.turned ht (fun k hk => hs k (H.lW k hk).1), H.ps.turned ht (fun k hk => hs k (H.pW k hk).1)⟩
theorem RgIn.still (H : RgIn w W q la lc pa pc n ov h R D) (ht : Still w w') : RgIn w' W q la lc pa pc n ov h R D := H.turned ht (fun _ _ h => h)

theorem RgIn.cells (H : RgIn w W q la lc pa pc n ov h R D) : w.cell? ⟨q, 0, none⟩ = some (.int .i64 n) ∧ w.cell? ⟨q, 1, none⟩ = some (.int .i64 (polB ov)) ∧ w.cell? ⟨q, 2, none⟩ = some (.int .i64 h) ∧
    w.cell? ⟨q, 3, none⟩ = some (.slice la R.length lc) ∧ w.cell? ⟨q, 4, none⟩ = some (.slice pa D.length pc) := ⟨H.hd.cell rfl, H.hd.cell rfl, H.hd.cell rfl, H.hd.cell rfl, H.hd.cell rfl⟩

/-- A store into a place's mark. -/
theorem RgIn.setD {g o : Nat} (H : RgIn w W q la lc (some ⟨g, o, none⟩) pc n ov h R D) {k : Nat} (hk : k < D.length) (b : Bool) : RgIn (w.setCell ⟨g, o + k, none⟩ (.bool b)) W q la lc (some ⟨g, o, none⟩) pc n ov h R (D.set k b) := by
  have hP : PB (some ⟨g, o, none⟩) pc g := ⟨by have := H.ps.le; omega, _, rfl, rfl⟩
  have ht : Turned (· = g) w (w.setCell ⟨g, o + k, none⟩ (.bool b)) := turned_set (Turned.refl _ _) _ _
  have h1 := H.ps.set hk (.bool b)
  refine ⟨fun i hi => by rw [show (w.setCell ⟨g, o + k, none⟩ (.bool b)).heap.size = w.heap.size by simp [World.setCell]]; exact H.lt i hi, H.own, H.lW, H.pW, H.ne, ?_, H.ls.turned ht (fun i hi e => H.ne i hi (e ▸ hP)), ?_⟩
  · have := H.hd.turned ht (fun e => (H.pW g hP).2 e.symm)
    simpa using this
  · simpa [bools, List.map_set] using h1

/-- The head is another. -/
theorem RgIn.setH (H : RgIn w W q la lc pa pc n ov h R D) (h' : Nat) : RgIn (w.setCell ⟨q, 2, none⟩ (.int .i64 (h' : Int))) W q la lc pa pc n ov h' R D := by
  have ht : Turned (· = q) w (w.setCell ⟨q, 2, none⟩ (.int .i64 (h' : Int))) := turned_set (Turned.refl _ _) _ _
  exact ⟨fun i hi => by rw [show (w.setCell ⟨q, 2, none⟩ (.int .i64 (h' : Int))).heap.size = w.heap.size by simp [World.setCell]]; exact H.lt i hi, H.own, H.lW, H.pW, H.ne, H.hd.set 2 _,
    H.ls.turned ht (fun k hk => (H.lW k hk).2), H.ps.turned ht (fun k hk => (H.pW k hk).2)⟩

/-- The references are others, in the block where they lay, or in a new one. -/
theorem RgIn.setR (H : RgIn w W q la lc pa pc n ov h R D) {la' : Option Addr} {lc' m : Nat} {R' : List Int} (hm : m = R'.length) (ht : Turned (PB la lc) w w') (hp : Part w' 3 la' m lc' (ints R')) (hb : ∀ k, PB la' lc' k → PB la lc k ∨ w.heap.size ≤ k) :
    RgIn (w'.setCell ⟨q, 3, none⟩ (.slice la' m lc')) (fun k => W k ∨ PB la' lc' k) q la' lc' pa pc n ov h R' D := by
  subst hm
  have hq := H.lt q H.own
  have ht2 : Turned (· = q) w' (w'.setCell ⟨q, 3, none⟩ (.slice la' R'.length lc')) := turned_set (Turned.refl _ _) _ _
  have hn : ∀ k, PB la' lc' k → k ≠ q := fun k hk e => by
    rcases hb k hk with h1 | h1
    · exact (H.lW k h1).2 e
    · omega
  have hne : ∀ k, PB la' lc' k → ¬ PB pa pc k := fun k hk hk2 => by
    rcases hb k hk with h1 | h1
    · exact H.ne k h1 hk2
    · have := H.lt k (H.pW k hk2).1; omega
  refine ⟨fun i hi => ?_, .inl H.own, fun k hk => ⟨.inr hk, hn k hk⟩, fun k hk => ⟨.inl (H.pW k hk).1, (H.pW k hk).2⟩, hne, ?_, hp.turned ht2 hn, (H.ps.turned ht (fun k hk hk2 => H.ne k hk2 hk)).turned ht2 (fun k hk => (H.pW k hk).2)⟩
  · rw [show (w'.setCell ⟨q, 3, none⟩ (.slice la' R'.length lc')).heap.size = w'.heap.size by simp [World.setCell]]
    rcases hi with hi | hi
    · exact Nat.lt_of_lt_of_le (H.lt i hi) ht.size
    · exact hp.lt hi
  · exact (H.hd.turned ht (fun hk => (H.lW q hk).2 rfl)).set 3 _

/-- The marks are others. -/
theorem RgIn.setP (H : RgIn w W q la lc pa pc n ov h R D) {pa' : Option Addr} {pc' m : Nat} {D' : List Bool} (hm : m = D'.length) (ht : Turned (PB pa pc) w w') (hp : Part w' 4 pa' m pc' (bools D')) (hb : ∀ k, PB pa' pc' k → PB pa pc k ∨ w.heap.size ≤ k) :
    RgIn (w'.setCell ⟨q, 4, none⟩ (.slice pa' m pc')) (fun k => W k ∨ PB pa' pc' k) q la lc pa' pc' n ov h R D' := by
  subst hm
  have hq := H.lt q H.own
  have ht2 : Turned (· = q) w' (w'.setCell ⟨q, 4, none⟩ (.slice pa' D'.length pc')) := turned_set (Turned.refl _ _) _ _
  have hn : ∀ k, PB pa' pc' k → k ≠ q := fun k hk e => by
    rcases hb k hk with h1 | h1
    · exact (H.pW k h1).2 e
    · omega
  have hne : ∀ k, PB la lc k → ¬ PB pa' pc' k := fun k hk2 hk => by
    rcases hb k hk with h1 | h1
    · exact H.ne k hk2 h1
    · have := H.lt k (H.lW k hk2).1; omega
  refine ⟨fun i hi => ?_, .inl H.own, fun k hk => ⟨.inl (H.lW k hk).1, (H.lW k hk).2⟩, fun k hk => ⟨.inr hk, hn k hk⟩, hne, ?_, (H.ls.turned ht (fun k hk hk2 => H.ne k hk hk2)).turned ht2 (fun k hk => (H.lW k hk).2), hp.turned ht2 hn⟩
  · rw [show (w'.setCell ⟨q, 4, none⟩ (.slice pa' D'.length pc')).heap.size = w'.heap.size by simp [World.setCell]]
    rcases hi with hi | hi
    · exact Nat.lt_of_lt_of_le (H.lt i hi) ht.size
    · exact hp.lt hi
  · exact (H.hd.turned ht (fun hk => (H.pW q hk).2 rfl)).set 4 _
theorem RgIn.less (H : RgIn w W q la lc pa pc n ov h R D) {V : Nat → Prop} (h1 : V q) (h2 : ∀ k, PB la lc k → V k) (h3 : ∀ k, PB pa pc k → V k) (h4 : ∀ k, V k → k < w.heap.size) : RgIn w V q la lc pa pc n ov h R D :=
  ⟨h4, h1, fun k hk => ⟨h2 k hk, (H.lW k hk).2⟩, fun k hk => ⟨h3 k hk, (H.pW k hk).2⟩, H.ne, H.hd, H.ls, H.ps⟩
end

def RM.dn (M : RM) : List Bool := M.l.map (·.d)
/-- The ring of which the plain one tells. -/
abbrev RgM (w : World) (W : Nat → Prop) (q : Nat) (la : Option Addr) (lc : Nat) (pa : Option Addr) (pc : Nat) (M : RM) : Prop := RgIn w W q la lc pa pc M.n M.ov M.h M.refs M.dn

/-- The program's ring as a thing. -/
def rT (q : Nat) (M : RM) : Thing where
  at_ w W := ∃ la lc pa pc, RgM w W q la lc pa pc M
  lt := by rintro w W ⟨la, lc, pa, pc, h⟩ k hk; exact h.lt k hk
  keep := by rintro w w' W S ⟨la, lc, pa, pc, h⟩ ht hs; exact ⟨la, lc, pa, pc, h.turned ht hs⟩
theorem rT_goes {q : Nat} {M : RM} {W W' : Nat → Prop} {w w' : World} {la pa : Option Addr} {lc pc : Nat} (h : RgM w' W' q la lc pa pc M) (ht : Turned W w w') (hW : ∀ k, W' k → W k ∨ w.heap.size ≤ k) : Goes (rT q M) W w w' := ⟨W', ⟨la, lc, pa, pc, h⟩, ht, hW⟩
theorem rT_still {q : Nat} {M : RM} {W : Nat → Prop} {w w' : World} {la pa : Option Addr} {lc pc : Nat} (h : RgM w W q la lc pa pc M) (ht : Still w w') : Goes (rT q M) W w w' := Goes.still (Q := rT q M) ⟨la, lc, pa, pc, h⟩ ht

theorem RM.refs_len (M : RM) : M.refs.length = M.l.length := by simp [RM.refs]
theorem RM.dn_len (M : RM) : M.dn.length = M.l.length := by simp [RM.dn]
theorem RM.refs_at {M : RM} {k : Nat} {p : Plc} (h : M.l[k]? = some p) : M.refs[k]? = some p.r := by simp [RM.refs, h]
theorem RM.dn_at {M : RM} {k : Nat} {p : Plc} (h : M.l[k]? = some p) : M.dn[k]? = some p.d := by simp [RM.dn, h]

/-- The cells of a place. -/
theorem RgIn.place {w : World} {W : Nat → Prop} {q lc pc : Nat} {la pa : Option Addr} {M : RM} (H : RgM w W q la lc pa pc M) {k : Nat} {p : Plc} (hk : M.l[k]? = some p) :
    (∃ g o, la = some ⟨g, o, none⟩ ∧ w.cell? ⟨g, o + k, none⟩ = some (.int .i64 p.r)) ∧ ∃ g o, pa = some ⟨g, o, none⟩ ∧ W g ∧ w.cell? ⟨g, o + k, none⟩ = some (.bool p.d) ∧ w.frozen? ⟨g, o + k, none⟩ = false := by
  obtain ⟨g, o, h1, h2, h3, _⟩ := H.ls.cell (ints_get (RM.refs_at hk))
  obtain ⟨g', o', h1', h2', h3', h4'⟩ := H.ps.cell (bools_get (RM.dn_at hk))
  exact ⟨⟨g, o, h1, h3⟩, g', o', h1', (H.pW _ h2').1, h3', h4'⟩
end Go.Proofs.Ytliaaggjefjbeaa
