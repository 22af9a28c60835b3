/- Rows of numbers of one's own, in a row of one's own. No condition. -/
import Derived.Test.YtdblhflebaffcaaRoute
import Derived.Test.YtdblhflebaffcaaRowM
import Derived.OwnWalk
import Derived.Maps.AppendAt
import Derived.Laws.MakeOwn
namespace Go.Proofs.Ytdblhflebaffcaa
open Go.RowKit
set_option linter.unusedVariables false
set_option linter.unusedSimpArgs false
set_option maxRecDepth 100000

def slv (r : Sl Int) : Value := .slice r.a r.len r.cap
def nilsV (n : Nat) : List Value := List.replicate n (.slice none 0 0)
/-- A block of slices, each of its own. -/
structure RsOwn (B : Nat) (w : World) (g : Nat) (rs : List (Sl Int)) : Prop where
  hd : Blk w g (rs.map slv) 33
  lo : B ≤ g
  own : ∀ (j : Nat) r, rs[j]? = some r → w.ownsRow B 3 1 (.slice r.a r.len r.cap) r.len (ints r.xs) ∧ r.len = r.xs.length ∧ ∀ x, r.a = some x → x.block ≠ g
  apart : ∀ (i j : Nat) r s, rs[i]? = some r → rs[j]? = some s → i ≠ j → ∀ x y, r.a = some x → s.a = some y → x.block ≠ y.block

theorem RsOwn.turned {S : Nat → Prop} {B : Nat} {w w' : World} {g : Nat} {rs : List (Sl Int)} (h : RsOwn B w g rs) (ht : Turned S w w') (hs : ∀ k, B ≤ k → ¬ S k) : RsOwn B w' g rs :=
  ⟨h.hd.turned ht (hs g h.lo), h.lo, fun j r hr => by
    obtain ⟨h1, h2, h3⟩ := h.own j r hr
    refine ⟨ow_turned h1 ht (fun b hb => ?_), h2, h3⟩
    cases hra : r.a with
    | none => rw [hra] at hb; cases hb
    | some x =>
      rw [hra] at hb
      have e : x.block = b := by simpa [Value.ownBlock] using hb
      have := (ow_lt h1 x hra).1
      exact hs b (by omega), h.apart⟩
theorem RsOwn.still {B : Nat} {w w' : World} {g : Nat} {rs : List (Sl Int)} (h : RsOwn B w g rs) (ht : Still w w') : RsOwn B w' g rs := h.turned ht (fun _ _ hs => hs)
theorem RsOwn.made (w : World) (n : Nat) : RsOwn w.heap.size (w.alloc (.cells (nilsV n).toArray 33)) w.heap.size (List.replicate n ⟨none, 0, 0, []⟩) := by
  refine ⟨?_, Nat.le_refl _, fun j r hr => ?_, fun i j r s hi hj _ x y hx => ?_⟩
  · have := Blk.new w (nilsV n) 33
    rw [List.map_replicate]; exact this
  · obtain ⟨_, rfl⟩ := List.mem_replicate.1 (List.mem_of_getElem? hr)
    exact ⟨World.ownsRow_nil _ _ _ _, rfl, fun x h => by cases h⟩
  · have := List.mem_of_getElem? hi
    obtain ⟨_, rfl⟩ := List.mem_replicate.1 this
    cases hx
/-- What append to one of the rows, and the store of it, leave. -/
theorem RsOwn.step {B : Nat} {w w1 : World} {g p : Nat} {rs : List (Sl Int)} {r : Sl Int} (h : RsOwn B w g rs) (hr : rs[p]? = some r) {o : Obj} {a' : Option Addr} {n' c' : Nat} {x : Int}
    (hg : (w.alloc o).grownBy w1 (slv r).ownBlock) (hown : w1.ownsRow B 3 1 (.slice a' n' c') n' (ints (r.xs ++ [x]))) (hn : n' = r.len + 1)
    (hat : (Value.slice a' n' c').ownBlock = (slv r).ownBlock ∨ (Value.slice a' n' c').ownBlock = some (w.alloc o).heap.size) :
    RsOwn B (w1.setCell ⟨g, p, none⟩ (.slice a' n' c')) g (rs.set p ⟨a', n', c', r.xs ++ [x]⟩) ∧ ∀ w0, Still w0 w → w0.heap.size ≤ B → Still w0 (w1.setCell ⟨g, p, none⟩ (.slice a' n' c')) := by
  have hp := get_lt hr
  obtain ⟨o1, o2, o3⟩ := h.own p r hr
  have hglt := h.hd.lt
  have T1 : Turned (fun k => (slv r).ownBlock = some k) w w1 := ((Turned.refl _ w).alloc o).grown hg (fun k e => .inl e)
  have T2 : Turned (· = g) w1 (w1.setCell ⟨g, p, none⟩ (.slice a' n' c')) := turned_set (Turned.refl _ _) _ _
  have hrb : ∀ k, (slv r).ownBlock = some k → ∃ y, r.a = some y ∧ y.block = k := fun k e => by
    unfold slv at e
    cases hra : r.a with
    | none => rw [hra] at e; cases e
    | some y => rw [hra] at e; exact ⟨y, rfl, by simpa [Value.ownBlock] using e⟩
  have hg1 : Blk w1 g (rs.map slv) 33 := h.hd.turned T1 (fun e => by
    obtain ⟨y, e1, e2⟩ := hrb g e
    exact o3 y e1 e2)
  have ha' : ∀ y, a' = some y → (∃ z, r.a = some z ∧ z.block = y.block) ∨ w.heap.size < y.block := fun y e => by
    subst e
    rcases hat with hat | hat
    · obtain ⟨z, e1, e2⟩ := hrb y.block (by rw [← hat]; rfl)
      exact .inl ⟨z, e1, e2⟩
    · right
      have e2 : y.block = (w.alloc o).heap.size := by simpa [Value.ownBlock] using hat
      rw [e2, World.size_alloc]; omega
  have hag : ∀ y, a' = some y → y.block ≠ g := fun y e => by
    rcases ha' y e with ⟨z, e1, e2⟩ | e2
    · rw [← e2]; exact o3 z e1
    · omega
  have hz : ∀ (j : Nat) t, (rs.set p ⟨a', n', c', r.xs ++ [x]⟩)[j]? = some t → (j = p ∧ t = ⟨a', n', c', r.xs ++ [x]⟩) ∨ (j ≠ p ∧ rs[j]? = some t) := fun j t ht => by
    rw [List.getElem?_set] at ht
    by_cases e : p = j
    · subst e
      rw [if_pos rfl, if_pos hp] at ht
      exact .inl ⟨rfl, (Option.some.inj ht).symm⟩
    · rw [if_neg e] at ht
      exact .inr ⟨fun h => e h.symm, ht⟩
  have hob : ∀ (t : Sl Int) b, (Value.slice t.a t.len t.cap).ownBlock = some b → ∃ y, t.a = some y ∧ y.block = b := fun t b e => by
    cases hta : t.a with
    | none => rw [hta] at e; cases e
    | some y => rw [hta] at e; exact ⟨y, rfl, by simpa [Value.ownBlock] using e⟩
  have hlt : ∀ (j : Nat) t, rs[j]? = some t → ∀ y, t.a = some y → y.block < w.heap.size := fun j t ht y hy => ((ow_lt (h.own j t ht).1) y hy).2
  refine ⟨⟨?_, h.lo, fun j t ht => ?_, fun i j u v hi hj hij y z hy hz' => ?_⟩, fun w0 hw0 hB => ?_⟩
  · have := hg1.set p (.slice a' n' c')
    rw [List.map_set]
    exact this
  · rcases hz j t ht with ⟨rfl, rfl⟩ | ⟨hj, ht'⟩
    · refine ⟨ow_turned hown T2 (fun b hb hb2 => ?_), by simp only [List.length_append, List.length_singleton]; omega, hag⟩
      obtain ⟨y, e1, e2⟩ := hob ⟨a', n', c', r.xs ++ [x]⟩ b hb
      exact hag y e1 (by omega)
    · obtain ⟨s1, s2, s3⟩ := h.own j t ht'
      refine ⟨ow_turned (ow_turned s1 T1 (fun b hb hb2 => ?_)) T2 (fun b hb hb2 => ?_), s2, s3⟩
      · obtain ⟨y, e1, e2⟩ := hrb b hb2
        obtain ⟨z, e3, e4⟩ := hob t b hb
        exact h.apart j p t r ht' hr hj z y e3 e1 (by omega)
      · obtain ⟨z, e3, e4⟩ := hob t b hb
        exact s3 z e3 (by omega)
  · rcases hz i u hi with ⟨rfl, rfl⟩ | ⟨hip, hi'⟩
    · rcases hz j v hj with ⟨rfl, _⟩ | ⟨hjp, hj'⟩
      · exact absurd rfl hij
      · rcases ha' y hy with ⟨z', e1, e2⟩ | e2
        · rw [← e2]; exact h.apart i j r v hr hj' hij z' z e1 hz'
        · have := hlt j v hj' z hz'; omega
    · rcases hz j v hj with ⟨rfl, rfl⟩ | ⟨hjp, hj'⟩
      · rcases ha' z hz' with ⟨z', e1, e2⟩ | e2
        · rw [← e2]; exact h.apart i j u r hi' hr hij y z' hy e1
        · have := hlt i u hi' y hy; omega
      · exact h.apart i j u v hi' hj' hij y z hy hz'
  · refine (hw0.past T1 (fun b hb => ?_)).past T2 (fun b hb => .inr (by have := h.lo; omega))
    obtain ⟨y, e1, e2⟩ := hrb b hb
    have := (ow_lt o1 y e1).1
    exact .inr (by omega)
/-- Such rows can be read. -/
theorem RsOwn.rws {B : Nat} {w : World} {g : Nat} {rs : List (Sl Int)} (h : RsOwn B w g rs) : RwsAt w (some ⟨g, 0, none⟩) rs := by
  refine ⟨fun i r hr => ⟨g, 0, rfl, fun j v hv => ?_⟩, fun r hr => ?_⟩
  · cases j with
    | zero =>
      cases hv
      rw [Nat.zero_add]
      refine h.hd.cell (o := i * 1 + 0) ?_
      rw [Nat.mul_one, Nat.add_zero, List.getElem?_map, hr]; rfl
    | succ j => cases hv
  · obtain ⟨j, hj⟩ := List.getElem?_of_mem hr
    obtain ⟨h1, h2, h3⟩ := h.own j r hj
    exact ⟨NumsAt.of_own h1 h2, SlW.of_own h1, h2⟩
theorem RsOwn.cell {B : Nat} {w : World} {g p : Nat} {rs : List (Sl Int)} {r : Sl Int} (h : RsOwn B w g rs) (hr : rs[p]? = some r) : w.cell? ⟨g, p, none⟩ = some (.slice r.a r.len r.cap) :=
  h.hd.cell (by rw [List.getElem?_map, hr]; rfl)
theorem made_nil (k : Nat) : madeCells #[Value.slice none 0 0] k = (nilsV k).toArray := by
  unfold nilsV
  apply Array.ext
  · simp [madeCells]
  · intro i h1 h2
    simp [madeCells, Nat.mod_one]
end Go.Proofs.Ytdblhflebaffcaa
