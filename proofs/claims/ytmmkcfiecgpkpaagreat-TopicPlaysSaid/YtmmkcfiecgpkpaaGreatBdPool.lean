/- Texts that lie next to one another, laid into one: each says what it holds. No condition but what each states. -/
import Derived.Test.YtmmkcfiecgpkpaaGreatBdPoolZ
import Derived.RangeFuncNested
import Derived.RangeFuncBound
import Derived.RangeFuncCalls
import Derived.RangeFuncLeaves
import Derived.RangeFuncBox
import Derived.Maps.AppendAt
import Derived.Shelf.Abstract
import Derived.Shelf.RegionOpen
import Derived.OwnWalkIn
import Derived.TacticsInMore
import Derived.LoopNIn
import Derived.LoopIn
import Derived.Test.YtmmkcfiecgpkpaaGreatBdPtA
import Derived.Test.YtmmkcfiecgpkpaaGreatBdThing
import Derived.Test.YtmmkcfiecgpkpaaGreatBdRead
import Derived.Laws.CopyOwn
import Derived.Lib.SliceRun
import Derived.Deep.RegionHeld3
import Derived.Deep.DeepCutAuto
import Derived.BigRegion
import Derived.Deep.RegionLaw
import Derived.Test.YtmmkcfiecgpkpaaGreatBdHE
import Derived.Test.YtmmkcfiecgpkpaaGreatBxRegRound

/- The program's pool, as it lies in memory: what it holds, and what single stores leave of it. No condition. -/
namespace Go.Proofs.YtmmkcfiecgpkpaaGreat
open Go.RowKit
set_option linter.unusedVariables false
set_option maxRecDepth 100000

structure PLay where
  gb : Nat
  eb : Nat
  ec : Nat
  bl : Nat → Nat
  sb : Nat
  sc : Nat

/-- A block that is neither the stack's nor a slot's bytes'. -/
def PLay.fix (q : Nat) (L : PLay) (k : Nat) : Prop := k = q ∨ k = L.gb ∨ k = L.eb

structure PIn (w : World) (W : Nat → Prop) (q : Nat) (L : PLay) (M : PM) : Prop where
  lt : ∀ k, W k → k < w.heap.size
  fix : ∀ k, L.fix q k → W k
  st : W L.sb ∧ ¬ L.fix q L.sb
  bs : ∀ i, i < M.sl.length → W (L.bl i) ∧ ¬ L.fix q (L.bl i) ∧ L.bl i ≠ L.sb
  inj : ∀ i j, i < M.sl.length → j < M.sl.length → i ≠ j → L.bl i ≠ L.bl j
  ne : q ≠ L.gb ∧ q ≠ L.eb ∧ L.gb ≠ L.eb
  hd : Blk w q [.int .i64 M.size, .slice (some ⟨L.gb, 0, none⟩) M.sl.length M.sl.length, .slice (some ⟨L.eb, 0, none⟩) M.sl.length L.ec, .slice (some ⟨L.sb, 0, none⟩) M.fr.length L.sc] 118
  gg : Blk w L.gb (ints (nums (M.sl.map (·.g)))) 3
  ee : ∃ ev : List Value, Blk w L.eb ev 120 ∧ ∀ (k : Nat) (s : Slt), M.sl[k]? = some s → ev[k * 3]? = some (.int .i64 (k : Nat)) ∧ ev[k * 3 + 1]? = some (.int .i64 s.c) ∧ ev[k * 3 + 2]? = some (.slice (some ⟨L.bl k, 0, none⟩) s.b.length M.size)
  bb : ∀ (k : Nat) (s : Slt), M.sl[k]? = some s → ∃ r, Blk w (L.bl k) (byt (s.b ++ r)) 5 ∧ (s.b ++ r).length = M.size
  ss : w.ownsRow 0 3 1 (.slice (some ⟨L.sb, 0, none⟩) M.fr.length L.sc) M.fr.length (ints (nums M.fr.reverse))

theorem PIn.turned {w w' : World} {W S : Nat → Prop} {q : Nat} {L : PLay} {M : PM} (h : PIn w W q L M) (ht : Turned S w w') (hs : ∀ k, W k → ¬ S k) : PIn w' W q L M := by
  obtain ⟨ev, hb, hl⟩ := h.ee
  exact ⟨fun k hk => Nat.lt_of_lt_of_le (h.lt k hk) ht.size, h.fix, h.st, h.bs, h.inj, h.ne, h.hd.turned ht (hs _ (h.fix _ (.inl rfl))), h.gg.turned ht (hs _ (h.fix _ (.inr (.inl rfl)))),
    ⟨ev, hb.turned ht (hs _ (h.fix _ (.inr (.inr rfl)))), hl⟩, fun k s hk => by obtain ⟨r, h1, h2⟩ := h.bb k s hk; exact ⟨r, h1.turned ht (hs _ (h.bs k (get_lt hk)).1), h2⟩,
    ow_turned h.ss ht (fun b hb => by cases hb; exact hs _ h.st.1)⟩
theorem PIn.still {w w' : World} {W : Nat → Prop} {q : Nat} {L : PLay} {M : PM} (h : PIn w W q L M) (ht : Still w w') : PIn w' W q L M := h.turned ht (fun _ _ h => h)
theorem PIn.more {w : World} {W W' : Nat → Prop} {q : Nat} {L : PLay} {M : PM} (h : PIn w W q L M) (hW : ∀ k, W k → W' k) (hlt : ∀ k, W' k → k < w.heap.size) : PIn w W' q L M :=
  ⟨hlt, fun k hk => hW k (h.fix k hk), ⟨hW _ h.st.1, h.st.2⟩, fun i hi => ⟨hW _ (h.bs i hi).1, (h.bs i hi).2⟩, h.inj, h.ne, h.hd, h.gg, h.ee, h.bb, h.ss⟩

/-- The program's pool as a thing. -/
def pT (q : Nat) (M : PM) : Thing where
  at_ w W := ∃ L, PIn w W q L M
  lt := by rintro w W ⟨L, h⟩ k hk; exact h.lt k hk
  keep := by rintro w w' W S ⟨L, h⟩ ht hs; exact ⟨L, h.turned ht hs⟩

theorem pT_goes {q : Nat} {M : PM} {W W' : Nat → Prop} {w w' : World} {L : PLay} (h : PIn w' W' q L M) (ht : Turned W w w') (hW : ∀ k, W' k → W k ∨ w.heap.size ≤ k) : Goes (pT q M) W w w' := ⟨W', ⟨L, h⟩, ht, hW⟩
theorem pT_still {q : Nat} {M : PM} {W : Nat → Prop} {w w' : World} {L : PLay} (h : PIn w W q L M) (ht : Still w w') : Goes (pT q M) W w w' := Goes.still (Q := pT q M) ⟨L, h⟩ ht

/-- The cells of a slot. -/
theorem PIn.slot {w : World} {W : Nat → Prop} {q : Nat} {L : PLay} {M : PM} (h : PIn w W q L M) {k : Nat} {s : Slt} (hk : M.sl[k]? = some s) :
    w.cell? ⟨L.eb, k * 3, none⟩ = some (.int .i64 (k : Nat)) ∧ w.cell? ⟨L.eb, k * 3 + 1, none⟩ = some (.int .i64 s.c) ∧ w.cell? ⟨L.eb, k * 3 + 2, none⟩ = some (.slice (some ⟨L.bl k, 0, none⟩) s.b.length M.size) ∧ w.cell? ⟨L.gb, k, none⟩ = some (.int .i64 s.g) := by
  obtain ⟨ev, hb, hl⟩ := h.ee
  obtain ⟨h1, h2, h3⟩ := hl k s hk
  exact ⟨hb.cell h1, hb.cell h2, hb.cell h3, h.gg.cell (ints_get (nums_get (by rw [List.getElem?_map, hk]; rfl)))⟩
theorem PIn.freeE {w : World} {W : Nat → Prop} {q : Nat} {L : PLay} {M : PM} (h : PIn w W q L M) (o : Nat) : w.frozen? ⟨L.eb, o, none⟩ = false := by
  obtain ⟨ev, hb, _⟩ := h.ee
  exact hb.free o
theorem PIn.book {w : World} {W : Nat → Prop} {q : Nat} {L : PLay} {M : PM} (h : PIn w W q L M) : NumsAt w (some ⟨L.gb, 0, none⟩) (M.sl.map fun s => (s.g : Int)) := by
  have := NumsAt.of_blk h.gg
  simpa [nums, Function.comp_def] using this
theorem PIn.bytes {w : World} {W : Nat → Prop} {q : Nat} {L : PLay} {M : PM} (h : PIn w W q L M) {k : Nat} {s : Slt} (hk : M.sl[k]? = some s) : BytesAt w (some ⟨L.bl k, 0, none⟩) s.b := by
  obtain ⟨r, h1, _⟩ := h.bb k s hk
  refine BytesAt.of_blk (r := byt r) (e := 5) ?_
  rwa [show byt (s.b ++ r) = byt s.b ++ byt r by simp [byt]] at h1

theorem get_set_self' {l : List Slt} {k : Nat} {s t : Slt} (hk : l[k]? = some s) : (l.set k t)[k]? = some t := List.getElem?_set_self (get_lt hk)

/-- A slot's count is another. -/
theorem PIn.setC {w : World} {W : Nat → Prop} {q : Nat} {L : PLay} {M : PM} (h : PIn w W q L M) {k : Nat} {s : Slt} (hk : M.sl[k]? = some s) (c : Nat) :
    PIn (w.setCell ⟨L.eb, k * 3 + 1, none⟩ (.int .i64 (c : Int))) W q L { M with sl := M.sl.set k { s with c := c } } := by
  obtain ⟨ev, hb, hl⟩ := h.ee
  obtain ⟨n1, n2, n3⟩ := h.ne
  have ht : Turned (· = L.eb) w (w.setCell ⟨L.eb, k * 3 + 1, none⟩ (.int .i64 (c : Int))) := turned_set (Turned.refl _ _) _ _
  have h1 := h.hd.turned ht n2
  have h2 := h.gg.turned ht n3
  refine ⟨fun i hi => by rw [size_setCell]; exact h.lt i hi, h.fix, h.st, fun i hi => h.bs i (by simpa using hi), fun i j hi hj => h.inj i j (by simpa using hi) (by simpa using hj), h.ne, by simpa using h1, ?_, ⟨_, hb.set _ _, fun i t hit => ?_⟩, fun i t hit => ?_, ow_turned h.ss ht (fun b hb e => by cases hb; exact h.st.2 (.inr (.inr e)))⟩
  · rw [← map_set_same (t := { s with c := c }) (·.g) hk rfl] at h2
    exact h2
  · rcases set_get (get_lt hk) hit with ⟨rfl, rfl⟩ | ⟨hne, hit⟩
    · obtain ⟨e1, e2, e3⟩ := hl _ s hk
      refine ⟨?_, ?_, ?_⟩
      · rw [List.getElem?_set_ne (by omega)]; exact e1
      · exact List.getElem?_set_self (List.getElem?_eq_some_iff.1 e2).1
      · rw [List.getElem?_set_ne (by omega)]; exact e3
    · obtain ⟨e1, e2, e3⟩ := hl _ t hit
      refine ⟨?_, ?_, ?_⟩ <;> rw [List.getElem?_set_ne (by omega)] <;> assumption
  · have hn : ∀ i, i < M.sl.length → L.bl i ≠ L.eb := fun i hi e => (h.bs i hi).2.1 (.inr (.inr e))
    rcases set_get (get_lt hk) hit with ⟨rfl, rfl⟩ | ⟨hne, hit⟩
    · obtain ⟨r, r1, r2⟩ := h.bb _ s hk; exact ⟨r, r1.turned ht (hn _ (get_lt hk)), r2⟩
    · obtain ⟨r, r1, r2⟩ := h.bb _ t hit; exact ⟨r, r1.turned ht (hn _ (get_lt hit)), r2⟩

/-- A slot's generation is another. -/
theorem PIn.setG {w : World} {W : Nat → Prop} {q : Nat} {L : PLay} {M : PM} (h : PIn w W q L M) {k : Nat} {s : Slt} (hk : M.sl[k]? = some s) (g : Nat) :
    PIn (w.setCell ⟨L.gb, k, none⟩ (.int .i64 (g : Int))) W q L { M with sl := M.sl.set k { s with g := g } } := by
  obtain ⟨ev, hb, hl⟩ := h.ee
  obtain ⟨n1, n2, n3⟩ := h.ne
  have ht : Turned (· = L.gb) w (w.setCell ⟨L.gb, k, none⟩ (.int .i64 (g : Int))) := turned_set (Turned.refl _ _) _ _
  have h1 := h.hd.turned ht n1
  refine ⟨fun i hi => by rw [size_setCell]; exact h.lt i hi, h.fix, h.st, fun i hi => h.bs i (by simpa using hi), fun i j hi hj => h.inj i j (by simpa using hi) (by simpa using hj), h.ne, by simpa using h1, ?_, ⟨ev, hb.turned ht (Ne.symm n3), fun i t hit => ?_⟩, fun i t hit => ?_, ow_turned h.ss ht (fun b hb e => by cases hb; exact h.st.2 (.inr (.inl e)))⟩
  · have := h.gg.set k (.int .i64 (g : Int))
    rw [ints_set, nums_setn] at this
    simpa [List.map_set] using this
  · rcases set_get (get_lt hk) hit with ⟨rfl, rfl⟩ | ⟨hne, hit⟩
    · exact hl _ s hk
    · exact hl _ t hit
  · have hn : ∀ i, i < M.sl.length → L.bl i ≠ L.gb := fun i hi e => (h.bs i hi).2.1 (.inr (.inl e))
    rcases set_get (get_lt hk) hit with ⟨rfl, rfl⟩ | ⟨hne, hit⟩
    · obtain ⟨r, r1, r2⟩ := h.bb _ s hk; exact ⟨r, r1.turned ht (hn _ (get_lt hk)), r2⟩
    · obtain ⟨r, r1, r2⟩ := h.bb _ t hit; exact ⟨r, r1.turned ht (hn _ (get_lt hit)), r2⟩

/-- A slot's bytes are cut to as many others, which its room has. -/
theorem PIn.setL {w : World} {W : Nat → Prop} {q : Nat} {L : PLay} {M : PM} (h : PIn w W q L M) {k : Nat} {s : Slt} (hk : M.sl[k]? = some s) (b : List UInt8) (hr : ∃ r, Blk w (L.bl k) (byt (b ++ r)) 5 ∧ (b ++ r).length = M.size) {m : Nat} (hm : m = b.length) :
    PIn (w.setCell ⟨L.eb, k * 3 + 2, none⟩ (.slice (some ⟨L.bl k, 0, none⟩) m M.size)) W q L { M with sl := M.sl.set k { s with b := b } } := by
  subst hm
  obtain ⟨ev, hb, hl⟩ := h.ee
  obtain ⟨n1, n2, n3⟩ := h.ne
  have ht : Turned (· = L.eb) w (w.setCell ⟨L.eb, k * 3 + 2, none⟩ (.slice (some ⟨L.bl k, 0, none⟩) b.length M.size)) := turned_set (Turned.refl _ _) _ _
  have h1 := h.hd.turned ht n2
  have h2 := h.gg.turned ht n3
  refine ⟨fun i hi => by rw [size_setCell]; exact h.lt i hi, h.fix, h.st, fun i hi => h.bs i (by simpa using hi), fun i j hi hj => h.inj i j (by simpa using hi) (by simpa using hj), h.ne, by simpa using h1, ?_, ⟨_, hb.set _ _, fun i t hit => ?_⟩, fun i t hit => ?_, ow_turned h.ss ht (fun b hb e => by cases hb; exact h.st.2 (.inr (.inr e)))⟩
  · rw [← map_set_same (t := { s with b := b }) (·.g) hk rfl] at h2
    exact h2
  · rcases set_get (get_lt hk) hit with ⟨rfl, rfl⟩ | ⟨hne, hit⟩
    · obtain ⟨e1, e2, e3⟩ := hl _ s hk
      refine ⟨?_, ?_, ?_⟩
      · rw [List.getElem?_set_ne (by omega)]; exact e1
      · rw [List.getElem?_set_ne (by omega)]; exact e2
      · exact List.getElem?_set_self (List.getElem?_eq_some_iff.1 e3).1
    · obtain ⟨e1, e2, e3⟩ := hl _ t hit
      refine ⟨?_, ?_, ?_⟩ <;> rw [List.getElem?_set_ne (by omega)] <;> assumption
  · have hn : ∀ i, i < M.sl.length → L.bl i ≠ L.eb := fun i hi e => (h.bs i hi).2.1 (.inr (.inr e))
    rcases set_get (get_lt hk) hit with ⟨rfl, rfl⟩ | ⟨hne, hit⟩
    · obtain ⟨r, r1, r2⟩ := hr; exact ⟨r, r1.turned ht (hn _ (get_lt hk)), r2⟩
    · obtain ⟨r, r1, r2⟩ := h.bb _ t hit; exact ⟨r, r1.turned ht (hn _ (get_lt hit)), r2⟩

/-- The room of a slot holds others. -/
theorem PIn.room {w w' : World} {W : Nat → Prop} {q : Nat} {L : PLay} {M : PM} (h : PIn w W q L M) {k : Nat} {s : Slt} (hk : M.sl[k]? = some s) (ht : Turned (· = L.bl k) w w') (b : List UInt8) (hb : b.length = s.b.length) (hr : ∃ r, Blk w' (L.bl k) (byt (b ++ r)) 5 ∧ (b ++ r).length = M.size) :
    PIn w' W q L { M with sl := M.sl.set k { s with b := b } } := by
  obtain ⟨ev, hev, hl⟩ := h.ee
  have hbk := h.bs k (get_lt hk)
  have h1 := h.hd.turned ht (fun e => hbk.2.1 (.inl e.symm))
  have h2 := h.gg.turned ht (fun e => hbk.2.1 (.inr (.inl e.symm)))
  refine ⟨fun i hi => Nat.lt_of_lt_of_le (h.lt i hi) ht.size, h.fix, h.st, fun i hi => h.bs i (by simpa using hi), fun i j hi hj => h.inj i j (by simpa using hi) (by simpa using hj), h.ne, by simpa using h1, ?_, ⟨ev, hev.turned ht (fun e => hbk.2.1 (.inr (.inr e.symm))), fun i t hit => ?_⟩, fun i t hit => ?_, ow_turned h.ss ht (fun b hb e => by cases hb; exact hbk.2.2 e.symm)⟩
  · rw [← map_set_same (t := { s with b := b }) (·.g) hk rfl] at h2
    exact h2
  · rcases set_get (get_lt hk) hit with ⟨rfl, rfl⟩ | ⟨hne, hit⟩
    · have := hl _ s hk; simpa [hb] using this
    · exact hl _ t hit
  · rcases set_get (get_lt hk) hit with ⟨rfl, rfl⟩ | ⟨hne, hit⟩
    · exact hr
    · obtain ⟨r, r1, r2⟩ := h.bb _ t hit; exact ⟨r, r1.turned ht (h.inj i k (get_lt hit) (get_lt hk) hne), r2⟩

/-- The stack is another slice. -/
theorem PIn.setF {w : World} {W : Nat → Prop} {q : Nat} {L : PLay} {M : PM} (h : PIn w W q L M) (sb : Nat) (sc : Nat) (fr : List Nat) (hf : w.ownsRow 0 3 1 (.slice (some ⟨sb, 0, none⟩) fr.length sc) fr.length (ints (nums fr.reverse))) (hown : W sb ∧ ¬ L.fix q sb) (hbl : ∀ i, i < M.sl.length → L.bl i ≠ sb) :
    PIn (w.setCell ⟨q, 3, none⟩ (.slice (some ⟨sb, 0, none⟩) fr.length sc)) W q { L with sb := sb, sc := sc } { M with fr := fr } := by
  obtain ⟨ev, hb, hl⟩ := h.ee
  obtain ⟨n1, n2, n3⟩ := h.ne
  have ht : Turned (· = q) w (w.setCell ⟨q, 3, none⟩ (.slice (some ⟨sb, 0, none⟩) fr.length sc)) := turned_set (Turned.refl _ _) _ _
  exact ⟨fun k hk => by rw [size_setCell]; exact h.lt k hk, h.fix, hown, fun i hi => ⟨(h.bs i hi).1, (h.bs i hi).2.1, hbl i hi⟩, h.inj, h.ne, h.hd.set 3 _, h.gg.turned ht (Ne.symm n1), ⟨ev, hb.turned ht (Ne.symm n2), hl⟩,
    fun k s hk => by obtain ⟨r, r1, r2⟩ := h.bb k s hk; exact ⟨r, r1.turned ht (fun e => (h.bs k (get_lt hk)).2.1 (.inl e)), r2⟩,
    ow_turned hf ht (fun b hb e => by cases hb; exact hown.2 (.inl e))⟩

/-- The stack lies otherwise in its block, or in a new one, and the pool does not know of it yet. -/
theorem PIn.cutF {w w' : World} {W : Nat → Prop} {q : Nat} {L : PLay} {M : PM} (h : PIn w W q L M) (ht : Turned (· = L.sb) w w') (hs : w'.ownsRow 0 3 1 (.slice (some ⟨L.sb, 0, none⟩) M.fr.length L.sc) M.fr.length (ints (nums M.fr.reverse))) : PIn w' W q L M := by
  obtain ⟨ev, hb, hl⟩ := h.ee
  have hst := h.st.2
  exact ⟨fun k hk => Nat.lt_of_lt_of_le (h.lt k hk) ht.size, h.fix, h.st, h.bs, h.inj, h.ne, h.hd.turned ht (fun e => hst (.inl e.symm)), h.gg.turned ht (fun e => hst (.inr (.inl e.symm))),
    ⟨ev, hb.turned ht (fun e => hst (.inr (.inr e.symm))), hl⟩, fun k s hk => by obtain ⟨r, h1, h2⟩ := h.bb k s hk; exact ⟨r, h1.turned ht ((h.bs k (get_lt hk)).2.2), h2⟩, hs⟩
end Go.Proofs.YtmmkcfiecgpkpaaGreat

/- The program's iterator over the live slots of a pool, what finds a slot among them, and what finds a handle's slot. No condition. -/
namespace Go.Proofs.YtmmkcfiecgpkpaaGreat
open Go.RowKit Go.Shelf
attribute [local go_sem] Oper.semAt_some
set_option linter.unusedVariables false
set_option linter.unusedSimpArgs false
set_option maxRecDepth 100000

theorem cnew (W : World) (v : Value) (t : TypeId) : (W.alloc (.cells #[v] t)).cell? ⟨W.heap.size, 0, none⟩ = some v ∧ (W.alloc (.cells #[v] t)).frozen? ⟨W.heap.size, 0, none⟩ = false := ⟨(Boxed.new W t v).cell, (Boxed.new W t v).frozen⟩
theorem calloc {W : World} {a : Addr} {v : Value} (o : Obj) (h : W.cell? a = some v) : (W.alloc o).cell? a = some v := cell_kept h (World.grownBy_alloc W o none) (fun r e => by cases e)
theorem falloc {W : World} {a : Addr} {v : Value} (o : Obj) (h : W.cell? a = some v) (hf : W.frozen? a = false) : (W.alloc o).frozen? a = false := (frozen_kept h (World.grownBy_alloc W o none) (fun r e => by cases e)).trans hf

theorem made_in (F : Fence) (n : Nat) (q : Nat) (a : Option Addr) (m c : Nat) (w : World) (hm : 0 < m) (h : F.fn 82) (hro : F.round = none) (c1 : w.cell? ⟨q, 1, none⟩ = some (.slice a m c)) :
    CallsIn F n Tryz.prog 82 #[.pointer (some ⟨q, 0, none⟩)] w fun e w' => e = .returned (.bool true) ∧ w = w' := by
  refine callsIn_of_wp Tryz.func82 rfl h ?_ hro
  simp only [Tryz.ntmps82, List.size_toArray, List.length_cons, List.length_nil, Nat.reduceAdd, Nat.reduceSub, Array.replicate_succ, Array.replicate_zero, List.push_toArray, List.append_toArray, List.nil_append, List.cons_append]
  have hb : decide ((0 : Int) < (m : Int)) = true := by rw [decide_eq_true_eq]; omega
  gi_wp2
  go_ret
  exact ⟨rfl, rfl⟩

theorem live_in (F : Fence) (n : Nat) (h : F.fn 145) (hro : F.round = none) (x : Option Addr) (w : World) :
    CallsIn F n Tryz.prog 145 #[.pointer x] w fun e w' => e = .returned (.func (.func 147) #[] #[.pointer (some ⟨w.heap.size, 0, none⟩)]) ∧ w' = w.alloc (.cells #[.pointer x] 71) := by
  refine callsIn_of_wp Tryz.func145 rfl h ?_ hro
  simp only [Tryz.ntmps145, List.size_toArray, List.length_cons, List.length_nil, Nat.reduceAdd, Nat.reduceSub, Array.replicate_succ, Array.replicate_zero, List.push_toArray, List.append_toArray, List.nil_append, List.cons_append]
  gi_wp2
  go_ret
  exact ⟨rfl, rfl⟩

/-- A slot that there is. -/
abbrev SlotOf (m : Nat) := { x : Nat // x < m }
/-- The live slots among the first so many. -/
def lvTo (cs : List Nat) (m : Nat) : Nat → List (SlotOf m)
  | 0 => []
  | k + 1 => if h : k < m ∧ cs[k]?.getD 0 ≠ 0 then lvTo cs m k ++ [⟨k, h.1⟩] else lvTo cs m k
theorem lvTo_live {cs : List Nat} {m k c : Nat} (h : cs[k]? = some c) (hc : c ≠ 0) (hk : k < m) : lvTo cs m (k + 1) = lvTo cs m k ++ [⟨k, hk⟩] := by
  rw [lvTo, dif_pos ⟨hk, by simpa [h] using hc⟩]
theorem lvTo_free {cs : List Nat} {m k : Nat} (h : cs[k]? = some 0) : lvTo cs m (k + 1) = lvTo cs m k := by
  rw [lvTo, dif_neg (by simp [h])]
theorem lvTo_le (cs : List Nat) (m : Nat) : ∀ k : Nat, (lvTo cs m k).length ≤ k
  | 0 => Nat.le_refl _
  | k + 1 => by
    have := lvTo_le cs m k
    unfold lvTo
    split
    · simp; omega
    · omega
theorem lvTo_pre (cs : List Nat) (m : Nat) {k n : Nat} (h : k ≤ n) : lvTo cs m k <+: lvTo cs m n := by
  obtain ⟨d, rfl⟩ := Nat.le.dest h
  induction d with
  | zero => exact List.prefix_refl _
  | succ d ih =>
    refine (ih (by omega)).trans ?_
    rw [← Nat.add_assoc]
    show _ <+: lvTo cs m ((k + d) + 1)
    rw [lvTo]
    split
    · exact List.prefix_append _ _
    · exact List.prefix_refl _
theorem lvTo_mem {cs : List Nat} {m : Nat} {i : SlotOf m} : ∀ {k : Nat}, i ∈ lvTo cs m k ↔ i.1 < k ∧ cs[i.1]?.getD 0 ≠ 0
  | 0 => by simp [lvTo]
  | k + 1 => by
    rw [lvTo]
    split
    · rename_i h
      rw [List.mem_append, lvTo_mem (k := k), List.mem_singleton]
      constructor
      · rintro (h' | h')
        · exact ⟨by omega, h'.2⟩
        · subst h'; exact ⟨Nat.lt_succ_self _, h.2⟩
      · rintro ⟨h1, h2⟩
        by_cases e : i.1 = k
        · exact .inr (Subtype.ext e)
        · exact .inl ⟨by omega, h2⟩
    · rename_i h
      rw [lvTo_mem (k := k)]
      constructor
      · rintro ⟨h1, h2⟩; exact ⟨by omega, h2⟩
      · rintro ⟨h1, h2⟩
        refine ⟨?_, h2⟩
        rcases Nat.lt_succ_iff_lt_or_eq.1 h1 with h3 | h3
        · exact h3
        · exact absurd ⟨h3 ▸ i.2, h3 ▸ h2⟩ h

/-- Where the counts lie. -/
structure CntAt (w : World) (q eb ec : Nat) (cs : List Nat) : Prop where
  c1 : ∃ a m c, w.cell? ⟨q, 1, none⟩ = some (.slice a m c) ∧ 0 < m
  c2 : w.cell? ⟨q, 2, none⟩ = some (.slice (some ⟨eb, 0, none⟩) cs.length ec)
  cc : ∀ k c, cs[k]? = some c → w.cell? ⟨eb, k * 3 + 1, none⟩ = some (.int .i64 (c : Nat))
  c0 : ∀ k, k < cs.length → w.cell? ⟨eb, k * 3, none⟩ = some (.int .i64 (k : Nat))
theorem CntAt.below {n₀ : Nat} {w w' : World} {q eb ec : Nat} {cs : List Nat} (h : CntAt w q eb ec cs) (hb : Below n₀ w w') (hq : q < n₀) (he : eb < n₀) : CntAt w' q eb ec cs := by
  have k : ∀ {b o : Nat}, b < n₀ → w'.cell? ⟨b, o, none⟩ = w.cell? ⟨b, o, none⟩ := fun hb' => hb.cell (p := ⟨_, _, none⟩) hb'
  obtain ⟨a, m, c, h1, hm⟩ := h.c1
  exact ⟨⟨a, m, c, by rw [k hq]; exact h1, hm⟩, by rw [k hq]; exact h.c2, fun i c hi => by rw [k he]; exact h.cc i c hi, fun i hi => by rw [k he]; exact h.c0 i hi⟩

set_option maxHeartbeats 1000000 in
theorem live1_in (F : Fence) (n : Nat) (h6 : F.fn 147) (h7 : F.fn 82) (hro : F.round = none) (hn : 1 ≤ n) (l Bn n₀ q eb ec m : Nat) (cs : List Nat) (hm : m = cs.length) (hst : m ≤ 128)
    (hq : q < n₀) (he : eb < n₀) (hB0 : Bn < n₀) (J Jx : List (SlotOf m) → World → Prop)
    (W : World) (hJ : AbidesFrom W.heap.size J)
    (hY : ∀ pre x W, J pre W → pre.length < m → YieldAt F (n - 1) Tryz.prog l #[.pointer (some ⟨eb, x.1 * 3, none⟩)] W fun e W' =>
      (e = .returned (.bool true) ∧ J (pre ++ [x]) W' ∧ Below n₀ W W') ∨ (e = .returned (.bool false) ∧ Jx (pre ++ [x]) W'))
    (hn₀ : n₀ ≤ W.heap.size) (hBn : W.cell? ⟨Bn, 0, none⟩ = some (.pointer (some ⟨q, 0, none⟩))) (hA : CntAt W q eb ec cs) (h0 : J [] W) :
    CallsIn F n Tryz.prog 147 #[.func (.yield l) #[] #[], .pointer (some ⟨Bn, 0, none⟩)] W fun e W' => (∃ v, e = .returned v) ∧
      ((∃ ys, ys = lvTo cs m m ∧ J ys W') ∨ (∃ pre, pre <+: lvTo cs m m ∧ Jx pre W')) := by
  have HA := Lib.hid hA
  have HJ := Lib.hid hJ
  obtain ⟨a1, m1, k1, c1, hm1⟩ := hA.c1
  have c2 := hA.c2
  clear hJ
  have HM := Lib.hid (fun m => made_in F m q a1 m1 k1 W hm1 h7 hro c1)
  clear c1 hA hm1
  rw [← hm] at c2
  have HSL := Lib.hid hm
  refine callsIn_of_wp Tryz.func147 rfl h6 ?_ hro
  simp only [Tryz.ntmps147, List.size_toArray, List.length_cons, List.length_nil, Nat.reduceAdd, Nat.reduceSub, Array.replicate_succ, Array.replicate_zero, List.push_toArray, List.append_toArray, List.nil_append, List.cons_append]
  clear hm
  gi_wp2_with (gi_at_call 82; refine (HM.out _).mono ?_; rintro e w' ⟨rfl, rfl⟩)
  gi_loopw [13] (fun i wr => ∃ k : Nat, k ≤ m ∧ i = .int .i64 k ∧ J (lvTo cs m k) wr ∧ Below n₀ W wr)
    (fun i _ => m - (intOf i).toNat)
  case atStart => exact ⟨0, Nat.zero_le _, rfl, h0, Below.refl _ _⟩
  case round =>
    obtain ⟨k, hk, rfl, hJs, hnx⟩ := hrel
    have HAr := HA.out.below hnx hq he
    have cB : wr.cell? ⟨Bn, 0, none⟩ = some (.pointer (some ⟨q, 0, none⟩)) := (hnx.cell (p := ⟨Bn, 0, none⟩) hB0).trans hBn
    have cq : wr.cell? ⟨q, 2, none⟩ = some (.slice (some ⟨eb, 0, none⟩) m ec) := HSL.out ▸ HAr.c2
    by_cases hlt : k < m
    · obtain ⟨c, hc⟩ := get_some (l := cs) (i := k) (by rw [← HSL.out]; exact hlt)
      have cc := HAr.cc k c hc
      have HAr := Lib.hid HAr
      have HC := Lib.hid hc
      clear hc
      rcases Nat.eq_zero_or_pos c with rfl | hpos
      · gi_wp2
        refine ⟨fun _ h => (by cases h), ?_⟩
        gi_wp2
        go_roundw
        case rel => exact ⟨k + 1, by omega, by go_num, by rw [lvTo_free HC.out]; exact hJs, hnx⟩
        case measure => simp [intOf]; omega
      · have hb : (0 : Int) < (c : Int) := by omega
        obtain ⟨fn, tmps, assign, body, hy, hR⟩ := hY _ ⟨k, hlt⟩ _ hJs (by have := lvTo_le cs m k; omega)
        dsimp only at hy
        have HL := Lib.hid (lvTo_live (m := m) HC.out (by omega) hlt)
        clear hpos
        gi_wp2
        refine hR.mono ?_
        rintro e W3 (⟨rfl, hJ3, hk3⟩ | ⟨rfl, hJx3⟩)
        · gi_wp2
          go_roundw
          case rel => exact ⟨k + 1, by omega, by go_num, by rw [HL.out]; exact hJ3, hnx.trans hk3⟩
          case measure => simp [intOf]; omega
        · gi_wp2
          refine bodyPost_ret (results_none rfl _ _ _) rfl ?_
          exact ⟨⟨_, rfl⟩, .inr ⟨lvTo cs m (k + 1), lvTo_pre cs m (by omega), by rw [HL.out]; exact hJx3⟩⟩
    · obtain rfl : k = m := by omega
      gi_wp2
      go_end0
      exact ⟨⟨_, rfl⟩, .inl ⟨_, rfl, hJs⟩⟩

theorem live_stops (F : Fence) (n : Nat) (h6 : F.fn 147) (h7 : F.fn 82) (hro : F.round = none) (hn : 1 ≤ n) (Bn n₀ q eb ec m : Nat) (cs : List Nat) (w : World) (hm : m = cs.length) (hst : m ≤ 128)
    (hq : q < n₀) (he : eb < n₀) (hB0 : Bn < n₀) (hn₀ : n₀ ≤ w.heap.size) (hc : w.cell? ⟨Bn, 0, none⟩ = some (.pointer (some ⟨q, 0, none⟩))) (hA : CntAt w q eb ec cs) :
    SeqStopsK F n Tryz.prog 147 #[.pointer (some ⟨Bn, 0, none⟩)] (fun x : SlotOf m => #[.pointer (some ⟨eb, x.1 * 3, none⟩)]) (Below n₀) (fun ys => ys = lvTo cs m m) (fun pre => pre <+: lvTo cs m m) m w := fun l J Jx W hW hJ _ hY h0 =>
  live1_in F n h6 h7 hro hn l Bn n₀ q eb ec m cs hm hst hq he hB0 J Jx W hJ hY (Nat.le_trans hn₀ hW.size) ((hW.cell (p := ⟨Bn, 0, none⟩) (cell_lt hc)).trans hc)
    (hA.below hW (by omega) (by omega)) h0
end Go.Proofs.YtmmkcfiecgpkpaaGreat

/- What finds a live slot among those of the program's pool, and what finds a handle's slot. No condition but that the pool is one. -/
namespace Go.Proofs.YtmmkcfiecgpkpaaGreat
open Go.RowKit Go.Shelf
attribute [local go_sem] Oper.semAt_some
set_option linter.unusedVariables false
set_option linter.unusedSimpArgs false
set_option maxRecDepth 100000

/-- The live slot of a number. -/
def tkV (eb m : Nat) (cs : List Nat) (k : Int) : Value :=
  .pointer (if 0 ≤ k ∧ k < m ∧ cs[k.toNat]?.getD 0 ≠ 0 then some ⟨eb, k.toNat * 3, none⟩ else none)

theorem tkV_in {eb m : Nat} {cs : List Nat} {k : Int} {x : SlotOf m} (hx : (x.1 : Int) = k) (hm : x ∈ lvTo cs m m) : tkV eb m cs k = .pointer (some ⟨eb, x.1 * 3, none⟩) := by
  subst hx
  obtain ⟨h1, h2⟩ := lvTo_mem.1 hm
  unfold tkV
  rw [if_pos ⟨by omega, by omega, by simpa using h2⟩, Int.toNat_natCast]
theorem tkV_out {eb m : Nat} {cs : List Nat} {k : Int} (h : ∀ y ∈ lvTo cs m m, (y.1 : Int) ≠ k) : tkV eb m cs k = .pointer none := by
  unfold tkV
  rw [if_neg]
  rintro ⟨h1, h2, h3⟩
  exact h ⟨k.toNat, by omega⟩ (lvTo_mem.2 ⟨by show k.toNat < m; omega, h3⟩) (by show ((k.toNat : Nat) : Int) = k; omega)

set_option maxHeartbeats 1000000 in
theorem taken_in (F : Fence) (n : Nat) (h4 : F.fn 141) (h5 : F.fn 145) (h6 : F.fn 147) (h7 : F.fn 82) (hro : F.round = none) (hn : 3 ≤ n) (q eb ec m : Nat) (cs : List Nat) (hm : m = cs.length) (hst : m ≤ 128) (k : Int) (w : World) (hL : CntAt w q eb ec cs) (hq : q < w.heap.size) (he : eb < w.heap.size) :
    CallsIn F n Tryz.prog 141 #[.pointer (some ⟨q, 0, none⟩), .int .i64 k] w fun e W' => e = .returned (tkV eb m cs k) ∧ Below w.heap.size w W' := by
  have h1 : 1 ≤ n := by omega
  have HL := Lib.hid hL
  clear hL
  refine callsIn_of_wp_marks Tryz.func141 rfl h4 ?_ hro
  simp only [Tryz.ntmps141, List.size_toArray, List.length_cons, List.length_nil, Nat.reduceAdd, Nat.reduceSub, Array.replicate_succ, Array.replicate_zero, List.push_toArray, List.append_toArray, List.nil_append, List.cons_append]
  gi_wp2_with (gi_at_call 145; refine (live_in F (n - 1) h5 hro _ _).mono ?_; rintro e w' ⟨rfl, rfl⟩)
  have c0 := cnew w (.int .i64 k) 3
  have c1 := cnew (w.alloc (.cells #[.int .i64 k] 3)) (.pointer none) 161
  have c2 := cnew ((w.alloc (.cells #[.int .i64 k] 3)).alloc (.cells #[.pointer none] 161)) (.pointer (some ⟨q, 0, none⟩)) 71
  simp only [World.size_alloc] at c1 c2
  have hB0 : Below w.heap.size w (((w.alloc (.cells #[.int .i64 k] 3)).alloc (.cells #[.pointer none] 161)).alloc (.cells #[.pointer (some ⟨q, 0, none⟩)] 71)) := (((Below.refl _ w).alloc (Nat.le_refl _) _).alloc (by simp) _).alloc (by simp; omega) _
  have hA := HL.out.below hB0 hq he
  refine wpIn_rangeFunc_ownF hro h1 (gf := 147) (lb := #[.pointer (some ⟨w.heap.size + 1 + 1, 0, none⟩)]) rfl h6 (enters_of Tryz.func147 (by kernel_rfl) rfl)
    (live_stops F (n - 1) h6 h7 hro (by omega) (w.heap.size + 1 + 1) (w.heap.size + 3) q eb ec m cs _ hm hst (by omega) (by omega) (by omega) (by simp) c2.1 hA) belowK_t (belowK_b (by simp)) (Below.refl _ _) (fun _ => rfl)
    (fun pre W => ((∀ y ∈ pre, (y.1 : Int) ≠ k) ∧ W.cell? ⟨w.heap.size, 0, none⟩ = some (.int .i64 k) ∧ W.cell? ⟨w.heap.size + 1, 0, none⟩ = some (.pointer none) ∧ W.frozen? ⟨w.heap.size + 1, 0, none⟩ = false) ∧ Below w.heap.size w W)
    (fun c pre W => (c = .ret ∧ (∃ x ∈ pre, (x.1 : Int) = k ∧ W.cell? ⟨w.heap.size + 1, 0, none⟩ = some (.pointer (some ⟨eb, x.1 * 3, none⟩)))) ∧ Below w.heap.size w W)
    (OwnFrom.and (Own.from (fun s A B row hs hg hr => ⟨hs.1, cell_kept hs.2.1 hg hr, cell_kept hs.2.2.1 hg hr, (frozen_kept hs.2.2.1 hg hr).trans hs.2.2.2⟩) _) (ownFrom_below (Nat.le_refl _) (by simp; omega)))
    (fun c => OwnFrom.and (Own.from (fun s A B row hs hg hr => ⟨hs.1, by obtain ⟨x, x1, x2, x3⟩ := hs.2; exact ⟨x, x1, x2, cell_kept x3 hg hr⟩⟩) _) (ownFrom_below (Nat.le_refl _) (by simp; omega)))
    ⟨⟨by simp, calloc _ (calloc _ c0.1), calloc _ c1.1, falloc _ c1.1 c1.2⟩, hB0⟩
    (fun x => { tmps := #[.pointer (some ⟨q, 0, none⟩), .int .i64 k, undef, .pointer (some ⟨w.heap.size, 0, none⟩), .pointer (some ⟨w.heap.size + 1, 0, none⟩), .pointer (some ⟨eb, x.1 * 3, none⟩), .pointer (some ⟨q, 0, none⟩), .func (.func 147) #[] #[.pointer (some ⟨w.heap.size + 1 + 1, 0, none⟩)], .pointer (some ⟨eb, x.1 * 3, none⟩), undef, undef, undef, undef, undef, undef, undef], defers := [] }) ?assign ?body ?done ?stop
  case assign =>
    intro l x W K hK
    gi_wp2
    exact hK
  case body =>
    rintro l pre x W ⟨⟨hp, hcw, hcr, hfr⟩, hB⟩ hlt
    have cx : W.cell? ⟨eb, x.1 * 3, none⟩ = some (.int .i64 (x.1 : Nat)) := (HL.out.below hB hq he).c0 x.1 (hm ▸ x.2)
    have hmx : Tryz.prog.follows .mixedOrders = true := by kernel_rfl
    gi_wp2
    gi_region_o
    all_goals gi_wp2
    all_goals first
      | (rename_i hx
         have hx' := eq_of_beq hx
         exact ⟨(KeepsOthers.setCell _ _ _).trans (KeepsOthers.drew _), ⟨rfl, x, List.mem_append.2 (.inr (by simp)), hx', World.cell?_setCell_same' _ _ _ (by rw [hcr]; rfl)⟩, (hB.setCell (p := ⟨w.heap.size + 1, 0, none⟩) (by simp) _).drew⟩)
      | (rename_i hx
         have hx' := ne_of_beq_false hx
         exact ⟨KeepsOthers.drew _, (Below.refl _ _).drew, ⟨fun y hy => (List.mem_append.1 hy).elim (hp y) (fun e => by simp at e; subst e; exact hx'), hcw, hcr, hfr⟩, hB.drew⟩)
  case done =>
    rintro D ys W hD rfl ⟨⟨hne, _, hcr, hfr⟩, hB⟩ hK
    gi_wp2
    have hK' := (KeepsOthers.setCell W ⟨w.heap.size + 1, 0, none⟩ (.pointer none)).same D _ hK rfl
    refine ⟨by simp, .inl ⟨_, _, rfl, run_takeDeferred hK', ?_⟩⟩
    have hc5 := cell_kept (World.cell?_setCell_same' W ⟨w.heap.size + 1, 0, none⟩ (.pointer none) (by rw [hcr]; rfl)) (grownBy_putObj' _ D (.deferred none)) (fun r e => by cases e; exact ⟨_, hK', rfl⟩)
    refine ⟨.pointer none, ?_, by rw [tkV_out hne], (hB.setCell (p := ⟨w.heap.size + 1, 0, none⟩) (by simp) _).trans (belowK_b (w := w) (Nat.le_refl _) _ D _ _ (by simp at hD; omega) hK' rfl rfl)⟩
    simp [results, Tryz.f141, go_sem, hc5]
  case stop =>
    rintro D c pre W hD hpre ⟨⟨rfl, x, hx, hxk, hcr⟩, hB⟩ hK
    gi_wp2
    refine ⟨by simp, .inl ⟨_, _, rfl, run_takeDeferred hK, ?_⟩⟩
    have hc5 := cell_kept hcr (grownBy_putObj' _ D (.deferred none)) (fun r e => by cases e; exact ⟨_, hK, rfl⟩)
    refine ⟨.pointer (some ⟨eb, x.1 * 3, none⟩), ?_, by rw [tkV_in hxk (hpre.subset hx)], hB.trans (belowK_b (w := w) (Nat.le_refl _) W D _ _ (by simp at hD; omega) hK rfl rfl)⟩
    simp [results, Tryz.f141, go_sem, hc5]
end Go.Proofs.YtmmkcfiecgpkpaaGreat

/- What finds a handle's slot in the program's pool; and the calls that only tell: Count, Gen, Slots, Size. No condition but that the pool is one. -/
namespace Go.Proofs.YtmmkcfiecgpkpaaGreat
open Go.RowKit
set_option linter.unusedVariables false
set_option linter.unusedSimpArgs false
set_option maxRecDepth 100000

def PM.cs (M : PM) : List Nat := M.sl.map (·.c)
theorem PIn.cnt {w : World} {W : Nat → Prop} {q : Nat} {L : PLay} {M : PM} (h : PIn w W q L M) (h0 : 0 < M.sl.length) : CntAt w q L.eb L.ec M.cs := by
  refine ⟨⟨_, _, _, h.hd.cell rfl, h0⟩, by rw [show M.cs.length = M.sl.length by simp [PM.cs]]; exact h.hd.cell rfl, fun k c hc => ?_, fun k hk => ?_⟩
  · simp only [PM.cs, List.getElem?_map, Option.map_eq_some_iff] at hc
    obtain ⟨s, hs, rfl⟩ := hc
    exact (h.slot hs).2.1
  · obtain ⟨s, hs⟩ := get_some (l := M.sl) (i := k) (by simpa [PM.cs] using hk)
    exact (h.slot hs).1

def PM.tkV (M : PM) (L : PLay) (k : Int) : Value := Go.Proofs.YtmmkcfiecgpkpaaGreat.tkV L.eb M.sl.length M.cs k

theorem made_any {w : World} {W : Nat → Prop} {q : Nat} {L : PLay} {M : PM} (H : PIn w W q L M) (h0 : 0 < M.sl.length) :
    Calls Tryz.prog 82 #[.pointer (some ⟨q, 0, none⟩)] w fun e w' => e = .returned (.bool true) ∧ w = w' :=
  (callsIn_wide (n := 1)).1 (made_in Fence.wide 1 q _ _ _ w h0 trivial rfl (H.hd.cell rfl))

theorem taken_any {w : World} {W : Nat → Prop} {q : Nat} {L : PLay} {M : PM} {N : Nat} (H : PIn w W q L M) (hM : M.Ok N) (k : Int) :
    Calls Tryz.prog 141 #[.pointer (some ⟨q, 0, none⟩), .int .i64 k] w fun e w' => e = .returned (M.tkV L k) ∧ Still w w' :=
  (callsIn_wide (n := 3)).1 ((taken_in Fence.wide 3 trivial trivial trivial trivial rfl (by omega) q L.eb L.ec M.sl.length M.cs (by simp [PM.cs]) hM.len k w (H.cnt hM.pos) (H.lt _ (H.fix _ (.inl rfl))) (H.lt _ (H.fix _ (.inr (.inr rfl))))).mono
    fun e w' ⟨h1, h2⟩ => ⟨h1, below_turned h2 (Nat.le_refl _)⟩)

theorem tkV_live {M : PM} {L : PLay} {k : Nat} {s : Slt} (hk : M.sl[k]? = some s) (hc : s.c ≠ 0) : M.tkV L (k : Int) = .pointer (some ⟨L.eb, k * 3, none⟩) := by
  unfold PM.tkV Go.Proofs.YtmmkcfiecgpkpaaGreat.tkV
  have := get_lt hk
  rw [if_pos ⟨by omega, by omega, by simp [PM.cs, hk, hc]⟩, Int.toNat_natCast]
theorem tkV_free {M : PM} {L : PLay} {k : Nat} {s : Slt} (hk : M.sl[k]? = some s) (hc : s.c = 0) : M.tkV L (k : Int) = .pointer none := by
  unfold PM.tkV Go.Proofs.YtmmkcfiecgpkpaaGreat.tkV
  rw [if_neg]
  rintro ⟨_, _, h⟩
  simp [PM.cs, hk, hc] at h
theorem tkV_none {M : PM} {L : PLay} {k : Int} (hk : ¬ (0 ≤ k ∧ k < M.sl.length)) : M.tkV L k = .pointer none := by
  unfold PM.tkV Go.Proofs.YtmmkcfiecgpkpaaGreat.tkV
  rw [if_neg]
  rintro ⟨h1, h2, _⟩
  exact hk ⟨h1, h2⟩

/-- A live handle's slot. -/
def PM.fdP (M : PM) (L : PLay) (h : Int) : Value := .pointer (if M.err h = 0 then some ⟨L.eb, hSlot h * 3, none⟩ else none)

theorem find_any {w : World} {W : Nat → Prop} {q : Nat} {L : PLay} {M : PM} {N : Nat} (H : PIn w W q L M) (hM : M.Ok N) (h : Int) :
    Calls Tryz.prog 123 #[.pointer (some ⟨q, 0, none⟩), .int .i64 h] w fun e w' => e = .returned (.tuple #[M.fdP L h, .int .i64 (M.err h)]) ∧ Still w w' := by
  obtain ⟨n, hn⟩ : ∃ n, n = M.sl.length := ⟨_, rfl⟩
  have HA := Lib.hid (made_any H hM.pos)
  have HV := Lib.hid (alive_any w (some ⟨L.gb, 0, none⟩) (M.sl.map fun s => (s.g : Int)) n n h (by simp [hn]) H.book)
  have c1 : w.cell? ⟨q, 1, none⟩ = some (.slice (some ⟨L.gb, 0, none⟩) n n) := hn ▸ H.hd.cell rfl
  have he := M.err_book h
  by_cases hb : bkE (M.sl.map fun s => (s.g : Int)) h = 0
  · have hs : ∃ s, M.sl[hSlot h]? = some s := by
      unfold bkE at hb
      split at hb
      · cases hb
      · cases hs : M.sl[hSlot h]? with
        | none => rw [List.getElem?_map, hs] at hb; cases hb
        | some s => exact ⟨s, rfl⟩
    obtain ⟨s, hs⟩ := hs
    have hst : M.slt h = s := by unfold PM.slt; rw [hs]; rfl
    unfold bkV bkS at HV
    rw [hb, if_pos rfl] at HV
    rw [hb, hst] at he
    have HT := Lib.hid (taken_any H hM (hSlot h : Nat))
    by_cases hz : s.c = 0
    · have HR := Lib.hid (show Value.tuple #[M.fdP L h, .int .i64 (M.err h)] = .tuple #[.pointer none, .int .i64 40] by
        have : M.err h = 40 := by rw [he]; simp [hz]
        simp [PM.fdP, this])
      rw [tkV_free hs hz] at HT
      generalize hSlot h = k at *
      rw [HR.out]
      clear he hst hs hb hn H hz HR
      go_enter Tryz.func123, Tryz.ntmps123
      go_wp2_with (first | (go_at_call 82; refine HA.out.mono ?_; rintro e w' ⟨rfl, rfl⟩) | (go_at_call 140; refine HV.out.mono ?_; rintro e w' ⟨rfl, rfl⟩) | (go_at_call 141; refine HT.out.mono ?_; rintro e w' ⟨rfl, hst⟩))
      go_ret2
      exact ⟨rfl, hst⟩
    · have HR := Lib.hid (show Value.tuple #[M.fdP L h, .int .i64 (M.err h)] = .tuple #[.pointer (some ⟨L.eb, hSlot h * 3, none⟩), .int .i64 0] by
        have : M.err h = 0 := by rw [he]; simp [hz]
        simp [PM.fdP, this])
      rw [tkV_live hs hz] at HT
      rw [HR.out]
      generalize hSlot h = k at *
      clear he hst hs hb hn H hz HR
      go_enter Tryz.func123, Tryz.ntmps123
      go_wp2_with (first | (go_at_call 82; refine HA.out.mono ?_; rintro e w' ⟨rfl, rfl⟩) | (go_at_call 140; refine HV.out.mono ?_; rintro e w' ⟨rfl, rfl⟩) | (go_at_call 141; refine HT.out.mono ?_; rintro e w' ⟨rfl, hst⟩))
      go_ret2
      exact ⟨rfl, hst⟩
  · unfold bkV bkS at HV
    rw [if_neg hb] at HV
    have hm : M.err h = bkE (M.sl.map fun s => (s.g : Int)) h := by rw [he, if_neg (fun q => hb q.1)]
    have HR := Lib.hid (show Value.tuple #[M.fdP L h, .int .i64 (M.err h)] = .tuple #[.pointer none, .int .i64 (bkE (M.sl.map fun s => (s.g : Int)) h)] by
      simp [PM.fdP, hm, hb])
    rw [HR.out]
    have hbb : (bkE (M.sl.map fun s => (s.g : Int)) h != 0) = true := by rw [bne_iff_ne]; exact hb
    generalize bkE (M.sl.map fun s => (s.g : Int)) h = x at *
    clear he hm hn H hb HR
    go_enter Tryz.func123, Tryz.ntmps123
    go_wp2_with (first | (go_at_call 82; refine HA.out.mono ?_; rintro e w' ⟨rfl, rfl⟩) | (go_at_call 140; refine HV.out.mono ?_; rintro e w' ⟨rfl, rfl⟩))
    go_ret2
    exact ⟨rfl, Turned.refl _ _⟩

theorem find_ok {w : World} {W : Nat → Prop} {q : Nat} {L : PLay} {M : PM} {N : Nat} (H : PIn w W q L M) (hM : M.Ok N) {h : Int} (he : M.err h = 0) :
    Calls Tryz.prog 123 #[.pointer (some ⟨q, 0, none⟩), .int .i64 h] w fun e w' => e = .returned (.tuple #[.pointer (some ⟨L.eb, hSlot h * 3, none⟩), .int .i64 0]) ∧ Still w w' := by
  have := find_any H hM h
  unfold PM.fdP at this
  rwa [if_pos he, he] at this
theorem find_no {w : World} {W : Nat → Prop} {q : Nat} {L : PLay} {M : PM} {N : Nat} (H : PIn w W q L M) (hM : M.Ok N) {h : Int} (he : M.err h ≠ 0) :
    Calls Tryz.prog 123 #[.pointer (some ⟨q, 0, none⟩), .int .i64 h] w fun e w' => e = .returned (.tuple #[.pointer none, .int .i64 (M.err h)]) ∧ Still w w' := by
  have := find_any H hM h
  unfold PM.fdP at this
  rwa [if_neg he] at this

theorem pcount_any {w : World} {W : Nat → Prop} {q : Nat} {M : PM} {N : Nat} (H0 : (pT q M).at_ w W) (hM : M.Ok N) (k : Int) :
    Calls Tryz.prog 139 #[.pointer (some ⟨q, 0, none⟩), .int .i64 k] w fun e w' => e = .returned (.int .i64 (cntOf M k)) ∧ Still w w' := by
  obtain ⟨L, H⟩ := H0
  have HT := Lib.hid (taken_any H hM k)
  by_cases hk : 0 ≤ k ∧ k < M.sl.length
  · obtain ⟨j, rfl⟩ : ∃ j : Nat, k = j := ⟨k.toNat, by omega⟩
    obtain ⟨s, hs⟩ := get_some (l := M.sl) (i := j) (by omega)
    have HR := Lib.hid (show cntOf M (j : Int) = (s.c : Int) by unfold cntOf; rw [if_pos hk, Int.toNat_natCast, hs]; rfl)
    rw [HR.out]
    by_cases hz : s.c = 0
    · rw [tkV_free hs hz] at HT
      rw [hz]
      clear HR hs hk H hz
      go_enter Tryz.func139, Tryz.ntmps139
      go_wp2_with (go_at_call 141; refine HT.out.mono ?_; rintro e w' ⟨rfl, hst⟩)
      go_ret
      exact ⟨rfl, hst⟩
    · rw [tkV_live hs hz] at HT
      have HC := Lib.hid (fun w' (hst : Still w w') => ((H.still hst).slot hs).2.1)
      generalize s.c = c at *
      clear HR hs hk H hz
      go_enter Tryz.func139, Tryz.ntmps139
      go_wp2_with (go_at_call 141; refine HT.out.mono ?_; rintro e w' ⟨rfl, hst⟩; have cc := HC.out w' hst)
      go_ret
      exact ⟨rfl, hst⟩
  · have HR := Lib.hid (show cntOf M k = 0 by unfold cntOf; rw [if_neg hk])
    rw [HR.out]
    rw [tkV_none hk] at HT
    clear HR hk H
    go_enter Tryz.func139, Tryz.ntmps139
    go_wp2_with (go_at_call 141; refine HT.out.mono ?_; rintro e w' ⟨rfl, hst⟩)
    go_ret
    exact ⟨rfl, hst⟩

theorem slots_any {w : World} {W : Nat → Prop} {q : Nat} {M : PM} {N : Nat} (H0 : (pT q M).at_ w W) (hM : M.Ok N) :
    Calls Tryz.prog 90 #[.pointer (some ⟨q, 0, none⟩)] w fun e w' => e = .returned (.int .i64 M.sl.length) ∧ w = w' := by
  obtain ⟨L, H⟩ := H0
  have HA := Lib.hid (made_any H hM.pos)
  obtain ⟨n, hn⟩ : ∃ n, n = M.sl.length := ⟨_, rfl⟩
  have c1 : w.cell? ⟨q, 1, none⟩ = some (.slice (some ⟨L.gb, 0, none⟩) n n) := hn ▸ H.hd.cell rfl
  rw [← hn]
  clear hn H
  go_enter Tryz.func90, Tryz.ntmps90
  go_wp2_with (go_at_call 82; refine HA.out.mono ?_; rintro e w' ⟨rfl, rfl⟩)
  go_ret
  exact ⟨rfl, rfl⟩
theorem size_any {w : World} {W : Nat → Prop} {q : Nat} {M : PM} {N : Nat} (H0 : (pT q M).at_ w W) (hM : M.Ok N) :
    Calls Tryz.prog 96 #[.pointer (some ⟨q, 0, none⟩)] w fun e w' => e = .returned (.int .i64 M.size) ∧ w = w' := by
  obtain ⟨L, H⟩ := H0
  have HA := Lib.hid (made_any H hM.pos)
  have c1 : w.cell? ⟨q, 0, none⟩ = some (.int .i64 M.size) := H.hd.cell rfl
  clear H
  go_enter Tryz.func96, Tryz.ntmps96
  go_wp2_with (go_at_call 82; refine HA.out.mono ?_; rintro e w' ⟨rfl, rfl⟩)
  go_ret
  exact ⟨rfl, rfl⟩

theorem pgen_any {w : World} {W : Nat → Prop} {q : Nat} {M : PM} {N : Nat} (H0 : (pT q M).at_ w W) (hM : M.Ok N) (k : Int) :
    Calls Tryz.prog 135 #[.pointer (some ⟨q, 0, none⟩), .int .i64 k] w fun e w' => e = .returned (.int .i64 (genOf M k)) ∧ w = w' := by
  have HS := Lib.hid (slots_any H0 hM)
  obtain ⟨L, H⟩ := H0
  obtain ⟨n, hn⟩ : ∃ n, n = M.sl.length := ⟨_, rfl⟩
  have c1 : w.cell? ⟨q, 1, none⟩ = some (.slice (some ⟨L.gb, 0, none⟩) n n) := hn ▸ H.hd.cell rfl
  rw [← hn] at HS
  by_cases hk : 0 ≤ k ∧ k < M.sl.length
  · obtain ⟨j, rfl⟩ : ∃ j : Nat, k = j := ⟨k.toNat, by omega⟩
    obtain ⟨s, hs⟩ := get_some (l := M.sl) (i := j) (by omega)
    have HR := Lib.hid (show genOf M (j : Int) = (s.g : Int) by unfold genOf; rw [if_pos hk, Int.toNat_natCast, hs]; rfl)
    rw [HR.out]
    have cg := (H.slot hs).2.2.2
    generalize s.g = g at *
    have hj : j < n := by omega
    clear HR hs hk H hn
    go_enter Tryz.func135, Tryz.ntmps135
    go_wp2_with (go_at_call 90; refine HS.out.mono ?_; rintro e w' ⟨rfl, rfl⟩)
    all_goals first
      | (go_ret; exact ⟨rfl, rfl⟩)
      | (exfalso; omega)
  · have HR := Lib.hid (show genOf M k = 0 by unfold genOf; rw [if_neg hk])
    rw [HR.out]
    rw [← hn] at hk
    clear HR H hn
    go_enter Tryz.func135, Tryz.ntmps135
    rcases Int.lt_or_le k 0 with h0 | h0
    · clear hk
      go_wp2_with (go_at_call 90; refine HS.out.mono ?_; rintro e w' ⟨rfl, rfl⟩)
      go_ret
      exact ⟨rfl, rfl⟩
    · have h2 : (n : Int) ≤ k := by omega
      clear hk
      go_wp2_with (go_at_call 90; refine HS.out.mono ?_; rintro e w' ⟨rfl, rfl⟩)
      go_ret
      exact ⟨rfl, rfl⟩
end Go.Proofs.YtmmkcfiecgpkpaaGreat

/- clear, copy and an append of nothing over blocks that are known whole; slices.Clone, slices.Reverse, and slices.Delete of the last. No condition. -/
namespace Go.Proofs.YtmmkcfiecgpkpaaGreat
open Go.RowKit
set_option linter.unusedVariables false
set_option linter.unusedSimpArgs false
set_option maxRecDepth 100000

/-- Some laid over others, from a place on. -/
def laid (xs : List Value) (o : Nat) (cs : List Value) : List Value := xs.take o ++ (cs ++ xs.drop (o + cs.length))
theorem laid_nil (xs : List Value) (o : Nat) : laid xs o [] = xs := by simp [laid]
theorem laid_cons (xs : List Value) (o : Nat) (v : Value) (r : List Value) (h : o < xs.length) : laid (xs.set o v) (o + 1) r = laid xs o (v :: r) := by
  unfold laid
  rw [List.take_set, List.drop_set, if_pos (by omega)]
  rw [show o + (v :: r).length = o + 1 + r.length by simp; omega]
  have : (xs.take (o + 1)).set o v = xs.take o ++ [v] := by
    rw [List.set_eq_take_append_cons_drop, if_pos (by simp; omega), List.take_take, Nat.min_eq_left (Nat.le_succ o), List.drop_eq_nil_of_le (by simp; omega)]
  rw [this]
  simp

theorem blk_setCells (e : TypeId) (b : Nat) : ∀ (cs : List Value) (o : Nat) (w : World) (xs : List Value), Blk w b xs e → o + cs.length ≤ xs.length → Blk (w.setCells b o cs) b (laid xs o cs) e ∧ Turned (· = b) w (w.setCells b o cs)
  | [], o, w, xs, h, _ => ⟨by rw [laid_nil]; exact h, Turned.refl _ _⟩
  | v :: r, o, w, xs, h, hl => by
    have hl' : o + 1 + r.length ≤ xs.length := by simp at hl; omega
    obtain ⟨h1, h2⟩ := blk_setCells e b r (o + 1) (w.setCell ⟨b, o, none⟩ v) (xs.set o v) (h.set o v) (by simpa using hl')
    rw [laid_cons xs o v r (by omega)] at h1
    exact ⟨h1, (turned_set (Turned.refl _ w) o v).trans h2⟩

theorem run_clear_none (P : Program) (w : World) (t e ty : TypeId) (ht : P.underlying t = some (.slice e)) (b : Option Addr) (c : Nat) : (Builtin.clear_ #[t] ty #[.slice b 0 c]).run P w = .ok (.tuple #[]) w := by
  cases b <;> simp [Builtin.clear_, run_underlying ht]

theorem wpList_clear_blk {P : Program} {w : World} {ops : Array Oper} {rest : List Oper} {o : Oper} {a : Act} {Q : Exit → Act → World → Prop} (hgd : o.guard = none) (s : Operand) (t : TypeId)
    (ho : o.op = .call { callee := .builtin .clear, args := #[s], argTypes := #[t] }) (e : TypeId) (z : Value) (ht : P.underlying t = some (.slice e)) (hv : ∀ w, (zeroValue e).run P w = .ok z w) (hz : z.cells = #[z]) (h1 : z.oneCell' = true)
    (b k n c : Nat) (hs : a.eval s = .slice (some ⟨b, k, none⟩) n c) (xs : List Value) (e' : TypeId) (hb : Blk w b xs e') (hl : k + n ≤ xs.length)
    (h : ∀ w', Blk w' b (laid xs k (List.replicate n z)) e' → Turned (· = b) w w' → wpList P ops Q rest (a.put o.dst (.tuple #[])) w') : wpList P ops Q (o :: rest) a w := by
  refine wpList_plain hgd fun K hK => ?_
  by_cases hn : n = 0
  · subst hn
    have hrun := run_clear_none P w t e o.type ht (some ⟨b, k, none⟩) c
    unfold Oper.wp
    simp [execOp, ho, resolve, invoke, builtin, hs, hrun, Result.andThen]
    exact hK _ _ (h w (by rw [List.replicate_zero, laid_nil]; exact hb) (Turned.refl _ _))
  · have hc : ∀ j, j < n → (w.cell? ⟨b, k + j, none⟩).isSome = true := fun j hj => by
      rw [hb.cell (o := k + j) (List.getElem?_eq_getElem (by omega))]; rfl
    have hrun := Lib.run_clear_slice (P := P) w t e o.type z ht hv hz h1 b k n c (by omega) hc (fun j _ => hb.free _)
    obtain ⟨h2, h3⟩ := blk_setCells e' b (List.replicate n z) k w xs hb (by simpa using hl)
    unfold Oper.wp
    simp [execOp, ho, resolve, invoke, builtin, hs, hrun, Result.andThen]
    exact hK _ _ (h _ h2 h3)

theorem wpList_copy_blk {P : Program} {w : World} {ops : Array Oper} {rest : List Oper} {o : Oper} {a : Act} {Q : Exit → Act → World → Prop} (hgd : o.guard = none) (d s : Operand) (dT sT : TypeId)
    (ho : o.op = .call { callee := .builtin .copy, args := #[d, s], argTypes := #[dT, sT] }) (elem : TypeId) (hu : P.underlying dT = some (.slice elem)) (hsz : (P.info? elem).map (·.size) = some 1)
    (b k n c : Nat) (sp : Option Addr) (sCap : Nat) (hd : a.eval d = .slice (some ⟨b, k, none⟩) n c) (hs : a.eval s = .slice sp n sCap)
    (xs : List Value) (e' : TypeId) (hb : Blk w b xs e') (cs : List Value) (hn : cs.length = n) (hsrc : ∀ ad, sp = some ad → ∀ j v, cs[j]? = some v → w.cell? (ad.add j) = some v) (hno : sp = none → n = 0)
    (hl : k + n ≤ xs.length) (h1 : ∀ v ∈ cs, v.oneCell' = true)
    (h : ∀ w', Blk w' b (laid xs k cs) e' → Turned (· = b) w w' → wpList P ops Q rest (a.put o.dst (goInt cs.length)) w') : wpList P ops Q (o :: rest) a w := by
  by_cases h0 : n = 0
  · subst h0
    obtain rfl : cs = [] := List.eq_nil_of_length_eq_zero hn
    refine wpList_copy_nothing hgd d s dT sT ho elem hu hsz _ _ _ _ _ _ hd hs (by simp) ?_
    exact h w (by rw [laid_nil]; exact hb) (Turned.refl _ _)
  · obtain ⟨ad, rfl⟩ : ∃ ad, sp = some ad := by
      cases sp with
      | none => exact absurd (hno rfl) h0
      | some ad => exact ⟨ad, rfl⟩
    refine wpList_plain hgd fun K hK => ?_
    have hc : ∀ j, j < cs.length → (w.cell? ⟨b, k + j, none⟩).isSome = true := fun j hj => by
      rw [hb.cell (o := k + j) (List.getElem?_eq_getElem (by omega))]; rfl
    have hrun := run_copy_cells (P := P) w dT sT o.type elem b k n c ad n sCap cs hu hsz (by simp [hn]) (hsrc ad rfl) hc (fun j _ => hb.free _) h1
    obtain ⟨h2, h3⟩ := blk_setCells e' b cs k w xs hb (by omega)
    unfold Oper.wp
    simp [execOp, ho, resolve, invoke, builtin, hd, hs, hrun, Result.andThen]
    exact hK _ _ (h _ h2 h3)

/-- Guards ahead of the laws: the next operation is a call of clear, of copy. -/
theorem atClear {P : Program} {w : World} {ops : Array Oper} {rest : List Oper} {a : Act} {Q : Exit → Act → World → Prop} {dst : Option Tmp} {s : Operand} {t ty : TypeId} {pos : String} {after : Array Edge} {guard : Option (Nat × Bool)}
    (h : wpList P ops Q ({ dst, op := .call { callee := .builtin .clear, args := #[s], argTypes := #[t] }, type := ty, pos, after, guard } :: rest) a w) :
    wpList P ops Q ({ dst, op := .call { callee := .builtin .clear, args := #[s], argTypes := #[t] }, type := ty, pos, after, guard } :: rest) a w := h
theorem atCopy {P : Program} {w : World} {ops : Array Oper} {rest : List Oper} {a : Act} {Q : Exit → Act → World → Prop} {dst : Option Tmp} {d s : Operand} {t t' ty : TypeId} {pos : String} {after : Array Edge} {guard : Option (Nat × Bool)}
    (h : wpList P ops Q ({ dst, op := .call { callee := .builtin .copy, args := #[d, s], argTypes := #[t, t'] }, type := ty, pos, after, guard } :: rest) a w) :
    wpList P ops Q ({ dst, op := .call { callee := .builtin .copy, args := #[d, s], argTypes := #[t, t'] }, type := ty, pos, after, guard } :: rest) a w := h

theorem run_append_zero {P : Program} (t ty e : TypeId) (i : TypeInfo) (ht : P.underlying t = some (.slice e)) (hi : P.info? e = some i) (b s : Option Addr) (n cap c : Nat) (hle : n ≤ cap) (W : World) :
    (Builtin.append_ #[t, t] ty #[.slice b n cap, .slice s 0 c]).run P W = .ok (.slice b n cap) W := by
  have hl : ∀ (x : Addr), (loadCells x 0).run P W = .ok #[] W := fun x => by simpa using run_loadCells_list (P := P) W x [] (by simp)
  cases b <;> cases s <;> simp [Builtin.append_, run_underlying ht, sizeOf, typeInfo, hi, Builtin.lenOf, Builtin.firstCells, hle, storeCells, hl]

/-- The same as one step of a region that draws its order. -/
theorem step_append_zero {P : Program} {ops : Array Oper} {o : Oper} {a : Act} {w : World} {K : Act → World → Prop} {Q : Exit → Act → World → Prop} {E : Prop}
    (hg : o.guard = none) (s x : Operand) (t : TypeId) (hop : o.op = Op.call { callee := Callee.builtin Builtin.append, args := #[s, x], argTypes := #[t, t] })
    (e : TypeId) (i : TypeInfo) (h1 : P.underlying t = some (.slice e)) (h2 : P.info? e = some i)
    (b sp : Option Addr) (n cap c : Nat) (hs : a.eval s = .slice b n cap) (hx : a.eval x = .slice sp 0 c) (hle : n ≤ cap)
    (hK : K (a.put o.dst (.slice b n cap)) w) :
    if Region.wanted o (yielded ops a.tmps) = true then Oper.wp P o a w K Q else E := by
  have hw : Region.wanted o (yielded ops a.tmps) = true := by simp [Region.wanted, hg]
  rw [if_pos hw]
  have hrun := run_append_zero (P := P) t o.type e i h1 h2 b sp n cap c hle w
  unfold Oper.wp
  simp [execOp, hop, resolve, invoke, builtin, hs, hx, hrun, Result.andThen]
  exact hK

theorem step_append_own {P : Program} {ops : Array Oper} {o : Oper} {a : Act} {w : World} {K : Act → World → Prop} {Q : Exit → Act → World → Prop} {E : Prop}
    (hg : o.guard = none) (s x : Operand) (t : TypeId) (hop : o.op = Op.call { callee := Callee.builtin Builtin.append, args := #[s, x], argTypes := #[t, t] })
    (base : Nat) (e : TypeId) (i : TypeInfo) (z : Value) (size bytes : Nat) (ht : P.underlying t = some (.slice e)) (hi : P.info? e = some i) (hz : i.zero = some z)
    (hsize : i.size = size) (hby : i.bytes = bytes) (hzs : z.cells.size = size) (hsz : 0 < size)
    (v : Value) (n : Nat) (xs : List Value) (hs : a.eval s = v) (hown : w.ownsRow base e size v n xs)
    (ad : Addr) (m c : Nat) (news : List Value) (hx : a.eval x = .slice (some ad) m c) (hl : news.length = m * size) (hnews : ∀ j u, news[j]? = some u → w.cell? (ad.add j) = some u) (h1 : ∀ u ∈ news, u.oneCell' = true)
    (h63 : n + m ≤ maxLen) (hbytes : (n + m) * bytes ≤ 140737488355328) (hbase : base ≤ w.heap.size)
    (h : ∀ v' w', w'.ownsRow base e size v' (n + m) (xs ++ news) → w.grownBy w' v.ownBlock → (v'.ownBlock = v.ownBlock ∨ v'.ownBlock = some w.heap.size) → K (a.put o.dst v') w') :
    if Region.wanted o (yielded ops a.tmps) = true then Oper.wp P o a w K Q else E := by
  have hw : Region.wanted o (yielded ops a.tmps) = true := by simp [Region.wanted, hg]
  rw [if_pos hw]
  obtain ⟨v', w', hrun, r1, r2, _, r4⟩ := run_append_own_at (P := P) w base t o.type e i z size bytes ht hi hz hsize hby hzs hsz v n xs hown ad m c news hl hnews h1 h63 hbytes hbase
  unfold Oper.wp
  simp [execOp, hop, resolve, invoke, builtin, hs, hx, hrun, Result.andThen]
  exact h _ _ r1 r2 r4
end Go.Proofs.YtmmkcfiecgpkpaaGreat

/- slices.Clone of bytes and of numbers, slices.Delete of the last number. No condition. -/
namespace Go.Proofs.YtmmkcfiecgpkpaaGreat
open Go.RowKit
set_option linter.unusedVariables false
set_option linter.unusedSimpArgs false
set_option maxRecDepth 100000

theorem clone_ints (w : World) (ad : Addr) (l : List Int) (n cap : Nat) (hn : n = l.length) (hA : NumsAt w (some ad) l) (hmax : n ≤ 70368744177) :
    Calls Tryz.prog 83 #[.slice (some ad) n cap] w (IntsPost w l n) := by
  obtain ⟨i0, hi, hz0, hz1, hz2⟩ := info_parts infoIntW
  have HC := Lib.hid (show ∀ (j : Nat) (u : Value), (ints l)[j]? = some u → (w.alloc (.cells #[] 3)).cell? (ad.add j) = some u from fun j u hj => by
    simp only [ints, List.getElem?_map, Option.map_eq_some_iff] at hj
    obtain ⟨x, hx, rfl⟩ := hj
    obtain ⟨b, o, e, hc⟩ := (hA.still ((Turned.refl (fun _ => False) w).alloc (.cells #[] 3))) j x hx
    cases e
    rw [Addr.add_lit]
    exact hc)
  have H1 := Lib.hid (show ∀ u ∈ ints l, u.oneCell' = true from ow_ints (by simp [ints, isIntW]))
  have HL := Lib.hid (show (ints l).length = n * 1 by rw [ints_length, hn, Nat.mul_one])
  have hnil := fun W : World => Lib.run_eql_slice_nil (P := Tryz.prog) W 23 3 (some ad) n cap 0 0 Tryz.underlying23
  simp only [Option.isNone_some] at hnil
  clear hA hn
  go_enter Tryz.func83, Tryz.ntmps83
  go_wp2_with (at_builtin; refine wpList_append_own_at _ rfl _ _ 23 rfl w.heap.size 3 i0 (.int .i64 0) 1 8 Tryz.underlying23 hi hz0 hz1 hz2 rfl (by decide) _ _ _ rfl (World.ownsRow_made w #[] 0 (Nat.le_refl _) (by simp) (by simp)) ad n cap (ints l) rfl HL.out HC.out H1.out (by unfold maxLen; omega) (by omega) (by simp) ?_; intro v' w1 hown hgrow hnil hat; obtain ⟨aa, cc, rfl⟩ := ow_slice hown)
  go_ret
  rw [Nat.zero_add] at hown
  obtain ⟨aa, rfl⟩ : ∃ x, aa = some x := by
    cases aa with
    | none => rcases hat with h | h <;> cases h
    | some x => exact ⟨x, rfl⟩
  exact ⟨aa, cc, rfl, hown, ((Turned.refl (fun _ => False) w).alloc _).grown hgrow (fun k e => .inr (by cases e; exact Nat.le_refl _))⟩

/-- The block of a row of one's own, and the row of a block. -/
theorem ow_parts {w : World} {B : Nat} {g n cc : Nat} {xs : List Value} {e : TypeId} (h : w.ownsRow B e 1 (.slice (some ⟨g, 0, none⟩) n cc) n xs) :
    ∃ r, Blk w g (xs ++ r) e ∧ xs.length = n ∧ (xs ++ r).length = cc ∧ n ≤ cc ∧ cc ≤ maxLen ∧ B ≤ g := by
  have hx : xs.length = n := by simpa using h.1
  rcases h.2 with ⟨h', _⟩ | ⟨g', cap', cur, h', hB, hg, hnc, hcm, hcs, htake⟩
  · simp at h'
  · simp only [Value.slice.injEq, Option.some.injEq, Addr.mk.injEq, and_true, true_and] at h'
    obtain ⟨rfl, rfl⟩ := h'
    refine ⟨cur.toList.drop n, ?_, hx, ?_, hnc, hcm, hB⟩
    · have : xs ++ cur.toList.drop n = cur.toList := by
        rw [← htake, Nat.mul_one]; exact List.take_append_drop _ _
      rw [this]
      exact hg
    · have : xs ++ cur.toList.drop n = cur.toList := by
        rw [← htake, Nat.mul_one]; exact List.take_append_drop _ _
      rw [this]
      simpa using hcs
theorem ow_of_parts {w : World} {B : Nat} {g n cc : Nat} {xs r : List Value} {e : TypeId} (hb : Blk w g (xs ++ r) e) (hx : xs.length = n) (hl : (xs ++ r).length = cc) (hm : cc ≤ maxLen) (hB : B ≤ g) :
    w.ownsRow B e 1 (.slice (some ⟨g, 0, none⟩) n cc) n xs := by
  refine ⟨by simpa using hx, .inr ⟨g, cc, (xs ++ r).toArray, rfl, hB, hb, ?_, hm, by simpa using hl, ?_⟩⟩
  · rw [← hl, ← hx]; simp
  · rw [Nat.mul_one, ← hx]; simp

theorem zeroInt : ∀ w, (zeroValue 3).run Tryz.prog w = .ok (.int .i64 0) w := Tryz.zeroValue3
set_option maxHeartbeats 2000000 in
theorem delete_last {w : World} {sb fl sc : Nat} {l : List Int} {x : Int} (h : w.ownsRow 0 3 1 (.slice (some ⟨sb, 0, none⟩) (fl + 1) sc) (fl + 1) (ints (l ++ [x]))) (hl : fl ≤ 128) (a b : Int) (ha : a = fl) (hb : b = (fl : Int) + 1) :
    Calls Tryz.prog 104 #[.slice (some ⟨sb, 0, none⟩) (fl + 1 : Nat) sc, .int .i64 a, .int .i64 b] w fun e w' => e = .returned (.slice (some ⟨sb, 0, none⟩) fl sc) ∧ w'.ownsRow 0 3 1 (.slice (some ⟨sb, 0, none⟩) fl sc) fl (ints l) ∧ Turned (· = sb) w w' := by
  subst ha
  subst hb
  obtain ⟨i0, hi, hz0, hz1, hz2⟩ := info_parts infoIntW
  obtain ⟨r, hblk, hx, hcc, hn, hm, _⟩ := ow_parts h
  have hxl : (ints l).length = fl := by simpa [ints] using hx
  have hcc' : (ints l ++ ([Value.int .i64 x] ++ r)).length = sc := by simpa [ints] using hcc
  have hblk' : Blk w sb (ints l ++ ([Value.int .i64 x] ++ r)) 3 := by simpa [ints] using hblk
  have hle : fl ≤ sc := by omega
  have hf0 : (0 : Int) ≤ (fl : Int) + 1 := by omega
  have HE := Lib.hid (fun (w' : World) (hb : Blk w' sb (laid (ints l ++ ([Value.int .i64 x] ++ r)) fl (List.replicate 1 (Value.int .i64 0))) 3) => show w'.ownsRow 0 3 1 (.slice (some ⟨sb, 0, none⟩) fl sc) fl (ints l) by
    refine ow_of_parts (r := Value.int .i64 0 :: r) ?_ hxl (by simpa using hcc') hm (Nat.zero_le _)
    have : laid (ints l ++ ([Value.int .i64 x] ++ r)) fl (List.replicate 1 (Value.int .i64 0)) = ints l ++ Value.int .i64 0 :: r := by
      subst hxl
      simp [laid, List.take_append, List.drop_append]
    rwa [this] at hb)
  have HB := Lib.hid hblk'
  have HCC := Lib.hid hcc'
  clear h hblk hx hcc hxl hcc' hblk' hm
  go_enter Tryz.func104, Tryz.ntmps104
  go_wp2
  go_region_law (refine step_append_zero rfl (.tmp 22) (.tmp 25) 23 rfl 3 i0 Tryz.underlying23 hi (some ⟨sb, 0, none⟩) _ fl sc _ rfl rfl hle ?_)
  all_goals (go_wp2_with (with_reducible refine atClear ?_; refine wpList_clear_blk rfl (.tmp 31) 23 rfl 3 (.int .i64 0) Tryz.underlying23 zeroInt rfl rfl sb fl 1 _ rfl _ _ HB.out.drew (by have := HCC.out; simp at this; simp; omega) ?_; intro w1 hb1 ht1))
  all_goals first
    | (go_ret; exact ⟨rfl, HE.out _ hb1, (Turned.refl _ w).drew.trans ht1⟩)
    | (have hsc : sc = fl + 1 := by assumption
       subst hsc
       go_ret
       exact ⟨rfl, HE.out _ hb1, (Turned.refl _ w).drew.trans ht1⟩)
end Go.Proofs.YtmmkcfiecgpkpaaGreat

/- What the calls of the program's pool do: Keep, Bytes, Fill. No condition but that the pool is one. -/
namespace Go.Proofs.YtmmkcfiecgpkpaaGreat
open Go.RowKit
set_option linter.unusedVariables false
set_option linter.unusedSimpArgs false
set_option maxRecDepth 100000

theorem PIn.ownE {w : World} {W : Nat → Prop} {q : Nat} {L : PLay} {M : PM} (H : PIn w W q L M) : W L.eb := H.fix _ (.inr (.inr rfl))

theorem sizeByte : (Tryz.prog.info? 5).map (·.size) = some 1 := by kernel_rfl
end Go.Proofs.YtmmkcfiecgpkpaaGreat

/- A slot's envelope is begun; the stack of the program's pool is another row. No condition but that the pool is one. -/
namespace Go.Proofs.YtmmkcfiecgpkpaaGreat
open Go.RowKit
set_option linter.unusedVariables false
set_option linter.unusedSimpArgs false
set_option maxRecDepth 100000

theorem zeroByte : ∀ w, (zeroValue 5).run Tryz.prog w = .ok (.int .u8 0) w := Tryz.zeroValue5

theorem begin_any {w : World} {W : Nat → Prop} {q : Nat} {L : PLay} {M : PM} {k : Nat} {s : Slt} (H : PIn w W q L M) (hs : M.sl[k]? = some s) (n : Nat) (hn : n ≤ M.size) (hz : M.size ≤ 256) :
    Calls Tryz.prog 105 #[.pointer (some ⟨L.eb, k * 3, none⟩), .int .i64 n] w fun e w' => (∃ v, e = .returned v) ∧ PIn w' W q L { M with sl := M.sl.set k { s with c := 1, b := List.replicate n 0 } } ∧ Turned W w w' := by
  obtain ⟨e0, e1, e2, e3⟩ := H.slot hs
  have f1 := H.freeE (k * 3 + 1)
  have f2 := H.freeE (k * 3 + 2)
  obtain ⟨r, r1, r2⟩ := H.bb k s hs
  obtain ⟨n1, n2, n3⟩ := H.ne
  have hbk := H.bs k (get_lt hs)
  obtain ⟨w3, hw3⟩ : ∃ w3, (w.setCell ⟨L.eb, k * 3 + 1, none⟩ (.int .i64 1)).setCell ⟨L.eb, k * 3 + 2, none⟩ (.slice (some ⟨L.bl k, 0, none⟩) n M.size) = w3 := ⟨_, rfl⟩
  have hT3 : Turned (· = L.eb) w w3 := by rw [← hw3]; exact turned_set (turned_set (Turned.refl _ _) _ _) _ _
  have hr3 : Blk w3 (L.bl k) (byt (s.b ++ r)) 5 := r1.turned hT3 (fun e => hbk.2.1 (.inr (.inr e)))
  have H1 := H.setC hs 1
  rw [show ((1 : Nat) : Int) = 1 from rfl] at H1
  have hlen : (s.b ++ r).length = M.size := r2
  have hcut : (s.b ++ r) = (s.b ++ r).take n ++ (s.b ++ r).drop n := (List.take_append_drop _ _).symm
  have H3 : PIn w3 W q L { M with sl := M.sl.set k { s with c := 1, b := (s.b ++ r).take n } } := by
    rw [← hw3]
    have := H1.setL (k := k) (get_set_self' hs) ((s.b ++ r).take n) ⟨(s.b ++ r).drop n, by
      rw [← hcut]
      exact r1.turned (turned_set (b := L.eb) (Turned.refl _ _) _ _) (fun e => hbk.2.1 (.inr (.inr e))), by rw [← hcut]; exact hlen⟩ (m := n) (by rw [List.length_take]; omega)
    simpa using this
  have HE := Lib.hid (fun (w4 : World) (hb4 : Blk w4 (L.bl k) (laid (byt (s.b ++ r)) 0 (List.replicate n (.int .u8 0))) 5) (ht4 : Turned (· = L.bl k) w3 w4) => show PIn w4 W q L { M with sl := M.sl.set k { s with c := 1, b := List.replicate n 0 } } ∧ Turned W w w4 by
    have e : laid (byt (s.b ++ r)) 0 (List.replicate n (.int .u8 0)) = byt (List.replicate n 0 ++ (s.b ++ r).drop n) := by
      simp [laid, byt, List.map_drop]
    rw [e] at hb4
    have := H3.room (k := k) (get_set_self' hs) ht4 (List.replicate n 0) (by rw [List.length_replicate, List.length_take]; omega) ⟨_, hb4, by rw [List.length_append, List.length_replicate, List.length_drop]; show _ = M.size; omega⟩
    exact ⟨by simpa using this, (hT3.mono (fun i _ e => by subst e; exact H.ownE)).trans (ht4.mono (fun i _ e => by subst e; exact hbk.1))⟩)
  have d2 : w3.cell? ⟨L.eb, k * 3 + 2, none⟩ = some (.slice (some ⟨L.bl k, 0, none⟩) n M.size) := by
    have := (H3.slot (get_set_self' hs)).2.2.1
    rwa [List.length_take, hlen, Nat.min_eq_left hn] at this
  have HB := Lib.hid hr3
  have HN := Lib.hid (show 0 + n ≤ (byt (s.b ++ r)).length by rw [byt_length]; omega)
  have HW3 := Lib.hid hw3
  have hni : (n : Int) ≤ (M.size : Int) := by omega
  generalize M.size = sz at *
  generalize s.b.length = bn at *
  clear hw3 H1 H3 hs H hT3 hr3 r1 r2 hlen hcut hbk e0 e3
  go_enter Tryz.func105, Tryz.ntmps105
  go_upto_region 2 with fail
  rw [HW3.out]
  clear HW3 e1 e2 f1 f2
  go_wp2_with (with_reducible refine atClear ?_; refine wpList_clear_blk rfl (.tmp 19) 35 rfl 5 (.int .u8 0) Tryz.underlying35 zeroByte rfl rfl (L.bl k) 0 n _ rfl _ _ HB.out HN.out ?_; intro w4 hb4 ht4)
  go_end0
  exact ⟨⟨_, rfl⟩, HE.out w4 hb4 ht4⟩

/-- The stack has another row in its block. -/
theorem PIn.reF {w3 w6 : World} {W : Nat → Prop} {q : Nat} {L : PLay} {M : PM} (H : PIn w3 W q L M) (hT6 : Turned (· = L.sb) w3 w6) {fl : Nat} {fr : List Nat} (hfl : fl = fr.length)
    (hown : w6.ownsRow 0 3 1 (.slice (some ⟨L.sb, 0, none⟩) fl L.sc) fl (ints (nums fr.reverse))) :
    PIn (w6.setCell ⟨q, 3, none⟩ (.slice (some ⟨L.sb, 0, none⟩) fl L.sc)) W q L { M with fr := fr } := by
  subst hfl
  have hst := H.st.2
  obtain ⟨ev, hev, hl⟩ := H.ee
  obtain ⟨n1, n2, n3⟩ := H.ne
  have ht : Turned (· = q) w6 (w6.setCell ⟨q, 3, none⟩ (.slice (some ⟨L.sb, 0, none⟩) fr.length L.sc)) := turned_set (Turned.refl _ _) _ _
  refine ⟨fun i hi => by rw [size_setCell]; exact Nat.lt_of_lt_of_le (H.lt i hi) hT6.size, H.fix, H.st, H.bs, H.inj, H.ne, ?_, ?_, ⟨ev, ?_, hl⟩, fun i t hi => ?_, ?_⟩
  · exact (H.hd.turned hT6 (fun e => hst (.inl e.symm))).set 3 _
  · exact (H.gg.turned hT6 (fun e => hst (.inr (.inl e.symm)))).turned ht (Ne.symm n1)
  · exact (hev.turned hT6 (fun e => hst (.inr (.inr e.symm)))).turned ht (Ne.symm n2)
  · obtain ⟨r, r1, r2⟩ := H.bb i t hi
    have hb := H.bs i (get_lt hi)
    exact ⟨r, (r1.turned hT6 hb.2.2).turned ht (fun e => hb.2.1 (.inl e)), r2⟩
  · exact ow_turned hown ht (fun b hb e => by cases hb; exact hst (.inl e))
end Go.Proofs.YtmmkcfiecgpkpaaGreat

/- slices.Backward over numbers: its iterator goes through them from the last on. No condition. -/
namespace Go.Proofs.YtmmkcfiecgpkpaaGreat
open Go.RowKit Go.Shelf
attribute [local go_sem] Oper.semAt_some
set_option linter.unusedVariables false
set_option linter.unusedSimpArgs false
set_option maxRecDepth 100000

/-- A number of a list, with its place. -/
abbrev PlaceOf (l : List Nat) := { x : Nat × Nat // l[x.1]? = some x.2 }
theorem last_of {l : List Nat} {k : Nat} (h : k < l.length) : l[l.length - 1 - k]? = some (l[l.length - 1 - k]?.getD 0) := by
  rw [List.getElem?_eq_getElem (show l.length - 1 - k < l.length by omega)]; rfl
/-- The last so many, from the last on. -/
def bkTo (l : List Nat) : Nat → List (PlaceOf l)
  | 0 => []
  | k + 1 => if h : k < l.length then bkTo l k ++ [⟨(l.length - 1 - k, l[l.length - 1 - k]?.getD 0), last_of h⟩] else bkTo l k
theorem bkTo_len (l : List Nat) : ∀ k, k ≤ l.length → (bkTo l k).length = k
  | 0, _ => rfl
  | k + 1, h => by rw [bkTo, dif_pos (by omega)]; simp [bkTo_len l k (by omega)]
theorem bkTo_step {l : List Nat} {k : Nat} (h : k < l.length) : bkTo l (k + 1) = bkTo l k ++ [⟨(l.length - 1 - k, l[l.length - 1 - k]?.getD 0), last_of h⟩] := by rw [bkTo, dif_pos h]
theorem bkTo_pre (l : List Nat) {k n : Nat} (h : k ≤ n) : bkTo l k <+: bkTo l n := by
  obtain ⟨d, rfl⟩ := Nat.le.dest h
  induction d with
  | zero => exact List.prefix_refl _
  | succ d ih =>
    refine (ih (by omega)).trans ?_
    show _ <+: bkTo l ((k + d) + 1)
    rw [bkTo]
    split
    · exact List.prefix_append _ _
    · exact List.prefix_refl _
theorem bkTo_one {l : List Nat} {x : PlaceOf l} (h : [x] <+: bkTo l l.length) : x.1.1 = l.length - 1 ∧ 0 < l.length := by
  have h0 : 0 < l.length := by
    rcases Nat.eq_zero_or_pos l.length with e | e
    · rw [e] at h; obtain ⟨t, ht⟩ := h; cases ht
    · exact e
  refine ⟨?_, h0⟩
  have h1 := bkTo_pre l (show 1 ≤ l.length by omega)
  rw [bkTo_step h0] at h1
  obtain ⟨t, ht⟩ := h
  obtain ⟨t', ht'⟩ := h1
  rw [← ht] at ht'
  simp [bkTo] at ht'
  rw [← ht'.1]

theorem back_in (F : Fence) (n : Nat) (h : F.fn 102) (hro : F.round = none) (a : Option Addr) (m c : Nat) (w : World) :
    CallsIn F n Tryz.prog 102 #[.slice a m c] w fun e w' => e = .returned (.func (.func 125) #[] #[.pointer (some ⟨w.heap.size, 0, none⟩)]) ∧ w' = w.alloc (.cells #[.slice a m c] 23) := by
  refine callsIn_of_wp Tryz.func102 rfl h ?_ hro
  simp only [Tryz.ntmps102, List.size_toArray, List.length_cons, List.length_nil, Nat.reduceAdd, Nat.reduceSub, Array.replicate_succ, Array.replicate_zero, List.push_toArray, List.append_toArray, List.nil_append, List.cons_append]
  gi_wp2
  go_ret
  exact ⟨rfl, rfl⟩

/-- Where the numbers lie. -/
def RowLow (w : World) (sb : Nat) (l : List Nat) : Prop := ∀ i x, l[i]? = some x → w.cell? ⟨sb, i, none⟩ = some (.int .i64 (x : Nat))
theorem RowLow.below {n₀ : Nat} {w w' : World} {sb : Nat} {l : List Nat} (h : RowLow w sb l) (hb : Below n₀ w w') (hl : sb < n₀) : RowLow w' sb l := fun i x hi => (hb.cell (p := ⟨sb, i, none⟩) hl).trans (h i x hi)

set_option maxHeartbeats 1000000 in
theorem back1_in (F : Fence) (n : Nat) (h6 : F.fn 125) (hro : F.round = none) (hn : 1 ≤ n) (l Bn n₀ sb sc m : Nat) (st : List Nat) (hm : m = st.length) (hst : m ≤ 128)
    (hs : sb < n₀) (hB0 : Bn < n₀) (J Jx : List (PlaceOf st) → World → Prop)
    (W : World) (hJ : AbidesFrom W.heap.size J)
    (hY : ∀ pre x W, J pre W → pre.length < m → YieldAt F (n - 1) Tryz.prog l #[.int .i64 (x.1.1 : Nat), .int .i64 (x.1.2 : Nat)] W fun e W' =>
      (e = .returned (.bool true) ∧ J (pre ++ [x]) W' ∧ Below n₀ W W') ∨ (e = .returned (.bool false) ∧ Jx (pre ++ [x]) W'))
    (hn₀ : n₀ ≤ W.heap.size) (hBn : W.cell? ⟨Bn, 0, none⟩ = some (.slice (some ⟨sb, 0, none⟩) m sc)) (hA : RowLow W sb st) (h0 : J [] W) :
    CallsIn F n Tryz.prog 125 #[.func (.yield l) #[] #[], .pointer (some ⟨Bn, 0, none⟩)] W fun e W' => (∃ v, e = .returned v) ∧
      ((∃ ys, ys = bkTo st m ∧ J ys W') ∨ (∃ pre, pre <+: bkTo st m ∧ Jx pre W')) := by
  have HA := Lib.hid hA
  have HJ := Lib.hid hJ
  have HM := Lib.hid hm
  clear hJ hA hm
  refine callsIn_of_wp Tryz.func125 rfl h6 ?_ hro
  simp only [Tryz.ntmps125, List.size_toArray, List.length_cons, List.length_nil, Nat.reduceAdd, Nat.reduceSub, Array.replicate_succ, Array.replicate_zero, List.push_toArray, List.append_toArray, List.nil_append, List.cons_append]
  gi_wp2
  gi_loopw [3] (fun i wr => ∃ k : Nat, k ≤ m ∧ i = .int .i64 ((m : Int) - 1 - k) ∧ J (bkTo st k) wr ∧ Below n₀ W wr)
    (fun i _ => ((intOf i) + 1).toNat)
  case atStart => exact ⟨0, Nat.zero_le _, by go_num, h0, Below.refl _ _⟩
  case round =>
    obtain ⟨k, hk, rfl, hJs, hnx⟩ := hrel
    have cB : wr.cell? ⟨Bn, 0, none⟩ = some (.slice (some ⟨sb, 0, none⟩) m sc) := (hnx.cell (p := ⟨Bn, 0, none⟩) hB0).trans hBn
    by_cases hlt : k < m
    · obtain ⟨j, hj⟩ : ∃ j : Nat, (m : Int) - 1 - k = j := ⟨m - 1 - k, by omega⟩
      rw [hj]
      have hjm : j < m := by omega
      obtain ⟨x, hx⟩ := get_some (l := st) (i := j) (by rw [← HM.out]; exact hjm)
      have cx := (HA.out.below hnx hs) j x hx
      obtain ⟨fn, tmps, assign, body, hy, hR⟩ := hY _ ⟨(j, x), hx⟩ _ hJs (by rw [bkTo_len _ _ (by rw [← HM.out]; exact hk)]; exact hlt)
      dsimp only at hy
      have HL := Lib.hid (show bkTo st (k + 1) = bkTo st k ++ [⟨(j, x), hx⟩] by
        have e : st.length - 1 - k = j := by rw [← HM.out]; omega
        rw [bkTo_step (by rw [← HM.out]; exact hlt)]
        congr 2
        apply Subtype.ext
        show (st.length - 1 - k, st[st.length - 1 - k]?.getD 0) = (j, x)
        rw [e, hx]; rfl)
      have HJ2 := Lib.hid hj
      clear hj
      gi_wp2
      refine hR.mono ?_
      rintro e W3 (⟨rfl, hJ3, hk3⟩ | ⟨rfl, hJx3⟩)
      · gi_wp2
        go_roundw
        case rel => exact ⟨k + 1, by omega, congrArg (Value.int .i64) (by have := HJ2.out; omega), by rw [HL.out]; exact hJ3, hnx.trans hk3⟩
        case measure => simp [intOf]
      · gi_wp2
        refine bodyPost_ret (results_none rfl _ _ _) rfl ?_
        exact ⟨⟨_, rfl⟩, .inr ⟨bkTo st (k + 1), bkTo_pre st (by omega), by rw [HL.out]; exact hJx3⟩⟩
    · obtain rfl : k = m := by omega
      have hneg : ¬ ((0 : Int) ≤ (k : Int) - 1 - k) := by omega
      gi_wp2
      go_end0
      first
        | exact ⟨⟨_, rfl⟩, .inl hJs⟩
        | exact ⟨⟨_, rfl⟩, .inl ⟨_, rfl, hJs⟩⟩

theorem back_stops (F : Fence) (n : Nat) (h6 : F.fn 125) (hro : F.round = none) (hn : 1 ≤ n) (Bn n₀ sb sc m : Nat) (st : List Nat) (w : World) (hm : m = st.length) (hst : m ≤ 128)
    (hs : sb < n₀) (hB0 : Bn < n₀) (hn₀ : n₀ ≤ w.heap.size) (hc : w.cell? ⟨Bn, 0, none⟩ = some (.slice (some ⟨sb, 0, none⟩) m sc)) (hA : RowLow w sb st) :
    SeqStopsK F n Tryz.prog 125 #[.pointer (some ⟨Bn, 0, none⟩)] (fun x : PlaceOf st => #[.int .i64 (x.1.1 : Nat), .int .i64 (x.1.2 : Nat)]) (Below n₀) (fun ys => ys = bkTo st m) (fun pre => pre <+: bkTo st m) m w := fun l J Jx W hW hJ _ hY h0 =>
  back1_in F n h6 hro hn l Bn n₀ sb sc m st hm hst hs hB0 J Jx W hJ hY (Nat.le_trans hn₀ hW.size) ((hW.cell (p := ⟨Bn, 0, none⟩) (cell_lt hc)).trans hc)
    (hA.below hW (by omega)) h0
end Go.Proofs.YtmmkcfiecgpkpaaGreat

/- slices.Delete of one number, wherever it stands. No condition. -/
namespace Go.Proofs.YtmmkcfiecgpkpaaGreat
open Go.RowKit
set_option linter.unusedVariables false
set_option linter.unusedSimpArgs false
set_option maxRecDepth 100000

theorem laid_del {A B r : List Value} {x z : Value} {i p : Nat} (hA : A.length = i) (hB : B.length = p) : laid (laid (A ++ (x :: (B ++ r))) i B) (i + p) (List.replicate 1 z) = (A ++ B) ++ z :: r := by
  subst hA
  subst hB
  unfold laid
  have e1 : List.drop (A.length + B.length) (A ++ x :: (B ++ r)) = List.drop B.length (x :: (B ++ r)) := by rw [List.drop_append, List.drop_eq_nil_of_le (by omega)]; simp
  rw [List.take_left, e1, ← List.append_assoc A B, List.take_append_of_le_length (by simp), List.take_of_length_le (by simp)]
  have e2 : List.drop (A.length + B.length + (List.replicate 1 z).length) (A ++ B ++ List.drop B.length (x :: (B ++ r))) = r := by
    rw [List.drop_append, List.drop_eq_nil_of_le (by simp)]
    simp
    try rw [show A.length + B.length + 1 - (A.length + B.length) = 1 by omega]
    try (cases B with
    | nil => simp
    | cons b B => simp [List.drop_append])
  rw [e2]
  rfl

set_option maxHeartbeats 4000000 in
theorem delete_in {w : World} {sb i p sc : Nat} {A B : List Int} {x : Int} (h : w.ownsRow 0 3 1 (.slice (some ⟨sb, 0, none⟩) (i + p + 1) sc) (i + p + 1) (ints (A ++ x :: B))) (hA : A.length = i) (hB : B.length = p) (hp : 0 < p) (hl : i + p ≤ 128) (a b : Int) (ha : a = i) (hb : b = (i : Int) + 1) :
    Calls Tryz.prog 104 #[.slice (some ⟨sb, 0, none⟩) (i + p + 1 : Nat) sc, .int .i64 a, .int .i64 b] w fun e w' => e = .returned (.slice (some ⟨sb, 0, none⟩) (i + p : Nat) sc) ∧ w'.ownsRow 0 3 1 (.slice (some ⟨sb, 0, none⟩) (i + p) sc) (i + p) (ints (A ++ B)) ∧ Turned (· = sb) w w' := by
  subst ha
  subst hb
  obtain ⟨i0, hi, hz0, hz1, hz2⟩ := info_parts infoIntW
  obtain ⟨r, hblk, hx, hcc, hn, hm, _⟩ := ow_parts h
  have eX : ints (A ++ x :: B) ++ r = ints A ++ (Value.int .i64 x :: (ints B ++ r)) := by simp [ints]
  rw [eX] at hblk hcc
  have hsc1 : ¬ sc = i + 1 := by omega
  have hsc2 : i ≤ sc := by omega
  have hf0 : (0 : Int) ≤ (i : Int) + 1 := by omega
  have hf1 : (i : Int) ≤ (i : Int) + (p : Int) := by omega
  have hBl : (ints B).length = p * 1 := by rw [ints_length, hB, Nat.mul_one]
  have HL := Lib.hid (show ∀ j, j < (ints B).length → i + j < (ints A ++ (Value.int .i64 x :: (ints B ++ r))).length from fun j hj => by simp [ints_length]; rw [ints_length] at hj; omega)
  have HS := Lib.hid (show ∀ (j : Nat) (u : Value), (ints B)[j]? = some u → w.drew.cell? ((⟨sb, i + 1, none⟩ : Addr).add j) = some u from fun j u hj => by
    rw [Addr.add_lit]
    refine hblk.drew.cell ?_
    rw [List.getElem?_append_right (by rw [ints_length]; omega), ints_length, hA, show i + 1 + j - i = j + 1 by omega, List.getElem?_cons_succ, List.getElem?_append_left (List.getElem?_eq_some_iff.1 hj).1]
    exact hj)
  have HW := Lib.hid (show ∀ j, j < (ints B).length → (w.drew.cell? ⟨sb, 0 + i * 1 + j, none⟩).isSome = true ∧ w.drew.frozen? ⟨sb, 0 + i * 1 + j, none⟩ = false from fun j hj => ⟨by rw [hblk.drew.cell (o := 0 + i * 1 + j) (List.getElem?_eq_getElem (by have := HL.out j hj; omega))]; rfl, hblk.drew.free _⟩)
  obtain ⟨b1, t1⟩ := blk_setCells 3 sb (ints B) i w.drew _ hblk.drew (by simp [ints_length]; omega)
  have HB := Lib.hid b1
  have HT := Lib.hid t1
  have HN := Lib.hid (show i + p + 1 ≤ (laid (ints A ++ (Value.int .i64 x :: (ints B ++ r))) i (ints B)).length by simp [laid, ints_length]; omega)
  have HE := Lib.hid (fun (w' : World) (hb : Blk w' sb (laid (laid (ints A ++ (Value.int .i64 x :: (ints B ++ r))) i (ints B)) (i + p) (List.replicate 1 (Value.int .i64 0))) 3) => show w'.ownsRow 0 3 1 (.slice (some ⟨sb, 0, none⟩) (i + p) sc) (i + p) (ints (A ++ B)) by
    rw [laid_del (by rw [ints_length, hA]) (by rw [ints_length, hB]), show ints A ++ ints B = ints (A ++ B) by simp [ints]] at hb
    exact ow_of_parts hb (by simp [ints, hA, hB]) (by simp [ints_length] at hcc ⊢; omega) hm (Nat.zero_le _))
  have H1 := Lib.hid (show ∀ u ∈ ints B, u.oneCell' = true from ow_ints (by simp [ints, isIntW]))
  have HBL := Lib.hid hBl
  clear h hblk hx hcc hm eX hBl b1 t1 hB hA
  go_enter Tryz.func104, Tryz.ntmps104
  go_wp2
  go_region_law (refine step_append_room rfl (.tmp 22) (.tmp 25) 23 rfl 3 i0 1 Tryz.underlying23 hi hz1 sb 0 i sc rfl ⟨sb, i + 1, none⟩ p _ (ints B) rfl HBL.out HS.out H1.out (by omega) HW.out ?_)
  all_goals (go_wp2_with (with_reducible refine atClear ?_; refine wpList_clear_blk rfl (.tmp 31) 23 rfl 3 (.int .i64 0) Tryz.underlying23 zeroInt rfl rfl sb (i + p) (i + p + 1 - (i + p)) _ rfl _ _ HB.out (by have := HN.out; omega) ?_; intro w1 hb1 ht1; rw [show i + p + 1 - (i + p) = 1 by omega] at hb1))
  all_goals (go_ret; exact ⟨rfl, HE.out _ hb1, ((Turned.refl _ w).drew.trans HT.out).trans ht1⟩)

/-- One of a list's numbers, wherever it stands. -/
theorem delete_any {w : World} {sb i fl sc : Nat} {l : List Nat} {x : Nat} (h : w.ownsRow 0 3 1 (.slice (some ⟨sb, 0, none⟩) (fl + 1) sc) (fl + 1) (ints (nums l))) (hx : l[i]? = some x) (hfl : fl + 1 = l.length) (hl : fl ≤ 128) :
    Calls Tryz.prog 104 #[.slice (some ⟨sb, 0, none⟩) (fl + 1 : Nat) sc, .int .i64 (i : Nat), .int .i64 ((i : Int) + 1)] w fun e w' => e = .returned (.slice (some ⟨sb, 0, none⟩) fl sc) ∧ w'.ownsRow 0 3 1 (.slice (some ⟨sb, 0, none⟩) fl sc) fl (ints (nums (l.eraseIdx i))) ∧ Turned (· = sb) w w' := by
  have hil := get_lt hx
  have e1 : l = l.take i ++ x :: l.drop (i + 1) := by
    have := List.getElem?_eq_some_iff.1 hx
    obtain ⟨h1, h2⟩ := this
    rw [← h2, List.getElem_cons_drop, List.take_append_drop]
  have e2 : l.eraseIdx i = l.take i ++ l.drop (i + 1) := List.eraseIdx_eq_take_drop_succ ..
  have hA : (nums (l.take i)).length = i := by rw [nums_length, List.length_take]; omega
  have hn : nums l = nums (l.take i) ++ (x : Int) :: nums (l.drop (i + 1)) := by
    conv => lhs; rw [e1]
    simp [nums]
  have hn2 : nums (l.eraseIdx i) = nums (l.take i) ++ nums (l.drop (i + 1)) := by rw [e2]; simp [nums]
  rw [hn2]
  rw [hn] at h
  rcases Nat.eq_zero_or_pos (l.drop (i + 1)).length with hp | hp
  · have hd : l.drop (i + 1) = [] := List.eq_nil_of_length_eq_zero hp
    rw [List.length_drop] at hp
    obtain rfl : i = fl := by omega
    rw [hd] at h ⊢
    simp only [show nums [] = [] from rfl, List.append_nil] at h ⊢
    exact delete_last h hl _ _ rfl rfl
  · obtain ⟨p, hpp⟩ : ∃ p, p = (l.drop (i + 1)).length := ⟨_, rfl⟩
    have hB : (nums (l.drop (i + 1))).length = p := by rw [nums_length, hpp]
    rw [List.length_drop] at hpp
    obtain rfl : fl = i + p := by omega
    exact delete_in h hA hB (by rw [← hB, nums_length]; exact hp) hl _ _ rfl rfl
end Go.Proofs.YtmmkcfiecgpkpaaGreat

/- What Take of the program's pool does. No condition but that the pool is one. -/
namespace Go.Proofs.YtmmkcfiecgpkpaaGreat
open Go.RowKit Go.Shelf
attribute [local go_sem] Oper.semAt_some
set_option linter.unusedVariables false
set_option linter.unusedSimpArgs false
set_option maxRecDepth 100000

/-- The slot at a place of the stack is taken. -/
def PM.takeAt (M : PM) (i k n : Nat) : PM := { M with sl := M.sl.set k ⟨(M.sl[k]?.getD ⟨0, 0, []⟩).g, 1, List.replicate n 0⟩, fr := (M.fr.reverse.eraseIdx i).reverse }

/-- The four boxes that Take has. -/
def tkW (w : World) (q : Nat) (n a b : Int) : World := (((w.alloc (.cells #[.pointer (some ⟨q, 0, none⟩)] 71)).alloc (.cells #[.int .i64 n] 3)).alloc (.cells #[.int .i64 a] 3)).alloc (.cells #[.int .i64 b] 27)
theorem tkW_below (w : World) (q : Nat) (n a b : Int) : Below w.heap.size w (tkW w q n a b) := ((((Below.refl _ w).alloc (Nat.le_refl _) _).alloc (by simp) _).alloc (by simp; omega) _).alloc (by simp; omega) _
theorem tkW_still (w : World) (q : Nat) (n a b : Int) : Still w (tkW w q n a b) := below_turned (tkW_below w q n a b) (Nat.le_refl _)
theorem tkW_size (w : World) (q : Nat) (n a b : Int) : (tkW w q n a b).heap.size = w.heap.size + 4 := by simp [tkW]
theorem tkW_cells (w : World) (q : Nat) (n a b : Int) : (tkW w q n a b).cell? ⟨w.heap.size, 0, none⟩ = some (.pointer (some ⟨q, 0, none⟩)) ∧ (tkW w q n a b).cell? ⟨w.heap.size + 1, 0, none⟩ = some (.int .i64 n) ∧
    (tkW w q n a b).cell? ⟨w.heap.size + 2, 0, none⟩ = some (.int .i64 a) ∧ (tkW w q n a b).cell? ⟨w.heap.size + 3, 0, none⟩ = some (.int .i64 b) ∧ (tkW w q n a b).frozen? ⟨w.heap.size + 2, 0, none⟩ = false ∧ (tkW w q n a b).frozen? ⟨w.heap.size + 3, 0, none⟩ = false := by
  have c0 := cnew w (.pointer (some ⟨q, 0, none⟩)) 71
  have c1 := cnew (w.alloc (.cells #[.pointer (some ⟨q, 0, none⟩)] 71)) (.int .i64 n) 3
  have c2 := cnew ((w.alloc (.cells #[.pointer (some ⟨q, 0, none⟩)] 71)).alloc (.cells #[.int .i64 n] 3)) (.int .i64 a) 3
  have c3 := cnew (((w.alloc (.cells #[.pointer (some ⟨q, 0, none⟩)] 71)).alloc (.cells #[.int .i64 n] 3)).alloc (.cells #[.int .i64 a] 3)) (.int .i64 b) 27
  simp only [World.size_alloc] at c1 c2 c3
  exact ⟨calloc _ (calloc _ (calloc _ c0.1)), calloc _ (calloc _ c1.1), calloc _ c2.1, c3.1, falloc _ c2.1 c2.2, c3.2⟩

theorem Turned.frozen {S : Nat → Prop} {w w' : World} (h : Turned S w w') {p : Addr} (hp : p.block < w.heap.size) (hs : ¬ S p.block) : w'.frozen? p = w.frozen? p := World.frozen?_of_block (w := w) (h.block p.block hp hs)

theorem takeAt_last {M : PM} {i k n : Nat} (h : M.fr.reverse[i]? = some k) (hi : i = M.fr.reverse.length - 1) (hl : 0 < M.fr.reverse.length) (hn : n ≤ M.size) : M.takeAt i k n = M.takeM n ∧ M.takeH n = ((M.sl[k]?.getD ⟨0, 0, []⟩).g : Int) * 128 + (k : Nat) + 1 ∧ M.takeE n = 0 := by
  cases hf : M.fr with
  | nil => rw [hf] at hl; simp at hl
  | cons a r =>
    rw [hf] at h hi
    rw [List.reverse_cons] at h hi
    rw [List.length_append, List.length_singleton, Nat.add_sub_cancel] at hi
    subst hi
    rw [List.getElem?_append_right (Nat.le_refl _), Nat.sub_self] at h
    obtain rfl : a = k := by simpa using h
    have h0 : ¬ ((n : Int) < 0 ∨ (M.size : Int) < n) := by omega
    refine ⟨?_, ?_, ?_⟩
    · unfold PM.takeAt PM.takeM
      rw [if_neg h0, hf]
      simp only [List.reverse_cons, Int.toNat_natCast]
      rw [List.eraseIdx_append_of_length_le (Nat.le_refl _)]
      simp
    · unfold PM.takeH
      rw [if_neg h0, hf]
    · unfold PM.takeE
      rw [if_neg (by omega), if_neg (by omega), hf]
      simp
theorem take_none {M : PM} {n : Nat} (h : M.fr = []) (hn : n ≤ M.size) : M.takeM n = M ∧ M.takeH n = 0 ∧ M.takeE n = 50 := by
  have h0 : ¬ ((n : Int) < 0 ∨ (M.size : Int) < n) := by omega
  refine ⟨?_, ?_, ?_⟩
  · unfold PM.takeM; rw [if_neg h0, h]
  · unfold PM.takeH; rw [if_neg h0, h]
  · unfold PM.takeE; rw [if_neg (by omega), if_neg (by omega), h]; rfl

theorem keepsFrom_turned {S : Nat → Prop} {B : Nat} {V W : World} (h : Turned S V W) (hS : ∀ k, S k → k < B) : KeepsFrom B V W :=
  ⟨h.size, fun k o hB hk _ => (h.block k (Array.getElem?_eq_some_iff.1 hk).1 (fun e => by have := hS k e; omega)).trans hk⟩

theorem two_set {V : World} {b2 b3 : Nat} {x y a b : Value} (h2 : V.cell? ⟨b2, 0, none⟩ = some x) (h3 : V.cell? ⟨b3, 0, none⟩ = some y) (hne : b2 ≠ b3) :
    ((V.setCell ⟨b2, 0, none⟩ a).setCell ⟨b3, 0, none⟩ b).cell? ⟨b2, 0, none⟩ = some a ∧ ((V.setCell ⟨b2, 0, none⟩ a).setCell ⟨b3, 0, none⟩ b).cell? ⟨b3, 0, none⟩ = some b := by
  constructor
  · rw [World.cell?_setCell_far _ _ _ _ (Ne.symm hne)]
    exact World.cell?_setCell_same' _ _ _ (by rw [h2]; rfl)
  · refine World.cell?_setCell_same' _ _ _ ?_
    rw [World.cell?_setCell_far _ _ _ _ hne, h3]
    rfl

theorem tkW_two (w : World) (q : Nat) (n : Int) (nq : Nat) (a b : Value) : ((((tkW w q n 0 0).drewN nq).setCell ⟨w.heap.size + 1 + 1, 0, none⟩ a).setCell ⟨w.heap.size + 1 + 1 + 1, 0, none⟩ b).cell? ⟨w.heap.size + 1 + 1, 0, none⟩ = some a ∧
    ((((tkW w q n 0 0).drewN nq).setCell ⟨w.heap.size + 1 + 1, 0, none⟩ a).setCell ⟨w.heap.size + 1 + 1 + 1, 0, none⟩ b).cell? ⟨w.heap.size + 1 + 1 + 1, 0, none⟩ = some b := by
  obtain ⟨_, _, y2, y3, _, _⟩ := tkW_cells w q n 0 0
  exact two_set (V := (tkW w q n 0 0).drewN nq) (b2 := w.heap.size + 1 + 1) (b3 := w.heap.size + 1 + 1 + 1) (x := .int .i64 0) (y := .int .i64 0) y2 y3 (by omega)

/-- The ways of Take that return ahead of the loop. -/
theorem take_early (F : Fence) (hF : F = Fence.wide) {w : World} {W : Nat → Prop} {q : Nat} {L : PLay} {M : PM} {N : Nat} (H : PIn w W q L M) (hM : M.Ok N) (n : Int) (hn : n < 0 ∨ (M.size : Int) < n) (er : Int) (her : er = if n < 0 then 2 else 3) :
    CallsIn F 3 Tryz.prog 72 #[.pointer (some ⟨q, 0, none⟩), .int .i64 n] w fun e w' => e = .returned (.tuple #[.int .i64 0, .int .i64 er]) ∧ Still w w' := by
  have HF := Lib.hid hF
  have HM := Lib.hid (fun m w' (hb : Below w.heap.size w w') => made_in F m q _ _ _ w' hM.pos (by rw [hF]; trivial) (by rw [hF]; rfl) ((hb.cell (p := ⟨q, 1, none⟩) (H.lt _ (H.fix _ (.inl rfl)))).trans (H.hd.cell rfl)))
  have hro : F.round = none := by rw [hF]; rfl
  have h3 : F.fn 72 := by rw [hF]; trivial
  have h4 : F.fn 82 := by rw [hF]; trivial
  have hq : q < w.heap.size := H.lt _ (H.fix _ (.inl rfl))
  have cs : (tkW w q n 0 0).cell? ⟨q, 0, none⟩ = some (.int .i64 M.size) := ((tkW_below w q n 0 0).cell (p := ⟨q, 0, none⟩) hq).trans (H.hd.cell rfl)
  obtain ⟨b0, b1, b2, b3, f2, f3⟩ := tkW_cells w q n 0 0
  have HE := Lib.hid (tkW_cells w q n 0 er)
  have HS := Lib.hid (tkW_still w q n 0 er)
  generalize M.size = sz at *
  clear H hF hM
  have HR := Lib.hid her
  refine callsIn_of_wp_marks Tryz.func72 rfl h3 ?_ hro
  simp only [Tryz.ntmps72, List.size_toArray, List.length_cons, List.length_nil, Nat.reduceAdd, Nat.reduceSub, Array.replicate_succ, Array.replicate_zero, List.push_toArray, List.append_toArray, List.nil_append, List.cons_append]
  by_cases h0 : n < 0
  · rw [if_pos h0] at her
    subst her
    clear hn
    gi_wp2_with (gi_at_call 82; refine (HM.out _ _ (((((Below.refl _ w).alloc (Nat.le_refl _) _).alloc (by simp) _).alloc (by simp; omega) _).alloc (by simp; omega) _)).mono ?_; rintro e w' ⟨rfl, rfl⟩)
    obtain ⟨_, _, e2, e3, _, _⟩ := HE.out
    refine ⟨.tuple #[.int .i64 0, .int .i64 2], ?_, rfl, HS.out⟩
    unfold tkW at e2 e3
    rw [results_cell2 rfl]
    go_simp
  · rw [if_neg h0] at her
    subst her
    have h1 : (sz : Int) < n := by omega
    have h2 : 0 ≤ n := by omega
    unfold tkW at cs
    clear hn
    gi_wp2_with (gi_at_call 82; refine (HM.out _ _ (((((Below.refl _ w).alloc (Nat.le_refl _) _).alloc (by simp) _).alloc (by simp; omega) _).alloc (by simp; omega) _)).mono ?_; rintro e w' ⟨rfl, rfl⟩)
    have hmx : Tryz.prog.follows .mixedOrders = true := by kernel_rfl
    obtain rfl := HF.out
    gi_quiet (fail)
    gi_wp2
    obtain ⟨_, _, e2, e3, _, _⟩ := HE.out
    have hS := (tkW_still w q n 0 0).drewN nq
    have hz := tkW_two w q n nq (.int .i64 0) (.int .i64 3)
    unfold tkW at hz hS
    obtain ⟨z2, z3⟩ := hz
    refine ⟨.tuple #[.int .i64 0, .int .i64 3], ?_, rfl, ?_⟩
    rotate_left
    · exact (hS.setCell (p := ⟨w.heap.size + 1 + 1, 0, none⟩) (.inr (by simp; omega)) _).setCell (p := ⟨w.heap.size + 1 + 1 + 1, 0, none⟩) (.inr (by simp; omega)) _
    rw [results_cell2 rfl]
    go_simp

set_option maxHeartbeats 2000000 in
theorem take_loop (F : Fence) (hF : F = Fence.wide) {w : World} {W : Nat → Prop} {q : Nat} {L : PLay} {M : PM} {N : Nat} (H : PIn w W q L M) (hM : M.Ok N) (hN : N < 1000000) (n : Nat) (hn : n ≤ M.size) :
    CallsIn F 3 Tryz.prog 72 #[.pointer (some ⟨q, 0, none⟩), .int .i64 (n : Int)] w fun e w' => e = .returned (.tuple #[.int .i64 (M.takeH n), .int .i64 (M.takeE n)]) ∧ Goes (pT q (M.takeM n)) W w w' := by
  have HF := Lib.hid hF
  have HM := Lib.hid (fun m w' (hb : Below w.heap.size w w') => made_in F m q _ _ _ w' hM.pos (by rw [hF]; trivial) (by rw [hF]; rfl) ((hb.cell (p := ⟨q, 1, none⟩) (H.lt _ (H.fix _ (.inl rfl)))).trans (H.hd.cell rfl)))
  have hro : F.round = none := by rw [hF]; rfl
  have h3 : F.fn 72 := by rw [hF]; trivial
  have h4 : F.fn 82 := by rw [hF]; trivial
  have h5 : F.fn 102 := by rw [hF]; trivial
  have h6 : F.fn 125 := by rw [hF]; trivial
  have h7 : F.fn 103 := by rw [hF]; trivial
  have hq : q < w.heap.size := H.lt _ (H.fix _ (.inl rfl))
  have hsb : L.sb < w.heap.size := H.lt _ H.st.1
  have cs0 : (tkW w q n 0 0).cell? ⟨q, 0, none⟩ = some (.int .i64 M.size) := ((tkW_below w q n 0 0).cell (p := ⟨q, 0, none⟩) hq).trans (H.hd.cell rfl)
  obtain ⟨fl, hfl⟩ : ∃ fl, fl = M.fr.reverse.length := ⟨_, rfl⟩
  have hfl2 : fl = M.fr.length := by rw [hfl, List.length_reverse]
  have hfm : fl ≤ 128 := by rw [hfl2]; exact hM.frlen
  have cs3 : (tkW w q n 0 0).cell? ⟨q, 3, none⟩ = some (.slice (some ⟨L.sb, 0, none⟩) fl L.sc) := by
    refine ((tkW_below w q n 0 0).cell (p := ⟨q, 3, none⟩) hq).trans ?_
    rw [hfl2]; exact H.hd.cell rfl
  have hrow : RowLow w L.sb M.fr.reverse := fun i x hx => by
    have hss := NumsAt.of_own (l := nums M.fr.reverse) H.ss (by rw [nums_length, List.length_reverse])
    obtain ⟨b, o, e, hc⟩ := hss i (x : Int) (nums_get hx)
    cases e
    rwa [Nat.zero_add] at hc
  obtain ⟨b0, b1, b2, b3, f2, f3⟩ := tkW_cells w q n 0 0
  have hn1 : (n : Int) ≤ (M.size : Int) := by omega
  have hn0 : (0 : Int) ≤ (n : Int) := by omega
  have hmx : Tryz.prog.follows .mixedOrders = true := by kernel_rfl
  obtain ⟨sz, hsz⟩ : ∃ sz, sz = M.size := ⟨_, rfl⟩
  rw [← hsz] at cs0 hn1
  have HSZ := Lib.hid hsz
  have HFL := Lib.hid hfl
  have HFL2 := Lib.hid hfl2
  have HH := Lib.hid H
  have HMO := Lib.hid hM
  unfold tkW at cs0 cs3
  clear H hF hM hsz hfl hfl2 hn
  refine callsIn_of_wp_marks Tryz.func72 rfl h3 ?_ hro
  simp only [Tryz.ntmps72, List.size_toArray, List.length_cons, List.length_nil, Nat.reduceAdd, Nat.reduceSub, Array.replicate_succ, Array.replicate_zero, List.push_toArray, List.append_toArray, List.nil_append, List.cons_append]
  gi_wp2_with (gi_at_call 82; refine (HM.out _ _ (((((Below.refl _ w).alloc (Nat.le_refl _) _).alloc (by simp) _).alloc (by simp; omega) _).alloc (by simp; omega) _)).mono ?_; rintro e w' ⟨rfl, rfl⟩)
  obtain rfl := HF.out
  gi_quiet (fail)
  gi_wp2_with (gi_at_call 102; refine (back_in _ _ h5 hro _ _ _ _).mono ?_; rintro e w' ⟨rfl, rfl⟩)
  simp only [show w.heap.size + 1 + 1 + 1 + 1 = w.heap.size + 4 from rfl, show w.heap.size + 1 + 1 + 1 = w.heap.size + 3 from rfl, show w.heap.size + 1 + 1 = w.heap.size + 2 from rfl]
  obtain ⟨W1, hW1⟩ : ∃ W1, (tkW w q n 0 0).drewN nq = W1 := ⟨_, rfl⟩
  have hB1 : Below w.heap.size w W1 := by rw [← hW1]; exact ⟨(tkW_below w q n 0 0).os, (tkW_below w q n 0 0).tape, (tkW_below w q n 0 0).output, (tkW_below w q n 0 0).size, (tkW_below w q n 0 0).block⟩
  have hsz1 : W1.heap.size = w.heap.size + 4 := by rw [← hW1]; exact tkW_size w q n 0 0
  have d : W1.cell? ⟨w.heap.size, 0, none⟩ = some (.pointer (some ⟨q, 0, none⟩)) ∧ W1.cell? ⟨w.heap.size + 1, 0, none⟩ = some (.int .i64 n) ∧
    W1.cell? ⟨w.heap.size + 2, 0, none⟩ = some (.int .i64 0) ∧ W1.cell? ⟨w.heap.size + 3, 0, none⟩ = some (.int .i64 0) ∧ W1.frozen? ⟨w.heap.size + 2, 0, none⟩ = false ∧ W1.frozen? ⟨w.heap.size + 3, 0, none⟩ = false := by rw [← hW1]; exact tkW_cells w q n 0 0
  unfold tkW at hW1
  rw [hW1]
  obtain ⟨d0, d1, d2, d3, g2, g3⟩ := d
  have hcN := cnew W1 (.slice (some ⟨L.sb, 0, none⟩) fl L.sc) 23
  rw [hsz1] at hcN
  have hB2 : Below w.heap.size w (W1.alloc (.cells #[.slice (some ⟨L.sb, 0, none⟩) fl L.sc] 23)) := hB1.alloc (by omega) _
  have hWq := fun k (hk : W k) => HH.out.lt k hk
  have HWQ := Lib.hid hWq
  have hsz2 : (W1.alloc (.cells #[.slice (some ⟨L.sb, 0, none⟩) fl L.sc] 23)).heap.size = w.heap.size + 5 := by rw [World.size_alloc, hsz1]
  clear hWq b0 b1 b2 b3 f2 f3 cs0 cs3 hW1
  refine wpIn_rangeFunc_ownG hro (by omega) (gf := 125) (lb := #[.pointer (some ⟨w.heap.size + 4, 0, none⟩)]) rfl h6 (enters_of Tryz.func125 (by kernel_rfl) rfl)
    (back_stops _ _ h6 hro (by omega) (w.heap.size + 4) (w.heap.size + 5) L.sb L.sc fl M.fr.reverse _ HFL.out hfm (by omega) (by omega) (by omega) hcN.1 (hrow.below hB2 hsb)) belowK_t (belowK_b (by omega)) (Below.refl _ _) (fun _ => rfl)
    (fun pre V => (pre = [] ∧ V.cell? ⟨w.heap.size, 0, none⟩ = some (.pointer (some ⟨q, 0, none⟩)) ∧ V.cell? ⟨w.heap.size + 1, 0, none⟩ = some (.int .i64 n) ∧
      V.cell? ⟨w.heap.size + 2, 0, none⟩ = some (.int .i64 0) ∧ V.cell? ⟨w.heap.size + 3, 0, none⟩ = some (.int .i64 0) ∧ V.frozen? ⟨w.heap.size + 2, 0, none⟩ = false ∧ V.frozen? ⟨w.heap.size + 3, 0, none⟩ = false) ∧ Below w.heap.size w V)
    (fun c pre V => c = .ret ∧ ∃ x : PlaceOf M.fr.reverse, pre = [x] ∧ V.cell? ⟨w.heap.size + 2, 0, none⟩ = some (.int .i64 (((M.sl[x.1.2]?.getD ⟨0, 0, []⟩).g : Int) * 128 + (x.1.2 : Nat) + 1)) ∧ V.cell? ⟨w.heap.size + 3, 0, none⟩ = some (.int .i64 0) ∧
      PIn V W q L (M.takeAt x.1.1 x.1.2 n) ∧ Turned W w V)
    (OwnFrom.and (Own.from (fun s A B row hs hg hr => ⟨hs.1, cell_kept hs.2.1 hg hr, cell_kept hs.2.2.1 hg hr, cell_kept hs.2.2.2.1 hg hr, cell_kept hs.2.2.2.2.1 hg hr, (frozen_kept hs.2.2.2.1 hg hr).trans hs.2.2.2.2.2.1, (frozen_kept hs.2.2.2.2.1 hg hr).trans hs.2.2.2.2.2.2⟩) _) (ownFrom_below (Nat.le_refl _) (by omega)))
    (fun c s A B row hs hg hr => by
      obtain ⟨e1, x, e2, e3, e4, e5, e6⟩ := hs
      have ht : Turned (fun k => row = some k) A B := (Turned.refl _ A).grown hg (fun k e => .inl e)
      exact ⟨e1, x, e2, cell_kept e3 hg (fun r e => (hr r e).2), cell_kept e4 hg (fun r e => (hr r e).2), e5.turned ht (fun k hk e => by have := (hr k e).1; have := HWQ.out k hk; omega), e6.past ht (fun i e => .inr (by have := (hr i e).1; omega))⟩)
    ⟨⟨rfl, calloc _ d0, calloc _ d1, calloc _ d2, calloc _ d3, falloc _ d2 g2, falloc _ d3 g3⟩, hB2⟩
    (fun x => { tmps := #[.pointer (some ⟨q, 0, none⟩), .int .i64 (n : Int), .pointer (some ⟨w.heap.size, 0, none⟩), .pointer (some ⟨w.heap.size + 1, 0, none⟩), .pointer (some ⟨w.heap.size + 2, 0, none⟩), .pointer (some ⟨w.heap.size + 3, 0, none⟩), .int .i64 (x.1.1 : Nat), .int .i64 (x.1.2 : Nat), undef, undef, .pointer (some ⟨q, 0, none⟩), .bool true, .bool false, .int .i64 (n : Int), .bool (decide ((n : Int) < 0)), .int .i64 (n : Int), .pointer (some ⟨q, 0, none⟩), .pointer (some ⟨q, 0, none⟩), .pointer (some ⟨q, 0, none⟩), .int .i64 (sz : Int), .bool false, .pointer (some ⟨q, 0, none⟩), .pointer (some ⟨q, 0, none⟩), .pointer (some ⟨q, 3, none⟩), .slice (some ⟨L.sb, 0, none⟩) fl L.sc, .func (.func 125) #[] #[.pointer (some ⟨w.heap.size + 4, 0, none⟩)], .int .i64 (x.1.1 : Nat), .int .i64 (x.1.2 : Nat), undef, undef, undef, undef, undef, undef, undef, undef, undef, undef, undef, undef, undef, undef, undef, undef, undef, undef, undef, undef, undef, undef, undef, undef, undef, undef, undef, undef, undef, undef, undef, undef, undef, undef], defers := [] }) ?assign ?body ?done ?stop
  case assign =>
    intro l x V K hK
    gi_wp2
    exact hK
  case body =>
    rintro l pre x V ⟨⟨rfl, hcw, hcn, hc2, hc3, hf2, hf3⟩, hB⟩ hlt
    have hSt : Still w V := below_turned hB (Nat.le_refl _)
    have hx := x.2
    have hxm : x.1.2 ∈ M.fr := List.mem_reverse.1 (List.mem_of_getElem? hx)
    obtain ⟨s, hs⟩ := get_some (HMO.out.lt _ hxm)
    obtain ⟨m, hm⟩ : ∃ m, m = M.sl.length := ⟨_, rfl⟩
    have hsm : x.1.2 < m := by rw [hm]; exact get_lt hs
    have HV := HH.out.still hSt
    have p1 : V.cell? ⟨q, 1, none⟩ = some (.slice (some ⟨L.gb, 0, none⟩) m m) := by rw [hm]; exact HV.hd.cell rfl
    have pg := (HV.slot hs).2.2.2
    have hg0 := (HMO.out.low _ _ hs).1
    have HOf := Lib.hid (fun k U => of_in Fence.wide k x.1.2 s.g U (by have := HMO.out.len; omega) ⟨by omega, by omega⟩ trivial rfl)
    have HVV := Lib.hid HV
    have HXX := Lib.hid hx
    have HSS := Lib.hid hs
    have HST := Lib.hid hSt
    have hd1 : 1 ≤ 3 - 1 - 1 := by omega
    obtain ⟨xa, hxa⟩ : ∃ xa, xa = x.1.1 := ⟨_, rfl⟩
    obtain ⟨xs, hxs⟩ : ∃ xs, xs = x.1.2 := ⟨_, rfl⟩
    have hxal : (xa : Int) ≤ 128 := by have := get_lt hx; have := HFL.out; omega
    have hxa0 : (0 : Int) ≤ (xa : Int) := by omega
    rw [← hxs] at hsm pg HOf
    rw [← hxs, ← hxa]
    have HXA := Lib.hid hxa
    have HXS := Lib.hid hxs
    have hg1 : (s.g : Int) < 1099511627776 := by omega
    have hg2 : (0 : Int) ≤ (s.g : Int) := by omega
    have p3 : V.cell? ⟨q, 3, none⟩ = some (.slice (some ⟨L.sb, 0, none⟩) fl L.sc) := by rw [HFL2.out]; exact HV.hd.cell rfl
    have hpos : 0 < fl := by have := get_lt hx; have := HFL.out; omega
    obtain ⟨f', rfl⟩ : ∃ f', fl = f' + 1 := ⟨fl - 1, by omega⟩
    have hss : V.ownsRow 0 3 1 (.slice (some ⟨L.sb, 0, none⟩) (f' + 1) L.sc) (f' + 1) (ints (nums M.fr.reverse)) := by
      have := HV.ss
      rwa [← HFL2.out] at this
    have HDel := Lib.hid (fun U (hU : Still V U) => delete_any (w := U) (ow_still hss hU) hx HFL.out (by omega))
    rw [← hxa] at HDel
    have hwr : IntKind.i64.wrap ((xa : Int) + 1) = (xa : Int) + 1 := by simp [IntKind.wrap, IntKind.signed, IntKind.bits]; omega
    rw [← hwr] at HDel
    clear hwr
    have hnq : q ≠ L.sb := fun e => HV.st.2 (.inl e.symm)
    have HQ := Lib.hid (fun U w2 (hU : Still V U) (hT : Turned (· = L.sb) U w2) => (⟨by
        rw [hT.cell (p := ⟨w.heap.size, 0, none⟩) (Nat.lt_of_lt_of_le (cell_lt hcw) hU.size) (by show ¬ (w.heap.size = L.sb); omega)]; exact still_cell hU hcw rfl,
      ((HV.still hU).hd.turned hT hnq).cell rfl, ((HV.still hU).hd.turned hT hnq).free 3⟩ : w2.cell? ⟨w.heap.size, 0, none⟩ = some (.pointer (some ⟨q, 0, none⟩)) ∧ w2.cell? ⟨q, 3, none⟩ = some (.slice (some ⟨L.sb, 0, none⟩) M.fr.length L.sc) ∧ w2.frozen? ⟨q, 3, none⟩ = false))
    rw [← HFL2.out] at HQ
    have HP := Lib.hid (fun w2 (hT : Turned (· = L.sb) V.drew w2) (hown : w2.ownsRow 0 3 1 (.slice (some ⟨L.sb, 0, none⟩) f' L.sc) f' (ints (nums (M.fr.reverse.eraseIdx x.1.1)))) => (HV.still (Turned.refl _ V).drew).reF hT (fl := f') (fr := (M.fr.reverse.eraseIdx x.1.1).reverse) (by rw [List.length_reverse, List.length_eraseIdx_of_lt (get_lt hx)]; have := HFL.out; omega) (by rw [List.reverse_reverse]; exact hown))
    have HBg := Lib.hid (fun U (hU : PIn U W q L { M with fr := (M.fr.reverse.eraseIdx x.1.1).reverse }) => begin_any hU (k := x.1.2) (s := s) hs n (by rw [← HSZ.out]; omega) HMO.out.size1)
    rw [← hxs, ← hxa] at HBg
    rw [← hxa] at HP
    have HMM := Lib.hid hm
    have hwq : w.heap.size ≠ q := by omega
    have hqw : q ≠ w.heap.size := by omega
    clear HV hx hs hSt hxa hxs hxm hg0 hN hm hss hpos
    dsimp only
    gi_wp2_with (gi_at_call 103; refine (CallsIn.inRound l (HOf.out _ _)).mono ?_; rintro e w' ⟨rfl, rfl⟩)
    have hdr : Still V V.drew := (Turned.refl _ V).drew
    have hSa : (fun U : World => U.cell? ⟨w.heap.size, 0, none⟩ = some (.pointer (some ⟨q, 0, none⟩))) V.drew := hcw
    refine region_round (S := (fun U : World => U.cell? ⟨w.heap.size, 0, none⟩ = some (.pointer (some ⟨q, 0, none⟩)))) (by kernel_rfl) (by rintro ⟨_, _, h⟩; exact h) (by kernel_rfl) ?_
    refine wpAnyH_take (i := 0) (v := ?_) rfl (by kernel_rfl) (by kernel_rfl) (by kernel_rfl) (fun _ _ _ h => h) (Or.inl ⟨by rfl, ?_⟩) hSa ?_
    rotate_left
    · intro w hSw
      obtain k0 := hSw
      go_simp
      with_reducible rfl
    try simp only [Act.put, List.setIfInBounds_toArray, List.set_cons_zero, List.set_cons_succ]
    refine wpAnyH_take (i := 1) (v := ?_) rfl (by kernel_rfl) (by kernel_rfl) (by kernel_rfl) (fun _ _ _ h => h) (Or.inl ⟨by rfl, ?_⟩) hSa ?_
    rotate_left
    · intro w hSw
      obtain k0 := hSw
      go_simp
      with_reducible rfl
    try simp only [Act.put, List.setIfInBounds_toArray, List.set_cons_zero, List.set_cons_succ]
    refine wpAnyH_take (i := 2) (v := ?_) rfl (by kernel_rfl) (by kernel_rfl) (by kernel_rfl) (fun _ _ _ h => h) (Or.inl ⟨by rfl, ?_⟩) hSa ?_
    rotate_left
    · intro w hSw
      obtain k0 := hSw
      go_simp
      with_reducible rfl
    try simp only [Act.put, List.setIfInBounds_toArray, List.set_cons_zero, List.set_cons_succ]
    refine wpAnyH_take (i := 3) (v := ?_) rfl (by kernel_rfl) (by kernel_rfl) (by kernel_rfl) (fun _ _ _ h => h) (Or.inl ⟨by rfl, ?_⟩) hSa ?_
    rotate_left
    · intro w hSw
      obtain k0 := hSw
      go_simp
      with_reducible rfl
    try simp only [Act.put, List.setIfInBounds_toArray, List.set_cons_zero, List.set_cons_succ]
    refine wpAnyH_take (i := 5) (v := ?_) rfl (by kernel_rfl) (by kernel_rfl) (by kernel_rfl) (fun _ _ _ h => h) (Or.inl ⟨by rfl, ?_⟩) hSa ?_
    rotate_left
    · intro w hSw
      obtain k0 := hSw
      go_simp
      with_reducible rfl
    try simp only [Act.put, List.setIfInBounds_toArray, List.set_cons_zero, List.set_cons_succ]
    refine wpAnyH_take (i := 6) (v := ?_) rfl (by kernel_rfl) (by kernel_rfl) (by kernel_rfl) (fun _ _ _ h => h) (Or.inl ⟨by rfl, ?_⟩) hSa ?_
    rotate_left
    · intro w hSw
      obtain k0 := hSw
      go_simp
      with_reducible rfl
    try simp only [Act.put, List.setIfInBounds_toArray, List.set_cons_zero, List.set_cons_succ]
    refine wpAnyH_take (i := 7) (v := ?_) rfl (by kernel_rfl) (by kernel_rfl) (by kernel_rfl) (fun _ _ _ h => h) (Or.inl ⟨by rfl, ?_⟩) hSa ?_
    rotate_left
    · intro w hSw
      obtain k0 := hSw
      go_simp
      with_reducible rfl
    try simp only [Act.put, List.setIfInBounds_toArray, List.set_cons_zero, List.set_cons_succ]
    refine wpAnyH_ready (rs := [4]) (by kernel_rfl) (by simp) ?_
    refine AllReadyH.cons rfl (fun K hK => ?_) AllReadyH.nil
    go_simp
    refine hK.out _ _ hSa (fun _ => ?_)
    clear hK K
    try simp only [Act.put, List.setIfInBounds_toArray, List.set_cons_zero, List.set_cons_succ]
    refine wpAnyH_ready (rs := [8]) (by kernel_rfl) (by simp) ?_
    refine AllReadyH.cons rfl (fun K hK => ?_) AllReadyH.nil
    go_simp
    go_at_call 104
    with_reducible refine (HDel.out _ hdr).mono ?_
    rintro e w2 ⟨rfl, hown, hT⟩
    obtain ⟨y0, y3, y4⟩ := HQ.out _ w2 hdr hT
    have hSb : (fun U : World => U.cell? ⟨w.heap.size, 0, none⟩ = some (.pointer (some ⟨q, 0, none⟩))) w2 := y0
    refine hK.out _ _ hSb (fun _ => ?_)
    clear hK K
    try simp only [Act.put, List.setIfInBounds_toArray, List.set_cons_zero, List.set_cons_succ]
    refine wpAnyH_take (i := 9) (v := ?_) rfl (by kernel_rfl) (by kernel_rfl) (by kernel_rfl) (fun _ _ _ h => h) (Or.inl ⟨by rfl, ?_⟩) hSb ?_
    rotate_left
    · intro w hSw
      obtain k0 := hSw
      go_simp
      with_reducible rfl
    try simp only [Act.put, List.setIfInBounds_toArray, List.set_cons_zero, List.set_cons_succ]
    refine wpAnyH_take (i := 10) (v := ?_) rfl (by kernel_rfl) (by kernel_rfl) (by kernel_rfl) (fun _ _ _ h => h) (Or.inl ⟨by rfl, ?_⟩) hSb ?_
    rotate_left
    · intro w hSw
      obtain k0 := hSw
      go_simp
      with_reducible rfl
    try simp only [Act.put, List.setIfInBounds_toArray, List.set_cons_zero, List.set_cons_succ]
    refine wpAnyH_ready (rs := [11]) (by kernel_rfl) (by simp) ?_
    refine AllReadyH.cons rfl (fun K hK => ?_) AllReadyH.nil
    go_simp
    have hSc : (fun U : World => U.cell? ⟨w.heap.size, 0, none⟩ = some (.pointer (some ⟨q, 0, none⟩))) (w2.setCell ⟨q, 3, none⟩ (.slice (some ⟨L.sb, 0, none⟩) f' L.sc)) := by
      show World.cell? _ _ = _
      rw [World.cell?_setCell_far _ _ _ _ hqw]
      exact y0
    refine hK.out _ _ hSc (fun _ => ?_)
    clear hK K
    try simp only [Act.put, List.setIfInBounds_toArray, List.set_cons_zero, List.set_cons_succ]
    refine wpAnyH_done (by kernel_rfl) ?_ _
    gi_wp2
    have hP3 := HP.out w2 hT hown
    have hT3 : Turned (fun k => k = L.sb ∨ k = q) V (w2.setCell ⟨q, 3, none⟩ (.slice (some ⟨L.sb, 0, none⟩) f' L.sc)) := ((Turned.refl _ V).drew.trans (hT.mono (fun _ _ e => .inl e))).setCell (p := ⟨q, 3, none⟩) (.inl (.inr rfl)) _
    obtain ⟨V3, hV3⟩ : ∃ V3, w2.setCell ⟨q, 3, none⟩ (.slice (some ⟨L.sb, 0, none⟩) f' L.sc) = V3 := ⟨_, rfl⟩
    rw [hV3] at hP3 hT3 hSc ⊢
    have hfar : ∀ i, ¬ (w.heap.size + i = L.sb ∨ w.heap.size + i = q) := fun i => by omega
    have x1 : V3.cell? ⟨w.heap.size + 1, 0, none⟩ = some (.int .i64 n) := (hT3.cell (p := ⟨w.heap.size + 1, 0, none⟩) (cell_lt hcn) (hfar 1)).trans hcn
    have x2 : V3.cell? ⟨w.heap.size + 2, 0, none⟩ = some (.int .i64 0) := (hT3.cell (p := ⟨w.heap.size + 2, 0, none⟩) (cell_lt hc2) (hfar 2)).trans hc2
    have x3 : V3.cell? ⟨w.heap.size + 3, 0, none⟩ = some (.int .i64 0) := (hT3.cell (p := ⟨w.heap.size + 3, 0, none⟩) (cell_lt hc3) (hfar 3)).trans hc3
    have xq : V3.cell? ⟨q, 2, none⟩ = some (.slice (some ⟨L.eb, 0, none⟩) m L.ec) := by rw [HMM.out]; exact hP3.hd.cell rfl
    have hSd : (fun U : World => U.cell? ⟨w.heap.size, 0, none⟩ = some (.pointer (some ⟨q, 0, none⟩)) ∧ U.cell? ⟨q, 2, none⟩ = some (.slice (some ⟨L.eb, 0, none⟩) m L.ec) ∧ U.cell? ⟨w.heap.size + 1, 0, none⟩ = some (.int .i64 n)) V3.drew := ⟨hSc, xq, x1⟩
    have HP3 := Lib.hid hP3
    have HT3 := Lib.hid hT3
    clear hV3 hSc hSb hSa y0 y3 y4 hown hT hdr p1 p3 pg hP3 hT3 HDel HQ HP
    refine region_round (S := (fun U : World => U.cell? ⟨w.heap.size, 0, none⟩ = some (.pointer (some ⟨q, 0, none⟩)) ∧ U.cell? ⟨q, 2, none⟩ = some (.slice (some ⟨L.eb, 0, none⟩) m L.ec) ∧ U.cell? ⟨w.heap.size + 1, 0, none⟩ = some (.int .i64 n))) (by kernel_rfl) (by rintro ⟨_, _, h⟩; exact h) (by kernel_rfl) ?_
    refine wpAnyH_take (i := 0) (v := ?_) rfl (by kernel_rfl) (by kernel_rfl) (by kernel_rfl) (fun _ _ _ h => h) (Or.inl ⟨by rfl, ?_⟩) hSd ?_
    rotate_left
    · intro w hSw
      obtain ⟨k0, k1, k2⟩ := hSw
      go_simp
      with_reducible rfl
    try simp only [Act.put, List.setIfInBounds_toArray, List.set_cons_zero, List.set_cons_succ]
    refine wpAnyH_take (i := 1) (v := ?_) rfl (by kernel_rfl) (by kernel_rfl) (by kernel_rfl) (fun _ _ _ h => h) (Or.inl ⟨by rfl, ?_⟩) hSd ?_
    rotate_left
    · intro w hSw
      obtain ⟨k0, k1, k2⟩ := hSw
      go_simp
      with_reducible rfl
    try simp only [Act.put, List.setIfInBounds_toArray, List.set_cons_zero, List.set_cons_succ]
    refine wpAnyH_take (i := 2) (v := ?_) rfl (by kernel_rfl) (by kernel_rfl) (by kernel_rfl) (fun _ _ _ h => h) (Or.inl ⟨by rfl, ?_⟩) hSd ?_
    rotate_left
    · intro w hSw
      obtain ⟨k0, k1, k2⟩ := hSw
      go_simp
      with_reducible rfl
    try simp only [Act.put, List.setIfInBounds_toArray, List.set_cons_zero, List.set_cons_succ]
    refine wpAnyH_take (i := 3) (v := ?_) rfl (by kernel_rfl) (by kernel_rfl) (by kernel_rfl) (fun _ _ _ h => h) (Or.inl ⟨by rfl, ?_⟩) hSd ?_
    rotate_left
    · intro w hSw
      obtain ⟨k0, k1, k2⟩ := hSw
      go_simp
      with_reducible rfl
    try simp only [Act.put, List.setIfInBounds_toArray, List.set_cons_zero, List.set_cons_succ]
    refine wpAnyH_take (i := 4) (v := ?_) rfl (by kernel_rfl) (by kernel_rfl) (by kernel_rfl) (fun _ _ _ h => h) (Or.inl ⟨by rfl, ?_⟩) hSd ?_
    rotate_left
    · intro w hSw
      obtain ⟨k0, k1, k2⟩ := hSw
      go_simp
      with_reducible rfl
    try simp only [Act.put, List.setIfInBounds_toArray, List.set_cons_zero, List.set_cons_succ]
    refine wpAnyH_take (i := 5) (v := ?_) rfl (by kernel_rfl) (by kernel_rfl) (by kernel_rfl) (fun _ _ _ h => h) (Or.inl ⟨by rfl, ?_⟩) hSd ?_
    rotate_left
    · intro w hSw
      obtain ⟨k0, k1, k2⟩ := hSw
      go_simp
      with_reducible rfl
    try simp only [Act.put, List.setIfInBounds_toArray, List.set_cons_zero, List.set_cons_succ]
    refine wpAnyH_take (i := 6) (v := ?_) rfl (by kernel_rfl) (by kernel_rfl) (by kernel_rfl) (fun _ _ _ h => h) (Or.inl ⟨by rfl, ?_⟩) hSd ?_
    rotate_left
    · intro w hSw
      obtain ⟨k0, k1, k2⟩ := hSw
      go_simp
      with_reducible rfl
    try simp only [Act.put, List.setIfInBounds_toArray, List.set_cons_zero, List.set_cons_succ]
    refine wpAnyH_ready (rs := [7]) (by kernel_rfl) (by simp) ?_
    refine AllReadyH.cons rfl (fun K hK => ?_) AllReadyH.nil
    go_simp
    go_at_call 105
    with_reducible refine (HBg.out _ (HP3.out.still (Turned.refl _ V3).drew)).mono ?_
    rintro e w4 ⟨⟨v, rfl⟩, hP4, hT4⟩
    have hfar4 : ∀ i, ¬ W (w.heap.size + i) := fun i hi => by have := HWQ.out _ hi; omega
    have z0 : w4.cell? ⟨w.heap.size, 0, none⟩ = some (.pointer (some ⟨q, 0, none⟩)) := (hT4.cell (p := ⟨w.heap.size, 0, none⟩) (cell_lt hSd.1) (hfar4 0)).trans hSd.1
    have z1 : w4.cell? ⟨w.heap.size + 1, 0, none⟩ = some (.int .i64 n) := (hT4.cell (p := ⟨w.heap.size + 1, 0, none⟩) (cell_lt hSd.2.2) (hfar4 1)).trans hSd.2.2
    have z2 : w4.cell? ⟨w.heap.size + 2, 0, none⟩ = some (.int .i64 0) := (hT4.cell (p := ⟨w.heap.size + 2, 0, none⟩) (cell_lt x2) (hfar4 2)).trans x2
    have z3 : w4.cell? ⟨w.heap.size + 3, 0, none⟩ = some (.int .i64 0) := (hT4.cell (p := ⟨w.heap.size + 3, 0, none⟩) (cell_lt x3) (hfar4 3)).trans x3
    have zq : w4.cell? ⟨q, 2, none⟩ = some (.slice (some ⟨L.eb, 0, none⟩) m L.ec) := by rw [HMM.out]; have := hP4.hd.cell (o := 2) rfl; simpa using this
    have hSe : (fun U : World => U.cell? ⟨w.heap.size, 0, none⟩ = some (.pointer (some ⟨q, 0, none⟩)) ∧ U.cell? ⟨q, 2, none⟩ = some (.slice (some ⟨L.eb, 0, none⟩) m L.ec) ∧ U.cell? ⟨w.heap.size + 1, 0, none⟩ = some (.int .i64 n)) w4 := ⟨z0, zq, z1⟩
    have HP4 := Lib.hid hP4
    have HT4 := Lib.hid hT4
    clear hP4 hT4
    refine hK.out _ _ hSe (fun _ => ?_)
    clear hK K
    try simp only [Act.put, List.setIfInBounds_toArray, List.set_cons_zero, List.set_cons_succ]
    refine wpAnyH_done (by kernel_rfl) ?_ _
    have f2 : w4.frozen? ⟨w.heap.size + 2, 0, none⟩ = false := (HT4.out.frozen (p := ⟨w.heap.size + 2, 0, none⟩) (cell_lt x2) (hfar4 2)).trans ((HT3.out.frozen (p := ⟨w.heap.size + 2, 0, none⟩) (cell_lt hc2) (hfar 2)).trans hf2)
    have f3 : w4.frozen? ⟨w.heap.size + 3, 0, none⟩ = false := (HT4.out.frozen (p := ⟨w.heap.size + 3, 0, none⟩) (cell_lt x3) (hfar4 3)).trans ((HT3.out.frozen (p := ⟨w.heap.size + 3, 0, none⟩) (cell_lt hc3) (hfar 3)).trans hf3)
    clear hSe hSd x1 x2 x3 xq z0 z1 zq hg1 hg2 hxal hxa0 hn0 hn1
    gi_wp2
    have hW3 : Turned W V V3 := HT3.out.mono (fun i _ e => e.elim (fun e => by subst e; exact HH.out.st.1) (fun e => by subst e; exact HH.out.fix _ (.inl rfl)))
    have hTW : Turned W V w4 := hW3.trans ((Turned.refl W V3).drew.trans HT4.out)
    have hT5 : Turned (fun i => i = w.heap.size + 2 ∨ i = w.heap.size + 3) w4 ((w4.setCell ⟨w.heap.size + 2, 0, none⟩ (.int .i64 ((s.g : Int) * 128 + (xs : Int) + 1))).setCell ⟨w.heap.size + 3, 0, none⟩ (.int .i64 0)) :=
      ((Turned.refl _ _).setCell (p := ⟨w.heap.size + 2, 0, none⟩) (.inl (.inl rfl)) _).setCell (p := ⟨w.heap.size + 3, 0, none⟩) (.inl (.inr rfl)) _
    have hTot : Turned (fun i => W i ∨ i = w.heap.size + 2 ∨ i = w.heap.size + 3) V ((w4.setCell ⟨w.heap.size + 2, 0, none⟩ (.int .i64 ((s.g : Int) * 128 + (xs : Int) + 1))).setCell ⟨w.heap.size + 3, 0, none⟩ (.int .i64 0)) :=
      (hTW.mono (fun _ _ h => .inl h)).trans (hT5.mono (fun _ _ h => .inr h))
    obtain ⟨q2, q3⟩ := two_set (V := w4) (b2 := w.heap.size + 2) (b3 := w.heap.size + 3) (a := .int .i64 ((s.g : Int) * 128 + (xs : Int) + 1)) (b := .int .i64 0) z2 z3 (by omega)
    have hPE : PIn w4 W q L (M.takeAt x.1.1 x.1.2 n) := by
      have := HP4.out
      rw [HXS.out, HXA.out] at this
      unfold PM.takeAt
      rw [HSS.out]
      exact this
    refine ⟨keepsFrom_turned hTot (fun k hk => ?_), rfl, x, rfl, ?_, q3, hPE.turned hT5 (fun k hk e => ?_), (HST.out.mono (fun _ _ h => h.elim)).past hTot (fun i hi => ?_)⟩
    · rw [hsz2]
      rcases hk with hk | hk | hk
      · have := HWQ.out k hk; omega
      · omega
      · omega
    · rw [← HXS.out, show (M.sl[xs]?.getD ⟨0, 0, []⟩).g = s.g by rw [HXS.out, HSS.out]; rfl]
      exact q2
    · have := HWQ.out k hk; omega
    · rcases hi with hi | hi | hi
      · exact .inl hi
      · exact .inr (by omega)
      · exact .inr (by omega)
  case done =>
    rintro D ys V hD rfl ⟨⟨hp, hcw, hcn, hc2, hc3, hf2, hf3⟩, hB⟩ hK
    have h0 : fl = 0 := by
      have := bkTo_len M.fr.reverse fl (by rw [← HFL.out]; exact Nat.le_refl _)
      rw [hp] at this
      exact this.symm
    have hfr : M.fr = [] := List.eq_nil_of_length_eq_zero (by rw [← HFL2.out]; exact h0)
    obtain ⟨t1, t2, t3⟩ := take_none (n := n) hfr (by rw [← HSZ.out]; omega)
    have hT0 : Turned (fun i => i = w.heap.size + 2 ∨ i = w.heap.size + 3) V ((V.setCell ⟨w.heap.size + 2, 0, none⟩ (.int .i64 0)).setCell ⟨w.heap.size + 3, 0, none⟩ (.int .i64 50)) :=
      ((Turned.refl _ _).setCell (p := ⟨w.heap.size + 2, 0, none⟩) (.inl (.inl rfl)) _).setCell (p := ⟨w.heap.size + 3, 0, none⟩) (.inl (.inr rfl)) _
    have hK2 : ((V.setCell ⟨w.heap.size + 2, 0, none⟩ (.int .i64 0)).setCell ⟨w.heap.size + 3, 0, none⟩ (.int .i64 50)).heap[D]? = some (.deferred (some [])) := by
      rw [Below.heap_setCell _ _ _ _ (by simp; omega), Below.heap_setCell _ _ _ _ (by simp; omega)]
      exact hK
    obtain ⟨q2, q3⟩ := two_set (V := V) (b2 := w.heap.size + 2) (b3 := w.heap.size + 3) (a := .int .i64 0) (b := .int .i64 50) hc2 hc3 (by omega)
    have u2 := cell_kept q2 (grownBy_putObj' _ D (.deferred none)) (fun r e => by cases e; exact ⟨_, hK2, rfl⟩)
    have u3 := cell_kept q3 (grownBy_putObj' _ D (.deferred none)) (fun r e => by cases e; exact ⟨_, hK2, rfl⟩)
    have hT : Turned (· = D) ((V.setCell ⟨w.heap.size + 2, 0, none⟩ (.int .i64 0)).setCell ⟨w.heap.size + 3, 0, none⟩ (.int .i64 50)) (World.putObj _ D (.deferred none)) := (Turned.refl _ _).grown (grownBy_putObj' _ D _) (fun k e => by cases e; exact .inl rfl)
    have HG : Hid (Goes (pT q (M.takeM n)) W w (((V.setCell ⟨w.heap.size + 2, 0, none⟩ (.int .i64 0)).setCell ⟨w.heap.size + 3, 0, none⟩ (.int .i64 50)).putObj D (.deferred none))) := Lib.hid (by
      rw [t1]
      exact pT_still HH.out (((below_turned hB (Nat.le_refl _)).past hT0 (fun i hi => .inr (by omega))).past hT (fun i hi => .inr (by omega))))
    have HT2 := Lib.hid t2
    have HT3 := Lib.hid t3
    have HK2 := Lib.hid hK2
    clear t1 t2 t3 q2 q3 hT hT0 hK2 hn0 hn1
    gi_wp2
    refine ⟨by simp, .inl ⟨_, _, rfl, run_takeDeferred HK2.out, ?_⟩⟩
    refine ⟨.tuple #[.int .i64 0, .int .i64 50], ?_, by rw [HT2.out, HT3.out], HG.out⟩
    rw [results_cell2 rfl]
    go_simp
  case stop =>
    rintro D c pre V hD hpre ⟨rfl, x, rfl, e3, e4, e5, e6⟩ hK
    obtain ⟨j1, j2⟩ := bkTo_one (by rw [← HFL.out]; exact hpre)
    obtain ⟨t1, t2, t3⟩ := takeAt_last x.2 j1 j2 (n := n) (by rw [← HSZ.out]; omega)
    have hDw : w.heap.size ≤ D := by omega
    have hT : Turned (· = D) V (V.putObj D (.deferred none)) := (Turned.refl _ _).grown (grownBy_putObj' V D _) (fun k e => by cases e; exact .inl rfl)
    have u3 := cell_kept e3 (grownBy_putObj' V D (.deferred none)) (fun r e => by cases e; exact ⟨_, hK, rfl⟩)
    have u4 := cell_kept e4 (grownBy_putObj' V D (.deferred none)) (fun r e => by cases e; exact ⟨_, hK, rfl⟩)
    have HG : Hid (Goes (pT q (M.takeM n)) W w (V.putObj D (.deferred none))) := Lib.hid (by
      rw [← t1]
      exact pT_goes (e5.turned hT (fun k hk e => by have := HWQ.out k hk; omega)) (e6.past hT (fun i e => .inr (by omega))) (fun k hk => .inl hk))
    have HT2 := Lib.hid t2
    have HT3 := Lib.hid t3
    obtain ⟨th, hth⟩ : ∃ th, th = ((M.sl[x.1.2]?.getD ⟨0, 0, []⟩).g : Int) * 128 + (x.1.2 : Nat) + 1 := ⟨_, rfl⟩
    rw [← hth] at HT2 u3
    clear t1 t2 t3 e3 e4 e5 e6 hn0 hn1 hth
    gi_wp2
    refine ⟨by simp, .inl ⟨_, _, rfl, run_takeDeferred hK, ?_⟩⟩
    refine ⟨.tuple #[.int .i64 th, .int .i64 0], ?_, by rw [HT2.out, HT3.out], HG.out⟩
    rw [results_cell2 rfl]
    go_simp

theorem take_any {w : World} {W : Nat → Prop} {q : Nat} {M : PM} {N : Nat} (H0 : (pT q M).at_ w W) (hM : M.Ok N) (hN : N < 1000000) (n : Int) :
    Calls Tryz.prog 72 #[.pointer (some ⟨q, 0, none⟩), .int .i64 n] w fun e w' => e = .returned (.tuple #[.int .i64 (M.takeH n), .int .i64 (M.takeE n)]) ∧ Goes (pT q (M.takeM n)) W w w' := by
  obtain ⟨L, H⟩ := H0
  by_cases h : n < 0 ∨ (M.size : Int) < n
  · refine ((callsIn_wide (n := 3)).1 (take_early Fence.wide rfl H hM n h _ rfl)).mono ?_
    rintro e w' ⟨rfl, hs⟩
    refine ⟨?_, ?_⟩
    · rw [show M.takeH n = 0 by unfold PM.takeH; rw [if_pos h]]
      have : M.takeE n = if n < 0 then 2 else 3 := by
        unfold PM.takeE
        by_cases h0 : n < 0
        · rw [if_pos h0, if_pos h0]
        · rw [if_neg h0, if_neg h0, if_pos (by omega)]
      rw [this]
    · rw [show M.takeM n = M by unfold PM.takeM; rw [if_pos h]]
      exact pT_still H hs
  · obtain ⟨k, rfl⟩ : ∃ k : Nat, n = k := ⟨n.toNat, by omega⟩
    exact (callsIn_wide (n := 3)).1 (take_loop Fence.wide rfl H hM hN k (by omega))
end Go.Proofs.YtmmkcfiecgpkpaaGreat

/- What Make of the program's pool does. No condition. -/
namespace Go.Proofs.YtmmkcfiecgpkpaaGreat
open Go.RowKit
set_option linter.unusedVariables false
set_option linter.unusedSimpArgs false
set_option maxRecDepth 100000

theorem infoEnv : (Tryz.prog.info? 120).map (fun i => (i.zero, i.size, i.bytes)) = some (some (.agg #[.int .i64 0, .int .i64 0, .slice none 0 0]), 3, 40) := by kernel_rfl

/-- The envelopes of so many slots. -/
def envRow (bl : Nat → Nat) (size : Nat) : Nat → List Value
  | 0 => []
  | k + 1 => envRow bl size k ++ [.int .i64 (k : Nat), .int .i64 0, .slice (some ⟨bl k, 0, none⟩) 0 size]
theorem envRow_length (bl : Nat → Nat) (size : Nat) : ∀ k, (envRow bl size k).length = k * 3
  | 0 => rfl
  | k + 1 => by simp [envRow, envRow_length bl size k]; omega
theorem envRow_congr {bl bl' : Nat → Nat} {size : Nat} : ∀ {k : Nat}, (∀ i, i < k → bl i = bl' i) → envRow bl size k = envRow bl' size k
  | 0, _ => rfl
  | k + 1, h => by rw [envRow, envRow, envRow_congr (fun i hi => h i (by omega)), h k (by omega)]
theorem envRow_get {bl : Nat → Nat} {size : Nat} : ∀ {k i : Nat}, i < k → (envRow bl size k)[i * 3]? = some (.int .i64 (i : Nat)) ∧ (envRow bl size k)[i * 3 + 1]? = some (.int .i64 0) ∧ (envRow bl size k)[i * 3 + 2]? = some (.slice (some ⟨bl i, 0, none⟩) 0 size)
  | k + 1, i, h => by
    have hl := envRow_length bl size k
    by_cases e : i = k
    · subst e
      unfold envRow
      refine ⟨?_, ?_, ?_⟩
      · rw [List.getElem?_append_right (by omega), hl, Nat.sub_self]; rfl
      · rw [List.getElem?_append_right (by omega), hl, show i * 3 + 1 - i * 3 = 1 by omega]; rfl
      · rw [List.getElem?_append_right (by omega), hl, show i * 3 + 2 - i * 3 = 2 by omega]; rfl
    · obtain ⟨h1, h2, h3⟩ := envRow_get (bl := bl) (size := size) (k := k) (i := i) (by omega)
      unfold envRow
      refine ⟨?_, ?_, ?_⟩ <;> rw [List.getElem?_append_left (by omega)] <;> assumption

/-- The stack of so many, as it is laid. -/
def stkI (n k : Nat) : List Int := (List.range k).map fun i : Nat => (n : Int) - 1 - (i : Nat)
theorem stkI_step (n k : Nat) : stkI n (k + 1) = stkI n k ++ [(n : Int) - 1 - (k : Nat)] := by simp [stkI, List.range_succ]
theorem stkI_end (n : Nat) : stkI n n = nums (List.range n).reverse := by
  apply List.ext_getElem?
  intro i
  by_cases hi : i < n
  · rw [nums_get (k := n - 1 - i) (by rw [List.getElem?_reverse (by simpa using hi), List.length_range, List.getElem?_range (by omega)])]
    simp only [stkI, List.getElem?_map, List.getElem?_range hi, Option.map_some]
    congr 1
    omega
  · rw [List.getElem?_eq_none (by simp [stkI]; omega), List.getElem?_eq_none (by simp [nums]; omega)]

structure PMk (w wr : World) (q gb : Nat) (bl : Nat → Nat) (n size : Nat) (ea : Option Addr) (ec ke kb : Nat) (sa : Option Addr) (sc ks : Nat) : Prop where
  hd : Blk wr q [.int .i64 (size : Nat), .slice (some ⟨gb, 0, none⟩) n n, .slice ea ke ec, .slice sa ks sc] 118
  gg : Blk wr gb (ints (nums (List.replicate n 0))) 3
  env : wr.ownsRow w.heap.size 120 3 (.slice ea ke ec) ke (envRow bl size ke)
  stk : wr.ownsRow w.heap.size 3 1 (.slice sa ks sc) ks (ints (stkI n ks))
  bb : ∀ i, i < kb → Blk wr (bl i) (byt (List.replicate size 0)) 5
  blo : ∀ i, i < kb → w.heap.size ≤ bl i ∧ bl i ≠ q ∧ bl i ≠ gb
  inj : ∀ i j, i < kb → j < kb → i ≠ j → bl i ≠ bl j
  ne : q ≠ gb ∧ w.heap.size ≤ q ∧ w.heap.size ≤ gb
  efar : ∀ x, ea = some x → x.block ≠ q ∧ x.block ≠ gb ∧ (∀ i, i < kb → bl i ≠ x.block) ∧ ∀ y, sa = some y → x.block ≠ y.block
  sfar : ∀ y, sa = some y → y.block ≠ q ∧ y.block ≠ gb ∧ ∀ i, i < kb → bl i ≠ y.block
  st : Still w wr

theorem PMk.still {w wr wr' : World} {q gb : Nat} {bl : Nat → Nat} {n size ec ke kb sc ks : Nat} {ea sa : Option Addr} (h : PMk w wr q gb bl n size ea ec ke kb sa sc ks) (ht : Still wr wr') : PMk w wr' q gb bl n size ea ec ke kb sa sc ks :=
  ⟨h.hd.turned ht (fun h => h), h.gg.turned ht (fun h => h), ow_still h.env ht, ow_still h.stk ht, fun i hi => (h.bb i hi).turned ht (fun h => h), h.blo, h.inj, h.ne, h.efar, h.sfar, h.st.trans ht⟩

/-- A new slot's bytes. -/
theorem PMk.bytes {w wr : World} {q gb : Nat} {bl : Nat → Nat} {n size ec ke sc ks : Nat} {ea sa : Option Addr} (h : PMk w wr q gb bl n size ea ec ke ke sa sc ks) {wr' : World} (ht : Still wr wr') (hb : Blk wr' wr.heap.size (byt (List.replicate size 0)) 5) :
    PMk w wr' q gb (fun i => if i = ke then wr.heap.size else bl i) n size ea ec ke (ke + 1) sa sc ks := by
  have hS := h.still ht
  have e : ∀ i, i < ke → (fun i => if i = ke then wr.heap.size else bl i) i = bl i := fun i hi => by simp; intro hh; omega
  have hlt : ∀ i, i < ke → bl i < wr.heap.size := fun i hi => (h.bb i hi).lt
  have hq := h.hd.lt
  have hg := h.gg.lt
  have hx : ∀ x, ea = some x → x.block < wr.heap.size := by rintro x rfl; exact (ow_lt h.env x rfl).2
  have hy : ∀ x, sa = some x → x.block < wr.heap.size := by rintro x rfl; exact (ow_lt h.stk x rfl).2
  have hlo := h.st.size
  refine ⟨hS.hd, hS.gg, ?_, hS.stk, fun i hi => ?_, fun i hi => ?_, fun i j hi hj hij => ?_, h.ne, fun x hx' => ?_, fun y hy' => ?_, hS.st⟩
  · rw [envRow_congr e]; exact hS.env
  · by_cases hi' : i = ke
    · subst hi'; simp only [if_pos]; exact hb
    · simp only [if_neg hi']; exact hS.bb i (by omega)
  · by_cases hi' : i = ke
    · subst hi'; simp only [if_pos]; exact ⟨hlo, by omega, by omega⟩
    · simp only [if_neg hi']; exact h.blo i (by omega)
  · by_cases hi' : i = ke <;> by_cases hj' : j = ke
    · omega
    · simp only [if_pos hi', if_neg hj']; have := hlt j (by omega); omega
    · simp only [if_neg hi', if_pos hj']; have := hlt i (by omega); omega
    · simp only [if_neg hi', if_neg hj']; exact h.inj i j (by omega) (by omega) hij
  · obtain ⟨a1, a2, a3, a4⟩ := h.efar x hx'
    refine ⟨a1, a2, fun i hi => ?_, a4⟩
    by_cases hi' : i = ke
    · simp only [if_pos hi']; have := hx x hx'; omega
    · simp only [if_neg hi']; exact a3 i (by omega)
  · obtain ⟨a1, a2, a3⟩ := h.sfar y hy'
    refine ⟨a1, a2, fun i hi => ?_⟩
    by_cases hi' : i = ke
    · simp only [if_pos hi']; have := hy y hy'; omega
    · simp only [if_neg hi']; exact a3 i (by omega)

/-- What append of an envelope leaves: its row, in its block or in a new one. -/
theorem PMk.env_step {w wr w6 : World} {q gb : Nat} {bl : Nat → Nat} {n size ec ke sc ks : Nat} {ea sa : Option Addr} (h : PMk w wr q gb bl n size ea ec ke (ke + 1) sa sc ks) {o : Obj} {a6 : Option Addr} {c6 : Nat}
    (hown : w6.ownsRow w.heap.size 120 3 (.slice a6 (ke + 1) c6) (ke + 1) (envRow bl size (ke + 1))) (hg : (wr.alloc o).grownBy w6 (Value.slice ea ke ec).ownBlock)
    (hat : (Value.slice a6 (ke + 1) c6).ownBlock = (Value.slice ea ke ec).ownBlock ∨ (Value.slice a6 (ke + 1) c6).ownBlock = some (wr.alloc o).heap.size) :
    PMk w (w6.setCell ⟨q, 2, none⟩ (.slice a6 (ke + 1) c6)) q gb bl n size a6 c6 (ke + 1) (ke + 1) sa sc ks ∧ Blk w6 q [.int .i64 (size : Nat), .slice (some ⟨gb, 0, none⟩) n n, .slice ea ke ec, .slice sa ks sc] 118 := by
  have hT : Turned (fun i => (Value.slice ea ke ec).ownBlock = some i) wr w6 := ((Turned.refl _ wr).alloc _).grown hg (fun i e => .inl e)
  have hno : ∀ i, (∀ x, ea = some x → x.block ≠ i) → ¬ (Value.slice ea ke ec).ownBlock = some i := by
    intro i hi he
    cases ea with
    | none => cases he
    | some x => exact hi x rfl (by simpa [Value.ownBlock] using he)
  have n1 : ¬ (Value.slice ea ke ec).ownBlock = some q := hno q (fun x hx => (h.efar x hx).1)
  have n2 : ¬ (Value.slice ea ke ec).ownBlock = some gb := hno gb (fun x hx => (h.efar x hx).2.1)
  have n3 : ∀ i, i < ke + 1 → ¬ (Value.slice ea ke ec).ownBlock = some (bl i) := fun i hi => hno _ (fun x hx e => (h.efar x hx).2.2.1 i hi e.symm)
  have hq := h.hd.lt
  have hgl := h.gg.lt
  have hfar : ∀ x, a6 = some x → x.block ≠ q ∧ x.block ≠ gb ∧ (∀ i, i < ke + 1 → bl i ≠ x.block) ∧ ∀ y, sa = some y → x.block ≠ y.block := by
    rintro x rfl
    rcases hat with e | e
    · have e' : ∀ i, x.block = i → (Value.slice ea ke ec).ownBlock = some i := fun i hi => by rw [← e, ← hi]; rfl
      refine ⟨fun h' => n1 (e' _ h'), fun h' => n2 (e' _ h'), fun i hi h' => n3 i hi (e' _ h'.symm), fun y hy h' => ?_⟩
      have := e' _ h'
      cases ea with
      | none => cases this
      | some z => exact (h.efar z rfl).2.2.2 y hy (by simpa [Value.ownBlock] using this)
    · have e : x.block = (wr.alloc o).heap.size := by simpa [Value.ownBlock] using e
      rw [World.size_alloc] at e
      refine ⟨by omega, by omega, fun i hi h' => ?_, fun y hy h' => ?_⟩
      · have := (h.bb i hi).lt; omega
      · subst hy; have := (ow_lt h.stk y rfl).2; omega
  have hstk : ∀ b, (Value.slice sa ks sc).ownBlock = some b → ¬ (Value.slice ea ke ec).ownBlock = some b := by
    intro b hb
    cases sa with
    | none => cases hb
    | some y =>
      have : y.block = b := by simpa [Value.ownBlock] using hb
      exact hno b (fun x hx e => (h.efar x hx).2.2.2 y rfl (by omega))
  have hq6 := h.hd.turned hT n1
  have htq : Turned (· = q) w6 (w6.setCell ⟨q, 2, none⟩ (.slice a6 (ke + 1) c6)) := turned_set (Turned.refl _ _) _ _
  refine ⟨⟨hq6.set 2 _, (h.gg.turned hT n2).turned htq (Ne.symm h.ne.1), ow_turned hown htq (fun b hb e => ?_), ow_turned (ow_turned h.stk hT hstk) htq (fun b hb e => ?_), fun i hi => ((h.bb i hi).turned hT (n3 i hi)).turned htq (h.blo i hi).2.1, h.blo, h.inj, h.ne, hfar, h.sfar, ?_⟩, hq6⟩
  · cases a6 with
    | none => cases hb
    | some x => exact (hfar x rfl).1 (by simpa [Value.ownBlock, e] using hb)
  · cases sa with
    | none => cases hb
    | some y => exact (h.sfar y rfl).1 (by simpa [Value.ownBlock, e] using hb)
  · refine ((h.st.past hT (fun i hi => ?_)).trans (Turned.refl _ _)).setCell (p := ⟨q, 2, none⟩) (.inr h.ne.2.1) _
    cases ea with
    | none => cases hi
    | some x => have := ow_lt h.env x rfl
                have e : x.block = i := by simpa [Value.ownBlock] using hi
                exact .inr (by omega)

/-- What append to the stack leaves. -/
theorem PMk.stk_step {w wr w6 : World} {q gb : Nat} {bl : Nat → Nat} {n size ec ke kb sc ks : Nat} {ea sa : Option Addr} (h : PMk w wr q gb bl n size ea ec ke kb sa sc ks) {o : Obj} {a6 : Option Addr} {c6 : Nat}
    (hown : w6.ownsRow w.heap.size 3 1 (.slice a6 (ks + 1) c6) (ks + 1) (ints (stkI n (ks + 1)))) (hg : (wr.alloc o).grownBy w6 (Value.slice sa ks sc).ownBlock)
    (hat : (Value.slice a6 (ks + 1) c6).ownBlock = (Value.slice sa ks sc).ownBlock ∨ (Value.slice a6 (ks + 1) c6).ownBlock = some (wr.alloc o).heap.size) :
    PMk w (w6.setCell ⟨q, 3, none⟩ (.slice a6 (ks + 1) c6)) q gb bl n size ea ec ke kb a6 c6 (ks + 1) ∧ Blk w6 q [.int .i64 (size : Nat), .slice (some ⟨gb, 0, none⟩) n n, .slice ea ke ec, .slice sa ks sc] 118 := by
  have hT : Turned (fun i => (Value.slice sa ks sc).ownBlock = some i) wr w6 := ((Turned.refl _ wr).alloc _).grown hg (fun i e => .inl e)
  have hno : ∀ i, (∀ x, sa = some x → x.block ≠ i) → ¬ (Value.slice sa ks sc).ownBlock = some i := by
    intro i hi he
    cases sa with
    | none => cases he
    | some x => exact hi x rfl (by simpa [Value.ownBlock] using he)
  have n1 : ¬ (Value.slice sa ks sc).ownBlock = some q := hno q (fun x hx => (h.sfar x hx).1)
  have n2 : ¬ (Value.slice sa ks sc).ownBlock = some gb := hno gb (fun x hx => (h.sfar x hx).2.1)
  have n3 : ∀ i, i < kb → ¬ (Value.slice sa ks sc).ownBlock = some (bl i) := fun i hi => hno _ (fun x hx e => (h.sfar x hx).2.2 i hi e.symm)
  have hq := h.hd.lt
  have hgl := h.gg.lt
  have hfar : ∀ x, a6 = some x → (x.block ≠ q ∧ x.block ≠ gb ∧ (∀ i, i < kb → bl i ≠ x.block)) ∧ ∀ y, ea = some y → y.block ≠ x.block := by
    rintro x rfl
    rcases hat with e | e
    · have e' : ∀ i, x.block = i → (Value.slice sa ks sc).ownBlock = some i := fun i hi => by rw [← e, ← hi]; rfl
      refine ⟨⟨fun h' => n1 (e' _ h'), fun h' => n2 (e' _ h'), fun i hi h' => n3 i hi (e' _ h'.symm)⟩, fun y hy h' => ?_⟩
      have := e' _ h'.symm
      cases sa with
      | none => cases this
      | some z => exact (h.efar y hy).2.2.2 z rfl (by have : z.block = y.block := by simpa [Value.ownBlock] using this
                                                      exact this.symm)
    · have e : x.block = (wr.alloc o).heap.size := by simpa [Value.ownBlock] using e
      rw [World.size_alloc] at e
      refine ⟨⟨by omega, by omega, fun i hi h' => ?_⟩, fun y hy h' => ?_⟩
      · have := (h.bb i hi).lt; omega
      · subst hy; have := (ow_lt h.env y rfl).2; omega
  have henv : ∀ b, (Value.slice ea ke ec).ownBlock = some b → ¬ (Value.slice sa ks sc).ownBlock = some b := by
    intro b hb
    cases ea with
    | none => cases hb
    | some y =>
      have : y.block = b := by simpa [Value.ownBlock] using hb
      exact hno b (fun x hx e => (h.efar y rfl).2.2.2 x hx (by omega))
  have hq6 := h.hd.turned hT n1
  have htq : Turned (· = q) w6 (w6.setCell ⟨q, 3, none⟩ (.slice a6 (ks + 1) c6)) := turned_set (Turned.refl _ _) _ _
  refine ⟨⟨hq6.set 3 _, (h.gg.turned hT n2).turned htq (Ne.symm h.ne.1), ow_turned (ow_turned h.env hT henv) htq (fun b hb e => ?_), ow_turned hown htq (fun b hb e => ?_), fun i hi => ((h.bb i hi).turned hT (n3 i hi)).turned htq (h.blo i hi).2.1, h.blo, h.inj, h.ne, fun x hx => ?_, fun y hy => (hfar y hy).1, ?_⟩, hq6⟩
  · cases ea with
    | none => cases hb
    | some y => exact (h.efar y rfl).1 (by simpa [Value.ownBlock, e] using hb)
  · cases a6 with
    | none => cases hb
    | some x => exact (hfar x rfl).1.1 (by simpa [Value.ownBlock, e] using hb)
  · obtain ⟨a1, a2, a3, _⟩ := h.efar x hx
    exact ⟨a1, a2, a3, fun y hy => (hfar y hy).2 x hx⟩
  · refine ((h.st.past hT (fun i hi => ?_)).trans (Turned.refl _ _)).setCell (p := ⟨q, 3, none⟩) (.inr h.ne.2.1) _
    cases sa with
    | none => cases hi
    | some x => have := ow_lt h.stk x rfl
                have e : x.block = i := by simpa [Value.ownBlock] using hi
                exact .inr (by omega)

theorem ow_blkm {w : World} {B : Nat} {e : TypeId} {m n cc : Nat} {ao : Option Addr} {xs : List Value} (h : w.ownsRow B e m (.slice ao n cc) n xs) (h0 : 0 < n) : ∃ g r, ao = some ⟨g, 0, none⟩ ∧ B ≤ g ∧ Blk w g (xs ++ r) e := by
  rcases h.2 with ⟨_, rfl⟩ | ⟨g, cap', cur, h', hB, hg, hnc, hcm, hcs, htake⟩
  · omega
  · simp only [Value.slice.injEq, true_and] at h'
    obtain ⟨rfl, rfl⟩ := h'
    refine ⟨g, cur.toList.drop (n * m), rfl, hB, ?_⟩
    have : xs ++ cur.toList.drop (n * m) = cur.toList := by rw [← htake]; exact List.take_append_drop _ _
    rw [this]
    exact hg

theorem PMk.done {w wr : World} {q gb : Nat} {bl : Nat → Nat} {n size ec sc : Nat} {ea sa : Option Addr} (h : PMk w wr q gb bl n size ea ec n n sa sc n) (h0 : 1 ≤ n) :
    ∃ W, (pT q (PM.new n size)).at_ wr W ∧ Still w wr ∧ ∀ k, W k → w.heap.size ≤ k := by
  obtain ⟨eb, er, rfl, hB, hev⟩ := ow_blkm h.env h0
  obtain ⟨sb, sr, rfl, hB2, hst⟩ := ow_blkm h.stk h0
  obtain ⟨a1, a2, a3, a4⟩ := h.efar _ rfl
  obtain ⟨b1, b2, b3⟩ := h.sfar _ rfl
  have a5 := a4 _ rfl
  dsimp only at a1 a2 a3 a5 b1 b2 b3
  have hsl : (PM.new n size).sl.length = n := by simp [PM.new]
  have hfl : (PM.new n size).fr.length = n := by simp [PM.new]
  have key : ∀ (k : Nat) (s : Slt), (PM.new n size).sl[k]? = some s → k < n ∧ s = ⟨0, 0, []⟩ := by
    intro k s hs
    simp only [PM.new, List.getElem?_replicate] at hs
    split at hs
    · exact ⟨by assumption, (Option.some.inj hs).symm⟩
    · cases hs
  refine ⟨fun i => i = q ∨ i = gb ∨ i = eb ∨ i = sb ∨ ∃ j, j < n ∧ i = bl j, ⟨⟨gb, eb, ec, bl, sb, sc⟩, ?_⟩, h.st, ?_⟩
  · refine ⟨fun k hk => ?_, fun k hk => ?_, ⟨.inr (.inr (.inr (.inl rfl))), fun hf => ?_⟩, fun i hi => ⟨.inr (.inr (.inr (.inr ⟨i, by rwa [hsl] at hi, rfl⟩))), fun hf => ?_, ?_⟩, fun i j hi hj => h.inj i j (by rwa [hsl] at hi) (by rwa [hsl] at hj), ?_, ?_, ?_, ⟨_, hev, fun k s hs => ?_⟩, fun k s hs => ?_, ?_⟩
    · rcases hk with rfl | rfl | rfl | rfl | ⟨j, hj, rfl⟩
      · exact h.hd.lt
      · exact h.gg.lt
      · exact hev.lt
      · exact hst.lt
      · exact (h.bb j hj).lt
    · rcases hk with rfl | rfl | rfl
      · exact .inl rfl
      · exact .inr (.inl rfl)
      · exact .inr (.inr (.inl rfl))
    · rcases hf with hf | hf | hf
      · exact b1 hf
      · exact b2 hf
      · exact a5 hf.symm
    · rw [hsl] at hi
      rcases hf with hf | hf | hf
      · exact (h.blo i hi).2.1 hf
      · exact (h.blo i hi).2.2 hf
      · exact a3 i hi hf
    · rw [hsl] at hi; exact b3 i hi
    · exact ⟨h.ne.1, fun e => a1 e.symm, fun e => a2 e.symm⟩
    · have := h.hd; rw [hsl, hfl]; exact this
    · have := h.gg; simpa [PM.new] using this
    · obtain ⟨hk, rfl⟩ := key k s hs
      obtain ⟨e1, e2, e3⟩ := envRow_get (bl := bl) (size := size) hk
      have hl := envRow_length bl size n
      refine ⟨?_, ?_, ?_⟩
      · rw [List.getElem?_append_left (by omega)]; exact e1
      · rw [List.getElem?_append_left (by omega)]; exact e2
      · rw [List.getElem?_append_left (by omega)]; exact e3
    · obtain ⟨hk, rfl⟩ := key k s hs
      exact ⟨List.replicate size 0, h.bb k hk, by simp [PM.new]⟩
    · have := h.stk
      rw [stkI_end] at this
      rw [hfl]
      exact ow_base this (Nat.zero_le _)
  · rintro i (rfl | rfl | rfl | rfl | ⟨j, hj, rfl⟩)
    · exact h.ne.2.1
    · exact h.ne.2.2
    · exact hB
    · exact hB2
    · exact (h.blo j hj).1

theorem pmake_no (n s : Int) (w : World) (h : ¬ (1 ≤ n ∧ n ≤ 128 ∧ 1 ≤ s ∧ s ≤ 256)) :
    Calls Tryz.prog 36 #[.int .i64 n, .int .i64 s] w fun e w' => e = .returned (.tuple #[.pointer none, .int .i64 2]) ∧ Still w w' := by
  go_enter Tryz.func36, Tryz.ntmps36
  go_wp2
  all_goals first | (exfalso; omega) | (exfalso; rename_i q; simp at q; omega) | (go_ret2; exact ⟨rfl, Turned.refl _ _⟩)
end Go.Proofs.YtmmkcfiecgpkpaaGreat

/- A new pool of the program. No condition. -/
namespace Go.Proofs.YtmmkcfiecgpkpaaGreat
open Go.RowKit
set_option linter.unusedVariables false
set_option linter.unusedSimpArgs false
set_option maxRecDepth 100000

theorem pinit (w : World) (n size : Nat) {S : Nat} (hS : S = w.heap.size) :
    PMk w ((w.alloc (.cells (ints (nums (List.replicate n 0))).toArray 3)).alloc (.cells #[.int .i64 (size : Nat), .slice (some ⟨S, 0, none⟩) n n, .slice none 0 0, .slice none 0 0] 118)) (S + 1) S (fun _ => 0) n size none 0 0 0 none 0 0 := by
  subst hS
  have b0 := Blk.new w (ints (nums (List.replicate n 0))) 3
  refine ⟨Blk.newAt _ _ _ (by simp) rfl, b0.alloc _, ⟨rfl, .inl ⟨rfl, rfl⟩⟩, ⟨rfl, .inl ⟨rfl, rfl⟩⟩, fun i hi => absurd hi (Nat.not_lt_zero _), fun i hi => absurd hi (Nat.not_lt_zero _), fun i j hi => absurd hi (Nat.not_lt_zero _), ⟨by omega, by omega, by omega⟩, fun x hx => (by cases hx), fun x hx => (by cases hx), ((Turned.refl _ _).alloc _).alloc _⟩

set_option maxHeartbeats 4000000 in
theorem pmake_ok (n size : Nat) (w : World) (h1 : 1 ≤ n) (h2 : n ≤ 128) (h3 : 1 ≤ size) (h4 : size ≤ 256) :
    Calls Tryz.prog 36 #[.int .i64 n, .int .i64 size] w (PNew pT w n size) := by
  obtain ⟨i0, hi, hz0, hz1, hz2⟩ := info_parts infoIntW
  obtain ⟨i1, ki, kz0, kz1, kz2⟩ := info_parts infoByte
  obtain ⟨i2, ei, ez0, ez1, ez2⟩ := info_parts infoEnv
  have hb : (i0.bytes : Int) * (n : Int) ≤ 281474976710656 := by rw [hz2]; omega
  have kb : (i1.bytes : Int) * (size : Int) ≤ 281474976710656 := by rw [kz2]; omega
  have hmk := fun W : World => run_make (P := Tryz.prog) W 23 3 i0 _ Tryz.underlying23 hi hz0 .i64 .i64 (n : Int) (n : Int) (Int.natCast_nonneg n) (Int.le_refl _) hb (by omega)
  have kmk := fun W : World => run_make (P := Tryz.prog) W 35 5 i1 _ Tryz.underlying35 ki kz0 .i64 .i64 (0 : Int) (size : Int) (Int.le_refl 0) (by omega) kb (by omega)
  simp only [hz1, Int.toNat_natCast, Nat.mul_one, show Value.cells (.int .i64 0) = #[.int .i64 0] from rfl, made_ints] at hmk
  simp only [kz1, Int.toNat_natCast, Int.toNat_zero, Nat.mul_one, show Value.cells (.int .u8 0) = #[.int .u8 0] from rfl, made_byt] at kmk
  clear hb kb ki kz0 kz1 kz2
  go_enter Tryz.func36, Tryz.ntmps36
  go_wp2
  have HI := Lib.hid (pinit w n size rfl)
  clear hmk
  obtain ⟨W0, hW0⟩ : ∃ W0, ((w.alloc (.cells (ints (nums (List.replicate n 0))).toArray 3)).alloc (.cells #[.int .i64 (size : Nat), .slice (some ⟨w.heap.size, 0, none⟩) n n, .slice none 0 0, .slice none 0 0] 118)) = W0 := ⟨_, rfl⟩
  rw [hW0] at HI ⊢
  clear hW0
  go_loopw [28] (fun i wr => ∃ (k : Nat) (bl : Nat → Nat) (ea : Option Addr) (ec : Nat) (sa : Option Addr) (sc : Nat), k ≤ n ∧ i = .int .i64 k ∧ PMk w wr (w.heap.size + 1) w.heap.size bl n size ea ec k k sa sc k) (fun i _ => n - (intOf i).toNat)
  case atStart => exact ⟨0, _, none, 0, none, 0, Nat.zero_le _, rfl, HI.out⟩
  case round =>
    clear HI
    obtain ⟨k, bl, ea, ec, sa, sc, hk, rfl, hM⟩ := hrel
    have HM := Lib.hid hM
    by_cases hlt : k < n
    · have c2 : wr.cell? ⟨w.heap.size + 1, 2, none⟩ = some (.slice ea k ec) := hM.hd.cell rfl
      have f2 := hM.hd.free 2
      have hql : w.heap.size + 1 < wr.heap.size := hM.hd.lt
      have hlo : w.heap.size ≤ wr.heap.size := by omega
      have hbA : Blk (wr.alloc (.cells (byt (List.replicate size 0)).toArray 5)) wr.heap.size (byt (List.replicate size 0)) 5 := Blk.newAt wr _ _ rfl rfl
      have HB := Lib.hid (hM.bytes ((Turned.refl _ wr).alloc _) hbA)
      have HStep := Lib.hid (fun (w6 : World) (a6 : Option Addr) (c6 : Nat)
        (hown : w6.ownsRow w.heap.size 120 3 (.slice a6 (k + 1) c6) (k + 1) (envRow bl size k ++ [.int .i64 (k : Nat), .int .i64 0, .slice (some ⟨wr.heap.size, 0, none⟩) 0 size]))
        (hg : ((wr.alloc (.cells (byt (List.replicate size 0)).toArray 5)).alloc (.cells #[.int .i64 (k : Nat), .int .i64 0, .slice (some ⟨wr.heap.size, 0, none⟩) 0 size] 120)).drew.grownBy w6 (Value.slice ea k ec).ownBlock) hat =>
          HB.out.env_step (w6 := w6) (a6 := a6) (c6 := c6) (by
            have : envRow (fun i => if i = k then wr.heap.size else bl i) size (k + 1) = envRow bl size k ++ [.int .i64 (k : Nat), .int .i64 0, .slice (some ⟨wr.heap.size, 0, none⟩) 0 size] := by
              rw [envRow, envRow_congr (bl' := bl) (fun i hi => by simp; intro hh; omega)]
              simp
            rw [this]; exact hown) (o := .cells #[.int .i64 (k : Nat), .int .i64 0, .slice (some ⟨wr.heap.size, 0, none⟩) 0 size] 120) ⟨hg.os, hg.tape, hg.output, hg.size, hg.block⟩ hat)
      have HC := Lib.hid (show ∀ (j : Nat) (u : Value), [Value.int .i64 (k : Nat), .int .i64 0, .slice (some ⟨wr.heap.size, 0, none⟩) 0 size][j]? = some u → ((wr.alloc (.cells (byt (List.replicate size 0)).toArray 5)).alloc (.cells #[.int .i64 (k : Nat), .int .i64 0, .slice (some ⟨wr.heap.size, 0, none⟩) 0 size] 120)).drew.cell? ((⟨wr.heap.size + 1, 0, none⟩ : Addr).add j) = some u from fun j u hj => by
        have := ow_cells (wr.alloc (.cells (byt (List.replicate size 0)).toArray 5)) [Value.int .i64 (k : Nat), .int .i64 0, .slice (some ⟨wr.heap.size, 0, none⟩) 0 size] 120 j u hj
        rw [World.size_alloc] at this
        exact this)
      have c2b : ((wr.alloc (.cells (byt (List.replicate size 0)).toArray 5)).alloc (.cells #[.int .i64 (k : Nat), .int .i64 0, .slice (some ⟨wr.heap.size, 0, none⟩) 0 size] 120)).cell? ⟨w.heap.size + 1, 2, none⟩ = some (.slice ea k ec) := still_cell (((Turned.refl _ wr).alloc _).alloc _) c2 rfl
      have c2a : (wr.alloc (.cells (byt (List.replicate size 0)).toArray 5)).cell? ⟨w.heap.size + 1, 2, none⟩ = some (.slice ea k ec) := still_cell ((Turned.refl _ wr).alloc _) c2 rfl
      clear hM hbA
      go_upto_region 7 with fail
      go_region_law (refine step_append_own rfl (.tmp 35) (.tmp 40) 116 rfl w.heap.size 120 i2 _ 3 40 Tryz.underlying116 ei ez0 ez1 ez2 rfl (by decide) _ k (envRow bl size k) rfl (ow_still HM.out.env (((Turned.refl _ _).alloc _).alloc _).drew) _ 1 1 [.int .i64 (k : Nat), .int .i64 0, .slice (some ⟨wr.heap.size, 0, none⟩) 0 size] rfl rfl HC.out (by intro u hu; simp at hu; rcases hu with rfl | rfl | rfl <;> rfl) (by unfold maxLen; omega) (by omega) (by simp; omega) ?_; intro v6 w6 hown6 hg6 hat6; obtain ⟨a6, c6, rfl⟩ := ow_slice hown6; obtain ⟨hP6, hq6⟩ := HStep.out w6 a6 c6 hown6 hg6 hat6; have HP6 := Lib.hid hP6; have y2 := hq6.cell (o := 2) rfl; have y4 := hq6.free 2; clear hown6 hg6 hat6 hP6 hq6)
      all_goals
        obtain ⟨W7, hW7⟩ : ∃ W7, w6.setCell ⟨w.heap.size + 1, 2, none⟩ (.slice a6 (k + 1) c6) = W7 := ⟨_, rfl⟩
        rw [hW7] at HP6 ⊢
        have d3 : W7.cell? ⟨w.heap.size + 1, 3, none⟩ = some (.slice sa k sc) := HP6.out.hd.cell rfl
        have d4 := HP6.out.hd.free 3
        have hlo7 : w.heap.size ≤ W7.heap.size := HP6.out.st.size
        have hq7 : w.heap.size + 1 < W7.heap.size := HP6.out.hd.lt
        have hkn : (k : Int) < (n : Int) := by omega
        have HIS := Lib.hid (show ints (stkI n k) ++ [.int .i64 ((n : Int) - 1 - (k : Int))] = ints (stkI n (k + 1)) by rw [stkI_step]; simp [ints])
        clear hW7 y2 y4 HStep HC HB HM c2 c2a c2b f2 kmk hql hlo
        go_wp2_with (at_builtin; refine wpList_append_own_at _ rfl (.tmp 48) (.tmp 53) 23 rfl w.heap.size 3 i0 (.int .i64 0) 1 8 Tryz.underlying23 hi hz0 hz1 hz2 rfl (by decide) (.slice sa k sc) k (ints (stkI n k)) rfl (ow_still HP6.out.stk ((Turned.refl _ _).alloc _)) ⟨W7.heap.size, 0, none⟩ 1 1 [.int .i64 ((n : Int) - 1 - (k : Int))] rfl rfl (ow_cells W7 _ _) (ow_ints rfl) (by unfold maxLen; omega) (by omega) (by simp; omega) ?_; intro v8 w8 hown8 hg8 _ hat8; obtain ⟨a8, c8, rfl⟩ := ow_slice hown8; rw [HIS.out] at hown8; obtain ⟨hP8, hq8⟩ := HP6.out.stk_step hown8 hg8 hat8; have HP8 := Lib.hid hP8; have e3 := hq8.cell (o := 3) rfl; have e4 := hq8.free 3; clear hown8 hg8 hat8 hP8 hq8)
        go_roundw
        case rel => exact ⟨k + 1, _, a6, c6, a8, c8, by omega, by go_num, HP8.out⟩
        case measure => simp [intOf]; omega
    · obtain rfl : k = n := by omega
      clear hM
      go_wp2
      go_ret2
      exact ⟨w.heap.size + 1, rfl, HM.out.done h1⟩
end Go.Proofs.YtmmkcfiecgpkpaaGreat

/- slices.Reverse of numbers. No condition. -/
namespace Go.Proofs.YtmmkcfiecgpkpaaGreat
open Go.RowKit
set_option linter.unusedVariables false
set_option linter.unusedSimpArgs false
set_option maxRecDepth 100000

/-- So many of both ends have changed places. -/
def rv (l : List Int) : Nat → List Int
  | 0 => l
  | k + 1 => ((rv l k).set k (l[l.length - 1 - k]?.getD 0)).set (l.length - 1 - k) (l[k]?.getD 0)
theorem rv_length (l : List Int) : ∀ k, (rv l k).length = l.length
  | 0 => rfl
  | k + 1 => by simp [rv, rv_length l k]
theorem rv_get (l : List Int) : ∀ k t, k + k ≤ l.length → t < l.length → (rv l k)[t]? = if t < k ∨ l.length - k ≤ t then l.reverse[t]? else l[t]?
  | 0, t, _, ht => by rw [if_neg (by omega)]; rfl
  | k + 1, t, hk, ht => by
    have ih := rv_get l k t (by omega) ht
    unfold rv
    by_cases e1 : t = l.length - 1 - k
    · subst e1
      rw [List.getElem?_set_self (by simp [rv_length]; omega), if_pos (.inr (by omega)), List.getElem?_reverse (by omega), show l.length - 1 - (l.length - 1 - k) = k by omega]
      rw [List.getElem?_eq_getElem (show k < l.length by omega)]; rfl
    · rw [List.getElem?_set_ne (fun h => e1 h.symm)]
      by_cases e2 : t = k
      · subst e2
        rw [List.getElem?_set_self (by rw [rv_length]; omega), if_pos (.inl (by omega)), List.getElem?_reverse (by omega)]
        rw [List.getElem?_eq_getElem (show l.length - 1 - t < l.length by omega)]; rfl
      · rw [List.getElem?_set_ne (fun h => e2 h.symm), ih]
        by_cases h : t < k ∨ l.length - k ≤ t
        · rw [if_pos h, if_pos (by omega)]
        · rw [if_neg h, if_neg (by omega)]
theorem rv_end (l : List Int) (k : Nat) (h1 : k + k ≤ l.length) (h2 : l.length ≤ k + k + 1) : rv l k = l.reverse := by
  apply List.ext_getElem?
  intro t
  by_cases ht : t < l.length
  · rw [rv_get l k t h1 ht]
    split
    · rfl
    · rename_i h
      rw [List.getElem?_reverse ht, show l.length - 1 - t = t by omega]
  · rw [List.getElem?_eq_none (by rw [rv_length]; omega), List.getElem?_eq_none (by simp; omega)]

set_option maxHeartbeats 2000000 in
theorem reverse_any {w : World} {g n c : Nat} {l : List Int} {r : List Value} (hb : Blk w g (ints l ++ r) 3) (hn : n = l.length) (hmax : n ≤ 1000000) :
    Calls Tryz.prog 84 #[.slice (some ⟨g, 0, none⟩) n c] w fun e w' => (∃ v, e = .returned v) ∧ Blk w' g (ints l.reverse ++ r) 3 ∧ Turned (· = g) w w' := by
  have HB := Lib.hid hb
  have HN := Lib.hid hn
  clear hb hn
  go_enter Tryz.func84, Tryz.ntmps84
  go_wp2
  go_loopw [2, 3] (fun i j wr => ∃ k : Nat, k + k ≤ n ∧ i = .int .i64 k ∧ j = .int .i64 ((n : Int) - 1 - k) ∧ Blk wr g (ints (rv l k) ++ r) 3 ∧ Turned (· = g) w wr) (fun i _ _ => n - (intOf i).toNat)
  case atStart => exact ⟨0, Nat.zero_le _, rfl, by go_num, HB.out, Turned.refl _ _⟩
  case round =>
    obtain ⟨k, hk, rfl, rfl, hbr, htr⟩ := hrel
    by_cases hlt : k + k + 1 < n
    · have hlt1 : (k : Int) < (n : Int) - 1 - k := by omega
      obtain ⟨m, hm⟩ : ∃ m : Nat, (n : Int) - 1 - k = m := ⟨n - 1 - k, by omega⟩
      rw [hm] at hlt1 ⊢
      have hmn : m < n := by omega
      have hkn : k < n := by omega
      have hkm : k ≠ m := by omega
      have hmk : m ≠ k := by omega
      obtain ⟨x, hx⟩ := get_some (l := l) (i := k) (by rw [← HN.out]; exact hkn)
      obtain ⟨y, hy⟩ := get_some (l := l) (i := m) (by rw [← HN.out]; exact hmn)
      have gx : (rv l k)[k]? = some x := by rw [rv_get l k k (by rw [← HN.out]; exact hk) (by rw [← HN.out]; exact hkn), if_neg (by rw [← HN.out]; omega), hx]
      have gy : (rv l k)[m]? = some y := by rw [rv_get l k m (by rw [← HN.out]; exact hk) (by rw [← HN.out]; exact hmn), if_neg (by rw [← HN.out]; omega), hy]
      have cx : wr.cell? ⟨g, k, none⟩ = some (.int .i64 x) := hbr.cell (by rw [List.getElem?_append_left (by rw [ints_length]; exact get_lt gx)]; exact ints_get gx)
      have cy : wr.cell? ⟨g, m, none⟩ = some (.int .i64 y) := hbr.cell (by rw [List.getElem?_append_left (by rw [ints_length]; exact get_lt gy)]; exact ints_get gy)
      have fx := hbr.free k
      have fy := hbr.free m
      have HE := Lib.hid (show Blk ((wr.setCell ⟨g, k, none⟩ (.int .i64 y)).setCell ⟨g, m, none⟩ (.int .i64 x)) g (ints (rv l (k + 1)) ++ r) 3 ∧ Turned (· = g) w ((wr.setCell ⟨g, k, none⟩ (.int .i64 y)).setCell ⟨g, m, none⟩ (.int .i64 x)) by
        refine ⟨?_, turned_set (turned_set htr _ _) _ _⟩
        have h1 := (hbr.set k (.int .i64 y)).set m (.int .i64 x)
        have e : ints (rv l (k + 1)) ++ r = ((ints (rv l k) ++ r).set k (.int .i64 y)).set m (.int .i64 x) := by
          rw [rv, show l.length - 1 - k = m by rw [← HN.out]; omega, hx, hy]
          rw [List.set_append_left _ _ (by rw [ints_length]; exact get_lt gx), ints_set, List.set_append_left _ _ (by rw [ints_length]; simpa using get_lt gy), ints_set]
          rfl
        rw [e]
        exact h1)
      have HM := Lib.hid hm
      have HLT := Lib.hid hlt
      clear hbr htr hx hy gx gy hm hlt
      go_wp2
      go_region
      all_goals (go_wp2; go_roundw)
      case rel => exact ⟨k + 1, by have := HLT.out; omega, by go_num, by have := HM.out; go_num, HE.out.1.drew, HE.out.2.drew⟩
      case measure => simp [intOf]; omega
    · have hge : ¬ ((k : Int) < (n : Int) - 1 - k) := by omega
      have HE := Lib.hid (rv_end l k (by rw [← HN.out]; exact hk) (by rw [← HN.out]; omega))
      rw [HE.out] at hbr
      clear hlt
      go_wp2
      go_end0
      exact ⟨⟨_, rfl⟩, hbr, htr⟩
end Go.Proofs.YtmmkcfiecgpkpaaGreat

/- What Free of the program's pool answers. No condition but that the pool is one. -/
namespace Go.Proofs.YtmmkcfiecgpkpaaGreat
open Go.RowKit
set_option linter.unusedVariables false
set_option linter.unusedSimpArgs false
set_option maxRecDepth 100000

theorem ow_addr {w : World} {B : Nat} {e : TypeId} {m n cc : Nat} {a : Addr} {xs : List Value} (h : w.ownsRow B e m (.slice (some a) n cc) n xs) : ∃ g, a = ⟨g, 0, none⟩ := by
  rcases h.2 with ⟨h', _⟩ | ⟨g, cap, cur, h', _⟩
  · simp at h'
  · simp only [Value.slice.injEq, Option.some.injEq] at h'
    exact ⟨g, h'.1⟩

theorem free_any {w : World} {W : Nat → Prop} {q : Nat} {M : PM} {N : Nat} (H0 : (pT q M).at_ w W) (hM : M.Ok N) (n : Nat) (hn : n = M.fr.length) :
    Calls Tryz.prog 56 #[.pointer (some ⟨q, 0, none⟩)] w (GotNums w (nums M.fr) n) := by
  obtain ⟨L, H⟩ := H0
  have HA := Lib.hid (made_any H hM.pos)
  have hfl := hM.frlen
  have c3 : w.cell? ⟨q, 3, none⟩ = some (.slice (some ⟨L.sb, 0, none⟩) n L.sc) := hn ▸ H.hd.cell rfl
  have HC := Lib.hid (clone_ints w ⟨L.sb, 0, none⟩ (nums M.fr.reverse) n L.sc (by simp [nums, hn]) (NumsAt.of_own (hn ▸ H.ss) (by simp [nums, hn])) (by omega))
  have HR := Lib.hid (fun (w' : World) (g c : Nat) (ho : w'.ownsRow w.heap.size 3 1 (.slice (some ⟨g, 0, none⟩) n c) n (ints (nums M.fr.reverse))) => show ∃ r, Blk w' g (ints (nums M.fr.reverse) ++ r) 3 ∧ (ints (nums M.fr.reverse) ++ r).length = c ∧ c ≤ maxLen ∧ w.heap.size ≤ g by
    obtain ⟨r, h1, _, h2, _, h3, h4⟩ := ow_parts ho
    exact ⟨r, h1, h2, h3, h4⟩)
  have HE := Lib.hid (fun (w' w2 : World) (g c : Nat) (r : List Value) (hst : Still w w') (h2 : (ints (nums M.fr.reverse) ++ r).length = c) (h3 : c ≤ maxLen) (h4 : w.heap.size ≤ g) (hb : Blk w2 g (ints (nums M.fr.reverse).reverse ++ r) 3) (ht : Turned (· = g) w' w2) => show GotNums w (nums M.fr) n (.returned (.slice (some ⟨g, 0, none⟩) n c)) w2 by
    have e : (nums M.fr.reverse).reverse = nums M.fr := by simp [nums]
    rw [e] at hb
    refine ⟨_, _, rfl, ow_of_parts hb (by simp [ints, nums, hn]) (by simpa [ints, nums] using h2) h3 h4, hst.past ht (fun i e => .inr (by omega))⟩)
  have HRev := Lib.hid (fun (w' : World) (g c : Nat) (r : List Value) (hb : Blk w' g (ints (nums M.fr.reverse) ++ r) 3) => reverse_any (c := c) hb (n := n) (by simp [nums, hn]) (by omega))
  clear H hM hn hfl
  go_enter Tryz.func56, Tryz.ntmps56
  go_wp2_with (first
    | (go_at_call 82; refine HA.out.mono ?_; rintro e w' ⟨rfl, rfl⟩)
    | (go_at_call 83; refine HC.out.mono ?_; rintro e w1 ⟨a, c, rfl, hown, hst⟩; obtain ⟨g, rfl⟩ := ow_addr hown; obtain ⟨r, r1, r2, r3, r4⟩ := HR.out w1 g c hown)
    | (go_at_call 84; refine (HRev.out _ _ _ r r1).mono ?_; rintro e w2 ⟨⟨v, rfl⟩, hb2, ht2⟩))
  go_ret
  exact HE.out _ _ _ _ r hst r2 r3 r4 hb2 ht2
end Go.Proofs.YtmmkcfiecgpkpaaGreat

/- What giveBack and Drop of the program's pool do. No condition but that the pool is one. -/
namespace Go.Proofs.YtmmkcfiecgpkpaaGreat
open Go.RowKit
set_option linter.unusedVariables false
set_option linter.unusedSimpArgs false
set_option maxRecDepth 100000

theorem give_goes {w w3 w6 : World} {W : Nat → Prop} {q : Nat} {L : PLay} {M : PM} {k : Nat} {s : Slt} (H : PIn w3 W q L M) (hs : M.sl[k]? = some s) (hT3 : Turned W w w3) {a6 : Option Addr} {c6 fl : Nat} (hfl : fl = M.fr.length)
    (hT6 : Turned (· = L.sb) w3 w6) (hown : w6.ownsRow 0 3 1 (.slice a6 (fl + 1) c6) (fl + 1) (ints (nums M.fr.reverse) ++ [.int .i64 (k : Nat)]))
    (hat : (Value.slice a6 (fl + 1) c6).ownBlock = some L.sb ∨ ∃ j, w3.heap.size ≤ j ∧ (Value.slice a6 (fl + 1) c6).ownBlock = some j) :
    Goes (pT q { M with fr := k :: M.fr }) W w (w6.setCell ⟨q, 3, none⟩ (.slice a6 (fl + 1) c6)) ∧ (w6.setCell ⟨q, 3, none⟩ (.slice a6 (fl + 1) c6)).cell? ⟨L.eb, k * 3 + 1, none⟩ = some (.int .i64 s.c) := by
  subst hfl
  obtain ⟨x, rfl⟩ : ∃ x, a6 = some x := by
    cases a6 with
    | none => rcases hat with h | ⟨j, _, h⟩ <;> cases h
    | some x => exact ⟨x, rfl⟩
  obtain ⟨g, rfl⟩ := ow_addr hown
  have hlt := ow_lt hown _ rfl
  -- the pool in w6, the stack's slice as it was told, with the row that it has there
  have hst := H.st.2
  obtain ⟨ev, hev, hl⟩ := H.ee
  have hlW : ∀ k, W k → k < w6.heap.size := fun k hk => Nat.lt_of_lt_of_le (H.lt k hk) hT6.size
  have hg : g = L.sb ∨ w3.heap.size ≤ g := by
    rcases hat with h | ⟨j, hj, h⟩ <;> simp [Value.ownBlock] at h
    · exact .inl h
    · exact .inr (h ▸ hj)
  have hgf : ¬ L.fix q g := by
    rcases hg with rfl | hg
    · exact hst
    · intro h; have := H.lt _ (H.fix _ h); omega
  have hgb : ∀ i, i < M.sl.length → L.bl i ≠ g := by
    rcases hg with rfl | hg
    · exact fun i hi => (H.bs i hi).2.2
    · intro i hi e; have := H.lt _ (H.bs i hi).1; omega
  have hrow : w6.ownsRow 0 3 1 (.slice (some ⟨g, 0, none⟩) (k :: M.fr).length c6) (k :: M.fr).length (ints (nums (k :: M.fr).reverse)) := by
    have : ints (nums (k :: M.fr).reverse) = ints (nums M.fr.reverse) ++ [.int .i64 (k : Nat)] := by simp [ints, nums]
    rw [this]
    exact hown
  have ht : Turned (· = q) w6 (w6.setCell ⟨q, 3, none⟩ (.slice (some ⟨g, 0, none⟩) (M.fr.length + 1) c6)) := turned_set (Turned.refl _ _) _ _
  obtain ⟨n1, n2, n3⟩ := H.ne
  have P : PIn (w6.setCell ⟨q, 3, none⟩ (.slice (some ⟨g, 0, none⟩) (M.fr.length + 1) c6)) (fun i => W i ∨ i = g) q { L with sb := g, sc := c6 } { M with fr := k :: M.fr } := by
    refine ⟨fun i hi => ?_, fun i hi => .inl (H.fix i hi), ⟨.inr rfl, hgf⟩, fun i hi => ⟨.inl (H.bs i hi).1, (H.bs i hi).2.1, hgb i hi⟩, H.inj, H.ne, ?_, ?_, ⟨ev, ?_, hl⟩, fun i t hi => ?_, ?_⟩
    · rw [size_setCell]
      rcases hi with hi | rfl
      · exact hlW i hi
      · exact hlt.2
    · exact (H.hd.turned hT6 (fun e => hst (.inl e.symm))).set 3 _
    · exact (H.gg.turned hT6 (fun e => hst (.inr (.inl e.symm)))).turned ht (Ne.symm n1)
    · exact (hev.turned hT6 (fun e => hst (.inr (.inr e.symm)))).turned ht (Ne.symm n2)
    · obtain ⟨r, r1, r2⟩ := H.bb i t hi
      have hb := H.bs i (get_lt hi)
      exact ⟨r, (r1.turned hT6 hb.2.2).turned ht (fun e => hb.2.1 (.inl e)), r2⟩
    · exact ow_turned hrow ht (fun b hb e => by cases hb; exact hgf (.inl e))
  refine ⟨pT_goes P ((hT3.past (hT6.mono (fun i _ e => by subst e; exact H.st.1) : Turned W w3 w6) (fun i hi => .inl hi)).setCell (p := ⟨q, 3, none⟩) (.inl (H.fix _ (.inl rfl))) _) ?_, (P.slot (k := k) hs).2.1⟩
  rintro i (hi | rfl)
  · exact .inl hi
  · rcases hg with rfl | hg
    · exact .inl H.st.1
    · exact .inr (Nat.le_trans hT3.size hg)

set_option maxHeartbeats 2000000 in
theorem give_any {w : World} {W : Nat → Prop} {q : Nat} {L : PLay} {M : PM} {k : Nat} {s : Slt} (H : PIn w W q L M) (hs : M.sl[k]? = some s) (hf : M.fr.length ≤ 128) (hg : s.g < 1000000000) :
    Calls Tryz.prog 124 #[.pointer (some ⟨q, 0, none⟩), .pointer (some ⟨L.eb, k * 3, none⟩)] w fun e w' => (∃ v, e = .returned v) ∧ Goes (pT q { M with sl := M.sl.set k { s with g := s.g + 1, b := [] }, fr := k :: M.fr }) W w w' ∧ w'.cell? ⟨L.eb, k * 3 + 1, none⟩ = some (.int .i64 s.c) := by
  obtain ⟨i0, hi, hz0, hz1, hz2⟩ := info_parts infoIntW
  obtain ⟨n1, n2, n3⟩ := H.ne
  obtain ⟨n, hn⟩ : ∃ n, n = M.sl.length := ⟨_, rfl⟩
  obtain ⟨fl, hfl⟩ : ∃ fl, fl = M.fr.length := ⟨_, rfl⟩
  have c1 : w.cell? ⟨q, 1, none⟩ = some (.slice (some ⟨L.gb, 0, none⟩) n n) := hn ▸ H.hd.cell rfl
  obtain ⟨e0, e1, e2, e3⟩ := H.slot hs
  have hkn : k < n := by rw [hn]; exact get_lt hs
  have f1 := H.gg.free k
  have f2 := H.freeE (k * 3 + 2)
  obtain ⟨w3, hw3⟩ : ∃ w3, ((w.setCell ⟨L.gb, k, none⟩ (.int .i64 ((s.g : Int) + 1))).setCell ⟨L.eb, k * 3 + 2, none⟩ (.slice (some ⟨L.bl k, 0, none⟩) 0 M.size)).drew = w3 := ⟨_, rfl⟩
  have H1 := H.setG hs (s.g + 1)
  have H2 : PIn w3 W q L { M with sl := M.sl.set k { s with g := s.g + 1, b := [] } } := by
    rw [← hw3]
    rw [show ((s.g + 1 : Nat) : Int) = (s.g : Int) + 1 by omega] at H1
    obtain ⟨r, r1, r2⟩ := H1.bb k _ (get_set_self' hs)
    have := H1.setL (k := k) (get_set_self' hs) [] ⟨s.b ++ r, by simpa using r1, by simpa using r2⟩ (m := 0) rfl
    have := this.still (Turned.refl _ _).drew
    simpa using this
  have hT3 : Turned W w w3 := by
    rw [← hw3]
    exact (((Turned.refl W w).setCell (p := ⟨L.gb, k, none⟩) (.inl (H.fix _ (.inr (.inl rfl)))) _).setCell (p := ⟨L.eb, k * 3 + 2, none⟩) (.inl (H.fix _ (.inr (.inr rfl)))) _).drew
  have HG := Lib.hid (fun (w6 : World) (a6 : Option Addr) (c6 : Nat) => give_goes (w6 := w6) (a6 := a6) (c6 := c6) (k := k) H2 (get_set_self' hs) hT3 (fl := fl) hfl)
  have d3 : w3.cell? ⟨q, 3, none⟩ = some (.slice (some ⟨L.sb, 0, none⟩) fl L.sc) := by rw [hfl]; exact H2.hd.cell rfl
  have d4 := H2.hd.free 3
  have d0 := (H2.slot (get_set_self' hs)).1
  have HSS : Hid (w3.ownsRow 0 3 1 (.slice (some ⟨L.sb, 0, none⟩) fl L.sc) fl (ints (nums M.fr.reverse))) := Lib.hid (by rw [hfl]; exact H2.ss)
  have HQ := Lib.hid (fun (w6 : World) (ht : Turned (· = L.sb) w3 w6) => (⟨(H2.hd.turned ht (fun e => H.st.2 (.inl e.symm))).cell rfl, (H2.hd.turned ht (fun e => H.st.2 (.inl e.symm))).free 3⟩ : w6.cell? ⟨q, 3, none⟩ = some (.slice (some ⟨L.sb, 0, none⟩) M.fr.length L.sc) ∧ w6.frozen? ⟨q, 3, none⟩ = false))
  rw [← hfl] at HQ
  have HW3 := Lib.hid hw3
  have hgg : (s.g : Int) < 1000000000 := by omega
  have hgg0 : (0 : Int) ≤ (s.g : Int) := by omega
  have hfl' : fl ≤ 128 := by omega
  have hql : q < w3.heap.size := cell_lt d3
  generalize s.g = gn at *
  generalize s.b.length = bn at *
  generalize M.size = sz at *
  clear hw3 H1 H2 hs hf hn hfl H hT3 hg
  go_enter Tryz.func124, Tryz.ntmps124
  go_upto_region 0 with fail
  go_cut [] (fun wx => wx = (w.setCell ⟨L.gb, k, none⟩ (.int .i64 ((gn : Int) + 1))).drew)
  case first =>
    clear hi hz0 hz1 hz2
    go_region
    all_goals (go_wp2_with fail; go_meet)
    all_goals rfl
  case rest =>
    subst hcut
    go_upto_region 2 with fail
    rw [HW3.out]
    clear HW3 c1 e0 e1 e2 e3 f1 f2
    go_region_law (refine step_append_own rfl (.tmp 28) (.tmp 33) 23 rfl 0 3 i0 (.int .i64 0) 1 8 Tryz.underlying23 hi hz0 hz1 hz2 rfl (by decide) _ fl (ints (nums M.fr.reverse)) rfl (ow_still HSS.out ((Turned.refl _ _).drew.alloc _)) _ 1 1 [.int .i64 (k : Nat)] rfl rfl (ow_cells _ _ _) (ow_ints rfl) (by unfold maxLen; omega) (by omega) (Nat.zero_le _) ?_; intro v6 w6 hown6 hg6 hat6; obtain ⟨a6, c6, rfl⟩ := ow_slice hown6; have HT6 := Lib.hid (show Turned (· = L.sb) w3 w6 from ((Turned.refl (· = L.sb) w3).drew.alloc (.cells #[.int .i64 (k : Nat)] 3)).grown hg6 (fun i e => .inl (by cases e; rfl))); have HO6 := Lib.hid hown6; have HAT := Lib.hid (show (Value.slice a6 (fl + 1) c6).ownBlock = some L.sb ∨ ∃ j, w3.heap.size ≤ j ∧ (Value.slice a6 (fl + 1) c6).ownBlock = some j from hat6.elim .inl (fun h => .inr ⟨_, by simp, h⟩)); obtain ⟨q3, q4⟩ := HQ.out w6 HT6.out; clear hown6 hg6 hat6)
    all_goals (go_wp2_with fail)
    all_goals (go_end0; have hgo := HG.out w6 a6 c6 HT6.out HO6.out HAT.out; exact ⟨⟨_, rfl⟩, hgo.1, hgo.2⟩)

set_option maxHeartbeats 2000000 in
theorem drop_any {w : World} {W : Nat → Prop} {q : Nat} {M : PM} {N : Nat} (H0 : (pT q M).at_ w W) (hM : M.Ok N) (hN : N < 1000000) (h : Int) :
    Calls Tryz.prog 101 #[.pointer (some ⟨q, 0, none⟩), .int .i64 h] w fun e w' => e = .returned (.tuple #[.int .i64 (M.dropN h), .int .i64 (M.err h)]) ∧ Goes (pT q (M.dropM h)) W w w' := by
  obtain ⟨L, H⟩ := H0
  by_cases he : M.err h = 0
  · obtain ⟨h1, hk, hs, hg, hc⟩ := PM.live he
    have HV := Lib.hid (find_ok H hM he)
    have hlow := hM.low _ _ hs
    have hE0 := H.ownE
    have HC := Lib.hid (fun w' (hst : Still w w') => (⟨((H.still hst).slot hs).2.1, (H.still hst).freeE _⟩ : w'.cell? ⟨L.eb, hSlot h * 3 + 1, none⟩ = some (.int .i64 (M.slt h).c) ∧ w'.frozen? ⟨L.eb, hSlot h * 3 + 1, none⟩ = false))
    by_cases h1 : (M.slt h).c = 1
    · have HD := Lib.hid (show M.dropM h = { M with sl := M.sl.set (hSlot h) ⟨(M.slt h).g + 1, 0, []⟩, fr := hSlot h :: M.fr } by unfold PM.dropM; rw [if_neg (by simp [he]), if_pos h1])
      have HN2 := Lib.hid (show M.dropN h = 0 by unfold PM.dropN; rw [if_neg (by simp [he]), h1]; rfl)
      have HG := Lib.hid (fun w' (hst : Still w w') => show Calls Tryz.prog 124 #[.pointer (some ⟨q, 0, none⟩), .pointer (some ⟨L.eb, hSlot h * 3, none⟩)] (w'.setCell ⟨L.eb, hSlot h * 3 + 1, none⟩ (.int .i64 0)) fun e w2 => (∃ v, e = .returned v) ∧ Goes (pT q (M.dropM h)) W w w2 ∧ w2.cell? ⟨L.eb, hSlot h * 3 + 1, none⟩ = some (.int .i64 0) by
        have HH := (H.still hst).setC hs 0
        rw [show ((0 : Nat) : Int) = 0 from rfl] at HH
        refine (give_any HH (get_set_self' hs) hM.frlen (by show (M.slt h).g < _; omega)).mono ?_
        rintro e w2 ⟨he2, ⟨W', g1, g2, g3⟩, hc2⟩
        refine ⟨he2, ⟨W', ?_, ((hst.mono (T := W) (fun _ _ h => h.elim)).setCell (p := ⟨L.eb, hSlot h * 3 + 1, none⟩) (.inl hE0) _).trans g2, fun i hi => ?_⟩, hc2⟩
        · rw [HD.out]
          simpa using g1
        · rcases g3 i hi with h | h
          · exact .inl h
          · rw [size_setCell] at h; exact .inr (Nat.le_trans hst.size h))
      rw [h1] at HC
      rw [HN2.out, he]
      generalize hSlot h = k at *
      generalize M.dropM h = M2 at *
      clear HD HN2 h1 hs hg hc hlow hN H hM he hk
      go_enter Tryz.func101, Tryz.ntmps101
      go_wp2_with (first
        | (go_at_call 123; refine HV.out.mono ?_; rintro e w' ⟨rfl, hst⟩; obtain ⟨cc, fc⟩ := HC.out w' hst)
        | (go_at_call 124; refine (HG.out w' hst).mono ?_; rintro e w2 ⟨⟨v, rfl⟩, hgo, c2⟩))
      go_ret2
      exact ⟨rfl, hgo⟩
    · have h2 : 2 ≤ (M.slt h).c := by omega
      have HD := Lib.hid (show M.dropM h = { M with sl := M.sl.set (hSlot h) { M.slt h with c := (M.slt h).c - 1 } } by unfold PM.dropM; rw [if_neg (by simp [he]), if_neg h1])
      have hX : (((M.slt h).c - 1 : Nat) : Int) = ((M.slt h).c : Int) - 1 := by omega
      have HN2 := Lib.hid (show M.dropN h = ((M.slt h).c : Int) - 1 by unfold PM.dropN; rw [if_neg (by simp [he]), hX])
      have HG := Lib.hid (fun w' (hst : Still w w') => show Goes (pT q (M.dropM h)) W w (w'.setCell ⟨L.eb, hSlot h * 3 + 1, none⟩ (.int .i64 (((M.slt h).c : Int) - 1))) by
        have := (H.still hst).setC hs ((M.slt h).c - 1)
        rw [hX] at this
        rw [HD.out]
        exact pT_goes this ((hst.mono (T := W) (fun _ _ h => h.elim)).setCell (p := ⟨L.eb, _, none⟩) (.inl hE0) _) (fun k hk => .inl hk))
      rw [HN2.out, he]
      have hci : ((M.slt h).c : Int) < 1099511627776 := by omega
      have hc0 : (2 : Int) ≤ ((M.slt h).c : Int) := by omega
      have hzz : (((M.slt h).c : Int) - 1 == 0) = false := by rw [beq_eq_false_iff_ne]; omega
      generalize hSlot h = k at *
      generalize M.dropM h = M2 at *
      clear HD HN2 hX h2 h1 hs hg hc hlow H hM hN
      generalize ((M.slt h).c : Int) = c at *
      clear hk he
      go_enter Tryz.func101, Tryz.ntmps101
      go_wp2_with (go_at_call 123; refine HV.out.mono ?_; rintro e w' ⟨rfl, hst⟩; obtain ⟨cc, fc⟩ := HC.out w' hst)
      go_ret2
      exact ⟨rfl, HG.out w' hst⟩
  · have HV := Lib.hid (find_no H hM he)
    have hb : (M.err h != 0) = true := by rw [bne_iff_ne]; exact he
    rw [show M.dropM h = M by unfold PM.dropM; rw [if_pos he], show M.dropN h = 0 by unfold PM.dropN; rw [if_pos he]]
    have HG := Lib.hid (fun w' (hst : Still w w') => pT_still H hst)
    generalize M.err h = x at *
    clear H hM hN he
    go_enter Tryz.func101, Tryz.ntmps101
    go_wp2_with (go_at_call 123; refine HV.out.mono ?_; rintro e w' ⟨rfl, hst⟩)
    go_ret2
    exact ⟨rfl, HG.out w' hst⟩
end Go.Proofs.YtmmkcfiecgpkpaaGreat

/- The program's pool keeps the words that the statements want of it. No condition. -/
namespace Go.Proofs.YtmmkcfiecgpkpaaGreat
open Go.RowKit
set_option linter.unusedVariables false

theorem pool_api : PoolApi pT where
  make_no := fun n s w _ _ h => pmake_no n s w h
  make_ok := fun n s w h1 h2 h3 h4 => pmake_ok n s w h1 h2 h3 h4
  take := fun h hM hN n _ => take_any h hM hN n
  drop := fun h hM hN k _ => drop_any h hM hN k
  count := fun h hM _ k _ => pcount_any h hM k
  gen := fun h hM _ k _ => (pgen_any h hM k).mono fun e w' ⟨h1, h2⟩ => ⟨h1, h2 ▸ Turned.refl _ _⟩
  free := fun h hM _ n hn => free_any h hM n hn
  slots := fun h hM _ => (slots_any h hM).mono fun e w' ⟨h1, h2⟩ => ⟨h1, h2 ▸ Turned.refl _ _⟩
  size := fun h hM _ => (size_any h hM).mono fun e w' ⟨h1, h2⟩ => ⟨h1, h2 ▸ Turned.refl _ _⟩
end Go.Proofs.YtmmkcfiecgpkpaaGreat
