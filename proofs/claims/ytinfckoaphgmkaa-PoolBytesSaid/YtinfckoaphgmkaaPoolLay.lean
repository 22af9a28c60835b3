/- The program's pool, as it lies in memory: what it holds, and what single stores leave of it. No condition. -/
import Derived.Test.YtinfckoaphgmkaaPoolRef
namespace Go.Proofs.Ytinfckoaphgmkaa
open Go.RowKit
set_option linter.unusedVariables false
set_option maxRecDepth 100000

structure PLay where
  gb : Nat
  eb : Nat
  ec : Nat
  bl : Nat → Nat
  sb : Nat
  sc : Nat

/-- A block that is neither the stack's nor a slot's bytes'. -/
def PLay.fix (q : Nat) (L : PLay) (k : Nat) : Prop := k = q ∨ k = L.gb ∨ k = L.eb

structure PIn (w : World) (W : Nat → Prop) (q : Nat) (L : PLay) (M : PM) : Prop where
  lt : ∀ k, W k → k < w.heap.size
  fix : ∀ k, L.fix q k → W k
  st : W L.sb ∧ ¬ L.fix q L.sb
  bs : ∀ i, i < M.sl.length → W (L.bl i) ∧ ¬ L.fix q (L.bl i) ∧ L.bl i ≠ L.sb
  inj : ∀ i j, i < M.sl.length → j < M.sl.length → i ≠ j → L.bl i ≠ L.bl j
  ne : q ≠ L.gb ∧ q ≠ L.eb ∧ L.gb ≠ L.eb
  hd : Blk w q [.int .i64 M.size, .slice (some ⟨L.gb, 0, none⟩) M.sl.length M.sl.length, .slice (some ⟨L.eb, 0, none⟩) M.sl.length L.ec, .slice (some ⟨L.sb, 0, none⟩) M.fr.length L.sc] 63
  gg : Blk w L.gb (ints (nums (M.sl.map (·.g)))) 3
  ee : ∃ ev : List Value, Blk w L.eb ev 66 ∧ ∀ (k : Nat) (s : Slt), M.sl[k]? = some s → ev[k * 3]? = some (.int .i64 (k : Nat)) ∧ ev[k * 3 + 1]? = some (.int .i64 s.c) ∧ ev[k * 3 + 2]? = some (.slice (some ⟨L.bl k, 0, none⟩) s.b.length M.size)
  bb : ∀ (k : Nat) (s : Slt), M.sl[k]? = some s → ∃ r, Blk w (L.bl k) (byt (s.b ++ r)) 5 ∧ (s.b ++ r).length = M.size
  ss : w.ownsRow 0 3 1 (.slice (some ⟨L.sb, 0, none⟩) M.fr.length L.sc) M.fr.length (ints (nums M.fr.reverse))

theorem PIn.turned {w w' : World} {W S : Nat → Prop} {q : Nat} {L : PLay} {M : PM} (h : PIn w W q L M) (ht : Turned S w w') (hs : ∀ k, W k → ¬ S k) : PIn w' W q L M := by
  obtain ⟨ev, hb, hl⟩ := h.ee
  exact ⟨fun k hk => Nat.lt_of_lt_of_le (h.lt k hk) ht.size, h.fix, h.st, h.bs, h.inj, h.ne, h.hd.turned ht (hs _ (h.fix _ (.inl rfl))), h.gg.turned ht (hs _ (h.fix _ (.inr (.inl rfl)))),
    ⟨ev, hb.turned ht (hs _ (h.fix _ (.inr (.inr rfl)))), hl⟩, fun k s hk => by obtain ⟨r, h1, h2⟩ := h.bb k s hk; exact ⟨r, h1.turned ht (hs _ (h.bs k (get_lt hk)).1), h2⟩,
    ow_turned h.ss ht (fun b hb => by cases hb; exact hs _ h.st.1)⟩
theorem PIn.still {w w' : World} {W : Nat → Prop} {q : Nat} {L : PLay} {M : PM} (h : PIn w W q L M) (ht : Still w w') : PIn w' W q L M := h.turned ht (fun _ _ h => h)
theorem PIn.more {w : World} {W W' : Nat → Prop} {q : Nat} {L : PLay} {M : PM} (h : PIn w W q L M) (hW : ∀ k, W k → W' k) (hlt : ∀ k, W' k → k < w.heap.size) : PIn w W' q L M :=
  ⟨hlt, fun k hk => hW k (h.fix k hk), ⟨hW _ h.st.1, h.st.2⟩, fun i hi => ⟨hW _ (h.bs i hi).1, (h.bs i hi).2⟩, h.inj, h.ne, h.hd, h.gg, h.ee, h.bb, h.ss⟩

/-- The program's pool as a thing. -/
def pT (q : Nat) (M : PM) : Thing where
  at_ w W := ∃ L, PIn w W q L M
  lt := by rintro w W ⟨L, h⟩ k hk; exact h.lt k hk
  keep := by rintro w w' W S ⟨L, h⟩ ht hs; exact ⟨L, h.turned ht hs⟩

theorem pT_goes {q : Nat} {M : PM} {W W' : Nat → Prop} {w w' : World} {L : PLay} (h : PIn w' W' q L M) (ht : Turned W w w') (hW : ∀ k, W' k → W k ∨ w.heap.size ≤ k) : Goes (pT q M) W w w' := ⟨W', ⟨L, h⟩, ht, hW⟩
theorem pT_still {q : Nat} {M : PM} {W : Nat → Prop} {w w' : World} {L : PLay} (h : PIn w W q L M) (ht : Still w w') : Goes (pT q M) W w w' := Goes.still (Q := pT q M) ⟨L, h⟩ ht

/-- The cells of a slot. -/
theorem PIn.slot {w : World} {W : Nat → Prop} {q : Nat} {L : PLay} {M : PM} (h : PIn w W q L M) {k : Nat} {s : Slt} (hk : M.sl[k]? = some s) :
    w.cell? ⟨L.eb, k * 3, none⟩ = some (.int .i64 (k : Nat)) ∧ w.cell? ⟨L.eb, k * 3 + 1, none⟩ = some (.int .i64 s.c) ∧ w.cell? ⟨L.eb, k * 3 + 2, none⟩ = some (.slice (some ⟨L.bl k, 0, none⟩) s.b.length M.size) ∧ w.cell? ⟨L.gb, k, none⟩ = some (.int .i64 s.g) := by
  obtain ⟨ev, hb, hl⟩ := h.ee
  obtain ⟨h1, h2, h3⟩ := hl k s hk
  exact ⟨hb.cell h1, hb.cell h2, hb.cell h3, h.gg.cell (ints_get (nums_get (by rw [List.getElem?_map, hk]; rfl)))⟩
theorem PIn.freeE {w : World} {W : Nat → Prop} {q : Nat} {L : PLay} {M : PM} (h : PIn w W q L M) (o : Nat) : w.frozen? ⟨L.eb, o, none⟩ = false := by
  obtain ⟨ev, hb, _⟩ := h.ee
  exact hb.free o
theorem PIn.book {w : World} {W : Nat → Prop} {q : Nat} {L : PLay} {M : PM} (h : PIn w W q L M) : NumsAt w (some ⟨L.gb, 0, none⟩) (M.sl.map fun s => (s.g : Int)) := by
  have := NumsAt.of_blk h.gg
  simpa [nums, Function.comp_def] using this
theorem PIn.bytes {w : World} {W : Nat → Prop} {q : Nat} {L : PLay} {M : PM} (h : PIn w W q L M) {k : Nat} {s : Slt} (hk : M.sl[k]? = some s) : BytesAt w (some ⟨L.bl k, 0, none⟩) s.b := by
  obtain ⟨r, h1, _⟩ := h.bb k s hk
  refine BytesAt.of_blk (r := byt r) (e := 5) ?_
  rwa [show byt (s.b ++ r) = byt s.b ++ byt r by simp [byt]] at h1

theorem get_set_self' {l : List Slt} {k : Nat} {s t : Slt} (hk : l[k]? = some s) : (l.set k t)[k]? = some t := List.getElem?_set_self (get_lt hk)

/-- A slot's count is another. -/
theorem PIn.setC {w : World} {W : Nat → Prop} {q : Nat} {L : PLay} {M : PM} (h : PIn w W q L M) {k : Nat} {s : Slt} (hk : M.sl[k]? = some s) (c : Nat) :
    PIn (w.setCell ⟨L.eb, k * 3 + 1, none⟩ (.int .i64 (c : Int))) W q L { M with sl := M.sl.set k { s with c := c } } := by
  obtain ⟨ev, hb, hl⟩ := h.ee
  obtain ⟨n1, n2, n3⟩ := h.ne
  have ht : Turned (· = L.eb) w (w.setCell ⟨L.eb, k * 3 + 1, none⟩ (.int .i64 (c : Int))) := turned_set (Turned.refl _ _) _ _
  have h1 := h.hd.turned ht n2
  have h2 := h.gg.turned ht n3
  refine ⟨fun i hi => by rw [size_setCell]; exact h.lt i hi, h.fix, h.st, fun i hi => h.bs i (by simpa using hi), fun i j hi hj => h.inj i j (by simpa using hi) (by simpa using hj), h.ne, by simpa using h1, ?_, ⟨_, hb.set _ _, fun i t hit => ?_⟩, fun i t hit => ?_, ow_turned h.ss ht (fun b hb e => by cases hb; exact h.st.2 (.inr (.inr e)))⟩
  · rw [← map_set_same (t := { s with c := c }) (·.g) hk rfl] at h2
    exact h2
  · rcases set_get (get_lt hk) hit with ⟨rfl, rfl⟩ | ⟨hne, hit⟩
    · obtain ⟨e1, e2, e3⟩ := hl _ s hk
      refine ⟨?_, ?_, ?_⟩
      · rw [List.getElem?_set_ne (by omega)]; exact e1
      · exact List.getElem?_set_self (List.getElem?_eq_some_iff.1 e2).1
      · rw [List.getElem?_set_ne (by omega)]; exact e3
    · obtain ⟨e1, e2, e3⟩ := hl _ t hit
      refine ⟨?_, ?_, ?_⟩ <;> rw [List.getElem?_set_ne (by omega)] <;> assumption
  · have hn : ∀ i, i < M.sl.length → L.bl i ≠ L.eb := fun i hi e => (h.bs i hi).2.1 (.inr (.inr e))
    rcases set_get (get_lt hk) hit with ⟨rfl, rfl⟩ | ⟨hne, hit⟩
    · obtain ⟨r, r1, r2⟩ := h.bb _ s hk; exact ⟨r, r1.turned ht (hn _ (get_lt hk)), r2⟩
    · obtain ⟨r, r1, r2⟩ := h.bb _ t hit; exact ⟨r, r1.turned ht (hn _ (get_lt hit)), r2⟩

/-- A slot's generation is another. -/
theorem PIn.setG {w : World} {W : Nat → Prop} {q : Nat} {L : PLay} {M : PM} (h : PIn w W q L M) {k : Nat} {s : Slt} (hk : M.sl[k]? = some s) (g : Nat) :
    PIn (w.setCell ⟨L.gb, k, none⟩ (.int .i64 (g : Int))) W q L { M with sl := M.sl.set k { s with g := g } } := by
  obtain ⟨ev, hb, hl⟩ := h.ee
  obtain ⟨n1, n2, n3⟩ := h.ne
  have ht : Turned (· = L.gb) w (w.setCell ⟨L.gb, k, none⟩ (.int .i64 (g : Int))) := turned_set (Turned.refl _ _) _ _
  have h1 := h.hd.turned ht n1
  refine ⟨fun i hi => by rw [size_setCell]; exact h.lt i hi, h.fix, h.st, fun i hi => h.bs i (by simpa using hi), fun i j hi hj => h.inj i j (by simpa using hi) (by simpa using hj), h.ne, by simpa using h1, ?_, ⟨ev, hb.turned ht (Ne.symm n3), fun i t hit => ?_⟩, fun i t hit => ?_, ow_turned h.ss ht (fun b hb e => by cases hb; exact h.st.2 (.inr (.inl e)))⟩
  · have := h.gg.set k (.int .i64 (g : Int))
    rw [ints_set, nums_setn] at this
    simpa [List.map_set] using this
  · rcases set_get (get_lt hk) hit with ⟨rfl, rfl⟩ | ⟨hne, hit⟩
    · exact hl _ s hk
    · exact hl _ t hit
  · have hn : ∀ i, i < M.sl.length → L.bl i ≠ L.gb := fun i hi e => (h.bs i hi).2.1 (.inr (.inl e))
    rcases set_get (get_lt hk) hit with ⟨rfl, rfl⟩ | ⟨hne, hit⟩
    · obtain ⟨r, r1, r2⟩ := h.bb _ s hk; exact ⟨r, r1.turned ht (hn _ (get_lt hk)), r2⟩
    · obtain ⟨r, r1, r2⟩ := h.bb _ t hit; exact ⟨r, r1.turned ht (hn _ (get_lt hit)), r2⟩

/-- A slot's bytes are cut to as many others, which its room has. -/
theorem PIn.setL {w : World} {W : Nat → Prop} {q : Nat} {L : PLay} {M : PM} (h : PIn w W q L M) {k : Nat} {s : Slt} (hk : M.sl[k]? = some s) (b : List UInt8) (hr : ∃ r, Blk w (L.bl k) (byt (b ++ r)) 5 ∧ (b ++ r).length = M.size) {m : Nat} (hm : m = b.length) :
    PIn (w.setCell ⟨L.eb, k * 3 + 2, none⟩ (.slice (some ⟨L.bl k, 0, none⟩) m M.size)) W q L { M with sl := M.sl.set k { s with b := b } } := by
  subst hm
  obtain ⟨ev, hb, hl⟩ := h.ee
  obtain ⟨n1, n2, n3⟩ := h.ne
  have ht : Turned (· = L.eb) w (w.setCell ⟨L.eb, k * 3 + 2, none⟩ (.slice (some ⟨L.bl k, 0, none⟩) b.length M.size)) := turned_set (Turned.refl _ _) _ _
  have h1 := h.hd.turned ht n2
  have h2 := h.gg.turned ht n3
  refine ⟨fun i hi => by rw [size_setCell]; exact h.lt i hi, h.fix, h.st, fun i hi => h.bs i (by simpa using hi), fun i j hi hj => h.inj i j (by simpa using hi) (by simpa using hj), h.ne, by simpa using h1, ?_, ⟨_, hb.set _ _, fun i t hit => ?_⟩, fun i t hit => ?_, ow_turned h.ss ht (fun b hb e => by cases hb; exact h.st.2 (.inr (.inr e)))⟩
  · rw [← map_set_same (t := { s with b := b }) (·.g) hk rfl] at h2
    exact h2
  · rcases set_get (get_lt hk) hit with ⟨rfl, rfl⟩ | ⟨hne, hit⟩
    · obtain ⟨e1, e2, e3⟩ := hl _ s hk
      refine ⟨?_, ?_, ?_⟩
      · rw [List.getElem?_set_ne (by omega)]; exact e1
      · rw [List.getElem?_set_ne (by omega)]; exact e2
      · exact List.getElem?_set_self (List.getElem?_eq_some_iff.1 e3).1
    · obtain ⟨e1, e2, e3⟩ := hl _ t hit
      refine ⟨?_, ?_, ?_⟩ <;> rw [List.getElem?_set_ne (by omega)] <;> assumption
  · have hn : ∀ i, i < M.sl.length → L.bl i ≠ L.eb := fun i hi e => (h.bs i hi).2.1 (.inr (.inr e))
    rcases set_get (get_lt hk) hit with ⟨rfl, rfl⟩ | ⟨hne, hit⟩
    · obtain ⟨r, r1, r2⟩ := hr; exact ⟨r, r1.turned ht (hn _ (get_lt hk)), r2⟩
    · obtain ⟨r, r1, r2⟩ := h.bb _ t hit; exact ⟨r, r1.turned ht (hn _ (get_lt hit)), r2⟩

/-- The room of a slot holds others. -/
theorem PIn.room {w w' : World} {W : Nat → Prop} {q : Nat} {L : PLay} {M : PM} (h : PIn w W q L M) {k : Nat} {s : Slt} (hk : M.sl[k]? = some s) (ht : Turned (· = L.bl k) w w') (b : List UInt8) (hb : b.length = s.b.length) (hr : ∃ r, Blk w' (L.bl k) (byt (b ++ r)) 5 ∧ (b ++ r).length = M.size) :
    PIn w' W q L { M with sl := M.sl.set k { s with b := b } } := by
  obtain ⟨ev, hev, hl⟩ := h.ee
  have hbk := h.bs k (get_lt hk)
  have h1 := h.hd.turned ht (fun e => hbk.2.1 (.inl e.symm))
  have h2 := h.gg.turned ht (fun e => hbk.2.1 (.inr (.inl e.symm)))
  refine ⟨fun i hi => Nat.lt_of_lt_of_le (h.lt i hi) ht.size, h.fix, h.st, fun i hi => h.bs i (by simpa using hi), fun i j hi hj => h.inj i j (by simpa using hi) (by simpa using hj), h.ne, by simpa using h1, ?_, ⟨ev, hev.turned ht (fun e => hbk.2.1 (.inr (.inr e.symm))), fun i t hit => ?_⟩, fun i t hit => ?_, ow_turned h.ss ht (fun b hb e => by cases hb; exact hbk.2.2 e.symm)⟩
  · rw [← map_set_same (t := { s with b := b }) (·.g) hk rfl] at h2
    exact h2
  · rcases set_get (get_lt hk) hit with ⟨rfl, rfl⟩ | ⟨hne, hit⟩
    · have := hl _ s hk; simpa [hb] using this
    · exact hl _ t hit
  · rcases set_get (get_lt hk) hit with ⟨rfl, rfl⟩ | ⟨hne, hit⟩
    · exact hr
    · obtain ⟨r, r1, r2⟩ := h.bb _ t hit; exact ⟨r, r1.turned ht (h.inj i k (get_lt hit) (get_lt hk) hne), r2⟩

/-- The stack is another slice. -/
theorem PIn.setF {w : World} {W : Nat → Prop} {q : Nat} {L : PLay} {M : PM} (h : PIn w W q L M) (sb : Nat) (sc : Nat) (fr : List Nat) (hf : w.ownsRow 0 3 1 (.slice (some ⟨sb, 0, none⟩) fr.length sc) fr.length (ints (nums fr.reverse))) (hown : W sb ∧ ¬ L.fix q sb) (hbl : ∀ i, i < M.sl.length → L.bl i ≠ sb) :
    PIn (w.setCell ⟨q, 3, none⟩ (.slice (some ⟨sb, 0, none⟩) fr.length sc)) W q { L with sb := sb, sc := sc } { M with fr := fr } := by
  obtain ⟨ev, hb, hl⟩ := h.ee
  obtain ⟨n1, n2, n3⟩ := h.ne
  have ht : Turned (· = q) w (w.setCell ⟨q, 3, none⟩ (.slice (some ⟨sb, 0, none⟩) fr.length sc)) := turned_set (Turned.refl _ _) _ _
  exact ⟨fun k hk => by rw [size_setCell]; exact h.lt k hk, h.fix, hown, fun i hi => ⟨(h.bs i hi).1, (h.bs i hi).2.1, hbl i hi⟩, h.inj, h.ne, h.hd.set 3 _, h.gg.turned ht (Ne.symm n1), ⟨ev, hb.turned ht (Ne.symm n2), hl⟩,
    fun k s hk => by obtain ⟨r, r1, r2⟩ := h.bb k s hk; exact ⟨r, r1.turned ht (fun e => (h.bs k (get_lt hk)).2.1 (.inl e)), r2⟩,
    ow_turned hf ht (fun b hb e => by cases hb; exact hown.2 (.inl e))⟩

/-- The stack lies otherwise in its block, or in a new one, and the pool does not know of it yet. -/
theorem PIn.cutF {w w' : World} {W : Nat → Prop} {q : Nat} {L : PLay} {M : PM} (h : PIn w W q L M) (ht : Turned (· = L.sb) w w') (hs : w'.ownsRow 0 3 1 (.slice (some ⟨L.sb, 0, none⟩) M.fr.length L.sc) M.fr.length (ints (nums M.fr.reverse))) : PIn w' W q L M := by
  obtain ⟨ev, hb, hl⟩ := h.ee
  have hst := h.st.2
  exact ⟨fun k hk => Nat.lt_of_lt_of_le (h.lt k hk) ht.size, h.fix, h.st, h.bs, h.inj, h.ne, h.hd.turned ht (fun e => hst (.inl e.symm)), h.gg.turned ht (fun e => hst (.inr (.inl e.symm))),
    ⟨ev, hb.turned ht (fun e => hst (.inr (.inr e.symm))), hl⟩, fun k s hk => by obtain ⟨r, h1, h2⟩ := h.bb k s hk; exact ⟨r, h1.turned ht ((h.bs k (get_lt hk)).2.2), h2⟩, hs⟩
end Go.Proofs.Ytinfckoaphgmkaa
