/- The document's pool, as it lies in memory: what it holds, and what single stores and new blocks leave of it. No condition. -/
import Derived.Test.YtinfckoaphgmkaaHandleBook
import Derived.Test.YtinfckoaphgmkaaThing
import Derived.Test.YtinfckoaphgmkaaBytes
namespace Go.Proofs.Ytinfckoaphgmkaa
open Go.RowKit
set_option linter.unusedVariables false
set_option maxRecDepth 100000

structure ZLay where
  gb : Nat
  cb : Nat
  bb : Nat
  fa : Addr
  fc : Nat

def nums (l : List Nat) : List Int := l.map fun k : Nat => (k : Int)
theorem nums_length (l : List Nat) : (nums l).length = l.length := by simp [nums]
theorem nums_get {l : List Nat} {i k : Nat} (h : l[i]? = some k) : (nums l)[i]? = some (k : Int) := by simp [nums, h]
theorem nums_setn (l : List Nat) (i k : Nat) : (nums l).set i (k : Int) = nums (l.set i k) := by simp [nums, List.map_set]

/-- A slot's bytes: where they lie. -/
structure BtsAt (w : World) (W : Nat → Prop) (no : Nat → Prop) (a : Option Addr) (c : Nat) (b : List UInt8) : Prop where
  at_ : BytesAt w a b
  le : b.length ≤ c
  max : c ≤ maxLen
  none : a = none → c = 0
  own : ∀ x, a = some x → W x.block ∧ ¬ no x.block

def ZLay.fix (q : Nat) (L : ZLay) (k : Nat) : Prop := k = q ∨ k = L.gb ∨ k = L.cb ∨ k = L.bb

structure ZIn (w : World) (W : Nat → Prop) (q : Nat) (L : ZLay) (M : PM) : Prop where
  lt : ∀ k, W k → k < w.heap.size
  fix : ∀ k, L.fix q k → W k
  ne : L.gb ≠ L.cb ∧ q ≠ L.gb ∧ q ≠ L.cb ∧ q ≠ L.bb ∧ L.gb ≠ L.bb ∧ L.cb ≠ L.bb
  hd : Blk w q [.slice (some ⟨L.gb, 0, none⟩) M.sl.length M.sl.length, .slice (some ⟨L.cb, 0, none⟩) M.sl.length M.sl.length, .slice (some ⟨L.bb, 0, none⟩) M.sl.length M.sl.length, .slice (some L.fa) M.fr.length L.fc, .int .i64 M.size] 50
  gg : Blk w L.gb (ints (nums (M.sl.map (·.g)))) 3
  cc : Blk w L.cb (ints (nums (M.sl.map (·.c)))) 3
  bb : ∃ bv : List Value, Blk w L.bb bv 32 ∧ bv.length = M.sl.length ∧ ∀ (k : Nat) (s : Slt), M.sl[k]? = some s → ∃ a c, bv[k]? = some (.slice a s.b.length c) ∧ BtsAt w W (L.fix q) a c s.b
  ff : NumsAt w (some L.fa) (nums M.fr)
  fle : M.fr.length ≤ L.fc ∧ L.fc ≤ maxLen
  fown : W L.fa.block ∧ ¬ L.fix q L.fa.block

theorem BtsAt.turned {w w' : World} {W S no : Nat → Prop} {a : Option Addr} {c : Nat} {b : List UInt8} (h : BtsAt w W no a c b) (ht : Turned S w w') (hs : ∀ k, W k → ¬ no k → ¬ S k) : BtsAt w' W no a c b :=
  ⟨h.at_.turned ht (fun x hx => hs _ (h.own x hx).1 (h.own x hx).2), h.le, h.max, h.none, h.own⟩
theorem BtsAt.more {w : World} {W W' no : Nat → Prop} {a : Option Addr} {c : Nat} {b : List UInt8} (h : BtsAt w W no a c b) (hW : ∀ k, W k → W' k) : BtsAt w W' no a c b :=
  ⟨h.at_, h.le, h.max, h.none, fun x hx => ⟨hW _ (h.own x hx).1, (h.own x hx).2⟩⟩

theorem ZIn.turned {w w' : World} {W S : Nat → Prop} {q : Nat} {L : ZLay} {M : PM} (h : ZIn w W q L M) (ht : Turned S w w') (hs : ∀ k, W k → ¬ S k) : ZIn w' W q L M := by
  obtain ⟨bv, hb, hl, hbs⟩ := h.bb
  exact ⟨fun k hk => Nat.lt_of_lt_of_le (h.lt k hk) ht.size, h.fix, h.ne, h.hd.turned ht (hs _ (h.fix _ (.inl rfl))), h.gg.turned ht (hs _ (h.fix _ (.inr (.inl rfl)))), h.cc.turned ht (hs _ (h.fix _ (.inr (.inr (.inl rfl))))),
    ⟨bv, hb.turned ht (hs _ (h.fix _ (.inr (.inr (.inr rfl))))), hl, fun k s hks => by obtain ⟨a, c, h1, h2⟩ := hbs k s hks; exact ⟨a, c, h1, h2.turned ht (fun i hi _ => hs i hi)⟩⟩,
    h.ff.turned ht (fun x hx => by cases hx; exact hs _ h.fown.1), h.fle, h.fown⟩
theorem ZIn.still {w w' : World} {W : Nat → Prop} {q : Nat} {L : ZLay} {M : PM} (h : ZIn w W q L M) (ht : Still w w') : ZIn w' W q L M := h.turned ht (fun _ _ h => h)
theorem ZIn.more {w : World} {W W' : Nat → Prop} {q : Nat} {L : ZLay} {M : PM} (h : ZIn w W q L M) (hW : ∀ k, W k → W' k) (hlt : ∀ k, W' k → k < w.heap.size) : ZIn w W' q L M := by
  obtain ⟨bv, hb, hl, hbs⟩ := h.bb
  exact ⟨hlt, fun k hk => hW k (h.fix k hk), h.ne, h.hd, h.gg, h.cc, ⟨bv, hb, hl, fun k s hks => by obtain ⟨a, c, h1, h2⟩ := hbs k s hks; exact ⟨a, c, h1, h2.more hW⟩⟩, h.ff, h.fle, ⟨hW _ h.fown.1, h.fown.2⟩⟩

theorem size_setCell (w : World) (p : Addr) (v : Value) : (w.setCell p v).heap.size = w.heap.size := by simp [World.setCell]

/-- The stack is another slice. -/
theorem ZIn.setF {w : World} {W : Nat → Prop} {q : Nat} {L : ZLay} {M : PM} (h : ZIn w W q L M) (fa : Addr) (fc : Nat) (fr : List Nat) (hf : NumsAt w (some fa) (nums fr)) (hle : fr.length ≤ fc ∧ fc ≤ maxLen) (hown : W fa.block ∧ ¬ L.fix q fa.block) :
    ZIn (w.setCell ⟨q, 3, none⟩ (.slice (some fa) fr.length fc)) W q { L with fa := fa, fc := fc } { M with fr := fr } := by
  obtain ⟨bv, hb, hl, hbs⟩ := h.bb
  obtain ⟨n1, n2, n3, n4, n5, n6⟩ := h.ne
  have ht : Turned (· = q) w (w.setCell ⟨q, 3, none⟩ (.slice (some fa) fr.length fc)) := turned_set (Turned.refl _ _) _ _
  refine ⟨fun k hk => by rw [size_setCell]; exact h.lt k hk, h.fix, h.ne, ?_, h.gg.turned ht (Ne.symm n2), h.cc.turned ht (Ne.symm n3), ⟨bv, hb.turned ht (Ne.symm n4), hl, fun k s hks => by obtain ⟨a, c, h1, h2⟩ := hbs k s hks; exact ⟨a, c, h1, h2.turned ht (fun i _ hi e => hi (.inl e))⟩⟩, ?_, hle, hown⟩
  · exact h.hd.set 3 _
  · exact hf.turned ht (fun x hx e => by cases hx; exact hown.2 (.inl e))

theorem map_set_same {l : List Slt} {k : Nat} {s t : Slt} {α : Type} (f : Slt → α) (hs : l[k]? = some s) (hf : f t = f s) : (l.set k t).map f = l.map f := by
  rw [List.map_set, hf]
  apply List.ext_getElem?
  intro i
  by_cases e : k = i
  · subst e
    rw [List.getElem?_set_self (by simp; exact get_lt hs), List.getElem?_map, hs]; rfl
  · rw [List.getElem?_set_ne e]

/-- A slot's count is another. -/
theorem ZIn.setC {w : World} {W : Nat → Prop} {q : Nat} {L : ZLay} {M : PM} (h : ZIn w W q L M) {k : Nat} {s : Slt} (hk : M.sl[k]? = some s) (c : Nat) :
    ZIn (w.setCell ⟨L.cb, k, none⟩ (.int .i64 (c : Int))) W q L { M with sl := M.sl.set k { s with c := c } } := by
  obtain ⟨bv, hb, hl, hbs⟩ := h.bb
  obtain ⟨n1, n2, n3, n4, n5, n6⟩ := h.ne
  have ht : Turned (· = L.cb) w (w.setCell ⟨L.cb, k, none⟩ (.int .i64 (c : Int))) := turned_set (Turned.refl _ _) _ _
  refine ⟨fun i hi => by rw [size_setCell]; exact h.lt i hi, h.fix, h.ne, ?_, ?_, ?_, ⟨bv, hb.turned ht (Ne.symm n6), by simpa using hl, fun i t hit => ?_⟩, ?_, h.fle, h.fown⟩
  · have := h.hd.turned ht n3; simpa using this
  · have := h.gg.turned ht n1
    rw [← map_set_same (t := { s with c := c }) (·.g) hk rfl] at this
    exact this
  · have := h.cc.set k (.int .i64 (c : Int))
    rw [ints_set, nums_setn] at this
    simpa [List.map_set] using this
  · rcases set_get (get_lt hk) hit with ⟨rfl, rfl⟩ | ⟨_, hit⟩
    · obtain ⟨a, d, h1, h2⟩ := hbs _ s hk; exact ⟨a, d, h1, h2.turned ht (fun i _ hi e => hi (.inr (.inr (.inl e))))⟩
    · obtain ⟨a, d, h1, h2⟩ := hbs _ t hit; exact ⟨a, d, h1, h2.turned ht (fun i _ hi e => hi (.inr (.inr (.inl e))))⟩
  · exact h.ff.turned ht (fun x hx e => by cases hx; exact h.fown.2 (.inr (.inr (.inl e))))

/-- A slot's generation is another. -/
theorem ZIn.setG {w : World} {W : Nat → Prop} {q : Nat} {L : ZLay} {M : PM} (h : ZIn w W q L M) {k : Nat} {s : Slt} (hk : M.sl[k]? = some s) (g : Nat) :
    ZIn (w.setCell ⟨L.gb, k, none⟩ (.int .i64 (g : Int))) W q L { M with sl := M.sl.set k { s with g := g } } := by
  obtain ⟨bv, hb, hl, hbs⟩ := h.bb
  obtain ⟨n1, n2, n3, n4, n5, n6⟩ := h.ne
  have ht : Turned (· = L.gb) w (w.setCell ⟨L.gb, k, none⟩ (.int .i64 (g : Int))) := turned_set (Turned.refl _ _) _ _
  refine ⟨fun i hi => by rw [size_setCell]; exact h.lt i hi, h.fix, h.ne, ?_, ?_, ?_, ⟨bv, hb.turned ht (Ne.symm n5), by simpa using hl, fun i t hit => ?_⟩, ?_, h.fle, h.fown⟩
  · have := h.hd.turned ht n2; simpa using this
  · have := h.gg.set k (.int .i64 (g : Int))
    rw [ints_set, nums_setn] at this
    simpa [List.map_set] using this
  · have := h.cc.turned ht (Ne.symm n1)
    rw [← map_set_same (t := { s with g := g }) (·.c) hk rfl] at this
    exact this
  · rcases set_get (get_lt hk) hit with ⟨rfl, rfl⟩ | ⟨_, hit⟩
    · obtain ⟨a, d, h1, h2⟩ := hbs _ s hk; exact ⟨a, d, h1, h2.turned ht (fun i _ hi e => hi (.inr (.inl e)))⟩
    · obtain ⟨a, d, h1, h2⟩ := hbs _ t hit; exact ⟨a, d, h1, h2.turned ht (fun i _ hi e => hi (.inr (.inl e)))⟩
  · exact h.ff.turned ht (fun x hx e => by cases hx; exact h.fown.2 (.inr (.inl e)))

/-- A slot's bytes are others. -/
theorem ZIn.setB {w : World} {W : Nat → Prop} {q : Nat} {L : ZLay} {M : PM} (h : ZIn w W q L M) {k : Nat} {s : Slt} (hk : M.sl[k]? = some s) (a : Option Addr) (c : Nat) (b : List UInt8) (hB : BtsAt w W (L.fix q) a c b) :
    ZIn (w.setCell ⟨L.bb, k, none⟩ (.slice a b.length c)) W q L { M with sl := M.sl.set k { s with b := b } } := by
  obtain ⟨bv, hb, hl, hbs⟩ := h.bb
  obtain ⟨n1, n2, n3, n4, n5, n6⟩ := h.ne
  have ht : Turned (· = L.bb) w (w.setCell ⟨L.bb, k, none⟩ (.slice a b.length c)) := turned_set (Turned.refl _ _) _ _
  refine ⟨fun i hi => by rw [size_setCell]; exact h.lt i hi, h.fix, h.ne, ?_, ?_, ?_, ⟨bv.set k (.slice a b.length c), hb.set k _, by simpa using hl, fun i t hit => ?_⟩, ?_, h.fle, h.fown⟩
  · have := h.hd.turned ht n4; simpa using this
  · have := h.gg.turned ht n5
    rw [← map_set_same (t := { s with b := b }) (·.g) hk rfl] at this
    exact this
  · have := h.cc.turned ht n6
    rw [← map_set_same (t := { s with b := b }) (·.c) hk rfl] at this
    exact this
  · rcases set_get (get_lt hk) hit with ⟨rfl, rfl⟩ | ⟨hne, hit⟩
    · exact ⟨a, c, List.getElem?_set_self (by rw [hl]; exact get_lt hk), hB.turned ht (fun i _ hi e => hi (.inr (.inr (.inr e))))⟩
    · obtain ⟨a', d, h1, h2⟩ := hbs _ t hit
      exact ⟨a', d, by rw [List.getElem?_set_ne (fun e => hne e.symm)]; exact h1, h2.turned ht (fun i _ hi e => hi (.inr (.inr (.inr e))))⟩
  · exact h.ff.turned ht (fun x hx e => by cases hx; exact h.fown.2 (.inr (.inr (.inr e))))

/-- The document's pool as a thing. -/
def zT (q : Nat) (M : PM) : Thing where
  at_ w W := ∃ L, ZIn w W q L M
  lt := by rintro w W ⟨L, h⟩ k hk; exact h.lt k hk
  keep := by rintro w w' W S ⟨L, h⟩ ht hs; exact ⟨L, h.turned ht hs⟩

theorem zT_goes {q : Nat} {M : PM} {W W' : Nat → Prop} {w w' : World} {L : ZLay} (h : ZIn w' W' q L M) (ht : Turned W w w') (hW : ∀ k, W' k → W k ∨ w.heap.size ≤ k) : Goes (zT q M) W w w' := ⟨W', ⟨L, h⟩, ht, hW⟩
end Go.Proofs.Ytinfckoaphgmkaa
