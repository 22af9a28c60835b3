/- Texts that lie next to one another, laid into one: each says what it holds. No condition but what each states. -/
import Derived.Test.YtmmkcfiecgpkpaaGreatBxHandleBook
import Derived.Test.YtmmkcfiecgpkpaaGreatBdThing
import Derived.Test.YtmmkcfiecgpkpaaGreatBdRead
import Derived.Deep.RegionHeld3
import Derived.Deep.DeepCutAuto
import Derived.Deep.CutBlock
import Derived.Deep.RegionLaw
import Derived.Maps.AppendAt
import Derived.BigQuiet
import Derived.BigRegion

/- The document's pool, as it lies in memory: what it holds, and what single stores and new blocks leave of it. No condition. -/
namespace Go.Proofs.YtmmkcfiecgpkpaaGreat
open Go.RowKit
set_option linter.unusedVariables false
set_option maxRecDepth 100000

structure ZLay where
  gb : Nat
  cb : Nat
  bb : Nat
  fa : Addr
  fc : Nat

def nums (l : List Nat) : List Int := l.map fun k : Nat => (k : Int)
theorem nums_length (l : List Nat) : (nums l).length = l.length := by simp [nums]
theorem nums_get {l : List Nat} {i k : Nat} (h : l[i]? = some k) : (nums l)[i]? = some (k : Int) := by simp [nums, h]
theorem nums_setn (l : List Nat) (i k : Nat) : (nums l).set i (k : Int) = nums (l.set i k) := by simp [nums, List.map_set]

/-- A slot's bytes: where they lie. -/
structure BtsAt (w : World) (W : Nat → Prop) (no : Nat → Prop) (a : Option Addr) (c : Nat) (b : List UInt8) : Prop where
  at_ : BytesAt w a b
  le : b.length ≤ c
  max : c ≤ maxLen
  none : a = none → c = 0
  own : ∀ x, a = some x → W x.block ∧ ¬ no x.block

def ZLay.fix (q : Nat) (L : ZLay) (k : Nat) : Prop := k = q ∨ k = L.gb ∨ k = L.cb ∨ k = L.bb

structure ZIn (w : World) (W : Nat → Prop) (q : Nat) (L : ZLay) (M : PM) : Prop where
  lt : ∀ k, W k → k < w.heap.size
  fix : ∀ k, L.fix q k → W k
  ne : L.gb ≠ L.cb ∧ q ≠ L.gb ∧ q ≠ L.cb ∧ q ≠ L.bb ∧ L.gb ≠ L.bb ∧ L.cb ≠ L.bb
  hd : Blk w q [.slice (some ⟨L.gb, 0, none⟩) M.sl.length M.sl.length, .slice (some ⟨L.cb, 0, none⟩) M.sl.length M.sl.length, .slice (some ⟨L.bb, 0, none⟩) M.sl.length M.sl.length, .slice (some L.fa) M.fr.length L.fc, .int .i64 M.size] 115
  gg : Blk w L.gb (ints (nums (M.sl.map (·.g)))) 3
  cc : Blk w L.cb (ints (nums (M.sl.map (·.c)))) 3
  bb : ∃ bv : List Value, Blk w L.bb bv 35 ∧ bv.length = M.sl.length ∧ ∀ (k : Nat) (s : Slt), M.sl[k]? = some s → ∃ a c, bv[k]? = some (.slice a s.b.length c) ∧ BtsAt w W (L.fix q) a c s.b
  ff : NumsAt w (some L.fa) (nums M.fr)
  fle : M.fr.length ≤ L.fc ∧ L.fc ≤ maxLen
  fown : W L.fa.block ∧ ¬ L.fix q L.fa.block

theorem BtsAt.turned {w w' : World} {W S no : Nat → Prop} {a : Option Addr} {c : Nat} {b : List UInt8} (h : BtsAt w W no a c b) (ht : Turned S w w') (hs : ∀ k, W k → ¬ no k → ¬ S k) : BtsAt w' W no a c b :=
  ⟨h.at_.turned ht (fun x hx => hs _ (h.own x hx).1 (h.own x hx).2), h.le, h.max, h.none, h.own⟩
theorem BtsAt.more {w : World} {W W' no : Nat → Prop} {a : Option Addr} {c : Nat} {b : List UInt8} (h : BtsAt w W no a c b) (hW : ∀ k, W k → W' k) : BtsAt w W' no a c b :=
  ⟨h.at_, h.le, h.max, h.none, fun x hx => ⟨hW _ (h.own x hx).1, (h.own x hx).2⟩⟩

theorem ZIn.turned {w w' : World} {W S : Nat → Prop} {q : Nat} {L : ZLay} {M : PM} (h : ZIn w W q L M) (ht : Turned S w w') (hs : ∀ k, W k → ¬ S k) : ZIn w' W q L M := by
  obtain ⟨bv, hb, hl, hbs⟩ := h.bb
  exact ⟨fun k hk => Nat.lt_of_lt_of_le (h.lt k hk) ht.size, h.fix, h.ne, h.hd.turned ht (hs _ (h.fix _ (.inl rfl))), h.gg.turned ht (hs _ (h.fix _ (.inr (.inl rfl)))), h.cc.turned ht (hs _ (h.fix _ (.inr (.inr (.inl rfl))))),
    ⟨bv, hb.turned ht (hs _ (h.fix _ (.inr (.inr (.inr rfl))))), hl, fun k s hks => by obtain ⟨a, c, h1, h2⟩ := hbs k s hks; exact ⟨a, c, h1, h2.turned ht (fun i hi _ => hs i hi)⟩⟩,
    h.ff.turned ht (fun x hx => by cases hx; exact hs _ h.fown.1), h.fle, h.fown⟩
theorem ZIn.still {w w' : World} {W : Nat → Prop} {q : Nat} {L : ZLay} {M : PM} (h : ZIn w W q L M) (ht : Still w w') : ZIn w' W q L M := h.turned ht (fun _ _ h => h)
theorem ZIn.more {w : World} {W W' : Nat → Prop} {q : Nat} {L : ZLay} {M : PM} (h : ZIn w W q L M) (hW : ∀ k, W k → W' k) (hlt : ∀ k, W' k → k < w.heap.size) : ZIn w W' q L M := by
  obtain ⟨bv, hb, hl, hbs⟩ := h.bb
  exact ⟨hlt, fun k hk => hW k (h.fix k hk), h.ne, h.hd, h.gg, h.cc, ⟨bv, hb, hl, fun k s hks => by obtain ⟨a, c, h1, h2⟩ := hbs k s hks; exact ⟨a, c, h1, h2.more hW⟩⟩, h.ff, h.fle, ⟨hW _ h.fown.1, h.fown.2⟩⟩

theorem size_setCell (w : World) (p : Addr) (v : Value) : (w.setCell p v).heap.size = w.heap.size := by simp [World.setCell]

/-- The stack is another slice. -/
theorem ZIn.setF {w : World} {W : Nat → Prop} {q : Nat} {L : ZLay} {M : PM} (h : ZIn w W q L M) (fa : Addr) (fc : Nat) (fr : List Nat) (hf : NumsAt w (some fa) (nums fr)) (hle : fr.length ≤ fc ∧ fc ≤ maxLen) (hown : W fa.block ∧ ¬ L.fix q fa.block) :
    ZIn (w.setCell ⟨q, 3, none⟩ (.slice (some fa) fr.length fc)) W q { L with fa := fa, fc := fc } { M with fr := fr } := by
  obtain ⟨bv, hb, hl, hbs⟩ := h.bb
  obtain ⟨n1, n2, n3, n4, n5, n6⟩ := h.ne
  have ht : Turned (· = q) w (w.setCell ⟨q, 3, none⟩ (.slice (some fa) fr.length fc)) := turned_set (Turned.refl _ _) _ _
  refine ⟨fun k hk => by rw [size_setCell]; exact h.lt k hk, h.fix, h.ne, ?_, h.gg.turned ht (Ne.symm n2), h.cc.turned ht (Ne.symm n3), ⟨bv, hb.turned ht (Ne.symm n4), hl, fun k s hks => by obtain ⟨a, c, h1, h2⟩ := hbs k s hks; exact ⟨a, c, h1, h2.turned ht (fun i _ hi e => hi (.inl e))⟩⟩, ?_, hle, hown⟩
  · exact h.hd.set 3 _
  · exact hf.turned ht (fun x hx e => by cases hx; exact hown.2 (.inl e))

theorem map_set_same {l : List Slt} {k : Nat} {s t : Slt} {α : Type} (f : Slt → α) (hs : l[k]? = some s) (hf : f t = f s) : (l.set k t).map f = l.map f := by
  rw [List.map_set, hf]
  apply List.ext_getElem?
  intro i
  by_cases e : k = i
  · subst e
    rw [List.getElem?_set_self (by simp; exact get_lt hs), List.getElem?_map, hs]; rfl
  · rw [List.getElem?_set_ne e]

/-- A slot's count is another. -/
theorem ZIn.setC {w : World} {W : Nat → Prop} {q : Nat} {L : ZLay} {M : PM} (h : ZIn w W q L M) {k : Nat} {s : Slt} (hk : M.sl[k]? = some s) (c : Nat) :
    ZIn (w.setCell ⟨L.cb, k, none⟩ (.int .i64 (c : Int))) W q L { M with sl := M.sl.set k { s with c := c } } := by
  obtain ⟨bv, hb, hl, hbs⟩ := h.bb
  obtain ⟨n1, n2, n3, n4, n5, n6⟩ := h.ne
  have ht : Turned (· = L.cb) w (w.setCell ⟨L.cb, k, none⟩ (.int .i64 (c : Int))) := turned_set (Turned.refl _ _) _ _
  refine ⟨fun i hi => by rw [size_setCell]; exact h.lt i hi, h.fix, h.ne, ?_, ?_, ?_, ⟨bv, hb.turned ht (Ne.symm n6), by simpa using hl, fun i t hit => ?_⟩, ?_, h.fle, h.fown⟩
  · have := h.hd.turned ht n3; simpa using this
  · have := h.gg.turned ht n1
    rw [← map_set_same (t := { s with c := c }) (·.g) hk rfl] at this
    exact this
  · have := h.cc.set k (.int .i64 (c : Int))
    rw [ints_set, nums_setn] at this
    simpa [List.map_set] using this
  · rcases set_get (get_lt hk) hit with ⟨rfl, rfl⟩ | ⟨_, hit⟩
    · obtain ⟨a, d, h1, h2⟩ := hbs _ s hk; exact ⟨a, d, h1, h2.turned ht (fun i _ hi e => hi (.inr (.inr (.inl e))))⟩
    · obtain ⟨a, d, h1, h2⟩ := hbs _ t hit; exact ⟨a, d, h1, h2.turned ht (fun i _ hi e => hi (.inr (.inr (.inl e))))⟩
  · exact h.ff.turned ht (fun x hx e => by cases hx; exact h.fown.2 (.inr (.inr (.inl e))))

/-- A slot's generation is another. -/
theorem ZIn.setG {w : World} {W : Nat → Prop} {q : Nat} {L : ZLay} {M : PM} (h : ZIn w W q L M) {k : Nat} {s : Slt} (hk : M.sl[k]? = some s) (g : Nat) :
    ZIn (w.setCell ⟨L.gb, k, none⟩ (.int .i64 (g : Int))) W q L { M with sl := M.sl.set k { s with g := g } } := by
  obtain ⟨bv, hb, hl, hbs⟩ := h.bb
  obtain ⟨n1, n2, n3, n4, n5, n6⟩ := h.ne
  have ht : Turned (· = L.gb) w (w.setCell ⟨L.gb, k, none⟩ (.int .i64 (g : Int))) := turned_set (Turned.refl _ _) _ _
  refine ⟨fun i hi => by rw [size_setCell]; exact h.lt i hi, h.fix, h.ne, ?_, ?_, ?_, ⟨bv, hb.turned ht (Ne.symm n5), by simpa using hl, fun i t hit => ?_⟩, ?_, h.fle, h.fown⟩
  · have := h.hd.turned ht n2; simpa using this
  · have := h.gg.set k (.int .i64 (g : Int))
    rw [ints_set, nums_setn] at this
    simpa [List.map_set] using this
  · have := h.cc.turned ht (Ne.symm n1)
    rw [← map_set_same (t := { s with g := g }) (·.c) hk rfl] at this
    exact this
  · rcases set_get (get_lt hk) hit with ⟨rfl, rfl⟩ | ⟨_, hit⟩
    · obtain ⟨a, d, h1, h2⟩ := hbs _ s hk; exact ⟨a, d, h1, h2.turned ht (fun i _ hi e => hi (.inr (.inl e)))⟩
    · obtain ⟨a, d, h1, h2⟩ := hbs _ t hit; exact ⟨a, d, h1, h2.turned ht (fun i _ hi e => hi (.inr (.inl e)))⟩
  · exact h.ff.turned ht (fun x hx e => by cases hx; exact h.fown.2 (.inr (.inl e)))

/-- A slot's bytes are others. -/
theorem ZIn.setB {w : World} {W : Nat → Prop} {q : Nat} {L : ZLay} {M : PM} (h : ZIn w W q L M) {k : Nat} {s : Slt} (hk : M.sl[k]? = some s) (a : Option Addr) (c : Nat) (b : List UInt8) (hB : BtsAt w W (L.fix q) a c b) :
    ZIn (w.setCell ⟨L.bb, k, none⟩ (.slice a b.length c)) W q L { M with sl := M.sl.set k { s with b := b } } := by
  obtain ⟨bv, hb, hl, hbs⟩ := h.bb
  obtain ⟨n1, n2, n3, n4, n5, n6⟩ := h.ne
  have ht : Turned (· = L.bb) w (w.setCell ⟨L.bb, k, none⟩ (.slice a b.length c)) := turned_set (Turned.refl _ _) _ _
  refine ⟨fun i hi => by rw [size_setCell]; exact h.lt i hi, h.fix, h.ne, ?_, ?_, ?_, ⟨bv.set k (.slice a b.length c), hb.set k _, by simpa using hl, fun i t hit => ?_⟩, ?_, h.fle, h.fown⟩
  · have := h.hd.turned ht n4; simpa using this
  · have := h.gg.turned ht n5
    rw [← map_set_same (t := { s with b := b }) (·.g) hk rfl] at this
    exact this
  · have := h.cc.turned ht n6
    rw [← map_set_same (t := { s with b := b }) (·.c) hk rfl] at this
    exact this
  · rcases set_get (get_lt hk) hit with ⟨rfl, rfl⟩ | ⟨hne, hit⟩
    · exact ⟨a, c, List.getElem?_set_self (by rw [hl]; exact get_lt hk), hB.turned ht (fun i _ hi e => hi (.inr (.inr (.inr e))))⟩
    · obtain ⟨a', d, h1, h2⟩ := hbs _ t hit
      exact ⟨a', d, by rw [List.getElem?_set_ne (fun e => hne e.symm)]; exact h1, h2.turned ht (fun i _ hi e => hi (.inr (.inr (.inr e))))⟩
  · exact h.ff.turned ht (fun x hx e => by cases hx; exact h.fown.2 (.inr (.inr (.inr e))))

/-- The document's pool as a thing. -/
def zT (q : Nat) (M : PM) : Thing where
  at_ w W := ∃ L, ZIn w W q L M
  lt := by rintro w W ⟨L, h⟩ k hk; exact h.lt k hk
  keep := by rintro w w' W S ⟨L, h⟩ ht hs; exact ⟨L, h.turned ht hs⟩

theorem zT_goes {q : Nat} {M : PM} {W W' : Nat → Prop} {w w' : World} {L : ZLay} (h : ZIn w' W' q L M) (ht : Turned W w w') (hW : ∀ k, W' k → W k ∨ w.heap.size ≤ k) : Goes (zT q M) W w w' := ⟨W', ⟨L, h⟩, ht, hW⟩
end Go.Proofs.YtmmkcfiecgpkpaaGreat

/- A copy of one's own of numbers: what the base's Ints does. No condition. -/
namespace Go.Proofs.YtmmkcfiecgpkpaaGreat
open Go.RowKit
set_option linter.unusedVariables false
set_option linter.unusedSimpArgs false
set_option maxRecDepth 100000

/-- A copy of one's own of numbers. -/
def IntsPost (w : World) (l : List Int) (n : Nat) (e : Ending) (w' : World) : Prop :=
  ∃ a c, e = .returned (.slice (some a) n c) ∧ w'.ownsRow w.heap.size 3 1 (.slice (some a) n c) n (ints l) ∧ Still w w'

theorem bints_any (w : World) (ao : Option Addr) (l : List Int) (n cap : Nat) (hn : n = l.length) (hA : NumsAt w ao l) (hmax : n ≤ 70368744177) (h0 : ao = none → cap = 0) :
    Calls Tryz.prog 28 #[.slice ao n cap] w (IntsPost w l n) := by
  obtain ⟨i0, hi, hz0, hz1, hz2⟩ := info_parts infoIntW
  cases ao with
  | none =>
    have hl : l = [] := by
      cases l with
      | nil => rfl
      | cons x r => obtain ⟨b, o, e, _⟩ := hA 0 x rfl; cases e
    obtain rfl := h0 rfl
    subst hl
    subst hn
    clear hA h0
    have HO := Lib.hid (World.ownsRow_made (e := 3) (size := 1) w #[] 0 (Nat.le_refl _) (by simp) (by simp))
    show Calls Tryz.prog 28 #[.slice none 0 0] w (IntsPost w [] 0)
    go_enter Tryz.func28, Tryz.ntmps28
    go_wp2_with (at_builtin; refine wpList_append_own_none rfl _ _ 23 rfl w.heap.size 3 i0 1 Tryz.underlying23 hi _ 0 [] rfl HO.out rfl ?_)
    go_ret
    exact ⟨_, _, rfl, HO.out, (Turned.refl _ _).alloc _⟩
  | some ad =>
    have HC := Lib.hid (show ∀ (j : Nat) (u : Value), (ints l)[j]? = some u → (w.alloc (.cells #[] 3)).cell? (ad.add j) = some u from fun j u hj => by
      simp only [ints, List.getElem?_map, Option.map_eq_some_iff] at hj
      obtain ⟨x, hx, rfl⟩ := hj
      obtain ⟨b, o, e, hc⟩ := (hA.still ((Turned.refl (fun _ => False) w).alloc (.cells #[] 3))) j x hx
      cases e
      rw [Addr.add_lit]
      exact hc)
    have H1 := Lib.hid (show ∀ u ∈ ints l, u.oneCell' = true from ow_ints (by simp [ints, isIntW]))
    have HL := Lib.hid (show (ints l).length = n * 1 by rw [ints_length, hn, Nat.mul_one])
    clear hA hn h0
    go_enter Tryz.func28, Tryz.ntmps28
    go_wp2_with (at_builtin; refine wpList_append_own_at _ rfl _ _ 23 rfl w.heap.size 3 i0 (.int .i64 0) 1 8 Tryz.underlying23 hi hz0 hz1 hz2 rfl (by decide) _ _ _ rfl (World.ownsRow_made w #[] 0 (Nat.le_refl _) (by simp) (by simp)) ad n cap (ints l) rfl HL.out HC.out H1.out (by unfold maxLen; omega) (by omega) (by simp) ?_; intro v' w1 hown hgrow hnil hat; obtain ⟨aa, cc, rfl⟩ := ow_slice hown)
    go_ret
    rw [Nat.zero_add] at hown
    obtain ⟨aa, rfl⟩ : ∃ x, aa = some x := by
      cases aa with
      | none => rcases hat with h | h <;> cases h
      | some x => exact ⟨x, rfl⟩
    exact ⟨aa, cc, rfl, hown, ((Turned.refl (fun _ => False) w).alloc _).grown hgrow (fun k e => .inr (by cases e; exact Nat.le_refl _))⟩
end Go.Proofs.YtmmkcfiecgpkpaaGreat

/- What the calls of the document's pool do: live, Keep, Bytes, Fill. No condition. -/
namespace Go.Proofs.YtmmkcfiecgpkpaaGreat
open Go.RowKit
set_option linter.unusedVariables false
set_option linter.unusedSimpArgs false
set_option maxRecDepth 100000

def PM.errS (M : PM) (h : Int) : Int := if M.err h = 0 then (hSlot h : Nat) else 0
def PM.liveV (M : PM) (h : Int) : Value := .tuple #[.int .i64 (M.errS h), .int .i64 (M.err h)]

theorem ZIn.book {w : World} {W : Nat → Prop} {q : Nat} {L : ZLay} {M : PM} (h : ZIn w W q L M) : NumsAt w (some ⟨L.gb, 0, none⟩) (M.sl.map fun s => (s.g : Int)) := by
  have := NumsAt.of_blk h.gg
  simpa [nums, Function.comp_def] using this

theorem ZIn.cell {w : World} {W : Nat → Prop} {q : Nat} {L : ZLay} {M : PM} (h : ZIn w W q L M) {k : Nat} {s : Slt} (hk : M.sl[k]? = some s) :
    w.cell? ⟨L.gb, k, none⟩ = some (.int .i64 s.g) ∧ w.cell? ⟨L.cb, k, none⟩ = some (.int .i64 s.c) ∧ w.frozen? ⟨L.gb, k, none⟩ = false ∧ w.frozen? ⟨L.cb, k, none⟩ = false :=
  ⟨h.gg.cell (ints_get (nums_get (by rw [List.getElem?_map, hk]; rfl))), h.cc.cell (ints_get (nums_get (by rw [List.getElem?_map, hk]; rfl))), h.gg.free _, h.cc.free _⟩

theorem zlive_any {w : World} {W : Nat → Prop} {q : Nat} {L : ZLay} {M : PM} (H : ZIn w W q L M) (h : Int) :
    Calls Tryz.prog 110 #[.pointer (some ⟨q, 0, none⟩), .int .i64 h] w fun e w' => e = .returned (M.liveV h) ∧ w = w' := by
  obtain ⟨n, hn⟩ : ∃ n, n = M.sl.length := ⟨_, rfl⟩
  have HV := Lib.hid (vlive_any w (some ⟨L.gb, 0, none⟩) (M.sl.map fun s => (s.g : Int)) n n h (by simp [hn]) H.book)
  have c0 : w.cell? ⟨q, 0, none⟩ = some (.slice (some ⟨L.gb, 0, none⟩) n n) := hn ▸ H.hd.cell rfl
  have c1 : w.cell? ⟨q, 1, none⟩ = some (.slice (some ⟨L.cb, 0, none⟩) n n) := hn ▸ H.hd.cell rfl
  have he := M.err_book h
  by_cases hb : bkE (M.sl.map fun s => (s.g : Int)) h = 0
  · -- the slot
    have hs : ∃ s, M.sl[hSlot h]? = some s := by
      unfold bkE at hb
      split at hb
      · cases hb
      · cases hs : M.sl[hSlot h]? with
        | none => rw [List.getElem?_map, hs] at hb; cases hb
        | some s => exact ⟨s, rfl⟩
    obtain ⟨s, hs⟩ := hs
    have hc := (H.cell hs).2.1
    have hkn : hSlot h < n := by rw [hn]; exact get_lt hs
    have hst : M.slt h = s := by unfold PM.slt; rw [hs]; rfl
    unfold bkV bkS at HV
    rw [hb, if_pos rfl] at HV
    rw [hb, hst] at he
    by_cases hz : s.c = 0
    · have HR := Lib.hid (show M.liveV h = .tuple #[.int .i64 0, .int .i64 40] by
        have : M.err h = 40 := by rw [he]; simp [hz]
        simp [PM.liveV, PM.errS, this])
      rw [hz] at hc
      generalize hSlot h = k at *
      clear he hst hs hb hn H
      go_enter Tryz.func110, Tryz.ntmps110
      go_wp2_with (go_at_call 127; refine HV.out.mono ?_; rintro e w' ⟨rfl, rfl⟩)
      go_ret2
      exact ⟨by rw [HR.out]; rfl, rfl⟩
    · have HR := Lib.hid (show M.liveV h = .tuple #[.int .i64 (hSlot h : Nat), .int .i64 0] by
        have : M.err h = 0 := by rw [he]; simp [hz]
        simp [PM.liveV, PM.errS, this])
      have hzz : ((s.c : Int) == 0) = false := by rw [beq_eq_false_iff_ne]; omega
      generalize hSlot h = k at *
      generalize s.c = c at *
      clear he hst hs hb hn H hz
      go_enter Tryz.func110, Tryz.ntmps110
      go_wp2_with (go_at_call 127; refine HV.out.mono ?_; rintro e w' ⟨rfl, rfl⟩)
      go_ret2
      exact ⟨by rw [HR.out]; rfl, rfl⟩
  · unfold bkV bkS at HV
    rw [if_neg hb] at HV
    have hm : M.err h = bkE (M.sl.map fun s => (s.g : Int)) h := by rw [he, if_neg (fun q => hb q.1)]
    have HR := Lib.hid (show M.liveV h = .tuple #[.int .i64 0, .int .i64 (bkE (M.sl.map fun s => (s.g : Int)) h)] by
      simp [PM.liveV, PM.errS, hm, hb])
    have hbb : (bkE (M.sl.map fun s => (s.g : Int)) h == 0) = false := by rw [beq_eq_false_iff_ne]; exact hb
    generalize bkE (M.sl.map fun s => (s.g : Int)) h = x at *
    clear he hm hn H hb
    go_enter Tryz.func110, Tryz.ntmps110
    go_wp2_with (go_at_call 127; refine HV.out.mono ?_; rintro e w' ⟨rfl, rfl⟩)
    go_ret2
    exact ⟨by rw [HR.out]; rfl, rfl⟩

/-- The two ways of a call that begins with live. -/
theorem zlive_no {w : World} {W : Nat → Prop} {q : Nat} {L : ZLay} {M : PM} (H : ZIn w W q L M) {h : Int} (he : M.err h ≠ 0) :
    Calls Tryz.prog 110 #[.pointer (some ⟨q, 0, none⟩), .int .i64 h] w fun e w' => e = .returned (.tuple #[.int .i64 0, .int .i64 (M.err h)]) ∧ w = w' := by
  have := zlive_any H h
  unfold PM.liveV PM.errS at this
  rwa [if_neg he] at this
theorem zlive_ok {w : World} {W : Nat → Prop} {q : Nat} {L : ZLay} {M : PM} (H : ZIn w W q L M) {h : Int} (he : M.err h = 0) :
    Calls Tryz.prog 110 #[.pointer (some ⟨q, 0, none⟩), .int .i64 h] w fun e w' => e = .returned (.tuple #[.int .i64 (hSlot h : Nat), .int .i64 0]) ∧ w = w' := by
  have := zlive_any H h
  unfold PM.liveV PM.errS at this
  rwa [if_pos he, he] at this

/-- What a call that is refused, or only reads, leaves. -/
theorem zT_same {w : World} {W : Nat → Prop} {q : Nat} {L : ZLay} {M : PM} (H : ZIn w W q L M) : Goes (zT q M) W w w := zT_goes H (Turned.refl _ _) (fun _ hk => .inl hk)

end Go.Proofs.YtmmkcfiecgpkpaaGreat

/- What the calls of the document's pool do: Bytes, Fill, Drop. No condition. -/
namespace Go.Proofs.YtmmkcfiecgpkpaaGreat
open Go.RowKit
set_option linter.unusedVariables false
set_option linter.unusedSimpArgs false
set_option maxRecDepth 100000

/-- Bytes that are handed out: a slice of one's own, or nil. -/
def GotBytes (w : World) (b : List UInt8) (er : Int) (e : Ending) (w' : World) : Prop :=
  ∃ a c, e = .returned (.tuple #[.slice a b.length c, .int .i64 er]) ∧ w'.ownsRow w.heap.size 5 1 (.slice a b.length c) b.length (byt b) ∧ Still w w'

theorem byt_nil_own (w : World) (B : Nat) : w.ownsRow B 5 1 (.slice none 0 0) 0 (byt []) := ⟨rfl, .inl ⟨rfl, rfl⟩⟩

/-- New bytes of one's own are laid into a slot. -/
theorem BtsAt.of_own {w w' : World} {W no : Nat → Prop} {a : Option Addr} {c : Nat} {b : List UInt8} (hown : w'.ownsRow w.heap.size 5 1 (.slice a b.length c) b.length (byt b)) (hno : ∀ k, no k → k < w.heap.size) :
    BtsAt w' (fun i => W i ∨ (Value.slice a b.length c).ownBlock = some i) no a c b := by
  obtain ⟨h1, h2, h3⟩ := ow_le hown
  refine ⟨BytesAt.of_own hown, h1, h2, fun e => (h3 e).2, fun x hx => ⟨.inr (by rw [hx]; rfl), fun h => ?_⟩⟩
  have := (ow_lt hown x hx).1
  have := hno _ h
  omega

theorem zT_bytes {w w' : World} {W : Nat → Prop} {q : Nat} {L : ZLay} {M : PM} {k : Nat} {s : Slt} {a : Option Addr} {c : Nat} {b : List UInt8} (H : ZIn w W q L M) (hs : M.sl[k]? = some s) (hT : Still w w')
    (hown : w'.ownsRow w.heap.size 5 1 (.slice a b.length c) b.length (byt b)) :
    Goes (zT q { M with sl := M.sl.set k { s with b := b } }) W w (w'.setCell ⟨L.bb, k, none⟩ (.slice a b.length c)) := by
  have hlt : ∀ i, (W i ∨ (Value.slice a b.length c).ownBlock = some i) → i < w'.heap.size := by
    rintro i (hi | hi)
    · exact Nat.lt_of_lt_of_le (H.lt i hi) hT.size
    · cases a with
      | none => cases hi
      | some x => have := (ow_lt hown x rfl).2; simp only [Value.ownBlock, Option.some.injEq] at hi; omega
  have H1 := (H.still hT).more (W' := fun i => W i ∨ (Value.slice a b.length c).ownBlock = some i) (fun i hi => .inl hi) hlt
  have H2 := H1.setB hs a c b (BtsAt.of_own hown (fun i hi => H.lt i (H.fix i hi)))
  refine zT_goes H2 ((hT.mono (T := W) (fun _ _ h => h.elim)).setCell (p := ⟨L.bb, k, none⟩) (.inl (H.fix _ (.inr (.inr (.inr rfl))))) _) ?_
  rintro i (hi | hi)
  · exact .inl hi
  · cases a with
    | none => cases hi
    | some x => have := (ow_lt hown x rfl).1; simp only [Value.ownBlock, Option.some.injEq] at hi; exact .inr (by omega)

theorem copyOf {w : World} {ao : Option Addr} {b : List UInt8} {cap m : Nat} (hm : m = b.length) (hA : BytesAt w ao b) (hmax : b.length ≤ 70368744177664) (hn : ao = none → cap = 0) (V : World) (hV : Still w V) :
    Calls Tryz.prog 18 #[.slice ao m cap] V fun e w' => ∃ a c, e = .returned (.slice a m c) ∧ w'.ownsRow w.heap.size 5 1 (.slice a m c) m (byt b) ∧ Still w w' := by
  subst hm
  exact (bytes_any V ao b cap (hA.still hV) hmax hn).mono fun e w' ⟨a, c, he, ho, hs⟩ => ⟨a, c, he, ow_base ho hV.size, hV.trans hs⟩

end Go.Proofs.YtmmkcfiecgpkpaaGreat

/- What Drop of the document's pool does. No condition. -/
namespace Go.Proofs.YtmmkcfiecgpkpaaGreat
open Go.RowKit
set_option linter.unusedVariables false
set_option linter.unusedSimpArgs false
set_option maxRecDepth 100000

theorem ZIn.freeB {w : World} {W : Nat → Prop} {q : Nat} {L : ZLay} {M : PM} (H : ZIn w W q L M) (k : Nat) : w.frozen? ⟨L.bb, k, none⟩ = false := by
  obtain ⟨bv, hb, _⟩ := H.bb
  exact hb.free k

theorem zdrop_goes {w w5 : World} {W : Nat → Prop} {q : Nat} {L : ZLay} {M : PM} {k : Nat} {s : Slt} (H : ZIn w W q L M) (hs : M.sl[k]? = some s) {a : Addr} {c : Nat}
    (hT : Still (((w.setCell ⟨L.cb, k, none⟩ (.int .i64 0)).setCell ⟨L.gb, k, none⟩ (.int .i64 ((s.g : Int) + 1))).setCell ⟨L.bb, k, none⟩ (.slice none 0 0)) w5)
    (hown : w5.ownsRow w.heap.size 3 1 (.slice (some a) (M.fr.length + 1) c) (M.fr.length + 1) (ints (nums (k :: M.fr)))) :
    Goes (zT q { M with sl := M.sl.set k ⟨s.g + 1, 0, []⟩, fr := k :: M.fr }) W w (w5.setCell ⟨q, 3, none⟩ (.slice (some a) (M.fr.length + 1) c)) := by
  have hk := get_lt hs
  have H1 := H.setC hs 0
  have e1 : (M.sl.set k { s with c := 0 })[k]? = some { s with c := 0 } := List.getElem?_set_self hk
  have H2 := H1.setG e1 (s.g + 1)
  rw [show ((s.g + 1 : Nat) : Int) = (s.g : Int) + 1 by omega] at H2
  rw [show ((0 : Nat) : Int) = 0 from rfl] at H2
  have e2 : ((M.sl.set k { s with c := 0 }).set k { s with c := 0, g := s.g + 1 })[k]? = some { s with c := 0, g := s.g + 1 } := List.getElem?_set_self (by simpa using hk)
  have H3 := H2.setB e2 none 0 [] ⟨BytesAt.nil _ _, Nat.le_refl _, Nat.zero_le _, fun _ => rfl, fun x hx => by cases hx⟩
  have ht3 : Turned W w (((w.setCell ⟨L.cb, k, none⟩ (.int .i64 0)).setCell ⟨L.gb, k, none⟩ (.int .i64 ((s.g : Int) + 1))).setCell ⟨L.bb, k, none⟩ (.slice none 0 0)) :=
    (((Turned.refl W w).setCell (p := ⟨L.cb, k, none⟩) (.inl (H.fix _ (.inr (.inr (.inl rfl))))) _).setCell (p := ⟨L.gb, k, none⟩) (.inl (H.fix _ (.inr (.inl rfl)))) _).setCell (p := ⟨L.bb, k, none⟩) (.inl (H.fix _ (.inr (.inr (.inr rfl))))) _
  have hw3 : w.heap.size = (((w.setCell ⟨L.cb, k, none⟩ (.int .i64 0)).setCell ⟨L.gb, k, none⟩ (.int .i64 ((s.g : Int) + 1))).setCell ⟨L.bb, k, none⟩ (.slice none 0 0)).heap.size := by simp [size_setCell]
  have hlt := ow_lt hown a rfl
  have H4 := (H3.still hT).more (W' := fun i => W i ∨ i = a.block) (fun i hi => .inl hi) (by
    rintro i (hi | rfl)
    · exact Nat.lt_of_lt_of_le (H.lt i hi) (by rw [hw3]; exact hT.size)
    · exact hlt.2)
  obtain ⟨l1, l2, _⟩ := ow_le hown
  have H5 := H4.setF a c (k :: M.fr) (NumsAt.of_own hown (by simp [nums])) ⟨by simpa using l1, l2⟩ ⟨.inr rfl, fun hf => by have := H.lt _ (H.fix _ hf); omega⟩
  simp only [List.set_set] at H5
  refine zT_goes H5 ((ht3.trans (hT.mono (T := W) (fun _ _ h => h.elim))).setCell (p := ⟨q, 3, none⟩) (.inl (H.fix _ (.inl rfl))) _) ?_
  rintro i (hi | rfl)
  · exact .inl hi
  · exact .inr hlt.1

set_option maxHeartbeats 2000000 in
theorem zdrop_any {w : World} {W : Nat → Prop} {q : Nat} {M : PM} {N : Nat} (H0 : (zT q M).at_ w W) (hM : M.Ok N) (hN : N < 1099511627776) (h : Int) :
    Calls Tryz.prog 76 #[.pointer (some ⟨q, 0, none⟩), .int .i64 h] w fun e w' => e = .returned (.tuple #[.int .i64 (M.dropN h), .int .i64 (M.err h)]) ∧ Goes (zT q (M.dropM h)) W w w' := by
  obtain ⟨L, H⟩ := H0
  obtain ⟨n, hn⟩ : ∃ n, n = M.sl.length := ⟨_, rfl⟩
  by_cases he : M.err h = 0
  · obtain ⟨h1, hk, hs, hg, hc⟩ := PM.live he
    have HV := Lib.hid (zlive_ok H he)
    obtain ⟨cg, cc, fg, fc⟩ := H.cell hs
    have c0 : w.cell? ⟨q, 0, none⟩ = some (.slice (some ⟨L.gb, 0, none⟩) n n) := hn ▸ H.hd.cell rfl
    have c1 : w.cell? ⟨q, 1, none⟩ = some (.slice (some ⟨L.cb, 0, none⟩) n n) := hn ▸ H.hd.cell rfl
    have hkn : hSlot h < n := by omega
    have hlow := hM.low _ _ hs
    obtain ⟨n1, n2, n3, n4, n5, n6⟩ := H.ne
    by_cases h1 : (M.slt h).c = 1
    · have HD := Lib.hid (show M.dropM h = { M with sl := M.sl.set (hSlot h) ⟨(M.slt h).g + 1, 0, []⟩, fr := hSlot h :: M.fr } by unfold PM.dropM; rw [if_neg (by simp [he]), if_pos h1])
      have HN2 := Lib.hid (show M.dropN h = 0 by unfold PM.dropN; rw [if_neg (by simp [he]), h1]; rfl)
      have c2 : w.cell? ⟨q, 2, none⟩ = some (.slice (some ⟨L.bb, 0, none⟩) n n) := hn ▸ H.hd.cell rfl
      obtain ⟨fl, hfl⟩ : ∃ fl, fl = M.fr.length := ⟨_, rfl⟩
      have c3 : w.cell? ⟨q, 3, none⟩ = some (.slice (some L.fa) fl L.fc) := hfl ▸ H.hd.cell rfl
      have f3 := H.hd.free 3
      obtain ⟨bv, hb, hl, hbs⟩ := H.bb
      obtain ⟨a, cx, hb1, hb2⟩ := hbs _ _ hs
      have cb : w.cell? ⟨L.bb, hSlot h, none⟩ = some (.slice a (M.slt h).b.length cx) := hb.cell hb1
      have fb := hb.free (hSlot h)
      rw [h1] at cc
      rw [HD.out, HN2.out, he]
      have HG := Lib.hid (fun (w5 : World) (a : Addr) (c : Nat) => zdrop_goes (w5 := w5) (a := a) (c := c) H hs)
      rw [← hfl] at HG
      have HFF := Lib.hid H.ff
      have hfle : fl ≤ 128 := by rw [hfl]; exact hM.frlen
      obtain ⟨w3, hw3⟩ : ∃ w3, ((w.setCell ⟨L.cb, hSlot h, none⟩ (.int .i64 0)).setCell ⟨L.gb, hSlot h, none⟩ (.int .i64 (((M.slt h).g : Int) + 1))).setCell ⟨L.bb, hSlot h, none⟩ (.slice none 0 0) = w3 := ⟨_, rfl⟩
      have hT3 : Turned (fun i => L.fix q i) w w3 := by
        rw [← hw3]
        exact (((Turned.refl _ w).setCell (p := ⟨L.cb, hSlot h, none⟩) (.inl (.inr (.inr (.inl rfl)))) _).setCell (p := ⟨L.gb, hSlot h, none⟩) (.inl (.inr (.inl rfl))) _).setCell (p := ⟨L.bb, hSlot h, none⟩) (.inl (.inr (.inr (.inr rfl)))) _
      have HNC := Lib.hid (fun (V : World) (hV : Still w3 V) (j : Nat) (u : Value) (hu : (ints (nums M.fr))[j]? = some u) => show V.cell? (L.fa.add j) = some u by
        have hN := (H.ff.turned hT3 (fun x hx => by cases hx; exact H.fown.2)).still hV
        simp only [ints, List.getElem?_map, Option.map_eq_some_iff] at hu
        obtain ⟨x, hx, rfl⟩ := hu
        obtain ⟨b, o, e, hc⟩ := hN j x hx
        rw [Option.some.inj e, Addr.add_lit]
        exact hc)
      have HNL := Lib.hid (show (ints (nums M.fr)).length = fl * 1 by rw [ints_length, nums_length, hfl, Nat.mul_one])
      have HN1 := Lib.hid (show ∀ u ∈ ints (nums M.fr), u.oneCell' = true from ow_ints (by simp [ints, isIntW]))
      have hsz3 : w.heap.size ≤ w3.heap.size := hT3.size
      rw [hw3] at HG
      have HW3 := Lib.hid hw3
      have b1 := ((H.hd.other (p := ⟨L.cb, hSlot h, none⟩) (Ne.symm n3) (.int .i64 0)).other (p := ⟨L.gb, hSlot h, none⟩) (Ne.symm n2) (.int .i64 (((M.slt h).g : Int) + 1))).other (p := ⟨L.bb, hSlot h, none⟩) (Ne.symm n4) (.slice none 0 0)
      have b2 := ((H.cc.set (hSlot h) (.int .i64 0)).other (p := ⟨L.gb, hSlot h, none⟩) n1 (.int .i64 (((M.slt h).g : Int) + 1))).other (p := ⟨L.bb, hSlot h, none⟩) (Ne.symm n6) (.slice none 0 0)
      rw [hw3] at b1 b2
      have hlk : hSlot h < (ints (nums (M.sl.map (·.c)))).length := by rw [ints_length, nums_length, List.length_map]; exact hk
      have HFZ := Lib.hid (fun (V : World) (hV : Still w3 V) => show V.frozen? ⟨q, 3, none⟩ = false ∧ V.cell? ⟨q, 3, none⟩ = some (.slice (some L.fa) fl L.fc) ∧ V.cell? ⟨q, 1, none⟩ = some (.slice (some ⟨L.cb, 0, none⟩) n n) ∧ V.cell? ⟨L.cb, hSlot h, none⟩ = some (.int .i64 0) from
        ⟨(b1.turned hV (fun h => h)).free 3, by rw [hfl]; exact (b1.turned hV (fun h => h)).cell rfl, by rw [hn]; exact (b1.turned hV (fun h => h)).cell rfl, (b2.turned hV (fun h => h)).cell (List.getElem?_set_self hlk)⟩)
      obtain ⟨i0, hi, hz0, hz1, hz2⟩ := info_parts infoIntW
      have hgi : ((M.slt h).g : Int) < 1099511627776 ∧ (0 : Int) ≤ ((M.slt h).g : Int) := by omega
      obtain ⟨hgi1, hgi0⟩ := hgi
      have hqs := Ne.symm n1
      have hq2 := Ne.symm n2
      have hq3 := Ne.symm n3
      have hq4 := Ne.symm n4
      have hq5 := Ne.symm n5
      have hq6 := Ne.symm n6
      have cc1 : w.cell? ⟨L.cb, hSlot h, none⟩ = some (.int .i64 1) := cc
      clear HD HN2 h1 hg hc hn hb hl hbs hb1 hb2 hlow hM hT3 hw3 he hs H hfl HFF cc hN hk b1 b2 hlk
      generalize hSlot h = k at *
      generalize ((M.slt h).g : Int) = g at *
      go_enter Tryz.func76, Tryz.ntmps76
      go_upto_region 8 with (go_at_call 110; refine HV.out.mono ?_; rintro e w' ⟨rfl, rfl⟩)
      rw [HW3.out]
      obtain ⟨d1, d2, d3, d4⟩ := HFZ.out w3 (Turned.refl _ _)
      have hq7 : q < w3.heap.size := cell_lt d2
      have HO1 := Lib.hid (ow_one w3 (.int .i64 (k : Int)) 3 hsz3)
      clear HW3 c0 c1 c2 c3 f3 fg fc cb fb cg cc1
      go_wp2_with (at_builtin; refine wpList_append_own_at _ rfl (.tmp 51) (.tmp 55) 23 rfl w.heap.size 3 i0 (.int .i64 0) 1 8 Tryz.underlying23 hi hz0 hz1 hz2 rfl (by decide) _ 1 [.int .i64 (k : Int)] rfl HO1.out L.fa fl L.fc (ints (nums M.fr)) rfl HNL.out (HNC.out _ ((Turned.refl _ _).alloc _)) HN1.out (by unfold maxLen; omega) (by omega) (by simp; omega) ?_; intro v6 w6 hown6 hg6 _ hat6; obtain ⟨a6, c6, rfl⟩ := ow_slice hown6; have HT6 := Lib.hid (show Still w3 w6 from ((Turned.refl (fun _ => False) w3).alloc (.cells #[.int .i64 (k : Int)] 3)).grown hg6 (fun i e => .inr (by cases e; exact Nat.le_refl _))); have HO6 := Lib.hid hown6; have HAT := Lib.hid hat6; obtain ⟨e1, e2, e3, e4⟩ := HFZ.out w6 HT6.out; clear hown6 hg6 hat6 d1 d2 d3 d4)
      go_ret2
      obtain ⟨a6, rfl⟩ : ∃ x, a6 = some x := by
        have := HAT.out
        cases a6 with
        | none => rcases this with h | h <;> cases h
        | some x => exact ⟨x, rfl⟩
      have HO7 := HO6.out
      rw [Nat.add_comm 1 fl] at HO7
      have := HG.out w6 a6 c6 HT6.out (by simpa [ints, nums] using HO7)
      refine ⟨rfl, ?_⟩
      rw [Nat.add_comm 1 fl]
      exact this
    · have h2 : 2 ≤ (M.slt h).c := by omega
      have HD := Lib.hid (show M.dropM h = { M with sl := M.sl.set (hSlot h) { M.slt h with c := (M.slt h).c - 1 } } by unfold PM.dropM; rw [if_neg (by simp [he]), if_neg h1])
      have hX : (((M.slt h).c - 1 : Nat) : Int) = ((M.slt h).c : Int) - 1 := by omega
      have HN2 := Lib.hid (show M.dropN h = ((M.slt h).c : Int) - 1 by unfold PM.dropN; rw [if_neg (by simp [he]), hX])
      have HG := Lib.hid (zT_goes (H.setC hs ((M.slt h).c - 1)) ((Turned.refl W w).setCell (p := ⟨L.cb, hSlot h, none⟩) (.inl (H.fix _ (.inr (.inr (.inl rfl))))) _) (fun k hk => .inl hk))
      rw [← HD.out, hX] at HG
      rw [HN2.out, he]
      have hci : ((M.slt h).c : Int) < 1099511627776 := by omega
      have hc0 : (2 : Int) ≤ ((M.slt h).c : Int) := by omega
      have hzz : (((M.slt h).c : Int) - 1 == 0) = false := by rw [beq_eq_false_iff_ne]; omega
      have hq3 := Ne.symm n3
      have hcq := Ne.symm n3
      generalize hSlot h = k at *
      clear HD HN2 hX h2 h1 hs hg hc hlow hn H hM hN
      generalize ((M.slt h).c : Int) = c at *
      clear hk he
      go_enter Tryz.func76, Tryz.ntmps76
      go_wp2_with (go_at_call 110; refine HV.out.mono ?_; rintro e w' ⟨rfl, rfl⟩)
      go_ret2
      exact ⟨rfl, HG.out⟩
  · have HV := Lib.hid (zlive_no H he)
    have hb : (M.err h != 0) = true := by rw [bne_iff_ne]; exact he
    rw [show M.dropM h = M by unfold PM.dropM; rw [if_pos he], show M.dropN h = 0 by unfold PM.dropN; rw [if_pos he]]
    have HG := Lib.hid (zT_same H)
    generalize M.err h = x at *
    clear H hn he
    go_enter Tryz.func76, Tryz.ntmps76
    go_wp2_with (go_at_call 110; refine HV.out.mono ?_; rintro e w' ⟨rfl, rfl⟩)
    go_ret2
    exact ⟨rfl, HG.out⟩
end Go.Proofs.YtmmkcfiecgpkpaaGreat

/- What Take of the document's pool does. No condition. -/
namespace Go.Proofs.YtmmkcfiecgpkpaaGreat
open Go.RowKit
set_option linter.unusedVariables false
set_option linter.unusedSimpArgs false
set_option maxRecDepth 100000

theorem row_byt (l : List UInt8) : rowOf encB l = byt l := by
  induction l with
  | nil => rfl
  | cons a l ih => rw [rowOf_cons, ih]; simp [byt, encB]
theorem made_byt (k : Nat) : madeCells #[.int .u8 0] k = (byt (List.replicate k 0)).toArray := by
  have := made_row (enc := encB) (0 : UInt8) (z := #[.int .u8 0]) rfl (m := 1) (fun _ => rfl) (by omega) k
  rw [Nat.mul_one] at this
  rw [this, row_byt]

theorem ztake_goes {w w1 w4 : World} {W : Nat → Prop} {q : Nat} {L : ZLay} {M : PM} {k : Nat} {r : List Nat} {s : Slt} (H : ZIn w W q L M) (hs : M.sl[k]? = some s) {a : Addr} {c B nn : Nat}
    (hT1 : Still w w1) (hown : w1.ownsRow w.heap.size 3 1 (.slice (some a) r.length c) r.length (ints (nums r)))
    (hT : Still ((w1.setCell ⟨q, 3, none⟩ (.slice (some a) r.length c)).setCell ⟨L.cb, k, none⟩ (.int .i64 1)) w4) (hB : BytesAt w4 (some ⟨B, 0, none⟩) (List.replicate nn 0)) (hnn : nn ≤ 256)
    (hB0 : w1.heap.size ≤ B) (hB1 : B < w4.heap.size) :
    Goes (zT q { M with sl := M.sl.set k ⟨s.g, 1, List.replicate nn 0⟩, fr := r }) W w (w4.setCell ⟨L.bb, k, none⟩ (.slice (some ⟨B, 0, none⟩) nn nn)) := by
  have hk := get_lt hs
  have hlt := ow_lt hown a rfl
  have hsz1 := hT1.size
  have H1 := (H.still hT1).more (W' := fun i => W i ∨ i = a.block) (fun i hi => .inl hi) (by
    rintro i (hi | rfl)
    · exact Nat.lt_of_lt_of_le (H.lt i hi) hT1.size
    · exact hlt.2)
  obtain ⟨l1, l2, _⟩ := ow_le hown
  have H2 := H1.setF a c r (NumsAt.of_own hown (by simp [nums])) ⟨l1, l2⟩ ⟨.inr rfl, fun hf => by have := H.lt _ (H.fix _ hf); omega⟩
  have H3 := H2.setC hs 1
  rw [show ((1 : Nat) : Int) = 1 from rfl] at H3
  have hsz3 : ((w1.setCell ⟨q, 3, none⟩ (.slice (some a) r.length c)).setCell ⟨L.cb, k, none⟩ (.int .i64 1)).heap.size = w1.heap.size := by rw [size_setCell, size_setCell]
  have H4 := (H3.still hT).more (W' := fun i => (W i ∨ i = a.block) ∨ i = B) (fun i hi => .inl hi) (by
    rintro i (hi | rfl)
    · exact Nat.lt_of_lt_of_le (H3.lt i hi) hT.size
    · exact hB1)
  have e1 : (M.sl.set k { s with c := 1 })[k]? = some { s with c := 1 } := List.getElem?_set_self hk
  have hBo : ∀ x, (some (⟨B, 0, none⟩ : Addr)) = some x → ((W x.block ∨ x.block = a.block) ∨ x.block = B) ∧ ¬ ({ L with fa := a, fc := c } : ZLay).fix q x.block := by
    intro x hx
    cases hx
    refine ⟨.inr rfl, fun hf => ?_⟩
    have := H.lt _ (H.fix B hf)
    omega
  have H5 := H4.setB e1 (some ⟨B, 0, none⟩) nn (List.replicate nn 0) ⟨hB, by simp, by unfold maxLen; omega, (fun e => by cases e), hBo⟩
  simp only [List.set_set, List.length_replicate] at H5
  refine zT_goes H5 ((((hT1.mono (T := W) (fun _ _ h => h.elim)).setCell (p := ⟨q, 3, none⟩) (.inl (H.fix _ (.inl rfl))) _).setCell (p := ⟨L.cb, k, none⟩) (.inl (H.fix _ (.inr (.inr (.inl rfl))))) _).trans (hT.mono (T := W) (fun _ _ h => h.elim)) |>.setCell (p := ⟨L.bb, k, none⟩) (.inl (H.fix _ (.inr (.inr (.inr rfl))))) _) ?_
  rintro i ((hi | rfl) | rfl)
  · exact .inl hi
  · exact .inr hlt.1
  · exact .inr (by omega)

theorem ztake_mid {w w1 : World} {W : Nat → Prop} {q : Nat} {L : ZLay} {M : PM} {k : Nat} {r : List Nat} {s : Slt} (H : ZIn w W q L M) (hs : M.sl[k]? = some s) {a : Addr} {c : Nat}
    (hT1 : Still w w1) (hown : w1.ownsRow w.heap.size 3 1 (.slice (some a) r.length c) r.length (ints (nums r))) :
    ZIn ((w1.setCell ⟨q, 3, none⟩ (.slice (some a) r.length c)).setCell ⟨L.cb, k, none⟩ (.int .i64 1)) (fun i => W i ∨ i = a.block) q { L with fa := a, fc := c } { M with sl := M.sl.set k { s with c := 1 }, fr := r } := by
  have hlt := ow_lt hown a rfl
  have H1 := (H.still hT1).more (W' := fun i => W i ∨ i = a.block) (fun i hi => .inl hi) (by
    rintro i (hi | rfl)
    · exact Nat.lt_of_lt_of_le (H.lt i hi) hT1.size
    · exact hlt.2)
  obtain ⟨l1, l2, _⟩ := ow_le hown
  have H2 := H1.setF a c r (NumsAt.of_own hown (by simp [nums])) ⟨l1, l2⟩ ⟨.inr rfl, fun hf => by have := H.lt _ (H.fix _ hf); omega⟩
  have H3 := H2.setC hs 1
  rw [show ((1 : Nat) : Int) = 1 from rfl] at H3
  exact H3

/-- What the walk asks of a pool's cells at a slot. -/
theorem ZIn.at {w : World} {W : Nat → Prop} {q : Nat} {L : ZLay} {M : PM} (H : ZIn w W q L M) {k : Nat} {s : Slt} (hk : M.sl[k]? = some s) :
    w.cell? ⟨q, 0, none⟩ = some (.slice (some ⟨L.gb, 0, none⟩) M.sl.length M.sl.length) ∧ w.cell? ⟨q, 1, none⟩ = some (.slice (some ⟨L.cb, 0, none⟩) M.sl.length M.sl.length) ∧ w.cell? ⟨q, 2, none⟩ = some (.slice (some ⟨L.bb, 0, none⟩) M.sl.length M.sl.length) ∧
    w.cell? ⟨L.gb, k, none⟩ = some (.int .i64 s.g) ∧ w.cell? ⟨L.cb, k, none⟩ = some (.int .i64 s.c) ∧ (∃ a c, w.cell? ⟨L.bb, k, none⟩ = some (.slice a s.b.length c)) ∧ w.frozen? ⟨q, 3, none⟩ = false ∧ w.frozen? ⟨L.gb, k, none⟩ = false ∧ w.frozen? ⟨L.cb, k, none⟩ = false ∧ w.frozen? ⟨L.bb, k, none⟩ = false := by
  obtain ⟨bv, hb, hl, hbs⟩ := H.bb
  obtain ⟨a, c, h1, h2⟩ := hbs k s hk
  exact ⟨H.hd.cell rfl, H.hd.cell rfl, H.hd.cell rfl, (H.cell hk).1, (H.cell hk).2.1, ⟨a, c, hb.cell h1⟩, H.hd.free 3, (H.cell hk).2.2.1, (H.cell hk).2.2.2, hb.free k⟩

theorem ztake_no {w : World} {W : Nat → Prop} {q : Nat} {L : ZLay} {M : PM} (H : ZIn w W q L M) (n : Int) (hE : M.takeE n ≠ 0) :
    M.takeM n = M ∧ M.takeH n = 0 := by
  unfold PM.takeE at hE
  unfold PM.takeM PM.takeH
  by_cases h1 : n < 0
  · simp [h1]
  · by_cases h2 : (M.size : Int) < n
    · simp [h2]
    · by_cases h3 : M.fr = []
      · simp [h1, h2, h3]
      · rw [if_neg h1, if_neg h2, if_neg h3] at hE
        exact absurd rfl hE

set_option maxHeartbeats 2000000 in
theorem ztake_any {w : World} {W : Nat → Prop} {q : Nat} {M : PM} {N : Nat} (H0 : (zT q M).at_ w W) (hM : M.Ok N) (hN : N < 1099511627776) (n : Int) :
    Calls Tryz.prog 77 #[.pointer (some ⟨q, 0, none⟩), .int .i64 n] w fun e w' => e = .returned (.tuple #[.int .i64 (M.takeH n), .int .i64 (M.takeE n)]) ∧ Goes (zT q (M.takeM n)) W w w' := by
  obtain ⟨L, H⟩ := H0
  obtain ⟨S, hS⟩ : ∃ S, S = M.size := ⟨_, rfl⟩
  have c4 : w.cell? ⟨q, 4, none⟩ = some (.int .i64 (S : Int)) := hS ▸ H.hd.cell rfl
  have hs1 := hM.size1
  by_cases h1 : n < 0
  · have hE : M.takeE n = 2 := by unfold PM.takeE; rw [if_pos h1]
    obtain ⟨e1, e2⟩ := ztake_no H n (by rw [hE]; decide)
    rw [hE, e1, e2]
    have HG := Lib.hid (zT_same H)
    clear hE e1 e2 H hS hs1 hM hN
    go_enter Tryz.func77, Tryz.ntmps77
    go_wp2_with fail
    go_ret2
    exact ⟨rfl, HG.out⟩
  · by_cases h2 : (S : Int) < n
    · have hE : M.takeE n = 3 := by unfold PM.takeE; rw [if_neg h1, if_pos (hS ▸ h2)]
      obtain ⟨e1, e2⟩ := ztake_no H n (by rw [hE]; decide)
      rw [hE, e1, e2]
      have HG := Lib.hid (zT_same H)
      clear hE e1 e2 H hS hs1 hM hN
      go_enter Tryz.func77, Tryz.ntmps77
      go_wp2_with fail
      go_ret2
      exact ⟨rfl, HG.out⟩
    · cases hf : M.fr with
      | nil =>
        have hE : M.takeE n = 50 := by unfold PM.takeE; rw [if_neg h1, if_neg (hS ▸ h2), if_pos hf]
        obtain ⟨e1, e2⟩ := ztake_no H n (by rw [hE]; decide)
        rw [hE, e1, e2]
        have HG := Lib.hid (zT_same H)
        have c3 : w.cell? ⟨q, 3, none⟩ = some (.slice (some L.fa) 0 L.fc) := by have := H.hd.cell (o := 3) rfl; rwa [hf] at this
        clear hE e1 e2 H hS hs1 hM hN hf
        go_enter Tryz.func77, Tryz.ntmps77
        go_wp2_with fail
        go_ret2
        exact ⟨rfl, HG.out⟩
      | cons k r =>
        have hkl : k < M.sl.length := hM.lt k (by rw [hf]; exact List.mem_cons_self)
        obtain ⟨s, hs⟩ := get_some hkl
        obtain ⟨nn, rfl⟩ : ∃ nn : Nat, n = nn := ⟨n.toNat, by omega⟩
        have hnn : nn ≤ 256 := by omega
        have hE : M.takeE nn = 0 := by unfold PM.takeE; rw [if_neg h1, if_neg (hS ▸ h2), if_neg (by rw [hf]; simp)]
        have hH : M.takeH nn = (s.g : Int) * 128 + (k : Nat) + 1 := by unfold PM.takeH; rw [if_neg (by rw [← hS]; omega), hf]; simp [hs]
        have hMM : M.takeM nn = { M with sl := M.sl.set k ⟨s.g, 1, List.replicate nn 0⟩, fr := r } := by unfold PM.takeM; rw [if_neg (by rw [← hS]; omega), hf]; simp [hs]
        rw [hE, hH, hMM]
        have hlow := hM.low _ _ hs
        have hOF := Lib.hid (fun W => refOf_any (k : Int) (s.g : Int) W)
        rw [haV_ok (by have := hM.len; unfold sgOk; omega)] at hOF
        obtain ⟨m, hm⟩ : ∃ m, m = M.sl.length := ⟨_, rfl⟩
        obtain ⟨rl, hrl⟩ : ∃ rl, rl = r.length := ⟨_, rfl⟩
        have c3 : w.cell? ⟨q, 3, none⟩ = some (.slice (some L.fa) (rl + 1) L.fc) := by have := H.hd.cell (o := 3) rfl; rw [hf, List.length_cons, ← hrl] at this; exact this
        have hff := H.ff
        rw [hf] at hff
        obtain ⟨b, o, hfa, hc0⟩ := hff 0 (k : Int) rfl
        rw [Nat.add_zero] at hc0
        have hfa := Option.some.inj hfa
        have hle := H.fle
        rw [hf, List.length_cons, ← hrl] at hle
        have hmx := hle.2
        unfold maxLen at hmx
        have hrl128 := hM.frlen
        rw [hf, List.length_cons, ← hrl] at hrl128
        have htl : NumsAt w (some ⟨b, o + 1, none⟩) (nums r) := by
          intro i x hx
          obtain ⟨b', o', e, hc⟩ := hff (i + 1) x (by simpa [nums] using hx)
          rw [hfa] at e
          cases e
          exact ⟨b, o + 1, rfl, by rw [Nat.add_assoc, Nat.add_comm 1 i]; exact hc⟩
        have HI := Lib.hid (fun c => bints_any w (some ⟨b, o + 1, none⟩) (nums r) rl c (by rw [nums_length, hrl]) htl (by omega) (fun e => by cases e))
        have HI0 := Lib.hid (fun (h : r = []) c => bints_any w (some ⟨b, o, none⟩) (nums r) rl c (by rw [nums_length, hrl]) (by rw [h]; exact NumsAt.nil _ _) (by omega) (fun e => by cases e))
        rw [hfa] at c3
        have HG := Lib.hid (fun (w1 w4 : World) (a : Addr) (c B : Nat) (hT1 : Still w w1) (hown : w1.ownsRow w.heap.size 3 1 (.slice (some a) rl c) rl (ints (nums r))) => ztake_goes (w1 := w1) (w4 := w4) (B := B) (nn := nn) H hs hT1 (hrl ▸ hown))
        rw [← hrl] at HG
        obtain ⟨fc, hfc⟩ : ∃ fc, fc = L.fc := ⟨_, rfl⟩
        rw [← hfc] at c3 hle hmx
        have hsp : (fc = 1 ∧ rl = 0) ∨ 2 ≤ fc := by omega
        have HRLX := Lib.hid hrl
        have HMM := Lib.hid hm
        have hkm : k < m := by rw [hm]; exact hkl
        clear hm
        clear hE hH hMM hf hff htl hfa hrl hfc hS hs1 hM hN hkl hlow
        rcases hsp with ⟨hc1, hc2⟩ | hc2
        · have hr0 : r = [] := List.eq_nil_of_length_eq_zero (by rw [← HRLX.out]; exact hc2)
          subst hc1
          subst hc2
          have HI := Lib.hid (fun c => HI0.out hr0 c)
          rw [Nat.zero_add] at c3
          clear HI0 hr0
          go_enter Tryz.func77, Tryz.ntmps77
          go_upto_region 8 with fail
          go_wp2_with fail
          ((with_reducible refine (HI.out _).mono ?_))
          rintro e w1 ⟨a, c, rfl, hown, hT1⟩
          have HO := Lib.hid hown
          have HT1 := Lib.hid hT1
          have HM := Lib.hid (ztake_mid H hs hT1 (HRLX.out ▸ hown))
          obtain ⟨_, p1, _, _, p4, _, p6, _, p8, _⟩ := (H.still hT1).at hs
          rw [← HMM.out] at p1
          have p3 : ∃ u, w1.cell? ⟨q, 3, none⟩ = some u := ⟨_, (H.still hT1).hd.cell rfl⟩
          obtain ⟨u3, p3⟩ := p3
          have n3 : q ≠ L.cb := H.ne.2.2.1
          have n3' : L.cb ≠ q := Ne.symm n3
          clear hown hT1 H hs
          go_upto_region 10 with fail
          have HG1 := Lib.hid (fun w4 B => HG.out w1 w4 a c B HT1.out HO.out)
          obtain ⟨w3, hw3⟩ : ∃ w3, (w1.setCell ⟨q, 3, none⟩ (.slice (some a) 0 c)).setCell ⟨L.cb, k, none⟩ (.int .i64 1) = w3 := ⟨_, rfl⟩
          have hsz3 := Lib.hid (show w3.heap.size = w1.heap.size by rw [← hw3, size_setCell, size_setCell])
          have HM3 := HM.out
          rw [← HRLX.out, hw3] at HM3
          rw [hw3]
          rw [hw3] at HG1
          have hs3 : (M.sl.set k { s with c := 1 })[k]? = some { s with c := 1 } := List.getElem?_set_self (by rw [← HMM.out]; exact hkm)
          obtain ⟨e0, _, e2, e3, _, e5, _, _, _, e9⟩ := HM3.at hs3
          obtain ⟨ba, bc, e5⟩ := e5
          simp only [List.length_set] at e0 e2
          rw [← HMM.out] at e0 e2
          have hqb := HM3.ne.2.2.2.1
          have hbq := Ne.symm hqb
          have hgb := HM3.ne.2.2.2.2.1
          have hbg := Ne.symm hgb
          dsimp only at e0 e2 e3 e5 e9 hqb hbq hgb hbg
          have l1 : q < w3.heap.size := cell_lt e2
          have l2 : L.bb < w3.heap.size := cell_lt e5
          have l3 : L.gb < w3.heap.size := cell_lt e3
          obtain ⟨i1, ki, kz0, kz1, kz2⟩ := info_parts infoByte
          have hb : (i1.bytes : Int) * (nn : Int) ≤ 281474976710656 := by rw [kz2]; omega
          have hmk := fun W : World => run_make (P := Tryz.prog) W 35 5 i1 _ Tryz.underlying35 ki kz0 .i64 .i64 (nn : Int) (nn : Int) (Int.natCast_nonneg nn) (Int.le_refl _) hb (by omega)
          simp only [kz1, Int.toNat_natCast, Nat.mul_one, show Value.cells (.int .u8 0) = #[.int .u8 0] from rfl, made_byt] at hmk
          clear ki kz0 kz1 kz2 hb HM3 hs3 p1 p4 p6 p8 p3 c4 c3 hc0 HI HG n3 n3' hw3
          go_region
          have HGF := Lib.hid (HG1.out (w3.alloc (.cells (byt (List.replicate nn 0)).toArray 5)).drew w3.heap.size (((Turned.refl _ w3).alloc _).drew)
            ((BytesAt.of_blk (r := []) (by rw [List.append_nil]; exact Blk.new w3 (byt (List.replicate nn 0)) 5)).drewN 1) hnn (by rw [hsz3.out]; exact Nat.le_refl _) (by show _ < (w3.alloc _).heap.size; simp))
          rw [World.setCell_drew, World.setCell_alloc_past (hn := l2)] at HGF
          have hkw : (0 : Int) ≤ k := Int.natCast_nonneg _
          clear hmk HG1 e9
          go_wp2_with (go_at_call 111; refine (hOF.out _).mono ?_; rintro e w' ⟨rfl, rfl⟩)
          go_ret2
          exact ⟨rfl, HGF.out⟩
        · clear HI0
          go_enter Tryz.func77, Tryz.ntmps77
          go_upto_region 8 with fail
          go_wp2_with fail
          ((with_reducible refine (HI.out _).mono ?_))
          rintro e w1 ⟨a, c, rfl, hown, hT1⟩
          have HO := Lib.hid hown
          have HT1 := Lib.hid hT1
          have HM := Lib.hid (ztake_mid H hs hT1 (HRLX.out ▸ hown))
          obtain ⟨_, p1, _, _, p4, _, p6, _, p8, _⟩ := (H.still hT1).at hs
          rw [← HMM.out] at p1
          have p3 : ∃ u, w1.cell? ⟨q, 3, none⟩ = some u := ⟨_, (H.still hT1).hd.cell rfl⟩
          obtain ⟨u3, p3⟩ := p3
          have n3 : q ≠ L.cb := H.ne.2.2.1
          have n3' : L.cb ≠ q := Ne.symm n3
          clear hown hT1 H hs
          go_upto_region 10 with fail
          have HG1 := Lib.hid (fun w4 B => HG.out w1 w4 a c B HT1.out HO.out)
          obtain ⟨w3, hw3⟩ : ∃ w3, (w1.setCell ⟨q, 3, none⟩ (.slice (some a) rl c)).setCell ⟨L.cb, k, none⟩ (.int .i64 1) = w3 := ⟨_, rfl⟩
          have hsz3 := Lib.hid (show w3.heap.size = w1.heap.size by rw [← hw3, size_setCell, size_setCell])
          have HM3 := HM.out
          rw [← HRLX.out, hw3] at HM3
          rw [hw3]
          rw [hw3] at HG1
          have hs3 : (M.sl.set k { s with c := 1 })[k]? = some { s with c := 1 } := List.getElem?_set_self (by rw [← HMM.out]; exact hkm)
          obtain ⟨e0, _, e2, e3, _, e5, _, _, _, e9⟩ := HM3.at hs3
          obtain ⟨ba, bc, e5⟩ := e5
          simp only [List.length_set] at e0 e2
          rw [← HMM.out] at e0 e2
          have hqb := HM3.ne.2.2.2.1
          have hbq := Ne.symm hqb
          have hgb := HM3.ne.2.2.2.2.1
          have hbg := Ne.symm hgb
          dsimp only at e0 e2 e3 e5 e9 hqb hbq hgb hbg
          have l1 : q < w3.heap.size := cell_lt e2
          have l2 : L.bb < w3.heap.size := cell_lt e5
          have l3 : L.gb < w3.heap.size := cell_lt e3
          obtain ⟨i1, ki, kz0, kz1, kz2⟩ := info_parts infoByte
          have hb : (i1.bytes : Int) * (nn : Int) ≤ 281474976710656 := by rw [kz2]; omega
          have hmk := fun W : World => run_make (P := Tryz.prog) W 35 5 i1 _ Tryz.underlying35 ki kz0 .i64 .i64 (nn : Int) (nn : Int) (Int.natCast_nonneg nn) (Int.le_refl _) hb (by omega)
          simp only [kz1, Int.toNat_natCast, Nat.mul_one, show Value.cells (.int .u8 0) = #[.int .u8 0] from rfl, made_byt] at hmk
          clear ki kz0 kz1 kz2 hb HM3 hs3 p1 p4 p6 p8 p3 c4 c3 hc0 HI HG n3 n3' hw3
          go_region
          have HGF := Lib.hid (HG1.out (w3.alloc (.cells (byt (List.replicate nn 0)).toArray 5)).drew w3.heap.size (((Turned.refl _ w3).alloc _).drew)
            ((BytesAt.of_blk (r := []) (by rw [List.append_nil]; exact Blk.new w3 (byt (List.replicate nn 0)) 5)).drewN 1) hnn (by rw [hsz3.out]; exact Nat.le_refl _) (by show _ < (w3.alloc _).heap.size; simp))
          rw [World.setCell_drew, World.setCell_alloc_past (hn := l2)] at HGF
          have hkw : (0 : Int) ≤ k := Int.natCast_nonneg _
          clear hmk HG1 e9
          go_wp2_with (go_at_call 111; refine (hOF.out _).mono ?_; rintro e w' ⟨rfl, rfl⟩)
          go_ret2
          exact ⟨rfl, HGF.out⟩
end Go.Proofs.YtmmkcfiecgpkpaaGreat

/- What the document's pool.Make does. No condition. -/
namespace Go.Proofs.YtmmkcfiecgpkpaaGreat
open Go.RowKit
set_option linter.unusedVariables false
set_option linter.unusedSimpArgs false
set_option maxRecDepth 100000

theorem infoBytesS : (Tryz.prog.info? 35).map (fun i => (i.zero, i.size, i.bytes)) = some (some (.slice none 0 0), 1, 24) := by kernel_rfl

theorem made_ints (n : Nat) : madeCells #[.int .i64 0] n = (ints (nums (List.replicate n 0))).toArray := by
  have := made_row (enc := fun x : Int => [Value.int .i64 x]) 0 (z := #[.int .i64 0]) rfl (m := 1) (fun _ => rfl) (by omega) n
  rw [Nat.mul_one] at this
  rw [this]
  have key : ∀ l : List Int, rowOf (fun x : Int => [Value.int .i64 x]) l = ints l := by
    intro l
    induction l with
    | nil => rfl
    | cons a l ih => rw [rowOf_cons, ih]; rfl
  rw [key]
  simp [nums, ints]
theorem made_slices (n : Nat) : madeCells #[.slice none 0 0] n = (List.replicate n (Value.slice none 0 0)).toArray := by
  have := made_row (enc := fun x : Value => [x]) (.slice none 0 0) (z := #[.slice none 0 0]) rfl (m := 1) (fun _ => rfl) (by omega) n
  rw [Nat.mul_one] at this
  rw [this]
  have key : ∀ l : List Value, rowOf (fun x : Value => [x]) l = l := by
    intro l
    induction l with
    | nil => rfl
    | cons a l ih => rw [rowOf_cons, ih]; rfl
  rw [key]

structure ZMk (w wr : World) (q gb cb bb n size : Nat) (ao : Option Addr) (cc k : Nat) : Prop where
  hd : Blk wr q [.slice (some ⟨gb, 0, none⟩) n n, .slice (some ⟨cb, 0, none⟩) n n, .slice (some ⟨bb, 0, none⟩) n n, .slice ao k cc, .int .i64 (size : Int)] 115
  gg : Blk wr gb (ints (nums (List.replicate n 0))) 3
  cc_ : Blk wr cb (ints (nums (List.replicate n 0))) 3
  bb_ : Blk wr bb (List.replicate n (.slice none 0 0)) 35
  own : wr.ownsRow w.heap.size 3 1 (.slice ao k cc) k (ints (nums (List.range k)))
  ne : gb ≠ cb ∧ q ≠ gb ∧ q ≠ cb ∧ q ≠ bb ∧ gb ≠ bb ∧ cb ≠ bb
  lo : w.heap.size ≤ q ∧ w.heap.size ≤ gb ∧ w.heap.size ≤ cb ∧ w.heap.size ≤ bb
  far : ∀ x, ao = some x → x.block ≠ q ∧ x.block ≠ gb ∧ x.block ≠ cb ∧ x.block ≠ bb
  st : Still w wr

theorem ZMk.grown {w wr w6 : World} {q gb cb bb n size : Nat} {ao : Option Addr} {cc k : Nat} {o : Obj} (h : ZMk w wr q gb cb bb n size ao cc k) (hg : (wr.alloc o).grownBy w6 (Value.slice ao k cc).ownBlock) :
    Blk w6 q [.slice (some ⟨gb, 0, none⟩) n n, .slice (some ⟨cb, 0, none⟩) n n, .slice (some ⟨bb, 0, none⟩) n n, .slice ao k cc, .int .i64 (size : Int)] 115 := by
  have hT : Turned (fun i => (Value.slice ao k cc).ownBlock = some i) wr w6 := ((Turned.refl _ wr).alloc _).grown hg (fun i e => .inl e)
  refine h.hd.turned hT (fun he => ?_)
  cases ao with
  | none => cases he
  | some x => exact (h.far x rfl).1 (by simpa [Value.ownBlock] using he)

theorem ZMk.step {w wr w6 : World} {q gb cb bb n size : Nat} {ao a6 : Option Addr} {cc c6 k : Nat} (h : ZMk w wr q gb cb bb n size ao cc k)
    (hown : w6.ownsRow w.heap.size 3 1 (.slice a6 (k + 1) c6) (k + 1) (ints (nums (List.range (k + 1))))) (hg : (wr.alloc (.cells #[.int .i64 (k : Int)] 3)).grownBy w6 (Value.slice ao k cc).ownBlock)
    (hat : (Value.slice a6 (k + 1) c6).ownBlock = (Value.slice ao k cc).ownBlock ∨ (Value.slice a6 (k + 1) c6).ownBlock = some (wr.alloc (.cells #[.int .i64 (k : Int)] 3)).heap.size) :
    ZMk w (w6.setCell ⟨q, 3, none⟩ (.slice a6 (k + 1) c6)) q gb cb bb n size a6 c6 (k + 1) := by
  have hT : Turned (fun i => (Value.slice ao k cc).ownBlock = some i) wr w6 := ((Turned.refl _ wr).alloc _).grown hg (fun i e => .inl e)
  have hno : ∀ i, (i = q ∨ i = gb ∨ i = cb ∨ i = bb) → ¬ (Value.slice ao k cc).ownBlock = some i := by
    intro i hi he
    cases ao with
    | none => cases he
    | some x =>
      have hf := h.far x rfl
      have : x.block = i := by simpa [Value.ownBlock] using he
      omega
  obtain ⟨n1, n2, n3, n4, n5, n6⟩ := h.ne
  have hfar : ∀ x, a6 = some x → x.block ≠ q ∧ x.block ≠ gb ∧ x.block ≠ cb ∧ x.block ≠ bb := by
    rintro x rfl
    rcases hat with e | e
    · refine ⟨fun h' => hno q (.inl rfl) ?_, fun h' => hno gb (.inr (.inl rfl)) ?_, fun h' => hno cb (.inr (.inr (.inl rfl))) ?_, fun h' => hno bb (.inr (.inr (.inr rfl))) ?_⟩ <;> rw [← e, ← h'] <;> rfl
    · have e : x.block = (wr.alloc (.cells #[.int .i64 (k : Int)] 3)).heap.size := by simpa [Value.ownBlock] using e
      have := h.hd.lt
      have := h.gg.lt
      have := h.cc_.lt
      have := h.bb_.lt
      simp only [World.size_alloc] at e
      omega
  refine ⟨(h.hd.turned hT (hno q (.inl rfl))).set 3 _, (h.gg.turned hT (hno _ (.inr (.inl rfl)))).other (p := ⟨q, 3, none⟩) n2 _, (h.cc_.turned hT (hno _ (.inr (.inr (.inl rfl))))).other (p := ⟨q, 3, none⟩) n3 _, (h.bb_.turned hT (hno _ (.inr (.inr (.inr rfl))))).other (p := ⟨q, 3, none⟩) n4 _, ?_, h.ne, h.lo, hfar, ?_⟩
  · exact ow_turned hown (turned_set (Turned.refl _ _) _ _) (fun i hi e => by
      cases a6 with
      | none => cases hi
      | some x => have : x.block = i := by simpa [Value.ownBlock] using hi
                  exact (hfar x rfl).1 (by omega))
  · refine (h.st.past hT (fun i hi => ?_)).setCell (p := ⟨q, 3, none⟩) (.inr h.lo.1) _
    cases ao with
    | none => cases hi
    | some x => have := ow_lt h.own x rfl
                have e : x.block = i := by simpa [Value.ownBlock] using hi
                exact .inr (by omega)

theorem ZMk.done {w wr : World} {q gb cb bb n size : Nat} {ao : Option Addr} {cc : Nat} (h : ZMk w wr q gb cb bb n size ao cc n) (hn : 1 ≤ n) :
    ∃ W, (zT q (PM.new n size)).at_ wr W ∧ Still w wr ∧ ∀ k, W k → w.heap.size ≤ k := by
  obtain ⟨l1, l2, l3⟩ := ow_le h.own
  obtain ⟨x, rfl⟩ : ∃ x, ao = some x := by
    cases ao with
    | none => have := (l3 rfl).1; omega
    | some x => exact ⟨x, rfl⟩
  obtain ⟨f1, f2, f3, f4⟩ := h.far x rfl
  have hlt := ow_lt h.own x rfl
  have hlo := h.lo
  have b1 := h.hd.lt
  have b2 := h.gg.lt
  have b3 := h.cc_.lt
  have b4 := h.bb_.lt
  refine ⟨fun i => i = q ∨ i = gb ∨ i = cb ∨ i = bb ∨ i = x.block, ⟨⟨gb, cb, bb, x, cc⟩, ?_⟩, h.st, fun i hi => by omega⟩
  refine ⟨fun i hi => by omega, fun i hi => ?_, h.ne, ?_, ?_, ?_, ⟨List.replicate n (.slice none 0 0), h.bb_, by simp [PM.new], fun k s hs => ?_⟩, ?_, ?_, ⟨.inr (.inr (.inr (.inr rfl))), fun hf => ?_⟩⟩
  · unfold ZLay.fix at hi; dsimp only at hi; omega
  · have := h.hd; simpa [PM.new] using this
  · have := h.gg; simpa [PM.new] using this
  · have := h.cc_; simpa [PM.new] using this
  · simp only [PM.new, List.getElem?_replicate] at hs
    split at hs
    · rename_i hk
      cases hs
      exact ⟨none, 0, by simp [hk], BytesAt.nil _ _, Nat.le_refl _, Nat.zero_le _, fun _ => rfl, fun x hx => by cases hx⟩
    · cases hs
  · exact NumsAt.of_own h.own (by simp [nums, PM.new])
  · simp only [PM.new, List.length_range]; exact ⟨l1, l2⟩
  · unfold ZLay.fix at hf; dsimp only at hf; omega

def zA (n : Nat) : Obj := .cells (ints (nums (List.replicate n 0))).toArray 3
def zB (n : Nat) : Obj := .cells (List.replicate n (Value.slice none 0 0)).toArray 35
def zO (n z i : Nat) : Obj := if i = z then zB n else zA n

theorem zinit (w : World) (n size : Nat) (x y z : Nat) (hx : x < 3) (hy : y < 3) (hz : z < 3) (hxy : x ≠ y) (hxz : x ≠ z) (hyz : y ≠ z) {S : Nat} (hS : S = w.heap.size) :
    ∃ q gb cb bb, Value.pointer (some ⟨S + 3, 0, none⟩) = .pointer (some ⟨q, 0, none⟩) ∧
      ZMk w ((((w.alloc (zO n z 0)).alloc (zO n z 1)).alloc (zO n z 2)).alloc (.cells #[.slice (some ⟨S + x, 0, none⟩) n n, .slice (some ⟨S + y, 0, none⟩) n n, .slice (some ⟨S + z, 0, none⟩) n n, .slice none 0 0, .int .i64 (size : Int)] 115)).drew q gb cb bb n size none 0 0 := by
  subst hS
  have key : ∀ t, t < 3 → ∀ o : Obj, ((((w.alloc (zO n z 0)).alloc (zO n z 1)).alloc (zO n z 2)).alloc o).heap[w.heap.size + t]? = some (zO n z t) := by
    intro t ht o
    obtain rfl | rfl | rfl : t = 0 ∨ t = 1 ∨ t = 2 := by omega
    · rw [Below.heap_alloc _ _ _ (by simp; omega), Below.heap_alloc _ _ _ (by simp; omega), Below.heap_alloc _ _ _ (by simp)]
      exact heap_alloc_new w _
    · rw [Below.heap_alloc _ _ _ (by simp), Below.heap_alloc _ _ _ (by simp)]
      have := heap_alloc_new (w.alloc (zO n z 0)) (zO n z 1)
      rwa [World.size_alloc] at this
    · rw [Below.heap_alloc _ _ _ (by simp)]
      have := heap_alloc_new ((w.alloc (zO n z 0)).alloc (zO n z 1)) (zO n z 2)
      rwa [World.size_alloc, World.size_alloc] at this
  refine ⟨w.heap.size + 3, w.heap.size + x, w.heap.size + y, w.heap.size + z, rfl, ?_, ?_, ?_, ?_, ⟨rfl, .inl ⟨rfl, rfl⟩⟩, by omega, by omega, fun a ha => (by cases ha), ((((Turned.refl _ _).alloc _).alloc _).alloc _).alloc _ |>.drew⟩
  · exact (Blk.newAt _ _ _ (by simp) rfl).drew
  · have := key x hx (.cells #[.slice (some ⟨w.heap.size + x, 0, none⟩) n n, .slice (some ⟨w.heap.size + y, 0, none⟩) n n, .slice (some ⟨w.heap.size + z, 0, none⟩) n n, .slice none 0 0, .int .i64 (size : Int)] 115)
    unfold zO at this
    rw [if_neg hxz] at this
    exact this
  · have := key y hy (.cells #[.slice (some ⟨w.heap.size + x, 0, none⟩) n n, .slice (some ⟨w.heap.size + y, 0, none⟩) n n, .slice (some ⟨w.heap.size + z, 0, none⟩) n n, .slice none 0 0, .int .i64 (size : Int)] 115)
    unfold zO at this
    rw [if_neg hyz] at this
    exact this
  · have := key z hz (.cells #[.slice (some ⟨w.heap.size + x, 0, none⟩) n n, .slice (some ⟨w.heap.size + y, 0, none⟩) n n, .slice (some ⟨w.heap.size + z, 0, none⟩) n n, .slice none 0 0, .int .i64 (size : Int)] 115)
    unfold zO at this
    rw [if_pos rfl] at this
    exact this

theorem zmake_arg (n s : Int) (w : World) (h : ¬ (1 ≤ n ∧ n ≤ 128 ∧ 1 ≤ s ∧ s ≤ 256)) :
    Calls Tryz.prog 37 #[.int .i64 n, .int .i64 s] w fun e w' => e = .returned (.tuple #[.pointer none, .int .i64 2]) ∧ w = w' := by
  go_enter Tryz.func37, Tryz.ntmps37
  go_wp2
  all_goals first | (exfalso; omega) | (exfalso; rename_i q; simp at q; omega) | (go_ret2; exact ⟨rfl, rfl⟩)

/-- A new pool. -/
def ZNew (w : World) (n size : Nat) (e : Ending) (w' : World) : Prop :=
  ∃ q, e = .returned (.tuple #[.pointer (some ⟨q, 0, none⟩), .int .i64 0]) ∧ ∃ W, (zT q (PM.new n size)).at_ w' W ∧ Still w w' ∧ ∀ k, W k → w.heap.size ≤ k

theorem zmake_ok (n size : Nat) (w : World) (h1 : 1 ≤ n) (h2 : n ≤ 128) (h3 : 1 ≤ size) (h4 : size ≤ 256) :
    Calls Tryz.prog 37 #[.int .i64 n, .int .i64 size] w (ZNew w n size) := by
  obtain ⟨i0, hi, hz0, hz1, hz2⟩ := info_parts infoIntW
  obtain ⟨i1, ki, kz0, kz1, kz2⟩ := info_parts infoBytesS
  have hb : (i0.bytes : Int) * (n : Int) ≤ 281474976710656 := by rw [hz2]; omega
  have kb : (i1.bytes : Int) * (n : Int) ≤ 281474976710656 := by rw [kz2]; omega
  have hmk := fun W : World => run_make (P := Tryz.prog) W 23 3 i0 _ Tryz.underlying23 hi hz0 .i64 .i64 (n : Int) (n : Int) (Int.natCast_nonneg n) (Int.le_refl _) hb (by omega)
  have kmk := fun W : World => run_make (P := Tryz.prog) W 65 35 i1 _ Tryz.underlying65 ki kz0 .i64 .i64 (n : Int) (n : Int) (Int.natCast_nonneg n) (Int.le_refl _) kb (by omega)
  simp only [hz1, Int.toNat_natCast, Nat.mul_one, show Value.cells (.int .i64 0) = #[.int .i64 0] from rfl, made_ints] at hmk
  simp only [kz1, Int.toNat_natCast, Nat.mul_one, show Value.cells (.slice none 0 0) = #[.slice none 0 0] from rfl, made_slices] at kmk
  clear ki kz0 kz1 kz2 hb kb
  go_enter Tryz.func37, Tryz.ntmps37
  go_upto_region 3 with fail
  go_cut [6] (fun s6 wx => ∃ q gb cb bb, s6 = .pointer (some ⟨q, 0, none⟩) ∧ ZMk w wx q gb cb bb n size none 0 0)
  case first =>
    clear hi hz0 hz1 hz2
    go_region
    all_goals (go_wp2_with fail; go_meet)
    all_goals first
      | exact zinit w n size 0 1 2 (by omega) (by omega) (by omega) (by omega) (by omega) (by omega) rfl
      | exact zinit w n size 0 2 1 (by omega) (by omega) (by omega) (by omega) (by omega) (by omega) rfl
      | exact zinit w n size 1 0 2 (by omega) (by omega) (by omega) (by omega) (by omega) (by omega) rfl
      | exact zinit w n size 1 2 0 (by omega) (by omega) (by omega) (by omega) (by omega) (by omega) rfl
      | exact zinit w n size 2 0 1 (by omega) (by omega) (by omega) (by omega) (by omega) (by omega) rfl
      | exact zinit w n size 2 1 0 (by omega) (by omega) (by omega) (by omega) (by omega) (by omega) rfl
  case rest =>
    obtain ⟨q, gb, cb, bb, rfl, hM0⟩ := hcut
    have HM0 := Lib.hid hM0
    clear hmk kmk hM0
    go_wp2
    go_loopw [7] (fun i wr => ∃ (k : Nat) (ao : Option Addr) (cc : Nat), k ≤ n ∧ i = .int .i64 k ∧ ZMk w wr q gb cb bb n size ao cc k) (fun i _ => n - (intOf i).toNat)
    case atStart => exact ⟨0, none, 0, Nat.zero_le _, rfl, HM0.out⟩
    case round =>
      clear HM0
      obtain ⟨k, ao, cc, hk, rfl, hM⟩ := hrel
      have HM := Lib.hid hM
      by_cases hlt : k < n
      · have c3 : wr.cell? ⟨q, 3, none⟩ = some (.slice ao k cc) := hM.hd.cell rfl
        have f3 := hM.hd.free 3
        have hlo := hM.lo
        have hql : q < wr.heap.size := hM.hd.lt
        clear hM
        go_wp2_with (at_builtin; refine wpList_append_own_at _ rfl (.tmp 40) (.tmp 42) 23 rfl w.heap.size 3 i0 (.int .i64 0) 1 8 Tryz.underlying23 hi hz0 hz1 hz2 rfl (by decide) (.slice ao k cc) k (ints (nums (List.range k))) rfl (ow_still HM.out.own ((Turned.refl _ _).alloc _)) ⟨wr.heap.size, 0, none⟩ 1 1 [.int .i64 (k : Int)] rfl rfl (ow_cells wr _ _) (ow_ints rfl) (by unfold maxLen; omega) (by omega) (by simp; omega) ?_; intro v6 w6 hown6 hg6 _ hat6; obtain ⟨a6, c6, rfl⟩ := ow_slice hown6; have HS := Lib.hid (HM.out.step (by simpa [List.range_succ, nums, ints] using hown6) hg6 hat6); have b6 := HM.out.grown hg6; have e3 : w6.cell? ⟨q, 3, none⟩ = some (.slice ao k cc) := b6.cell rfl; have f6 := b6.free 3; clear hown6 hg6 hat6)
        go_roundw
        case rel => exact ⟨k + 1, a6, c6, by omega, by go_num, HS.out⟩
        case measure => simp [intOf]; omega
      · obtain rfl : k = n := by omega
        clear hM
        go_wp2
        go_ret2
        exact ⟨q, rfl, HM.out.done h1⟩
end Go.Proofs.YtmmkcfiecgpkpaaGreat
