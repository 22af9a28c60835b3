/- Texts that lie next to one another, laid into one: each says what it holds. No condition but what each states. -/
import Derived.Test.YtmmkcfiecgpkpaaGreatBdRead
import Derived.Test.YtmmkcfiecgpkpaaGreatBdHash
import Derived.Test.YtmmkcfiecgpkpaaGreatBdThing
import Derived.Test.YtmmkcfiecgpkpaaGreatBxSlW
import Derived.Test.YtmmkcfiecgpkpaaGreatBdRingZ
import Derived.OwnWalk
import Derived.Maps.AppendAt
import Derived.Laws.MakeOwn
import Derived.Deep.RegionHeld3
import Derived.Deep.DeepCutAuto
import Derived.BigQuiet

/- Rows of slices in memory; the plain routes: what layer 11 says of keys and their parts. No condition. -/
namespace Go.Proofs.YtmmkcfiecgpkpaaGreat
open Go.RowKit
set_option linter.unusedVariables false
set_option linter.unusedSimpArgs false
set_option maxRecDepth 100000

theorem cellsBytes11 : Tryz.prog.cellsOf 35 = 1 := by kernel_rfl
theorem rdKeys : Rd Tryz.prog 65 encSl (SlOk encSl (SlOk encB okB 1) 1) := rd_slice Tryz.underlying65 cellsBytes11 (by omega) (fun _ => rfl) rdBytes

/-- Keys that can be read. -/
structure KysAt (w : World) (ao : Option Addr) (ks : List (Sl UInt8)) : Prop where
  row : RowAt encSl 1 w ao ks
  each : ∀ k ∈ ks, SlOk encB okB 1 w k
theorem okB_stays : Stays okB := fun _ _ _ _ h => h
theorem KysAt.still {w w' : World} {ao : Option Addr} {ks : List (Sl UInt8)} (h : KysAt w ao ks) (ht : Still w w') : KysAt w' ao ks :=
  ⟨h.row.stays ht, fun k hk => SlOk.stays okB_stays w w' k ht (h.each k hk)⟩
theorem KysAt.get {w : World} {ao : Option Addr} {ks : List (Sl UInt8)} (h : KysAt w ao ks) {i : Nat} {k : Sl UInt8} (hk : ks[i]? = some k) :
    ∃ b o, ao = some ⟨b, o, none⟩ ∧ w.cell? ⟨b, o + i, none⟩ = some (.slice k.a k.len k.cap) ∧ BytesAt w k.a k.xs ∧ SlW k.a k.len k.cap ∧ k.len = k.xs.length := by
  obtain ⟨b, o, e, hc⟩ := h.row i k hk
  have ho := h.each k (List.mem_of_getElem? hk)
  exact ⟨b, o, e, by simpa using hc 0 _ rfl, BytesAt.of_row ho.row, ⟨ho.le, ho.max, ho.none⟩, ho.len.symm⟩
abbrev kxs (ks : List (Sl UInt8)) : List (List UInt8) := ks.map (·.xs)

/-- Rows of numbers that can be read. -/
structure RwsAt (w : World) (ao : Option Addr) (rs : List (Sl Int)) : Prop where
  row : RowAt encSl 1 w ao rs
  each : ∀ r ∈ rs, NumsAt w r.a r.xs ∧ SlW r.a r.len r.cap ∧ r.len = r.xs.length
theorem RwsAt.still {w w' : World} {ao : Option Addr} {rs : List (Sl Int)} (h : RwsAt w ao rs) (ht : Still w w') : RwsAt w' ao rs :=
  ⟨h.row.stays ht, fun r hr => by obtain ⟨a, b, c⟩ := h.each r hr; exact ⟨a.turned ht (fun _ _ hs => hs), b, c⟩⟩
theorem RwsAt.get {w : World} {ao : Option Addr} {rs : List (Sl Int)} (h : RwsAt w ao rs) {i : Nat} {r : Sl Int} (hr : rs[i]? = some r) :
    ∃ b o, ao = some ⟨b, o, none⟩ ∧ w.cell? ⟨b, o + i, none⟩ = some (.slice r.a r.len r.cap) ∧ NumsAt w r.a r.xs ∧ SlW r.a r.len r.cap ∧ r.len = r.xs.length := by
  obtain ⟨b, o, e, hc⟩ := h.row i r hr
  obtain ⟨h1, h2, h3⟩ := h.each r (List.mem_of_getElem? hr)
  exact ⟨b, o, e, by simpa using hc 0 _ rfl, h1, h2, h3⟩

/-! The plain routes. -/
def rtE (n : Int) (l : List UInt8) : Int := if n < 1 ∨ 8 < n then 2 else if 64 < l.length then 3 else 0
def rtP (n : Int) (l : List UInt8) : Int := if rtE n l = 0 then partOf n l else 0
def smE (n : Int) (a b : List UInt8) : Int := if rtE n a ≠ 0 then rtE n a else rtE n b
def smB (n : Int) (a b : List UInt8) : Bool := decide (smE n a b = 0 ∧ partOf n a = partOf n b)
def stE (n : Int) (K : List (List UInt8)) : Int := if n < 1 ∨ 8 < n then 2 else if 256 < K.length ∨ ∃ k ∈ K, 64 < k.length then 3 else 0
def pt (n : Nat) (l : List UInt8) : Nat := sum64 l % n
/-- The places of those that go to part p, from place i on. -/
def plG (n p : Nat) : Nat → List (List UInt8) → List Int
  | _, [] => []
  | i, k :: K => (if pt n k = p then [(i : Int)] else []) ++ plG n p (i + 1) K
def srL (n : Nat) (K : List (List UInt8)) : List (List Int) := (List.range n).map fun p => plG n p 0 K
def sortL (n : Int) (K : List (List UInt8)) : List (List Int) := if stE n K = 0 then srL n.toNat K else []
/-- The least length, and the greatest one. -/
def loL (L : List (List Int)) : Nat := L.foldl (fun m r => min m r.length) ((L[0]?.getD []).length)
def hiL (L : List (List Int)) : Nat := L.foldl (fun m r => max m r.length) ((L[0]?.getD []).length)
def spN (n : Int) (K : List (List UInt8)) : Int := if stE n K = 0 then ((hiL (srL n.toNat K) : Nat) : Int) - (loL (srL n.toNat K) : Nat) else 0

theorem rtE_or (n : Int) (l : List UInt8) : rtE n l = 0 ∨ rtE n l = 2 ∨ rtE n l = 3 := by unfold rtE; split <;> (try split) <;> simp
theorem stE_or (n : Int) (K : List (List UInt8)) : stE n K = 0 ∨ stE n K = 2 ∨ stE n K = 3 := by unfold stE; split <;> (try split) <;> simp
theorem rtE_zero {n : Int} {l : List UInt8} : rtE n l = 0 ↔ 1 ≤ n ∧ n ≤ 8 ∧ l.length ≤ 64 := by
  unfold rtE
  split
  · constructor
    · intro h; cases h
    · rintro ⟨h1, h2, _⟩; omega
  · split
    · constructor
      · intro h; cases h
      · rintro ⟨_, _, h⟩; omega
    · exact ⟨fun _ => by omega, fun _ => rfl⟩
theorem stE_zero {n : Int} {K : List (List UInt8)} : stE n K = 0 ↔ 1 ≤ n ∧ n ≤ 8 ∧ K.length ≤ 256 ∧ ∀ k ∈ K, k.length ≤ 64 := by
  unfold stE
  split
  · constructor
    · intro h; cases h
    · rintro ⟨h1, h2, _⟩; omega
  · split
    · rename_i h
      constructor
      · intro h; cases h
      · rintro ⟨_, _, h1, h2⟩
        rcases h with h | ⟨k, hk, h⟩
        · omega
        · have := h2 k hk; omega
    · rename_i h1 h
      refine ⟨fun _ => ⟨by omega, by omega, ?_, fun k hk => ?_⟩, fun _ => rfl⟩
      · exact Nat.le_of_not_lt (fun h' => h (.inl h'))
      · exact Nat.le_of_not_lt (fun h' => h (.inr ⟨k, hk, h'⟩))
theorem plG_snoc (n p : Nat) (k : List UInt8) : ∀ (K : List (List UInt8)) (i : Nat), plG n p i (K ++ [k]) = plG n p i K ++ if pt n k = p then [((i + K.length : Nat) : Int)] else []
  | [], i => by simp [plG]
  | a :: K, i => by
    rw [List.cons_append, plG, plG_snoc n p k K (i + 1), plG, List.append_assoc]
    simp only [List.length_cons]
    rw [show i + 1 + K.length = i + (K.length + 1) by omega]
theorem plG_len (n p i : Nat) (K : List (List UInt8)) : (plG n p i K).length ≤ K.length := by
  induction K generalizing i with
  | nil => simp [plG]
  | cons a K ih =>
    have := ih (i + 1)
    rw [plG, List.length_append, List.length_cons]
    split
    · simp; omega
    · simp; omega
theorem srL_length (n : Nat) (K : List (List UInt8)) : (srL n K).length = n := by simp [srL]
theorem srL_get {n p : Nat} {K : List (List UInt8)} (h : p < n) : (srL n K)[p]? = some (plG n p 0 K) := by
  unfold srL
  rw [List.getElem?_map, List.getElem?_range h]; rfl
theorem srL_step {n : Nat} {K : List (List UInt8)} {i : Nat} {k : List UInt8} (hk : K[i]? = some k) (hn : 0 < n) : srL n (K.take (i + 1)) = (srL n (K.take i)).set (pt n k) (plG n (pt n k) 0 (K.take i) ++ [(i : Int)]) := by
  have hi := get_lt hk
  have hp : pt n k < n := Nat.mod_lt _ hn
  have hl : (K.take i).length = i := by rw [List.length_take]; omega
  apply List.ext_getElem?
  intro p
  rw [List.getElem?_set]
  by_cases h : pt n k = p
  · subst h
    rw [if_pos rfl, if_pos (by rw [srL_length]; exact hp), srL_get hp, List.take_add_one, hk]
    show some (plG n _ 0 (K.take i ++ [k])) = _
    rw [plG_snoc, if_pos rfl, hl, Nat.zero_add]
  · rw [if_neg h]
    by_cases hpn : p < n
    · rw [srL_get hpn, srL_get hpn, List.take_add_one, hk]
      show some (plG n _ 0 (K.take i ++ [k])) = _
      rw [plG_snoc, if_neg h, List.append_nil]
    · rw [List.getElem?_eq_none (by rw [srL_length]; omega), List.getElem?_eq_none (by rw [srL_length]; omega)]
theorem srL_nil (n : Nat) : srL n [] = List.replicate n [] := by
  apply List.ext_getElem?
  intro p
  by_cases h : p < n
  · rw [srL_get h]; simp [plG, h]
  · rw [List.getElem?_eq_none (by rw [srL_length]; omega), List.getElem?_eq_none (by simp; omega)]
/-- What lies in a part's row. -/
theorem plG_mem {n p : Nat} {x : Int} : ∀ {K : List (List UInt8)} {i : Nat}, x ∈ plG n p i K ↔ ∃ j k, K[j]? = some k ∧ x = ((i + j : Nat) : Int) ∧ pt n k = p
  | [], i => by simp [plG]
  | a :: K, i => by
    rw [plG, List.mem_append, plG_mem (K := K) (i := i + 1)]
    constructor
    · rintro (h | ⟨j, k, h1, h2, h3⟩)
      · split at h
        · rename_i e
          simp at h
          exact ⟨0, a, rfl, by simpa using h, e⟩
        · cases h
      · exact ⟨j + 1, k, by simpa using h1, by rw [h2]; congr 1; omega, h3⟩
    · rintro ⟨j, k, h1, h2, h3⟩
      cases j with
      | zero =>
        simp at h1
        subst h1
        left; rw [if_pos h3, h2]; simp
      | succ j =>
        right
        exact ⟨j, k, by simpa using h1, by rw [h2]; congr 1; omega, h3⟩
theorem plG_rise (n p : Nat) : ∀ (K : List (List UInt8)) (i : Nat), (plG n p i K).Pairwise (· < ·)
  | [], i => by simp [plG]
  | a :: K, i => by
    rw [plG]
    split
    · rw [List.singleton_append, List.pairwise_cons]
      refine ⟨fun x hx => ?_, plG_rise n p K (i + 1)⟩
      obtain ⟨j, k, _, h2, _⟩ := plG_mem.1 hx
      omega
    · rw [List.nil_append]; exact plG_rise n p K (i + 1)
end Go.Proofs.YtmmkcfiecgpkpaaGreat

/- Rows of numbers of one's own, in a row of one's own. No condition. -/
namespace Go.Proofs.YtmmkcfiecgpkpaaGreat
open Go.RowKit
set_option linter.unusedVariables false
set_option linter.unusedSimpArgs false
set_option maxRecDepth 100000

def slv (r : Sl Int) : Value := .slice r.a r.len r.cap
def nilsV (n : Nat) : List Value := List.replicate n (.slice none 0 0)
/-- A block of slices, each of its own. -/
structure RsOwn (B : Nat) (w : World) (g : Nat) (rs : List (Sl Int)) : Prop where
  hd : Blk w g (rs.map slv) 23
  lo : B ≤ g
  own : ∀ (j : Nat) r, rs[j]? = some r → w.ownsRow B 3 1 (.slice r.a r.len r.cap) r.len (ints r.xs) ∧ r.len = r.xs.length ∧ ∀ x, r.a = some x → x.block ≠ g
  apart : ∀ (i j : Nat) r s, rs[i]? = some r → rs[j]? = some s → i ≠ j → ∀ x y, r.a = some x → s.a = some y → x.block ≠ y.block

theorem RsOwn.turned {S : Nat → Prop} {B : Nat} {w w' : World} {g : Nat} {rs : List (Sl Int)} (h : RsOwn B w g rs) (ht : Turned S w w') (hs : ∀ k, B ≤ k → ¬ S k) : RsOwn B w' g rs :=
  ⟨h.hd.turned ht (hs g h.lo), h.lo, fun j r hr => by
    obtain ⟨h1, h2, h3⟩ := h.own j r hr
    refine ⟨ow_turned h1 ht (fun b hb => ?_), h2, h3⟩
    cases hra : r.a with
    | none => rw [hra] at hb; cases hb
    | some x =>
      rw [hra] at hb
      have e : x.block = b := by simpa [Value.ownBlock] using hb
      have := (ow_lt h1 x hra).1
      exact hs b (by omega), h.apart⟩
theorem RsOwn.still {B : Nat} {w w' : World} {g : Nat} {rs : List (Sl Int)} (h : RsOwn B w g rs) (ht : Still w w') : RsOwn B w' g rs := h.turned ht (fun _ _ hs => hs)
theorem RsOwn.made (w : World) (n : Nat) : RsOwn w.heap.size (w.alloc (.cells (nilsV n).toArray 23)) w.heap.size (List.replicate n ⟨none, 0, 0, []⟩) := by
  refine ⟨?_, Nat.le_refl _, fun j r hr => ?_, fun i j r s hi hj _ x y hx => ?_⟩
  · have := Blk.new w (nilsV n) 23
    rw [List.map_replicate]; exact this
  · obtain ⟨_, rfl⟩ := List.mem_replicate.1 (List.mem_of_getElem? hr)
    exact ⟨World.ownsRow_nil _ _ _ _, rfl, fun x h => by cases h⟩
  · have := List.mem_of_getElem? hi
    obtain ⟨_, rfl⟩ := List.mem_replicate.1 this
    cases hx
/-- What append to one of the rows, and the store of it, leave. -/
theorem RsOwn.step {B : Nat} {w w1 : World} {g p : Nat} {rs : List (Sl Int)} {r : Sl Int} (h : RsOwn B w g rs) (hr : rs[p]? = some r) {o : Obj} {a' : Option Addr} {n' c' : Nat} {x : Int}
    (hg : (w.alloc o).grownBy w1 (slv r).ownBlock) (hown : w1.ownsRow B 3 1 (.slice a' n' c') n' (ints (r.xs ++ [x]))) (hn : n' = r.len + 1)
    (hat : (Value.slice a' n' c').ownBlock = (slv r).ownBlock ∨ (Value.slice a' n' c').ownBlock = some (w.alloc o).heap.size) :
    RsOwn B (w1.setCell ⟨g, p, none⟩ (.slice a' n' c')) g (rs.set p ⟨a', n', c', r.xs ++ [x]⟩) ∧ ∀ w0, Still w0 w → w0.heap.size ≤ B → Still w0 (w1.setCell ⟨g, p, none⟩ (.slice a' n' c')) := by
  have hp := get_lt hr
  obtain ⟨o1, o2, o3⟩ := h.own p r hr
  have hglt := h.hd.lt
  have T1 : Turned (fun k => (slv r).ownBlock = some k) w w1 := ((Turned.refl _ w).alloc o).grown hg (fun k e => .inl e)
  have T2 : Turned (· = g) w1 (w1.setCell ⟨g, p, none⟩ (.slice a' n' c')) := turned_set (Turned.refl _ _) _ _
  have hrb : ∀ k, (slv r).ownBlock = some k → ∃ y, r.a = some y ∧ y.block = k := fun k e => by
    unfold slv at e
    cases hra : r.a with
    | none => rw [hra] at e; cases e
    | some y => rw [hra] at e; exact ⟨y, rfl, by simpa [Value.ownBlock] using e⟩
  have hg1 : Blk w1 g (rs.map slv) 23 := h.hd.turned T1 (fun e => by
    obtain ⟨y, e1, e2⟩ := hrb g e
    exact o3 y e1 e2)
  have ha' : ∀ y, a' = some y → (∃ z, r.a = some z ∧ z.block = y.block) ∨ w.heap.size < y.block := fun y e => by
    subst e
    rcases hat with hat | hat
    · obtain ⟨z, e1, e2⟩ := hrb y.block (by rw [← hat]; rfl)
      exact .inl ⟨z, e1, e2⟩
    · right
      have e2 : y.block = (w.alloc o).heap.size := by simpa [Value.ownBlock] using hat
      rw [e2, World.size_alloc]; omega
  have hag : ∀ y, a' = some y → y.block ≠ g := fun y e => by
    rcases ha' y e with ⟨z, e1, e2⟩ | e2
    · rw [← e2]; exact o3 z e1
    · omega
  have hz : ∀ (j : Nat) t, (rs.set p ⟨a', n', c', r.xs ++ [x]⟩)[j]? = some t → (j = p ∧ t = ⟨a', n', c', r.xs ++ [x]⟩) ∨ (j ≠ p ∧ rs[j]? = some t) := fun j t ht => by
    rw [List.getElem?_set] at ht
    by_cases e : p = j
    · subst e
      rw [if_pos rfl, if_pos hp] at ht
      exact .inl ⟨rfl, (Option.some.inj ht).symm⟩
    · rw [if_neg e] at ht
      exact .inr ⟨fun h => e h.symm, ht⟩
  have hob : ∀ (t : Sl Int) b, (Value.slice t.a t.len t.cap).ownBlock = some b → ∃ y, t.a = some y ∧ y.block = b := fun t b e => by
    cases hta : t.a with
    | none => rw [hta] at e; cases e
    | some y => rw [hta] at e; exact ⟨y, rfl, by simpa [Value.ownBlock] using e⟩
  have hlt : ∀ (j : Nat) t, rs[j]? = some t → ∀ y, t.a = some y → y.block < w.heap.size := fun j t ht y hy => ((ow_lt (h.own j t ht).1) y hy).2
  refine ⟨⟨?_, h.lo, fun j t ht => ?_, fun i j u v hi hj hij y z hy hz' => ?_⟩, fun w0 hw0 hB => ?_⟩
  · have := hg1.set p (.slice a' n' c')
    rw [List.map_set]
    exact this
  · rcases hz j t ht with ⟨rfl, rfl⟩ | ⟨hj, ht'⟩
    · refine ⟨ow_turned hown T2 (fun b hb hb2 => ?_), by simp only [List.length_append, List.length_singleton]; omega, hag⟩
      obtain ⟨y, e1, e2⟩ := hob ⟨a', n', c', r.xs ++ [x]⟩ b hb
      exact hag y e1 (by omega)
    · obtain ⟨s1, s2, s3⟩ := h.own j t ht'
      refine ⟨ow_turned (ow_turned s1 T1 (fun b hb hb2 => ?_)) T2 (fun b hb hb2 => ?_), s2, s3⟩
      · obtain ⟨y, e1, e2⟩ := hrb b hb2
        obtain ⟨z, e3, e4⟩ := hob t b hb
        exact h.apart j p t r ht' hr hj z y e3 e1 (by omega)
      · obtain ⟨z, e3, e4⟩ := hob t b hb
        exact s3 z e3 (by omega)
  · rcases hz i u hi with ⟨rfl, rfl⟩ | ⟨hip, hi'⟩
    · rcases hz j v hj with ⟨rfl, _⟩ | ⟨hjp, hj'⟩
      · exact absurd rfl hij
      · rcases ha' y hy with ⟨z', e1, e2⟩ | e2
        · rw [← e2]; exact h.apart i j r v hr hj' hij z' z e1 hz'
        · have := hlt j v hj' z hz'; omega
    · rcases hz j v hj with ⟨rfl, rfl⟩ | ⟨hjp, hj'⟩
      · rcases ha' z hz' with ⟨z', e1, e2⟩ | e2
        · rw [← e2]; exact h.apart i j u r hi' hr hij y z' hy e1
        · have := hlt i u hi' y hy; omega
      · exact h.apart i j u v hi' hj' hij y z hy hz'
  · refine (hw0.past T1 (fun b hb => ?_)).past T2 (fun b hb => .inr (by have := h.lo; omega))
    obtain ⟨y, e1, e2⟩ := hrb b hb
    have := (ow_lt o1 y e1).1
    exact .inr (by omega)
/-- Such rows can be read. -/
theorem RsOwn.rws {B : Nat} {w : World} {g : Nat} {rs : List (Sl Int)} (h : RsOwn B w g rs) : RwsAt w (some ⟨g, 0, none⟩) rs := by
  refine ⟨fun i r hr => ⟨g, 0, rfl, fun j v hv => ?_⟩, fun r hr => ?_⟩
  · cases j with
    | zero =>
      cases hv
      rw [Nat.zero_add]
      refine h.hd.cell (o := i * 1 + 0) ?_
      rw [Nat.mul_one, Nat.add_zero, List.getElem?_map, hr]; rfl
    | succ j => cases hv
  · obtain ⟨j, hj⟩ := List.getElem?_of_mem hr
    obtain ⟨h1, h2, h3⟩ := h.own j r hj
    exact ⟨NumsAt.of_own h1 h2, SlW.of_own h1, h2⟩
theorem RsOwn.cell {B : Nat} {w : World} {g p : Nat} {rs : List (Sl Int)} {r : Sl Int} (h : RsOwn B w g rs) (hr : rs[p]? = some r) : w.cell? ⟨g, p, none⟩ = some (.slice r.a r.len r.cap) :=
  h.hd.cell (by rw [List.getElem?_map, hr]; rfl)
theorem made_nil (k : Nat) : madeCells #[Value.slice none 0 0] k = (nilsV k).toArray := by
  unfold nilsV
  apply Array.ext
  · simp [madeCells]
  · intro i h1 h2
    simp [madeCells, Nat.mod_one]
end Go.Proofs.YtmmkcfiecgpkpaaGreat

/- What the document's routes do. No condition but that there are no more keys, and none longer, than the statements make. -/
namespace Go.Proofs.YtmmkcfiecgpkpaaGreat
open Go.RowKit
set_option linter.unusedVariables false
set_option linter.unusedSimpArgs false
set_option maxRecDepth 100000

theorem zrtof_any (n : Int) (l : List UInt8) (w : World) (ao : Option Addr) (m cap : Nat) (hm : m = l.length) (hA : BytesAt w ao l) (hmax : m ≤ 1000000) :
    Calls Tryz.prog 47 #[.int .i64 n, .slice ao m cap] w fun e w' => e = .returned (.tuple #[.int .i64 (rtP n l), .int .i64 (rtE n l)]) ∧ Still w w' := by
  by_cases hn : n < 1 ∨ 8 < n
  · have e1 : rtE n l = 2 := if_pos hn
    have e2 : rtP n l = 0 := if_neg (by omega)
    rw [e1, e2]
    clear hA
    rcases hn with hn | hn
    · go_enter Tryz.func47, Tryz.ntmps47
      go_wp2_with fail
      go_ret2
      exact ⟨rfl, Turned.refl _ _⟩
    · have hn1 : ¬ n < 1 := by omega
      go_enter Tryz.func47, Tryz.ntmps47
      go_wp2_with fail
      go_ret2
      exact ⟨rfl, Turned.refl _ _⟩
  · have hn1 : ¬ n < 1 := by omega
    have hn2 : ¬ 8 < n := by omega
    by_cases h64 : 64 < m
    · have e1 : rtE n l = 3 := by unfold rtE; rw [if_neg hn, if_pos (by omega)]
      have e2 : rtP n l = 0 := if_neg (by omega)
      rw [e1, e2]
      have h64' : (64 : Int) < (m : Int) := by omega
      clear hA hm
      go_enter Tryz.func47, Tryz.ntmps47
      go_wp2_with fail
      go_ret2
      exact ⟨rfl, Turned.refl _ _⟩
    · have e1 : rtE n l = 0 := rtE_zero.2 ⟨by omega, by omega, by omega⟩
      have e2 : rtP n l = partOf n l := if_pos e1
      have h64' : ¬ (64 : Int) < (m : Int) := by omega
      have H := Lib.hid (refPart_any n w ao l cap (by omega) hA (by omega))
      rw [← hm] at H
      have HV := Lib.hid (show partV n l = .tuple #[.int .i64 (partOf n l), .int .i64 0] by simp [partV, partErr, hn1])
      rw [HV.out] at H
      rw [e1, e2]
      clear e1 e2 HV hA hm
      generalize partOf n l = q at *
      go_enter Tryz.func47, Tryz.ntmps47
      go_wp2_with (go_at_call 68; ((with_reducible refine H.out.mono ?_)); rintro e w5 ⟨rfl, k, rfl⟩)
      go_ret2
      exact ⟨rfl, (Turned.refl _ _).drewN _⟩

/-- Rows that a call hands out, beside an error. -/
def OutR (w : World) (L : List (List Int)) (er : Int) (e : Ending) (w' : World) : Prop := ∃ a n c rs, e = .returned (.tuple #[.slice a n c, .int .i64 er]) ∧ n = rs.length ∧ rs.map (·.xs) = L ∧ RwsAt w' a rs ∧ SlW a n c ∧ Still w w'

theorem infoIntsR : (Tryz.prog.info? 23).map (fun i => (i.zero, i.size, i.bytes)) = some (some (.slice none 0 0), 1, 24) := by kernel_rfl

theorem stE_take {n : Int} {K : List (List UInt8)} {i : Nat} {k : List UInt8} (hn : 1 ≤ n) (hn2 : n ≤ 8) (hk : K[i]? = some k) (h64 : 64 < k.length) : stE n K = 3 := by
  rcases stE_or n K with h | h | h
  · have := (stE_zero.1 h).2.2.2 k (List.mem_of_getElem? hk); omega
  · unfold stE at h
    rw [if_neg (by omega)] at h
    split at h <;> omega
  · exact h

end Go.Proofs.YtmmkcfiecgpkpaaGreat
