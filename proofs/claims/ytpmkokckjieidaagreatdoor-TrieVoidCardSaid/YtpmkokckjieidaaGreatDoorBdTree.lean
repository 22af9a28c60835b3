import Derived.Maps.OwnSet
import Derived.Maps.OwnIn
import Derived.Sort.KeysCollected
import Derived.Test.YtpmkokckjieidaaGreatDoorThing
import Derived.Test.YtpmkokckjieidaaGreatDoorBdRef
import Derived.Test.YtpmkokckjieidaaGreatDoorShelf
import Derived.Test.YtpmkokckjieidaaGreatDoorTextMore
import Derived.RangeFuncNested
import Derived.RangeFuncBound
import Derived.RangeFuncCalls
import Derived.RangeFuncLeaves
import Derived.Shelf.Abstract
import Derived.Deep.RegionHeld3
import Derived.Test.YtpmkokckjieidaaGreatDoorMem
import Derived.Test.YtpmkokckjieidaaGreatDoorKeysL
import Derived.Lib.RowBridge
import Derived.Test.YtpmkokckjieidaaGreatDoorTrie
import Derived.Test.YtpmkokckjieidaaGreatDoorFltIs
import Derived.Test.YtpmkokckjieidaaGreatDoorTrieApi
import Derived.Test.YtpmkokckjieidaaGreatDoorAppZero
import Derived.Test.YtpmkokckjieidaaGreatDoorHeld
import Derived.Scope
import Derived.WalkMore
import Derived.Lib.SlicesCompact

/- A map from texts to nodes in memory: what a look-up answers, what a store, a deletion leave. No condition. -/
namespace Go.Proofs.YtpmkokckjieidaaGreatDoor
open Go.RowKit Go.Sort
set_option linter.unusedVariables false
set_option linter.unusedSimpArgs false
set_option maxRecDepth 100000

/-- How a pointer to a node reads. -/
def ptrR : Value → Option (DataW Nat × List MemPlace)
  | .pointer none => some (.nil, [])
  | .pointer (some ⟨b, 0, none⟩) => some (.held b, [])
  | _ => none
def ptrV : Option Nat → Value
  | none => .pointer none
  | some b => .pointer (some ⟨b, 0, none⟩)
def ptrD : Option Nat → DataW Nat
  | none => .nil
  | some b => .held b
theorem ptrR_mk (o : Option Nat) : ptrR (ptrV o) = some (ptrD o, []) := by cases o <;> rfl
theorem ptrR_inv {v : Value} {ps : List MemPlace} {o : Option Nat} (h : ptrR v = some (ptrD o, ps)) : v = ptrV o := by
  unfold ptrR at h
  split at h
  · cases o with
    | none => rfl
    | some b => simp [ptrD] at h
  · cases o with
    | none => simp [ptrD] at h
    | some b => simp [ptrD] at h; rw [h.1]; rfl
  · cases h

theorem keysT : Maps.Keyed Tryz.prog 9 := Maps.string_keyed Tryz.underlying9
theorem key_tx (l : Txt) (h : l.length ≤ maxLen) : keyOf Tryz.prog 9 (tx l) = some (.string l) := by
  have := WideMaps.keyOf_string_mk (P := Tryz.prog) Tryz.underlying9 (s := ⟨l.toArray⟩) (by rw [tx_size]; exact h)
  simpa [tx] using this
theorem key_str {v : Value} {k : Lit} (h : keyOf Tryz.prog 9 v = some k) : ∃ l, k = .string l := by
  obtain ⟨s, hs⟩ := (WideMaps.string_law Tryz.underlying9).str h
  exact ⟨_, hs⟩

theorem nodup_sub {α : Type} [DecidableEq α] {l K : List α} (h : l.Nodup) (hs : ∀ x ∈ l, x ∈ K) : l.length ≤ K.length := h.length_le_of_subset hs

/-- Block mb is a map that leads from each text to the node that f tells. -/
def MapIs (w : World) (mb : Nat) (f : Txt → Option Nat) : Prop :=
  ∃ n D, w.ownsMap Tryz.prog 9 ptrR mb n D ∧ (∀ l, Maps.has D (.string l) = (f l).isSome ∧ D.atKey (.string l) .nil = ptrD (f l)) ∧ n = Maps.size D ∧ (strKeys D).Nodup ∧ Maps.size D = (strKeys D).length ∧ ∀ l, l ∈ strKeys D ↔ (f l).isSome = true

theorem mapIs_of {w : World} {mb n : Nat} {D : DataW Nat} {f : Txt → Option Nat} (ho : w.ownsMap Tryz.prog 9 ptrR mb n D) (hf : ∀ l, Maps.has D (.string l) = (f l).isSome ∧ D.atKey (.string l) .nil = ptrD (f l)) : MapIs w mb f := by
  have hown := ho
  obtain ⟨es, clock, hb, F, hs, hD⟩ := ho
  have hsz : es.size = Maps.size D := by rw [hD, Maps.size_eq, length_sorted]; simp
  have hK : ∀ p ∈ (es.toList.map (WideElems.rg Tryz.prog 9 ptrR)).foldr DataW.insert [], ∃ l, p.1 = .string l := fun p hp => by
    obtain ⟨v, hv⟩ := Maps.keys_perm (WideShapes.sorted_perm _).symm (Maps.fit_keys F) p hp
    exact key_str hv
  obtain ⟨es', hD', hpw⟩ := hown.tidy keysT
  have hes : es' = (es.toList.map (WideElems.rg Tryz.prog 9 ptrR)).foldr DataW.insert [] := by
    rw [hD] at hD'; exact (DataW.map.inj hD').symm
  rw [← hes] at hK
  refine ⟨Maps.size D, D, ⟨es, clock, hb, F, by omega, hD⟩, hf, rfl, ?_, by rw [hD']; simp [Maps.size_eq, strKeys], fun l => ?_⟩
  · rw [hD']
    unfold strKeys
    simp only
    rw [List.nodup_iff_pairwise_ne, List.pairwise_map]
    refine List.Pairwise.imp_of_mem (fun {a b} ha hb' h e => h ?_) hpw
    obtain ⟨la, ea⟩ := hK a ha
    obtain ⟨lb, eb⟩ := hK b hb'
    rw [ea, eb] at e ⊢
    simpa [strOf] using e
  · rw [← (hf l).1, hD', Maps.has_eq, List.any_eq_true]
    unfold strKeys
    simp only [List.mem_map]
    constructor
    · rintro ⟨p, hp, e⟩
      obtain ⟨lp, ep⟩ := hK p hp
      rw [ep] at e
      refine ⟨p, hp, ?_⟩
      have : lp = l := by simpa [strOf] using e
      rw [ep, this]
      exact WideAt.sameKey_self trivial
    · rintro ⟨p, hp, e⟩
      exact ⟨p, hp, by rw [WideAt.sameKey_eq e]; rfl⟩

theorem MapIs.lt {w : World} {mb : Nat} {f : Txt → Option Nat} (h : MapIs w mb f) : mb < w.heap.size := by obtain ⟨n, D, ho, _⟩ := h; exact ho.lt
theorem MapIs.of_eq {w w' : World} {mb : Nat} {f : Txt → Option Nat} (h : MapIs w mb f) (he : w'.heap[mb]? = w.heap[mb]?) : MapIs w' mb f := by
  obtain ⟨n, D, ⟨es, clock, hb, r⟩, h⟩ := h
  exact ⟨n, D, ⟨es, clock, he.trans hb, r⟩, h⟩
theorem MapIs.congr {w : World} {mb : Nat} {f g : Txt → Option Nat} (h : MapIs w mb f) (e : ∀ l, f l = g l) : MapIs w mb g := by
  obtain rfl : f = g := funext e
  exact h
theorem MapIs.isMap {w : World} {mb : Nat} {f : Txt → Option Nat} (h : MapIs w mb f) : ∃ es clock, w.heap[mb]? = some (.map es clock) := by obtain ⟨n, D, ⟨es, clock, hb, r⟩, h⟩ := h; exact ⟨es, clock, hb⟩
theorem MapIs.small {w : World} {mb : Nat} {f : Txt → Option Nat} (h : MapIs w mb f) {K : List Txt} (hK : ∀ l, (f l).isSome = true → l ∈ K) : ∃ n D, w.ownsMap Tryz.prog 9 ptrR mb n D ∧ n = Maps.size D ∧ n ≤ K.length ∧ (strKeys D).Nodup ∧ ∀ l, l ∈ strKeys D ↔ (f l).isSome = true := by
  obtain ⟨n, D, ho, hf, hn, hd, hl, hk⟩ := h
  exact ⟨n, D, ho, hn, by rw [hn, hl]; exact nodup_sub hd (fun x hx => hK x ((hk x).1 hx)), hd, hk⟩

theorem MapIs.made (w : World) : MapIs (w.alloc (.map #[] 0)) w.heap.size (fun _ => none) :=
  mapIs_of (World.ownsMap_made w Tryz.prog 9 ptrR) (fun l => ⟨rfl, rfl⟩)

theorem MapIs.look {w : World} {mb : Nat} {f : Txt → Option Nat} (h : MapIs w mb f) (l : Txt) (hl : l.length ≤ maxLen) :
    (Instr.lookup 70 (.map (some mb)) (tx l) false).run Tryz.prog w = .ok (ptrV (f l)) w := by
  obtain ⟨n, D, ho, hf, _⟩ := h
  obtain ⟨v, ps, hrun, hv⟩ := ho.lookup keysT Tryz.underlying70 (Tryz.zeroValue55 w) (zd := .nil) (zp := []) rfl (key_tx l hl)
  rw [(hf l).2] at hv
  rw [hrun, ptrR_inv hv]

theorem MapIs.len {w : World} {mb : Nat} {f : Txt → Option Nat} (h : MapIs w mb f) (ty : TypeId) :
    ∃ m : Nat, (Builtin.len_ #[70] ty #[.map (some mb)]).run Tryz.prog w = .ok (.int .i64 m) w ∧ (m = 0 ↔ ∀ l, f l = none) := by
  obtain ⟨n, D, ho, hf, hn, hd, hl, hk⟩ := h
  refine ⟨Maps.size D, ho.len Tryz.underlying70 ty, ?_⟩
  rw [hl]
  constructor
  · intro h0 l
    have e : strKeys D = [] := List.eq_nil_of_length_eq_zero h0
    cases hfl : f l with
    | none => rfl
    | some b => have := (hk l).2 (by rw [hfl]; rfl); rw [e] at this; simp at this
  · intro h0
    cases he : strKeys D with
    | nil => rfl
    | cons x r => have := (hk x).1 (by rw [he]; simp); rw [h0 x] at this; cases this

def updF (f : Txt → Option Nat) (l : Txt) (o : Option Nat) : Txt → Option Nat := fun x => if x = l then o else f x

theorem str_ne {a b : Txt} (h : a ≠ b) : Lit.string a ≠ Lit.string b := fun e => h (by injection e)

/-- What a store leaves. -/
theorem MapIs.put {w w' : World} {mb n : Nat} {D : DataW Nat} {f : Txt → Option Nat} (ho : w.ownsMap Tryz.prog 9 ptrR mb n D) (hf : ∀ l, Maps.has D (.string l) = (f l).isSome ∧ D.atKey (.string l) .nil = ptrD (f l))
    {l : Txt} {b m : Nat} (ho' : w'.ownsMap Tryz.prog 9 ptrR mb m (D.put (.string l) (.held b))) : MapIs w' mb (updF f l (some b)) := by
  refine mapIs_of ho' (fun x => ?_)
  unfold updF
  by_cases hx : x = l
  · subst hx
    rw [if_pos rfl]
    exact ⟨Maps.has_put_same ho.isMap (k := .string x) trivial _, Maps.atKey_put_same ho.isMap (k := .string x) trivial _ _⟩
  · rw [if_neg hx]
    exact ⟨by rw [Maps.has_put_other (str_ne hx)]; exact (hf x).1, by rw [Maps.atKey_put_other (str_ne hx)]; exact (hf x).2⟩
theorem MapIs.del {w w' : World} {mb n : Nat} {D : DataW Nat} {f : Txt → Option Nat} (hf : ∀ l, Maps.has D (.string l) = (f l).isSome ∧ D.atKey (.string l) .nil = ptrD (f l))
    {l : Txt} {m : Nat} (ho' : w'.ownsMap Tryz.prog 9 ptrR mb m (D.del (.string l))) : MapIs w' mb (updF f l none) := by
  refine mapIs_of ho' (fun x => ?_)
  unfold updF
  by_cases hx : x = l
  · subst hx
    rw [if_pos rfl]
    exact ⟨Maps.has_del_same, Maps.atKey_del_same _⟩
  · rw [if_neg hx]
    exact ⟨by rw [Maps.has_del_other (str_ne hx)]; exact (hf x).1, by rw [Maps.atKey_del_other (str_ne hx)]; exact (hf x).2⟩
end Go.Proofs.YtpmkokckjieidaaGreatDoor

/- The nodes of the program's tree in memory: one for each beginning of filters, told by its levels. No condition. -/
namespace Go.Proofs.YtpmkokckjieidaaGreatDoor
open Go.RowKit
set_option linter.unusedVariables false
set_option linter.unusedSimpArgs false
set_option maxRecDepth 100000

/-- Levels that lead to a node; a node: its blocks, its numbers; all nodes. -/
abbrev Path := List Txt
structure Nd where
  nb : Nat
  mb : Nat
  a : Option Addr
  c : Nat
  ns : List Nat
abbrev Gr := Path → Option Nd
def Nd.fp (d : Nd) (k : Nat) : Prop := k = d.nb ∨ k = d.mb ∨ ∃ x, d.a = some x ∧ k = x.block
def kidsOf (g : Gr) (p : Path) : Txt → Option Nat := fun l => (g (p ++ [l])).map Nd.nb
structure NodeAt (w : World) (g : Gr) (p : Path) (d : Nd) : Prop where
  blk : Blk w d.nb [.slice d.a d.ns.length d.c, .map (some d.mb)] 72
  row : w.ownsRow 0 3 1 (.slice d.a d.ns.length d.c) d.ns.length (ints (ni d.ns))
  map : MapIs w d.mb (kidsOf g p)
structure Wf (g : Gr) : Prop where
  nb : ∀ {p p' : Path} {d d' : Nd}, g p = some d → g p' = some d' → p ≠ p' → d.nb ≠ d'.nb
  mb : ∀ {p p' : Path} {d d' : Nd}, g p = some d → g p' = some d' → p ≠ p' → d.mb ≠ d'.mb
  row : ∀ {p p' : Path} {d d' : Nd} {x x' : Addr}, g p = some d → g p' = some d' → p ≠ p' → d.a = some x → d'.a = some x' → x.block ≠ x'.block
  root : (g []).isSome = true
  up : ∀ (p : Path) (l : Txt), (g (p ++ [l])).isSome = true → (g p).isSome = true

theorem Wf.pre {g : Gr} (h : Wf g) : ∀ (r p : Path), (g (p ++ r)).isSome = true → (g p).isSome = true
  | [], p, hr => by rwa [List.append_nil] at hr
  | x :: r, p, hr => h.up p x (h.pre r (p ++ [x]) (by rwa [List.append_assoc]))
theorem Wf.none {g : Gr} (h : Wf g) {r : Path} {k : Nat} (hn : g (r.take k) = none) : g r = none := by
  cases hg : g r with
  | none => rfl
  | some d => have := h.pre (r.drop k) (r.take k) (by rw [List.take_append_drop, hg]; rfl); rw [hn] at this; cases this

structure NodesAt (w : World) (g : Gr) (S : Nat → Prop) : Prop where
  node : ∀ {p : Path} {d : Nd}, g p = some d → NodeAt w g p d
  fp : ∀ k, S k ↔ ∃ p d, g p = some d ∧ d.fp k

theorem row_block {w : World} {B : Nat} {e : TypeId} {m n c : Nat} {x : Addr} {xs : List Value} (h : w.ownsRow B e m (.slice (some x) n c) n xs) : ∃ cur, w.heap[x.block]? = some (.cells cur e (0, 0)) := by
  rcases h.2 with ⟨e0, _⟩ | ⟨g, cap, cur, e0, _, hg, _⟩
  · cases e0
  · obtain ⟨rfl, _⟩ : x = ⟨g, 0, none⟩ ∧ c = cap := by simpa using e0
    exact ⟨cur, hg⟩

theorem NodeAt.fp_lt {w : World} {g : Gr} {p : Path} {d : Nd} (h : NodeAt w g p d) {k : Nat} (hk : d.fp k) : k < w.heap.size := by
  rcases hk with rfl | rfl | ⟨x, hx, rfl⟩
  · exact h.blk.lt
  · exact h.map.lt
  · exact (ow_lt h.row x hx).2
theorem NodeAt.turned {w w' : World} {g : Gr} {p : Path} {d : Nd} (h : NodeAt w g p d) (hk : ∀ k, d.fp k → w'.heap[k]? = w.heap[k]?) : NodeAt w' g p d := by
  refine ⟨h.blk.of_eq (hk _ (.inl rfl)), ⟨h.row.1, ?_⟩, h.map.of_eq (hk _ (.inr (.inl rfl)))⟩
  rcases h.row.2 with ⟨e1, e2⟩ | ⟨b, cap, cur, e1, h1, h2, h3⟩
  · exact .inl ⟨e1, e2⟩
  · obtain ⟨ha, _⟩ : d.a = some ⟨b, 0, none⟩ ∧ d.c = cap := by simpa using e1
    exact .inr ⟨b, cap, cur, e1, h1, (hk b (.inr (.inr ⟨_, ha, rfl⟩))).trans h2, h3⟩
/-- Blocks of different kinds are not one. -/
theorem NodeAt.nb_mb {w : World} {g g' : Gr} {p p' : Path} {d d' : Nd} (h : NodeAt w g p d) (h' : NodeAt w g' p' d') : d.nb ≠ d'.mb := fun e => by
  obtain ⟨es, cl, hm⟩ := h'.map.isMap
  have := h.blk
  unfold Blk at this
  rw [e, hm] at this; cases this
theorem NodeAt.nb_row {w : World} {g g' : Gr} {p p' : Path} {d d' : Nd} {x : Addr} (h : NodeAt w g p d) (h' : NodeAt w g' p' d') (hx : d'.a = some x) : d.nb ≠ x.block := fun e => by
  have hr := h'.row
  rw [hx] at hr
  obtain ⟨cur, hc⟩ := row_block hr
  have := h.blk
  unfold Blk at this
  rw [e, hc] at this; cases this
theorem NodeAt.mb_row {w : World} {g g' : Gr} {p p' : Path} {d d' : Nd} {x : Addr} (h : NodeAt w g p d) (h' : NodeAt w g' p' d') (hx : d'.a = some x) : d.mb ≠ x.block := fun e => by
  have hr := h'.row
  rw [hx] at hr
  obtain ⟨cur, hc⟩ := row_block hr
  obtain ⟨es, cl, hm⟩ := h.map.isMap
  rw [e, hc] at hm; cases hm
/-- Two nodes' blocks lie apart. -/
theorem NodesAt.apart {w : World} {g : Gr} {S : Nat → Prop} (h : NodesAt w g S) (hW : Wf g) {p p' : Path} {d d' : Nd} (hp : g p = some d) (hp' : g p' = some d') (hne : p ≠ p') {k : Nat} (hk : d.fp k) : ¬ d'.fp k := by
  have h1 := h.node hp
  have h2 := h.node hp'
  rintro (e | e | ⟨x', hx', e⟩)
  · rcases hk with rfl | rfl | ⟨x, hx, rfl⟩
    · exact hW.nb hp hp' hne e
    · exact h2.nb_mb h1 e.symm
    · exact h2.nb_row h1 hx e.symm
  · rcases hk with rfl | rfl | ⟨x, hx, rfl⟩
    · exact h1.nb_mb h2 e
    · exact hW.mb hp hp' hne e
    · exact h2.mb_row h1 hx e.symm
  · rcases hk with rfl | rfl | ⟨x, hx, rfl⟩
    · exact h1.nb_row h2 hx' e
    · exact h1.mb_row h2 hx' e
    · exact hW.row hp hp' hne hx hx' e

theorem NodesAt.turned {w w' : World} {g : Gr} {S : Nat → Prop} (h : NodesAt w g S) (hk : ∀ k, S k → w'.heap[k]? = w.heap[k]?) : NodesAt w' g S :=
  ⟨fun hp => (h.node hp).turned (fun k hd => hk k ((h.fp k).2 ⟨_, _, hp, hd⟩)), h.fp⟩
theorem NodesAt.lt {w : World} {g : Gr} {S : Nat → Prop} (h : NodesAt w g S) {k : Nat} (hk : S k) : k < w.heap.size := by
  obtain ⟨p, d, hp, hd⟩ := (h.fp k).1 hk
  exact (h.node hp).fp_lt hd
theorem NodesAt.still {w w' : World} {g : Gr} {S : Nat → Prop} (h : NodesAt w g S) (ht : Still w w') : NodesAt w' g S := h.turned (fun k hk => ht.block k (h.lt hk) (fun h => h))

def nodesT (g : Gr) : Thing where
  at_ w S := NodesAt w g S
  lt := fun h k hk => h.lt hk
  keep := fun h ht hs => h.turned (fun k hk => ht.block k (h.lt hk) (hs k hk))

def updG (g : Gr) (r : Path) (o : Option Nd) : Gr := fun p => if p = r then o else g p
theorem updG_same (g : Gr) (r : Path) (o : Option Nd) : updG g r o r = o := if_pos rfl
theorem updG_other (g : Gr) {r p : Path} (o : Option Nd) (h : p ≠ r) : updG g r o p = g p := if_neg h

theorem ni_get {l : List Nat} {i x : Nat} (h : l[i]? = some x) : (ni l)[i]? = some (x : Int) := by simp [ni, h]

/-- The node's cells, and where its map leads. -/
theorem NodesAt.cells {w : World} {g : Gr} {S : Nat → Prop} (h : NodesAt w g S) {p : Path} {d : Nd} (hp : g p = some d) :
    w.cell? ⟨d.nb, 0, none⟩ = some (.slice d.a d.ns.length d.c) ∧ w.cell? ⟨d.nb, 1, none⟩ = some (.map (some d.mb)) ∧ ∀ l : Txt, l.length ≤ maxLen → (Instr.lookup 70 (.map (some d.mb)) (tx l) false).run Tryz.prog w = .ok (ptrV ((g (p ++ [l])).map Nd.nb)) w :=
  ⟨(h.node hp).blk.cell rfl, (h.node hp).blk.cell rfl, fun l hl => (h.node hp).map.look l hl⟩
end Go.Proofs.YtpmkokckjieidaaGreatDoor

/- Where levels lead in the program's tree; whether a number stands there, whether a node is bare. No condition but that the tree is one. -/
namespace Go.Proofs.YtpmkokckjieidaaGreatDoor
open Go.RowKit
set_option linter.unusedVariables false
set_option linter.unusedSimpArgs false
set_option maxRecDepth 100000

set_option maxHeartbeats 1000000 in
theorem yat_any {w : World} {S : Nat → Prop} {g : Gr} (H : NodesAt w g S) (hW : Wf g) {q : Nat} {d0 : Nd} (hq : w.cell? ⟨q, 0, none⟩ = some (.pointer (some ⟨d0.nb, 0, none⟩))) (h0 : g [] = some d0) (ao : Option Addr) (n cap : Nat) (ls : Path) (hn : n = ls.length) (hA : TextsAt w ao ls) (hmax : n ≤ 1000) (hl : ∀ l ∈ ls, l.length ≤ 1000000) :
    Calls Tryz.prog 35 #[.pointer (some ⟨q, 0, none⟩), .slice ao n cap] w fun e w' => e = .returned (ptrV ((g ls).map Nd.nb)) ∧ w' = w := by
  have HN := Lib.hid hn
  have HA := Lib.hid hA
  have HH := Lib.hid H
  have HW := Lib.hid hW
  have H0 := Lib.hid h0
  have HL := Lib.hid hl
  have HT := Lib.hid (show ls.take n = ls from List.take_of_length_le (by omega))
  clear hn hA H hW h0 hl
  go_enter Tryz.func35, Tryz.ntmps35
  go_wp2
  go_loopw [5, 14] (fun p i wr => ∃ (k : Nat) (d : Nd), k ≤ n ∧ i = .int .i64 k ∧ p = .pointer (some ⟨d.nb, 0, none⟩) ∧ g (ls.take k) = some d ∧ wr = w) (fun _ i _ => n - (intOf i).toNat)
  case atStart => exact ⟨0, d0, Nat.zero_le _, rfl, rfl, by simpa using H0.out, rfl⟩
  case round =>
    obtain ⟨k, d, hk, rfl, rfl, hg, rfl⟩ := hrel
    have HG := Lib.hid hg
    obtain ⟨c0, c1, hlook⟩ := HH.out.cells hg
    by_cases hlt : k < n
    · obtain ⟨x, hx⟩ := get_some (l := ls) (i := k) (by rw [← HN.out]; exact hlt)
      obtain ⟨b, o, rfl, hc⟩ := HA.out k x hx
      have hlk := hlook x (by have := HL.out x (List.mem_of_getElem? hx); unfold maxLen; omega)
      have HS := Lib.hid (show ls.take (k + 1) = ls.take k ++ [x] by rw [List.take_add_one, hx]; rfl)
      rw [← HS.out] at hlk
      clear hg hlook hx
      unfold tx at hc hlk
      cases hgk : g (ls.take (k + 1)) with
      | none =>
        have HE := Lib.hid (HW.out.none hgk)
        rw [hgk] at hlk
        simp only [Option.map_none, ptrV] at hlk
        clear hgk
        go_wp2_with fail
        go_ret
        exact ⟨by rw [HE.out]; rfl, rfl⟩
      | some d' =>
        rw [hgk] at hlk
        simp only [Option.map_some, ptrV] at hlk
        have HG' := Lib.hid hgk
        clear hgk
        go_wp2_with fail
        go_roundw
        case rel => exact ⟨k + 1, d', by omega, by go_num, rfl, HG'.out, by first | rfl | trivial⟩
        case measure => simp [intOf]; omega
    · obtain rfl : k = n := by omega
      clear hg hlook
      go_wp2_with fail
      go_ret
      refine ⟨?_, rfl⟩
      have := HG.out
      rw [HT.out] at this
      rw [this]; rfl

theorem search_zero (a : Option Addr) (c : Nat) (x : Int) (w : World) : Calls Tryz.prog 58 #[.slice a 0 c, .int .i64 x] w fun e w' => e = .returned (.tuple #[.int .i64 0, .bool false]) ∧ ∃ q, w' = w.drewN q :=
  (Tryz.slices_BinarySearch_int_empty a c x w).mono fun e w' ⟨h1, h2⟩ => ⟨h1, 0, h2⟩

/-- Where a number stands among rising ones. -/
def plN (ns : List Nat) (x : Int) : Nat := (ni ns).countP (· < x)
theorem search_any {w : World} {B : Nat} {a : Option Addr} {n c : Nat} (ns : List Nat) (hn : n = ns.length) (hr : w.ownsRow B 3 1 (.slice a n c) n (ints (ni ns))) (hs : (ni ns).Pairwise (· ≤ ·)) (hsm : n ≤ 1000000) (x : Int) :
    Calls Tryz.prog 58 #[.slice a n c, .int .i64 x] w fun e w' => e = .returned (.tuple #[.int .i64 (plN ns x : Nat), .bool ((ni ns).contains x)]) ∧ Still w w' := by
  have hlen := ni_length ns
  cases h0 : n with
  | zero =>
    have e : ns = [] := List.eq_nil_of_length_eq_zero (by omega)
    subst e
    exact (search_zero a c x w).mono fun e w' ⟨h1, q, h2⟩ => ⟨h1, by rw [h2]; exact (Turned.refl _ _).drewN q⟩
  | succ m =>
    obtain ⟨b, r, rfl, _, hb⟩ := ow_blk hr (by omega)
    rw [← h0]
    have := Tryz.slices_BinarySearch_int b 0 n c (ni ns) x w (by omega) (by omega) (fun j hj => by
      have := NumsAt.of_own hr (by omega) j ((ni ns).getD j 0) (by simp [List.getD, hj])
      obtain ⟨b', o', e, hc⟩ := this
      cases e
      exact hc) (by rw [List.take_of_length_le (by omega)]; exact hs)
    rw [List.take_of_length_le (by omega)] at this
    exact this.mono fun e w' ⟨h1, q, h2⟩ => ⟨h1, by rw [h2]; exact (Turned.refl _ _).drewN q⟩

/-- A node's numbers rise, and may be. -/
def Rises (ns : List Nat) : Prop := ns.Pairwise (· < ·) ∧ ∀ n ∈ ns, n < 256
theorem Rises.len {ns : List Nat} (h : Rises ns) : ns.length ≤ 256 := by
  have hd : ns.Nodup := h.1.imp (fun {a b} h => Nat.ne_of_lt h)
  have := hd.length_le_of_subset (l₂ := List.range 256) (fun x hx => by simpa using h.2 x hx)
  simpa using this
theorem Rises.ni {ns : List Nat} (h : Rises ns) : (ni ns).Pairwise (· ≤ ·) := by
  unfold Go.Proofs.YtpmkokckjieidaaGreatDoor.ni
  rw [List.pairwise_map]
  exact h.1.imp (fun {a b} h => by omega)
theorem ni_has (ns : List Nat) (x : Int) : (ni ns).contains x = decide (0 ≤ x ∧ x.toNat ∈ ns) := by
  rw [List.contains_eq_mem]
  refine decide_eq_decide.2 ?_
  unfold ni
  rw [List.mem_map]
  constructor
  · rintro ⟨n, hn, rfl⟩; exact ⟨by omega, by simpa using hn⟩
  · rintro ⟨h0, h1⟩; exact ⟨x.toNat, h1, by omega⟩

/-- Does the number stand there? -/
def hasN (g : Gr) (p : Path) (x : Int) : Bool := match g p with
  | none => false
  | some d => (ni d.ns).contains x

set_option maxHeartbeats 1000000 in
theorem yhas_any {w : World} {S : Nat → Prop} {g : Gr} (H : NodesAt w g S) (hR : ∀ p d, g p = some d → Rises d.ns) (p : Path) (x : Int) :
    Calls Tryz.prog 36 #[ptrV ((g p).map Nd.nb), .int .i64 x] w fun e w' => e = .returned (.bool (hasN g p x)) ∧ Still w w' := by
  unfold hasN
  cases hp : g p with
  | none =>
    simp only [Option.map_none, ptrV]
    clear hp hR H
    go_enter Tryz.func36, Tryz.ntmps36
    go_wp2
    go_ret
    exact ⟨rfl, Turned.refl _ _⟩
  | some d =>
    obtain ⟨c0, c1, hlook⟩ := H.cells hp
    have hr := hR p d hp
    have HS := Lib.hid (search_any (c := d.c) d.ns rfl (H.node hp).row hr.ni (by have := hr.len; omega) x)
    simp only [Option.map_some, ptrV]
    clear hlook hr hp hR H
    generalize d.ns.length = m at *
    obtain ⟨da, hda⟩ : ∃ da, da = d.a := ⟨_, rfl⟩
    rw [← hda] at c0 HS
    clear hda
    generalize (ni d.ns).contains x = bb at *
    generalize plN d.ns x = pl at *
    go_enter Tryz.func36, Tryz.ntmps36
    go_wp2_with (go_at_call 58; ((with_reducible refine HS.out.mono ?_)); rintro e w1 ⟨rfl, h1⟩)
    go_ret
    exact ⟨rfl, h1⟩

def BarePost (g : Gr) (p : Path) (d : Nd) (e : Ending) : Prop := ∃ b, e = .returned (.bool b) ∧ (b = true ↔ d.ns = [] ∧ ∀ l, g (p ++ [l]) = none)
set_option maxHeartbeats 1000000 in
theorem ybare_any {w : World} {S : Nat → Prop} {g : Gr} (H : NodesAt w g S) (hR : ∀ p d, g p = some d → Rises d.ns) {p : Path} {d : Nd} (hp : g p = some d) :
    Calls Tryz.prog 62 #[.pointer (some ⟨d.nb, 0, none⟩)] w fun e w' => BarePost g p d e ∧ w' = w := by
  obtain ⟨c0, c1, hlook⟩ := H.cells hp
  have hr := (hR p d hp).len
  obtain ⟨m, hlen, hm⟩ := (H.node hp).map.len 3
  have HM := Lib.hid (show m = 0 ↔ ∀ l, g (p ++ [l]) = none by rw [hm]; unfold kidsOf; simp)
  have HZ := Lib.hid (show d.ns.length = 0 ↔ d.ns = [] from List.length_eq_zero_iff)
  clear hlook hp hR H hm
  generalize d.ns.length = k at *
  go_enter Tryz.func62, Tryz.ntmps62
  by_cases hk : k = 0
  · have hk2 : ((k : Int) == 0) = true := by simp [hk]
    by_cases h0 : m = 0
    · subst h0
      subst hk
      go_wp2
      go_ret
      exact ⟨⟨_, rfl, by have h1 := HM.out.1 (by first | rfl | trivial); have h2 := HZ.out.1 (by first | rfl | trivial); simp only [true_iff]; exact ⟨h2, h1⟩⟩, rfl⟩
    · have h1 : ((m : Int) == 0) = false := by simp [h0]
      subst hk
      go_wp2
      go_ret
      exact ⟨⟨_, rfl, by simp only [Bool.false_eq_true, false_iff]; exact fun h => h0 (HM.out.2 h.2)⟩, rfl⟩
  · have hk2 : ((k : Int) == 0) = false := by simp [hk]
    go_wp2
    go_ret
    exact ⟨⟨_, rfl, by simp only [Bool.false_eq_true, false_iff]; exact fun h => hk (HZ.out.2 h.1)⟩, rfl⟩
end Go.Proofs.YtpmkokckjieidaaGreatDoor

/- Loops over functions whose rounds all go on, told of things that lie in memory: what the iterator reads, and what the rounds change, lie apart. No condition. -/
namespace Go.Proofs.YtpmkokckjieidaaGreatDoor
open Go.RowKit Go.Shelf
set_option linter.unusedVariables false

/-- One block, whatever it is. -/
def objT (l : Nat) (o : Obj) : Thing where
  at_ w W := w.heap[l]? = some o ∧ ∀ k, W k ↔ k = l
  lt := by rintro w W ⟨h, hW⟩ k hk; rw [(hW k).1 hk]; exact (Array.getElem?_eq_some_iff.1 h).1
  keep := by
    rintro w w' W S ⟨h, hW⟩ ht hs
    exact ⟨(ht.block l (Array.getElem?_eq_some_iff.1 h).1 (hs l ((hW l).2 rfl))).trans h, hW⟩

/-- What has come of a world since: blocks of a thing, and new ones. -/
structure Since (Q : Nat → Prop) (w : World) (Q' : Nat → Prop) (w' : World) : Prop where
  turn : Turned Q w w'
  grow : ∀ i, Q' i → Q i ∨ w.heap.size ≤ i
theorem Since.refl (Q : Nat → Prop) (w : World) : Since Q w Q w := ⟨Turned.refl _ _, fun _ h => .inl h⟩
theorem Since.trans {Q1 Q2 Q3 : Nat → Prop} {a b c : World} (h : Since Q1 a Q2 b) (k : Since Q2 b Q3 c) : Since Q1 a Q3 c :=
  ⟨h.turn.past k.turn h.grow, fun i hi => by
    rcases k.grow i hi with h1 | h1
    · exact h.grow i h1
    · exact .inr (Nat.le_trans h.turn.size h1)⟩
theorem Goes.since {A : Thing} {Q : Nat → Prop} {w w' : World} (h : Goes A Q w w') : ∃ Q', A.at_ w' Q' ∧ Since Q w Q' w' := by
  obtain ⟨Q', h1, h2, h3⟩ := h; exact ⟨Q', h1, h2, h3⟩
theorem Since.goes {A : Thing} {Q Q' : Nat → Prop} {w w' : World} (h : Since Q w Q' w') (hA : A.at_ w' Q') : Goes A Q w w' := ⟨Q', hA, h.turn, h.grow⟩
/-- What lies apart stays. -/
theorem Since.stays {A : Thing} {Q Q' S : Nat → Prop} {w w' : World} (h : Since Q w Q' w') (hA : A.at_ w S) (hd : ∀ k, Q k → ¬ S k) : A.at_ w' S ∧ ∀ k, Q' k → ¬ S k :=
  ⟨A.keep hA h.turn (fun k hS hQ => hd k hQ hS), fun k hk hS => by
    rcases h.grow k hk with h1 | h1
    · exact hd k h1 hS
    · have := A.lt hA k hS; omega⟩

theorem roomAny (k : Nat) : Fence.wide.room k := fun d h => by cases h
theorem YieldAt.any {m : Nat} (m' : Nat) {P : Program} {l : Nat} {args : Array Value} {W : World} {R : Ending → World → Prop} (h : YieldAt Fence.wide m P l args W R) : YieldAt Fence.wide m' P l args W R := by
  obtain ⟨fn, tmps, assign, body, hy, hR⟩ := h
  exact ⟨fn, tmps, assign, body, hy, ⟨hR.1, fun c cs _ => hR.2 c cs (roomAny _)⟩⟩

/-- A function that a loop goes through: it hands its rounds the elements of xs, one behind the other, reads R, and changes nothing but what the rounds change. -/
def IterT {α : Type} (gf : Nat) (lb : Array Value) (encs : α → Array Value) (xs : List α) (R : Thing) : Prop :=
  ∀ (l : Nat) (J : Nat → Thing) (W : World) (Q S : Nat → Prop), R.at_ W S → (J 0).at_ W Q → (∀ k, Q k → ¬ S k) →
    (∀ k x W1 Q1, xs[k]? = some x → (J k).at_ W1 Q1 → Since Q W Q1 W1 → YieldAt Fence.wide 9 Tryz.prog l (encs x) W1 fun e W' => e = .returned (.bool true) ∧ Goes (J (k + 1)) Q1 W1 W') →
    Calls Tryz.prog gf (#[.func (.yield l) #[] #[]] ++ lb) W fun e W' => (∃ v, e = .returned v) ∧ Goes (J xs.length) Q W W'

/-- How the body of a round ends. -/
def roundT (A : Thing) (Q : Nat → Prop) (W : World) : Exit → Act → World → Prop
  | .normal, _, W' => Goes A Q W W'
  | _, _, _ => False

theorem obj_sep {A : Thing} {l : Nat} {o : Obj} {w : World} {Q : Nat → Prop} (h : A.at_ w Q) (ho : w.heap[l]? = some o) (hl : ¬ Q l) : (A.sep (objT l o)).at_ w (fun k => Q k ∨ k = l) :=
  ⟨Q, (· = l), h, ⟨ho, fun _ => Iff.rfl⟩, fun k hk e => hl (e ▸ hk), fun _ => Iff.rfl⟩
theorem putObj_since {l : Nat} (o' : Obj) {w : World} (hl : l < w.heap.size) : Turned (· = l) w (w.putObj l o') :=
  ⟨rfl, rfl, rfl, by simp, fun k _ hk => World.putObj_heap_other hk⟩

section
variable {α : Type} {g : Operand} {ps : Array Tmp} {assign body : Code} {Qx : Exit → Act → World → Prop} {a : Act} {w : World} {gf : Nat} {lb : Array Value} {encs : α → Array Value} {xs : List α} {R : Thing}

/-- One round, between two states of the record. -/
theorem roundT_yield {rec : LoopState → Option Code → Loop} {fn l : Nat} {df : Nat} {tm : Array Value} (hrec : rec = fun st pe => { state := st, pending := pe, fn, tmps := tm, params := ps, assign, body, defers := df })
    (hps : ∀ x, (encs x).size = ps.size) {A B : Thing} {x : α} {W : World} {Q : Nat → Prop} {a1 : Act}
    (hA : A.at_ W Q) (hl : W.heap[l]? = some (.loop (rec .ready none))) (hQ : ¬ Q l)
    (hassign : ∀ K : Act → World → Prop, K a1 W → assign.wpIn (Fence.wide.inRound l) 9 Tryz.prog (Exit.then K (fun _ _ _ => False)) { tmps := (ps.zip (encs x)).foldl (fun t (p, v) => t.setIfInBounds p v) tm, defers := [] } W)
    (hbody : ∀ W2, (∃ r, W2.heap[l]? = some (.loop r)) → A.at_ W2 Q → Turned (· = l) W W2 → body.wpIn (Fence.wide.inRound l) 9 Tryz.prog (roundT B Q W2) a1 W2) :
    YieldAt Fence.wide 9 Tryz.prog l (encs x) W fun e W' => e = .returned (.bool true) ∧ ∃ Q', B.at_ W' Q' ∧ W'.heap[l]? = some (.loop (rec .ready none)) ∧ ¬ Q' l ∧ Turned (fun k => Q k ∨ k = l) W W' ∧ ∀ i, Q' i → Q i ∨ W.heap.size ≤ i := by
  have hlt : l < W.heap.size := (Array.getElem?_eq_some_iff.1 hl).1
  have hy := run_yield (P := Tryz.prog) (args := encs x) hl (by rw [hrec]; exact hps x)
  rw [hrec] at hy
  refine ⟨fn, _, assign, body, hy, roundIn_of_wpIn trivial (hassign _ ?_)⟩
  refine ⟨_, run_beginRound hl (by rw [hrec]), ?_⟩
  have hl2 : (W.putObj l (.loop { rec .ready none with state := .busy })).heap[l]? = some (.loop { rec .ready none with state := .busy }) := World.putObj_heap_same hlt
  have ht2 := putObj_since (l := l) (.loop { rec .ready none with state := .busy }) hlt
  refine wpIn_mono (hbody _ ⟨_, hl2⟩ (A.keep hA ht2 (fun k hk e => hQ (e ▸ hk))) ht2) ?_
  rintro e a3 W3 hp
  cases e with
  | normal =>
    obtain ⟨Q', hB, hT, hG⟩ := hp
    have hl3 : W3.heap[l]? = some (.loop { rec .ready none with state := .busy }) := (hT.block l (by simpa using hlt) hQ).trans hl2
    have hlt3 : l < W3.heap.size := (Array.getElem?_eq_some_iff.1 hl3).1
    have hr := run_endRound (P := Tryz.prog) none hl3
    have hQ' : ¬ Q' l := fun h => by
      rcases hG l h with h1 | h1
      · exact hQ h1
      · rw [World.putObj_size] at h1; omega
    have ht4 := putObj_since (l := l) (.loop (rec .ready none)) hlt3
    rw [hrec] at hr ht4 ⊢
    refine ⟨_, _, hr, rfl, Q', B.keep hB ht4 (fun k hk e => hQ' (e ▸ hk)), World.putObj_heap_same hlt3, hQ', ?_, fun i hi => by have := hG i hi; rwa [World.putObj_size] at this⟩
    refine ((ht2.mono (fun k _ e => .inr e)).trans ((hT.mono (fun k _ h => .inl h)).trans (ht4.mono (fun k _ e => .inr e))))
  | ret => exact hp.elim
  | exit id => exact hp.elim
  | goto t => exact hp.elim
  | panic ch => exact hp.elim
  | outgrown => exact hp.elim

/-- A loop within a round of another one. -/
theorem loopT_inner {l0 : Nat} {r0 : Loop} (hl0 : w.heap[l0]? = some (.loop r0)) (hg : a.eval g = .func (.func gf) #[] lb) (eg : ∀ args w, (callFunc gf args).run Tryz.prog w = .ok (.enter gf args) w)
    (hseq : IterT gf lb encs xs R) (hps : ∀ x, (encs x).size = ps.size) (I : Nat → Thing) {Q0 S0 : Nat → Prop} (hR : R.at_ w S0) (h0 : (I 0).at_ w Q0) (hd : ∀ k, Q0 k → ¬ S0 k) (a1 : α → Act)
    (hassign : ∀ (l : Nat) (x : α) (W : World) (K : Act → World → Prop), K (a1 x) W → assign.wpIn (Fence.wide.inRound l) 9 Tryz.prog (Exit.then K (fun _ _ _ => False)) { tmps := (ps.zip (encs x)).foldl (fun t (p, v) => t.setIfInBounds p v) a.tmps, defers := [] } W)
    (hbody : ∀ (l k : Nat) (x : α) (W : World) (Q : Nat → Prop), (∃ r, W.heap[l]? = some (.loop r)) → w.heap.size ≤ l → xs[k]? = some x → (I k).at_ W Q → ¬ Q l → Since Q0 w Q W → body.wpIn (Fence.wide.inRound l) 9 Tryz.prog (roundT (I (k + 1)) Q W) (a1 x) W)
    (hdone : ∀ W', Goes (I xs.length) Q0 w W' → Qx .normal a W') :
    (Code.rangeFunc g ps assign body).wpIn (Fence.wide.inRound l0) 9 Tryz.prog Qx a w := by
  refine wpIn_rangeFunc ?_
  intro fn hfn
  obtain ⟨rec, hrec⟩ : ∃ rec : LoopState → Option Code → Loop, rec = fun st pe => { state := st, pending := pe, fn, tmps := a.tmps, params := ps, assign, body, defers := r0.defers } := ⟨_, rfl⟩
  obtain ⟨W1, hW1⟩ : ∃ W1, w.alloc (.loop (rec .ready none)) = W1 := ⟨_, rfl⟩
  have hL1 : W1.heap[w.heap.size]? = some (.loop (rec .ready none)) := by rw [← hW1]; exact World.alloc_heap_new w _
  have hT1 : Still w W1 := by rw [← hW1]; exact (Turned.refl _ _).alloc _
  refine ⟨w.heap.size, [], W1, { target := .fn (.func gf) lb, args := #[.func (.yield w.heap.size) #[] #[]] }, W1, gf, #[.func (.yield w.heap.size) #[] #[]] ++ lb, W1, ?_, ?_, ?_, ?_, fun _ => by omega, ?_⟩
  · rw [← hW1, hrec]; exact run_enterLoop_inner hl0 _ _ _ _ _
  · simp only [resolve, hg]; simp [go_sem]
  · intro f' hf'; trivial
  · simp [invoke, go_sem, eg]
  · have hQl : ¬ Q0 w.heap.size := fun h => by have := (I 0).lt h0 _ h; omega
    refine callsIn_wide.2 ((hseq w.heap.size (fun k => (I k).sep (objT w.heap.size (.loop (rec .ready none)))) W1 (fun k => Q0 k ∨ k = w.heap.size) S0 (R.keep hR hT1 (fun _ _ h => h)) (obj_sep ((I 0).keep h0 hT1 (fun _ _ h => h)) hL1 hQl) ?_ ?_).mono ?_)
    · rintro k (hk | rfl)
      · exact hd k hk
      · intro h; have := R.lt hR _ h; omega
    · rintro k x W Q hx ⟨Q1, Q2, hI, ⟨hl, hQ2⟩, hdd, hQ⟩ hS
      have hn : ¬ Q1 w.heap.size := fun h => hdd _ h ((hQ2 _).2 rfl)
      have hS1 : Since Q0 w Q1 W := by
        refine ⟨⟨hS.turn.os.trans hT1.os, hS.turn.tape.trans hT1.tape, hS.turn.output.trans hT1.output, Nat.le_trans hT1.size hS.turn.size, fun j hj hq => (hS.turn.block j (Nat.lt_of_lt_of_le hj hT1.size) (fun h => by
          rcases h with h | h
          · exact hq h
          · omega)).trans (hT1.block j hj (fun h => h))⟩, fun i hi => ?_⟩
        rcases hS.grow i ((hQ i).2 (.inl hi)) with (h | h) | h
        · exact .inl h
        · exact .inr (by omega)
        · exact .inr (Nat.le_trans hT1.size h)
      obtain ⟨fn', tm', as', bd', hy, hR'⟩ := roundT_yield hrec hps (B := I (k + 1)) hI hl hn (hassign _ x W) (fun W2 hr hI2 hT2 => hbody _ k x W2 Q1 hr (Nat.le_refl _) hx hI2 hn
        ⟨hS1.turn.past hT2 (fun i e => .inr (by omega)), hS1.grow⟩)
      refine ⟨fn', tm', as', bd', hy, hR'.mono ?_⟩
      rintro e W' ⟨he, Q', hB, hl', hnl, hT, hG⟩
      refine ⟨he, fun i => Q' i ∨ i = w.heap.size, obj_sep hB hl' hnl, hT.mono (fun i _ h => (hQ i).2 (h.imp id (fun e => (hQ2 i).2 e))), fun i hi => ?_⟩
      rcases hi with hi | hi
      · exact (hG i hi).imp (fun h => (hQ i).2 (.inl h)) id
      · exact .inl ((hQ i).2 (.inr ((hQ2 i).2 hi)))
    · rintro e W2 ⟨⟨v, rfl⟩, Q, ⟨Q1, Q2, hI, ⟨hl, hQ2⟩, hdd, hQ⟩, hT, hG⟩
      have hn : ¬ Q1 w.heap.size := fun h => hdd _ h ((hQ2 _).2 rfl)
      obtain ⟨o4, hend⟩ : ∃ o4, (Instr.endLoop w.heap.size).run Tryz.prog W2 = .ok none (W2.putObj w.heap.size o4) := ⟨_, by have := run_endLoop (P := Tryz.prog) hl (by rw [hrec]; simp); rw [hrec] at this; exact this⟩
      have ht4 := putObj_since (l := w.heap.size) o4 (Array.getElem?_eq_some_iff.1 hl).1
      refine ⟨none, _, hend, hdone _ ⟨Q1, (I xs.length).keep hI ht4 (fun k hk e => hn (by rw [← e]; exact hk)), ?_, fun i hi => ?_⟩⟩
      · have hT' : Turned (fun k => Q0 k ∨ w.heap.size ≤ k) w (W2.putObj w.heap.size o4) :=
          (hT1.mono (fun _ _ h => h.elim)).trans ((hT.mono (fun k _ h => h.imp id (fun e => by omega))).trans (ht4.mono (fun k _ e => .inr (by omega))))
        exact hT'.mono (fun k hk h => h.elim id (fun h => by omega))
      · rcases hG i ((hQ i).2 (.inl hi)) with (h | h) | h
        · exact .inl h
        · exact .inr (by omega)
        · exact .inr (Nat.le_trans hT1.size h)

/-- A loop at a function's own level. -/
theorem loopT_outer (hg : a.eval g = .func (.func gf) #[] lb) (eg : ∀ args w, (callFunc gf args).run Tryz.prog w = .ok (.enter gf args) w)
    (hseq : IterT gf lb encs xs R) (hps : ∀ x, (encs x).size = ps.size) (I : Nat → Thing) {Q0 S0 : Nat → Prop} (hR : R.at_ w S0) (h0 : (I 0).at_ w Q0) (hd : ∀ k, Q0 k → ¬ S0 k) (a1 : α → Act)
    (hassign : ∀ (l : Nat) (x : α) (W : World) (K : Act → World → Prop), K (a1 x) W → assign.wpIn (Fence.wide.inRound l) 9 Tryz.prog (Exit.then K (fun _ _ _ => False)) { tmps := (ps.zip (encs x)).foldl (fun t (p, v) => t.setIfInBounds p v) a.tmps, defers := [] } W)
    (hbody : ∀ (l k : Nat) (x : α) (W : World) (Q : Nat → Prop), (∃ r, W.heap[l]? = some (.loop r)) → w.heap.size ≤ l → xs[k]? = some x → (I k).at_ W Q → ¬ Q l → Since Q0 w Q W → body.wpIn (Fence.wide.inRound l) 9 Tryz.prog (roundT (I (k + 1)) Q W) (a1 x) W)
    (hdone : ∀ (D : Nat) (W' : World) (Q : Nat → Prop), w.heap.size ≤ D → W'.heap[D]? = some (.deferred (some [])) → ¬ Q D → (I xs.length).at_ W' Q → Since Q0 w Q W' → Qx .normal { a with defers := { target := .collected D, args := #[] } :: a.defers } W') :
    (Code.rangeFunc g ps assign body).wpIn Fence.wide 9 Tryz.prog Qx a w := by
  refine wpIn_rangeFunc ?_
  intro fn hfn
  obtain ⟨rec, hrec⟩ : ∃ rec : LoopState → Option Code → Loop, rec = fun st pe => { state := st, pending := pe, fn, tmps := a.tmps, params := ps, assign, body, defers := w.heap.size } := ⟨_, rfl⟩
  obtain ⟨W1, hW1⟩ : ∃ W1, (w.alloc (.deferred (some []))).alloc (.loop (rec .ready none)) = W1 := ⟨_, rfl⟩
  have hL1 : W1.heap[w.heap.size + 1]? = some (.loop (rec .ready none)) := by
    rw [← hW1]; have := World.alloc_heap_new (w.alloc (.deferred (some []))) (.loop (rec .ready none)); rwa [World.size_alloc] at this
  have hK1 : W1.heap[w.heap.size]? = some (.deferred (some [])) := by
    rw [← hW1]; exact (Below.heap_alloc _ _ _ (by simp)).trans (World.alloc_heap_new w _)
  have hT1 : Still w W1 := by rw [← hW1]; exact ((Turned.refl _ _).alloc _).alloc _
  refine ⟨w.heap.size + 1, [{ target := .collected w.heap.size, args := #[] }], W1, { target := .fn (.func gf) lb, args := #[.func (.yield (w.heap.size + 1)) #[] #[]] }, W1, gf, #[.func (.yield (w.heap.size + 1)) #[] #[]] ++ lb, W1, ?_, ?_, ?_, ?_, fun _ => by omega, ?_⟩
  · rw [← hW1, hrec]; exact run_enterLoop_outer _ _ _ _ _
  · simp only [resolve, hg]; simp [go_sem]
  · intro f' hf'; trivial
  · simp [invoke, go_sem, eg]
  · have hQl : ¬ Q0 w.heap.size := fun h => by have := (I 0).lt h0 _ h; omega
    have hQl1 : ¬ Q0 (w.heap.size + 1) := fun h => by have := (I 0).lt h0 _ h; omega
    have hst : ((((I 0).sep (objT w.heap.size (.deferred (some [])))).sep (objT (w.heap.size + 1) (.loop (rec .ready none))))).at_ W1 (fun k => (Q0 k ∨ k = w.heap.size) ∨ k = w.heap.size + 1) :=
      obj_sep (obj_sep ((I 0).keep h0 hT1 (fun _ _ h => h)) hK1 hQl) hL1 (fun h => h.elim hQl1 (by omega))
    refine callsIn_wide.2 ((hseq (w.heap.size + 1) (fun k => ((I k).sep (objT w.heap.size (.deferred (some [])))).sep (objT (w.heap.size + 1) (.loop (rec .ready none)))) W1 _ S0 (R.keep hR hT1 (fun _ _ h => h)) hst ?_ ?_).mono ?_)
    · rintro k ((hk | rfl) | rfl)
      · exact hd k hk
      · intro h; have := R.lt hR _ h; omega
      · intro h; have := R.lt hR _ h; omega
    · rintro k x W Q hx ⟨Q1, Q2, ⟨P1, P2, hI, ⟨hD, hP2⟩, hpp, hP⟩, ⟨hl, hQ2⟩, hdd, hQ⟩ hS
      have hn : ¬ P1 (w.heap.size + 1) := fun h => hdd _ ((hP _).2 (.inl h)) ((hQ2 _).2 rfl)
      have hnD : ¬ P1 w.heap.size := fun h => hpp _ h ((hP2 _).2 rfl)
      have hS1 : Since Q0 w P1 W := by
        refine ⟨⟨hS.turn.os.trans hT1.os, hS.turn.tape.trans hT1.tape, hS.turn.output.trans hT1.output, Nat.le_trans hT1.size hS.turn.size, fun j hj hq => (hS.turn.block j (Nat.lt_of_lt_of_le hj hT1.size) (fun h => by
          rcases h with (h | h) | h
          · exact hq h
          · omega
          · omega)).trans (hT1.block j hj (fun h => h))⟩, fun i hi => ?_⟩
        rcases hS.grow i ((hQ i).2 (.inl ((hP i).2 (.inl hi)))) with ((h | h) | h) | h
        · exact .inl h
        · exact .inr (by omega)
        · exact .inr (by omega)
        · exact .inr (Nat.le_trans hT1.size h)
      obtain ⟨fn', tm', as', bd', hy, hR'⟩ := roundT_yield hrec hps (B := I (k + 1)) hI hl hn (hassign _ x W) (fun W2 hr hI2 hT2 => hbody _ k x W2 P1 hr (by omega) hx hI2 hn
        ⟨hS1.turn.past hT2 (fun i e => .inr (by omega)), hS1.grow⟩)
      refine ⟨fn', tm', as', bd', hy, hR'.mono ?_⟩
      rintro e W' ⟨he, Q', hB, hl', hnl, hT, hG⟩
      have hlt := (Array.getElem?_eq_some_iff.1 hD).1
      have hD' : W'.heap[w.heap.size]? = some (.deferred (some [])) := (hT.block _ hlt (fun h => h.elim hnD (by omega))).trans hD
      have hnD' : ¬ Q' w.heap.size := fun h => by
        rcases hG _ h with h | h
        · exact hnD h
        · omega
      refine ⟨he, fun i => (Q' i ∨ i = w.heap.size) ∨ i = w.heap.size + 1, obj_sep (obj_sep hB hD' hnD') hl' (fun h => h.elim hnl (by omega)), hT.mono (fun i _ h => (hQ i).2 (h.imp (fun h => (hP i).2 (.inl h)) (fun e => (hQ2 i).2 e))), fun i hi => ?_⟩
      rcases hi with (hi | hi) | hi
      · exact (hG i hi).imp (fun h => (hQ i).2 (.inl ((hP i).2 (.inl h)))) id
      · exact .inl ((hQ i).2 (.inl ((hP i).2 (.inr ((hP2 i).2 hi)))))
      · exact .inl ((hQ i).2 (.inr ((hQ2 i).2 hi)))
    · rintro e W2 ⟨⟨v, rfl⟩, Q, ⟨Q1, Q2, ⟨P1, P2, hI, ⟨hD, hP2⟩, hpp, hP⟩, ⟨hl, hQ2⟩, hdd, hQ⟩, hT, hG⟩
      have hn : ¬ P1 (w.heap.size + 1) := fun h => hdd _ ((hP _).2 (.inl h)) ((hQ2 _).2 rfl)
      have hnD : ¬ P1 w.heap.size := fun h => hpp _ h ((hP2 _).2 rfl)
      obtain ⟨o4, hend⟩ : ∃ o4, (Instr.endLoop (w.heap.size + 1)).run Tryz.prog W2 = .ok none (W2.putObj (w.heap.size + 1) o4) := ⟨_, by have := run_endLoop (P := Tryz.prog) hl (by rw [hrec]; simp); rw [hrec] at this; exact this⟩
      have ht4 := putObj_since (l := w.heap.size + 1) o4 (Array.getElem?_eq_some_iff.1 hl).1
      refine ⟨none, _, hend, hdone w.heap.size _ P1 (Nat.le_refl _) ?_ hnD ((I xs.length).keep hI ht4 (fun k hk e => hn (by rw [← e]; exact hk))) ⟨?_, fun i hi => ?_⟩⟩
      · exact (World.putObj_heap_other (by omega)).trans hD
      · have hT' : Turned (fun k => Q0 k ∨ w.heap.size ≤ k) w (W2.putObj (w.heap.size + 1) o4) :=
          (hT1.mono (fun _ _ h => h.elim)).trans ((hT.mono (fun k _ h => by
            rcases h with (h | h) | h
            · exact .inl h
            · exact .inr (by omega)
            · exact .inr (by omega))).trans (ht4.mono (fun k _ e => .inr (by omega))))
        exact hT'.mono (fun k hk h => h.elim id (fun h => by omega))
      · rcases hG i ((hQ i).2 (.inl ((hP i).2 (.inl hi)))) with ((h | h) | h) | h
        · exact .inl h
        · exact .inr (by omega)
        · exact .inr (by omega)
        · exact .inr (Nat.le_trans hT1.size h)
end
end Go.Proofs.YtpmkokckjieidaaGreatDoor

/- A node more below one, and what grow makes of the levels of a filter. No condition but that the tree is one, and that no node has too many below it. -/
namespace Go.Proofs.YtpmkokckjieidaaGreatDoor
open Go.RowKit
set_option linter.unusedVariables false
set_option linter.unusedSimpArgs false
set_option maxRecDepth 100000

theorem snoc_ne (p : Path) (x : Txt) : p ++ [x] ≠ p := fun e => by have := congrArg List.length e; simp at this
theorem snoc_inj {p r : Path} {x y : Txt} (h : p ++ [x] = r ++ [y]) : p = r ∧ x = y := by
  have := List.append_inj' h rfl
  exact ⟨this.1, by simpa using this.2⟩
theorem kids_upd_other {g : Gr} {p r : Path} {x : Txt} {o : Option Nd} (h : r ≠ p) : kidsOf (updG g (p ++ [x]) o) r = kidsOf g r := by
  funext l
  unfold kidsOf
  rw [updG_other g o (fun e => h (snoc_inj e).1)]
theorem kids_upd_same (g : Gr) (p : Path) (x : Txt) (o : Option Nd) : kidsOf (updG g (p ++ [x]) o) p = updF (kidsOf g p) x (o.map Nd.nb) := by
  funext l
  unfold kidsOf updF
  by_cases hl : l = x
  · subst hl; rw [if_pos rfl, updG_same]
  · rw [if_neg hl, updG_other g o (fun e => hl (snoc_inj e).2)]
theorem kids_none {g : Gr} (hW : Wf g) {p : Path} (h : g p = none) (l : Txt) : g (p ++ [l]) = none := by
  cases hg : g (p ++ [l]) with
  | none => rfl
  | some d => have := hW.up p l (by rw [hg]; rfl); rw [h] at this; cases this

/-- A block that a map's turning left alone. -/
theorem mapTurned_other {w w' : World} {b : Nat} (h : w.mapTurned w' b) {k : Nat} (hk : k ≠ b) : w'.heap[k]? = w.heap[k]? := by
  obtain ⟨es, c, es', c', hb, rfl⟩ := h
  exact ChangeMaps.heap_setBlock_other hb _ hk
theorem mapTurned_turned {w w' : World} {b : Nat} (h : w.mapTurned w' b) : Turned (· = b) w w' := by
  have hg := h.grown
  exact ⟨hg.os, hg.tape, hg.output, hg.size, fun k hk hs => hg.block k hk (fun e => hs (by cases e; rfl))⟩

theorem row_of_eq {w w' : World} {B : Nat} {e : TypeId} {m n c : Nat} {a : Option Addr} {xs : List Value} (h : w.ownsRow B e m (.slice a n c) n xs) (hk : ∀ x, a = some x → w'.heap[x.block]? = w.heap[x.block]?) : w'.ownsRow B e m (.slice a n c) n xs := by
  refine ⟨h.1, ?_⟩
  rcases h.2 with ⟨e1, e2⟩ | ⟨b, cap, cur, e1, h1, h2, h3⟩
  · exact .inl ⟨e1, e2⟩
  · obtain ⟨ha, _⟩ : a = some ⟨b, 0, none⟩ ∧ c = cap := by simpa using e1
    exact .inr ⟨b, cap, cur, e1, h1, (hk ⟨b, 0, none⟩ ha).trans h2, h3⟩

/-- A new node. -/
def newNd (w : World) : Nd := ⟨w.heap.size + 1, w.heap.size, none, 0, []⟩
def budW (w : World) : World := (w.alloc (.map #[] 0)).alloc (.cells #[.slice none 0 0, .map (some w.heap.size)] 72)
theorem budW_still (w : World) : Still w (budW w) := ((Turned.refl _ _).alloc _).alloc _

theorem ybud_any (w : World) : Calls Tryz.prog 33 #[] w fun e w' => e = .returned (.pointer (some ⟨w.heap.size + 1, 0, none⟩)) ∧ w' = budW w := by
  have hmm := @run_makeMap Tryz.prog
  go_enter Tryz.func33, Tryz.ntmps33
  go_wp2
  go_ret
  exact ⟨by simp, rfl⟩

theorem NodesAt.bud {w w5 : World} {S : Nat → Prop} {g : Gr} (H : NodesAt w g S) (hW : Wf g) {p : Path} {d : Nd} {x : Txt} (hp : g p = some d) (hx : g (p ++ [x]) = none)
    (hmap : MapIs w5 d.mb (updF (kidsOf g p) x (some (w.heap.size + 1)))) (ht : (budW w).mapTurned w5 d.mb) :
    NodesAt w5 (updG g (p ++ [x]) (some (newNd w))) (fun k => S k ∨ (newNd w).fp k) ∧ Wf (updG g (p ++ [x]) (some (newNd w))) ∧ Since S w (fun k => S k ∨ (newNd w).fp k) w5 := by
  have hsz : (budW w).heap.size = w.heap.size + 2 := by simp [budW]
  have hst := budW_still w
  have hSd : S d.mb := (H.fp _).2 ⟨p, d, hp, .inr (.inl rfl)⟩
  have hdl := H.lt hSd
  have hT : Turned S w w5 := (hst.mono (fun _ _ h => h.elim)).trans ((mapTurned_turned ht).mono (fun k _ e => by rw [e]; exact hSd))
  have old : ∀ k, k < w.heap.size → k ≠ d.mb → w5.heap[k]? = w.heap[k]? := fun k hk hne => (mapTurned_other ht hne).trans (hst.block k hk (fun h => h))
  have new : ∀ k, w.heap.size ≤ k → w5.heap[k]? = (budW w).heap[k]? := fun k hk => mapTurned_other ht (by omega)
  have nlt : ∀ {r : Path} {e : Nd} {k : Nat}, g r = some e → e.fp k → k < w.heap.size := fun hr hk => (H.node hr).fp_lt hk
  have hne := snoc_ne p x
  have get : ∀ {r : Path} {e : Nd}, updG g (p ++ [x]) (some (newNd w)) r = some e → (r = p ++ [x] ∧ e = newNd w) ∨ (r ≠ p ++ [x] ∧ g r = some e) := fun {r e} h => by
    by_cases hr : r = p ++ [x]
    · subst hr; rw [updG_same] at h; cases h; exact .inl ⟨rfl, rfl⟩
    · rw [updG_other _ _ hr] at h; exact .inr ⟨hr, h⟩
  have nfp : ∀ k, (newNd w).fp k → w.heap.size ≤ k := fun k hk => by
    rcases hk with h | h | ⟨a, h, _⟩
    · rw [h]; show w.heap.size ≤ w.heap.size + 1; omega
    · rw [h]; exact Nat.le_refl _
    · cases h
  refine ⟨⟨fun {r e} hr => ?_, fun k => ?_⟩, ⟨?_, ?_, ?_, ?_, ?_⟩, hT, fun i hi => hi.imp id (nfp i)⟩
  · rcases get hr with ⟨rfl, rfl⟩ | ⟨hne', hg⟩
    · refine ⟨?_, World.ownsRow_nil _ _ _ _, ?_⟩
      · show w5.heap[w.heap.size + 1]? = _
        rw [new _ (by omega)]
        have := Blk.newAt (w.alloc (.map #[] 0)) [.slice none 0 0, .map (some w.heap.size)] 72 (b := w.heap.size + 1) (by simp) (c := #[.slice none 0 0, .map (some w.heap.size)]) rfl
        exact this
      · have h1 : MapIs (budW w) w.heap.size (fun _ => none) := (MapIs.made w).of_eq (Below.heap_alloc _ _ _ (by simp))
        refine (h1.of_eq (new _ (Nat.le_refl _))).congr (fun l => ?_)
        unfold kidsOf
        rw [updG_other _ _ (snoc_ne _ _), kids_none hW hx]
        rfl
    · have hn := H.node hg
      by_cases hrp : r = p
      · subst hrp
        rw [hp] at hg
        cases hg
        exact ⟨hn.blk.of_eq (old _ hn.blk.lt (hn.nb_mb hn)), row_of_eq hn.row (fun y hy => old _ (ow_lt hn.row y hy).2 (fun e => hn.mb_row hn hy e.symm)), by rw [kids_upd_same]; exact hmap⟩
      · have hh : NodeAt w5 g r e := hn.turned (fun k hk => old k (nlt hg hk) (fun e' => H.apart hW hg hp hrp hk (.inr (.inl e'))))
        exact ⟨hh.blk, hh.row, by rw [kids_upd_other hrp]; exact hh.map⟩
  · constructor
    · rintro (hk | hk)
      · obtain ⟨r, e, hr, he⟩ := (H.fp k).1 hk
        exact ⟨r, e, by rw [updG_other _ _ (fun e' => by rw [e', hx] at hr; cases hr)]; exact hr, he⟩
      · exact ⟨_, _, updG_same _ _ _, hk⟩
    · rintro ⟨r, e, hr, he⟩
      rcases get hr with ⟨rfl, rfl⟩ | ⟨_, hg⟩
      · exact .inr he
      · exact .inl ((H.fp k).2 ⟨r, e, hg, he⟩)
  · intro r r' e e' hr hr' hne'
    rcases get hr with ⟨rfl, rfl⟩ | ⟨_, hg⟩ <;> rcases get hr' with ⟨rfl, rfl⟩ | ⟨_, hg'⟩
    · exact absurd rfl hne'
    · have := nlt hg' (.inl rfl); show w.heap.size + 1 ≠ _; omega
    · have := nlt hg (.inl rfl); show _ ≠ w.heap.size + 1; omega
    · exact hW.nb hg hg' hne'
  · intro r r' e e' hr hr' hne'
    rcases get hr with ⟨rfl, rfl⟩ | ⟨_, hg⟩ <;> rcases get hr' with ⟨rfl, rfl⟩ | ⟨_, hg'⟩
    · exact absurd rfl hne'
    · have := nlt hg' (.inr (.inl rfl)); show w.heap.size ≠ _; omega
    · have := nlt hg (.inr (.inl rfl)); show _ ≠ w.heap.size; omega
    · exact hW.mb hg hg' hne'
  · intro r r' e e' y y' hr hr' hne' hy hy'
    rcases get hr with ⟨rfl, rfl⟩ | ⟨_, hg⟩
    · cases hy
    · rcases get hr' with ⟨rfl, rfl⟩ | ⟨_, hg'⟩
      · cases hy'
      · exact hW.row hg hg' hne' hy hy'
  · rw [updG_other _ _ (fun e => by have := congrArg List.length e; simp at this)]; exact hW.root
  · intro r l hr
    by_cases e : r ++ [l] = p ++ [x]
    · have : r = p := (snoc_inj e).1
      subst this
      rw [updG_other _ _ hne.symm, hp]; rfl
    · rw [updG_other _ _ e] at hr
      have := hW.up r l hr
      rw [updG_other _ _ (fun e' => by rw [e', hx] at this; cases this)]; exact this
end Go.Proofs.YtpmkokckjieidaaGreatDoor

/- What grow makes of the levels of a filter. No condition but that the tree is one, and that no node has too many below it. -/
namespace Go.Proofs.YtpmkokckjieidaaGreatDoor
open Go.RowKit
set_option linter.unusedVariables false
set_option linter.unusedSimpArgs false
set_option maxRecDepth 100000

/-- A tree that has all beginnings of these levels besides. -/
structure GrowOf (g : Gr) (ls : Path) (g' : Gr) : Prop where
  old : ∀ p d, g p = some d → g' p = some d
  new : ∀ p d, g p = none → g' p = some d → p <+: ls ∧ d.ns = []
  all : (g' ls).isSome = true
theorem GrowOf.step {g g' : Gr} {ls : Path} {x : Txt} {o : Nd} (h : GrowOf g ls g') (ho : g' (ls ++ [x]) = none) (hn : o.ns = []) : GrowOf g (ls ++ [x]) (updG g' (ls ++ [x]) (some o)) :=
  ⟨fun p d hp => by rw [updG_other _ _ (fun e => by rw [← e, h.old p d hp] at ho; cases ho)]; exact h.old p d hp,
   fun p d hp hp' => by
    by_cases e : p = ls ++ [x]
    · subst e; rw [updG_same] at hp'; cases hp'; exact ⟨List.prefix_refl _, hn⟩
    · rw [updG_other _ _ e] at hp'
      have := h.new p d hp hp'
      exact ⟨this.1.trans (List.prefix_append _ _), this.2⟩,
   by rw [updG_same]; rfl⟩
theorem GrowOf.keep {g g' : Gr} {ls : Path} {x : Txt} (h : GrowOf g ls g') (ho : (g' (ls ++ [x])).isSome = true) : GrowOf g (ls ++ [x]) g' :=
  ⟨h.old, fun p d hp hp' => ⟨(h.new p d hp hp').1.trans (List.prefix_append _ _), (h.new p d hp hp').2⟩, ho⟩

/-- What one round of grow leaves. -/
def GrowSt (g : Gr) (w : World) (S : Nat → Prop) (ls : Path) (nb : Nat) (wr : World) : Prop := ∃ g' S' d, GrowOf g ls g' ∧ Wf g' ∧ NodesAt wr g' S' ∧ Since S w S' wr ∧ g' ls = some d ∧ d.nb = nb

theorem grow_small {g g' : Gr} {ls : Path} {K : List Txt} (h : GrowOf g ls g') {p : Path} (hK : ∀ l, (g (p ++ [l])).isSome = true → l ∈ K) : ∀ l, (kidsOf g' p l).isSome = true → l ∈ K ++ ls := fun l hl => by
  unfold kidsOf at hl
  cases hg : g (p ++ [l]) with
  | some d => exact List.mem_append_left _ (hK l (by rw [hg]; rfl))
  | none =>
    cases hg' : g' (p ++ [l]) with
    | none => rw [hg'] at hl; cases hl
    | some d =>
      obtain ⟨r, hr⟩ := (h.new _ d hg hg').1
      exact List.mem_append_right _ (by rw [← hr]; simp)

set_option maxHeartbeats 4000000 in
theorem ygrow_any {w : World} {S : Nat → Prop} {g : Gr} (H : NodesAt w g S) (hW : Wf g) {q : Nat} {d0 : Nd} (hq : w.cell? ⟨q, 0, none⟩ = some (.pointer (some ⟨d0.nb, 0, none⟩))) (hqS : ¬ S q) (h0 : g [] = some d0) (ao : Option Addr) (n cap : Nat) (ls : Path) (hn : n = ls.length) (hA : TextsAt w ao ls) (hAS : ∀ x, ao = some x → ¬ S x.block) (hmax : n ≤ 1000) (hl : ∀ l ∈ ls, l.length ≤ 1000000)
    (hK : ∀ p, ∃ K : List Txt, K.length ≤ 100000 ∧ ∀ l, (g (p ++ [l])).isSome = true → l ∈ K) :
    Calls Tryz.prog 37 #[.pointer (some ⟨q, 0, none⟩), .slice ao n cap] w fun e w' => ∃ nb, e = .returned (.pointer (some ⟨nb, 0, none⟩)) ∧ GrowSt g w S ls nb w' := by
  have HN := Lib.hid hn
  have HA := Lib.hid hA
  have HAS := Lib.hid hAS
  have HL := Lib.hid hl
  have HK := Lib.hid hK
  have HT := Lib.hid (show ls.take n = ls from List.take_of_length_le (by omega))
  have HI := Lib.hid (show GrowSt g w S [] d0.nb w from ⟨g, S, d0, ⟨fun _ _ h => h, fun p d h1 h2 => (by rw [h1] at h2; cases h2), hW.root⟩, hW, H, Since.refl _ _, h0, rfl⟩)
  clear hn hA H hW h0 hl hAS hK
  go_enter Tryz.func37, Tryz.ntmps37
  go_wp2
  go_loopw [5, 14] (fun p i wr => ∃ (k nb : Nat), k ≤ n ∧ i = .int .i64 k ∧ p = .pointer (some ⟨nb, 0, none⟩) ∧ GrowSt g w S (ls.take k) nb wr) (fun _ i _ => n - (intOf i).toNat)
  case atStart => exact ⟨0, d0.nb, Nat.zero_le _, rfl, rfl, by simpa using HI.out⟩
  case round =>
    obtain ⟨k, nb, hk, rfl, rfl, hst⟩ := hrel
    have HSt := Lib.hid hst
    by_cases hlt : k < n
    · obtain ⟨g', S', d, hG, hW', hN', hSi, hgd, hdn⟩ := hst
      obtain ⟨x, hx⟩ := get_some (l := ls) (i := k) (by rw [← HN.out]; exact hlt)
      obtain ⟨b, o, rfl, hc0⟩ := HA.out k x hx
      have hc : wr.cell? ⟨b, o + k, none⟩ = some (tx x) := by rw [hSi.turn.cell (p := ⟨b, o + k, none⟩) (cell_lt hc0) (HAS.out ⟨b, o, none⟩ rfl)]; exact hc0
      have hxl : x.length ≤ maxLen := by have := HL.out x (List.mem_of_getElem? hx); unfold maxLen; omega
      have HS := Lib.hid (show ls.take (k + 1) = ls.take k ++ [x] by rw [List.take_add_one, hx]; rfl)
      obtain ⟨c0, c1, hlook⟩ := hN'.cells hgd
      rw [hdn] at c0 c1
      have hlk := hlook x hxl
      cases hgk : g' (ls.take k ++ [x]) with
      | some d' =>
        have HG' := Lib.hid (show GrowSt g w S (ls.take (k + 1)) d'.nb wr from by rw [HS.out]; exact ⟨g', S', d', hG.keep (by rw [hgk]; rfl), hW', hN', hSi, hgk, rfl⟩)
        rw [hgk] at hlk
        simp only [Option.map_some, ptrV] at hlk
        unfold tx at hc hlk
        clear hG hW' hN' hSi hgd hdn hx hc0 hxl hlook hgk HSt
        go_wp2_with fail
        go_roundw
        case rel => exact ⟨k + 1, d'.nb, by omega, by go_num, rfl, HG'.out⟩
        case measure => simp [intOf]; omega
      | none =>
        rw [hgk] at hlk
        simp only [Option.map_none, ptrV] at hlk
        obtain ⟨K, hKl, hKm⟩ := HK.out (ls.take k)
        have hmap := (hN'.node hgd).map
        have hsm : ∃ nn D, wr.ownsMap Tryz.prog 9 ptrR d.mb nn D ∧ (∀ l, Maps.has D (.string l) = (kidsOf g' (ls.take k) l).isSome ∧ D.atKey (.string l) .nil = ptrD (kidsOf g' (ls.take k) l)) ∧ nn < maxLen := by
          obtain ⟨nn, D, ho, hf, hn', hd', hl', hk'⟩ := hmap
          refine ⟨nn, D, ho, hf, ?_⟩
          have := nodup_sub hd' (K := K ++ ls.take k) (fun y hy => grow_small hG hKm y ((hk' y).1 hy))
          rw [List.length_append, List.length_take] at this
          unfold maxLen
          omega
        obtain ⟨nn, D, ho, hf, hnn⟩ := hsm
        have HB := Lib.hid (fun V => ybud_any V)
        have HO := Lib.hid (fun V (h : Still wr V) => show V.ownsMap Tryz.prog 9 ptrR d.mb nn D from ho.kept (row := none) ⟨h.os, h.tape, h.output, h.size, fun i hi _ => h.block i hi (fun h => h)⟩ (by simp))
        have HC := Lib.hid (fun V (h : Still wr V) => show V.cell? ⟨nb, 1, none⟩ = some (.map (some d.mb)) from (h.cell (p := ⟨nb, 1, none⟩) (cell_lt c1) (fun h => h)).trans c1)
        have HE := Lib.hid (fun (W5 : World) (h5 : W5.ownsMap Tryz.prog 9 ptrR d.mb (nn + 1) (D.put (.string x) (.held (wr.heap.size + 1)))) (ht : (budW wr.drew).mapTurned W5 d.mb) => show GrowSt g w S (ls.take (k + 1)) (wr.heap.size + 1) W5 ∧ (Instr.lookup 70 (.map (some d.mb)) (tx x) false).run Tryz.prog W5 = .ok (.pointer (some ⟨wr.heap.size + 1, 0, none⟩)) W5 ∧ W5.cell? ⟨nb, 1, none⟩ = some (.map (some d.mb)) from by
          have hND : NodesAt wr.drew g' S' := hN'.still (Turned.refl _ _).drew
          have hput := MapIs.put (w' := W5) ho hf h5
          obtain ⟨r1, r2, r3⟩ := NodesAt.bud hND hW' hgd hgk hput ht
          have hsi : Since S w (fun k => S' k ∨ (newNd wr.drew).fp k) W5 := hSi.trans ⟨⟨r3.turn.os, r3.turn.tape, r3.turn.output, r3.turn.size, r3.turn.block⟩, r3.grow⟩
          refine ⟨⟨_, _, newNd wr.drew, by rw [HS.out]; exact hG.step hgk rfl, r2, r1, hsi, by rw [HS.out]; exact updG_same _ _ _, rfl⟩, ?_, ?_⟩
          · have := hput.look x hxl
            unfold updF at this
            rw [if_pos rfl] at this
            exact this
          · have h1 := r1.cells (p := ls.take k) (d := d) (by rw [updG_other _ _ (snoc_ne _ _).symm]; exact hgd)
            rw [← hdn]; exact h1.2.1)
        have hs0 : Still wr wr.drew := (Turned.refl _ _).drew
        have hs1 : Still wr (budW wr.drew) := hs0.trans (budW_still _)
        obtain ⟨w5, hmu, hown5, hturn5⟩ := (HO.out _ hs1).store keysT Tryz.underlying70 hnn (key_tx x hxl) (ptrR_mk (some (wr.heap.size + 1)))
        obtain ⟨hF, hlk5, hc5⟩ := HE.out w5 hown5 hturn5
        have HF := Lib.hid hF
        simp only [ptrV] at hmu
        have cc0 := HC.out wr.drew hs0
        have cc1 := HC.out _ hs1
        unfold tx at hc hlk hmu hlk5
        clear hG hW' hN' hSi hgd hdn hx hc0 hxl hlook hgk HSt hKm hmap ho hf c0 hF hown5 hturn5 HE HO HC
        have hc1 : wr.drew.cell? ⟨b, o + k, none⟩ = some (.string ⟨x.toArray⟩) := hc
        go_wp2_with fail
        go_region_held3 (fun V => V.cell? ⟨nb, 1, none⟩ = some (.map (some d.mb))) (first | assumption | go_keep) (first | (go_at_call 33; ((with_reducible refine (HB.out _).mono ?_)); rintro e w1 ⟨rfl, rfl⟩))
        go_wp2_with fail
        go_roundw
        case rel => exact ⟨k + 1, wr.heap.size + 1, by omega, by go_num, rfl, HF.out⟩
        case measure => simp [intOf]; omega
    · obtain rfl : k = n := by omega
      clear hst
      go_wp2_with fail
      go_ret
      have := HSt.out
      rw [HT.out] at this
      exact ⟨nb, rfl, this⟩
end Go.Proofs.YtpmkokckjieidaaGreatDoor

/- Rows of one's own of which a part is laid anew: what sorting, deleting, inserting by the library leave. No condition but on lengths. -/
namespace Go.Proofs.YtpmkokckjieidaaGreatDoor
open Go.RowKit
set_option linter.unusedVariables false
set_option linter.unusedSimpArgs false
set_option maxRecDepth 100000

theorem ox_parts {w : World} {B : Nat} {g n cc : Nat} {xs : List Value} {e : TypeId} (h : w.ownsRow B e 1 (.slice (some ⟨g, 0, none⟩) n cc) n xs) :
    ∃ r, Blk w g (xs ++ r) e ∧ xs.length = n ∧ (xs ++ r).length = cc ∧ n ≤ cc ∧ cc ≤ maxLen ∧ B ≤ g := by
  have hx : xs.length = n := by simpa using h.1
  rcases h.2 with ⟨h', _⟩ | ⟨g', cap', cur, h', hB, hg, hnc, hcm, hcs, htake⟩
  · simp at h'
  · simp only [Value.slice.injEq, Option.some.injEq, Addr.mk.injEq, and_true, true_and] at h'
    obtain ⟨rfl, rfl⟩ := h'
    have e2 : xs ++ cur.toList.drop n = cur.toList := by
      rw [← htake, Nat.mul_one]; exact List.take_append_drop _ _
    refine ⟨cur.toList.drop n, ?_, hx, ?_, hnc, hcm, hB⟩
    · rw [e2]; exact hg
    · rw [e2]; simpa using hcs
theorem ox_of_parts {w : World} {B : Nat} {g n cc : Nat} {xs r : List Value} {e : TypeId} (hb : Blk w g (xs ++ r) e) (hx : xs.length = n) (hl : (xs ++ r).length = cc) (hm : cc ≤ maxLen) (hB : B ≤ g) :
    w.ownsRow B e 1 (.slice (some ⟨g, 0, none⟩) n cc) n xs := by
  refine ⟨by simpa using hx, .inr ⟨g, cc, (xs ++ r).toArray, rfl, hB, hb, ?_, hm, by simpa using hl, ?_⟩⟩
  · rw [← hl, ← hx]; simp
  · rw [Nat.mul_one, ← hx]; simp
theorem ox_some {w : World} {B n cc : Nat} {ao : Option Addr} {xs : List Value} {e : TypeId} (h : w.ownsRow B e 1 (.slice ao n cc) n xs) : ao = none ∧ n = 0 ∧ cc = 0 ∨ ∃ g, ao = some ⟨g, 0, none⟩ := by
  cases ao with
  | none => exact .inl ⟨rfl, (ow_le h).2.2 rfl⟩
  | some x =>
    rcases h.2 with ⟨h', _⟩ | ⟨g', cap', cur, h', _⟩
    · cases h'
    · obtain ⟨rfl, _⟩ : x = ⟨g', 0, none⟩ ∧ cc = cap' := by simpa using h'
      exact .inr ⟨g', rfl⟩

theorem laid_split {A Z vs : List Value} {o : Nat} (hA : A.length = o) : laid (A ++ Z) o vs = A ++ (vs ++ Z.drop vs.length) := by
  subst hA
  unfold laid
  rw [List.take_left, List.drop_append, List.drop_eq_nil_of_le (by omega), List.nil_append, show A.length + vs.length - A.length = vs.length by omega]
theorem take_known {A R : List Value} {m : Nat} (h : A.length = m) : (A ++ R).take m = A := by subst h; exact List.take_left

/-- A row of which a part is laid anew. -/
theorem row_laid {w : World} {B g n c : Nat} {xs vs : List Value} {e : TypeId} (h : w.ownsRow B e 1 (.slice (some ⟨g, 0, none⟩) n c) n xs) (q o : Nat) (hl : o + vs.length ≤ c) {m : Nat} {ys : List Value} (hm : m ≤ c) (hym : ys.length = m)
    (hy : ∀ r, (xs ++ r).length = c → (laid (xs ++ r) o vs).take m = ys) : ((w.drewN q).setCells g o vs).ownsRow B e 1 (.slice (some ⟨g, 0, none⟩) m c) m ys ∧ Turned (· = g) w ((w.drewN q).setCells g o vs) := by
  obtain ⟨r, hb, hx, hc, hn, hmx, hB⟩ := ox_parts h
  obtain ⟨b1, t1⟩ := blk_setCells e g vs o (w.drewN q) (xs ++ r) (hb.drewN q) (by omega)
  refine ⟨?_, ((Turned.refl _ w).drewN q).trans t1⟩
  have e1 := hy r hc
  have e2 : laid (xs ++ r) o vs = ys ++ (laid (xs ++ r) o vs).drop m := by conv => lhs; rw [← List.take_append_drop m (laid (xs ++ r) o vs), e1]
  have e3 : (laid (xs ++ r) o vs).length = c := by
    unfold laid
    rw [List.length_append, List.length_append, List.length_take, List.length_drop]
    omega
  rw [e2] at b1
  exact ox_of_parts b1 hym (by rw [← e2, e3]) hmx hB

theorem holds_row {w : World} {B g n c : Nat} {l : List Int} (h : w.ownsRow B 3 1 (.slice (some ⟨g, 0, none⟩) n c) n (ints l)) : Sort.Holds (Value.int .i64) w g 0 l.toArray := by
  obtain ⟨r, hb, hx, hc, hn, hmx, hB⟩ := ox_parts h
  intro j hj
  have hj' : j < l.length := by simpa using hj
  rw [Nat.zero_add]
  refine ⟨hb.cell ?_, hb.free _⟩
  rw [List.getElem?_append_left (by rw [ints_length]; exact hj'), ints_get (List.getElem?_eq_getElem hj'), getElem!_pos l.toArray j hj]
  simp

/-- Sorting, deleting: what was laid is known. -/
theorem put_row {w : World} {B g n c : Nat} {l : List Int} (h : w.ownsRow B 3 1 (.slice (some ⟨g, 0, none⟩) n c) n (ints l)) (hn : n = l.length) (q : Nat) {ys : List Int} (hy : ys.length = l.length) {m : Nat} (hm : m ≤ n) :
    (Sort.putRow (Value.int .i64) (Sort.ahead w q) g 0 ys.toArray).ownsRow B 3 1 (.slice (some ⟨g, 0, none⟩) m c) m (ints (ys.take m)) ∧ Turned (· = g) w (Sort.putRow (Value.int .i64) (Sort.ahead w q) g 0 ys.toArray) := by
  have hle := ow_le h
  rw [Lib.putRow_eq_setCells (Value.int .i64) w g 0 l.toArray ys q (holds_row h) (by simpa using hy)]
  refine row_laid h q 0 (by simp; omega) (by omega) (by rw [ints_length, List.length_take]; omega) (fun r hr => ?_)
  have e1 : laid (ints l ++ r) 0 (ys.map (Value.int .i64)) = ys.map (Value.int .i64) ++ r := by
    have := laid_split (A := []) (Z := ints l ++ r) (vs := ys.map (Value.int .i64)) (o := 0) rfl
    rw [List.nil_append, List.nil_append] at this
    rw [this, List.drop_append, List.drop_eq_nil_of_le (by rw [ints_length]; simp; omega), List.nil_append, List.length_map, ints_length, hy, Nat.sub_self, List.drop_zero]
  rw [e1, List.take_append_of_le_length (by simp; omega), ← List.map_take]
  rfl

theorem del10 {w : World} {B g n c i : Nat} {l : List Int} (h : w.ownsRow B 3 1 (.slice (some ⟨g, 0, none⟩) n c) n (ints l)) (hn : n = l.length) (hi : i < n) :
    Calls Tryz.prog 61 #[.slice (some ⟨g, 0, none⟩) n c, .int .i64 (i : Nat), .int .i64 ((i : Int) + 1)] w fun e w' => e = .returned (.slice (some ⟨g, 0, none⟩) (n - 1) c) ∧ w'.ownsRow B 3 1 (.slice (some ⟨g, 0, none⟩) (n - 1) c) (n - 1) (ints (l.take i ++ l.drop (i + 1))) ∧ Turned (· = g) w w' := by
  have hle := ow_le h
  have hmax : maxLen ≤ 9223372036854775807 := by unfold maxLen; omega
  have H := Tryz.slices_Delete_int g 0 c i (i + 1) l w (holds_row h) (by omega) (by omega) (by omega) (by omega)
  rw [← hn, show i + 1 - i = 1 by omega] at H
  refine H.mono ?_
  rintro e w' ⟨h1, q, h2⟩
  have hlen : (l.take i ++ l.drop (i + 1) ++ List.replicate 1 0).length = l.length := by simp; omega
  obtain ⟨g1, g2⟩ := put_row h hn q hlen (m := n - 1) (by omega)
  rw [← h2] at g1 g2
  refine ⟨h1, ?_, g2⟩
  rw [List.take_append_of_le_length (by simp; omega), List.take_of_length_le (by simp; omega)] at g1
  exact g1

theorem zero_len (z : Value) (hz : z.cells.size = 1) (k : Nat) : (Builtin.zeroCells z.cells k).size = k := by
  simp [Builtin.zeroCells, hz]

/-- What inserting one number leaves. -/
def InsPost (w : World) (a : Option Addr) (l : List Int) (n : Nat) (e : Ending) (w' : World) : Prop :=
  ∃ a' c', e = .returned (.slice a' (n + 1) c') ∧ w'.ownsRow 0 3 1 (.slice a' (n + 1) c') (n + 1) (ints l) ∧ Turned (fun k => ∃ y, a = some y ∧ k = y.block) w w' ∧ ∀ y, a' = some y → (∃ z, a = some z ∧ y.block = z.block) ∨ w.heap.size ≤ y.block

theorem ints_one (l : List Int) : ∀ v ∈ ints l, v.oneCell' = true := fun v hv => by
  unfold ints at hv
  obtain ⟨x, _, rfl⟩ := List.mem_map.1 hv
  rfl
theorem ints_cells {w : World} {B n c : Nat} {a : Option Addr} {l : List Int} (h : w.ownsRow B 3 1 (.slice a n c) n (ints l)) (hn : n = l.length) : ∀ x, a = some x → ∀ j v, (ints l)[j]? = some v → w.cell? (x.add j) = some v := by
  rintro x rfl j v hj
  unfold ints at hj
  simp only [List.getElem?_map, Option.map_eq_some_iff] at hj
  obtain ⟨y, hy, rfl⟩ := hj
  obtain ⟨b, o, e, hc⟩ := NumsAt.of_own h hn j y hy
  cases e
  rw [Addr.add_lit]
  exact hc

theorem ins10 {w : World} {n c i vb : Nat} {a : Option Addr} {l : List Int} {x : Int} (h : w.ownsRow 0 3 1 (.slice a n c) n (ints l)) (hn : n = l.length) (hi : i ≤ n) (hs : n ≤ 100000) (hv : Blk w vb [.int .i64 x] 3) (hvb : ∀ y, a = some y → vb ≠ y.block) :
    Calls Tryz.prog 59 #[.slice a n c, .int .i64 (i : Nat), .slice (some ⟨vb, 0, none⟩) 1 1] w (InsPost w a (l.take i ++ x :: l.drop i) n) := by
  have hle := ow_le h
  have hmax : maxLen ≤ 9223372036854775807 := by unfold maxLen; omega
  have hvs : ∀ (j : Nat) v, [Value.int .i64 x][j]? = some v → w.cell? ⟨vb, 0 + j, none⟩ = some v := fun j v hj => by rw [Nat.zero_add]; exact hv.cell hj
  have h1v : ∀ v ∈ [Value.int .i64 x], v.oneCell' = true := by simp [Value.oneCell']
  have hlen : (ints (l.take i ++ x :: l.drop i)).length = n + 1 := by rw [ints_length]; simp; omega
  have hints : ints (l.take i ++ x :: l.drop i) = ints (l.take i) ++ ([Value.int .i64 x] ++ ints (l.drop i)) := by simp [ints]
  have hsplit : ints l = ints (l.take i) ++ ints (l.drop i) := by unfold ints; rw [← List.map_append, List.take_append_drop]
  have hA : (ints (l.take i)).length = i := by rw [ints_length, List.length_take]; omega
  have hC : (ints (l.drop i)).length = n - i := by rw [ints_length, List.length_drop]; omega
  have hzc : ∀ k, (Builtin.zeroCells (Value.int .i64 0).cells k).size = k := zero_len _ rfl
  by_cases hroom : n + 1 ≤ c
  · have ha : ∃ g, a = some ⟨g, 0, none⟩ := by
      rcases ox_some h with ⟨_, h1, h2⟩ | h1
      · omega
      · exact h1
    obtain ⟨g, rfl⟩ := ha
    obtain ⟨r, hb, hx, hc, hnc, hmx, hB⟩ := ox_parts h
    by_cases hin : i = n
    · subst hin
      have H := Any2.slices_Insert_int_end_room Tryz.insI g 0 i c vb 0 1 1 [.int .i64 x] w (by omega) hroom (by omega) rfl
        (fun j hj => by rw [Nat.zero_add]; rw [hb.cell (o := i + j) (List.getElem?_eq_getElem (by omega))]; rfl) (fun j hj => hb.free _) hvs h1v
      refine H.mono ?_
      rintro e w' ⟨h1, h2⟩
      have hz : l.drop i = [] := List.drop_eq_nil_of_le (by omega)
      obtain ⟨g1, g2⟩ := row_laid h 0 i (vs := [.int .i64 x]) (by simp; omega) (m := i + 1) (ys := ints (l.take i ++ x :: l.drop i)) (by omega) hlen (fun r hr => by
        rw [laid_split (by rw [ints_length]; omega), ← List.append_assoc, take_known (by simp [ints_length]; omega), hints, hz, List.take_of_length_le (by omega)]; simp [ints])
      rw [Nat.zero_add] at h2
      exact ⟨_, _, h1, by rw [h2]; exact g1, by rw [h2]; exact g2.mono (fun k _ e => ⟨_, rfl, e⟩), fun y hy => .inl ⟨_, rfl, by cases hy; rfl⟩⟩
    · have hcs0 : ∃ c0 C1, ints (l.drop i) = c0 :: C1 := by
        cases hd : ints (l.drop i) with
        | nil => rw [hd] at hC; simp at hC; omega
        | cons c0 C1 => exact ⟨c0, C1, rfl⟩
      obtain ⟨c0, C1, hC1⟩ := hcs0
      have hdr : (ints l).drop i = ints (l.drop i) := by rw [hsplit, List.drop_append, List.drop_eq_nil_of_le (by omega), List.nil_append, show i - (ints (l.take i)).length = 0 by omega, List.drop_zero]
      have H := Any2.slices_Insert_int_shift Tryz.insI g 0 n c i vb 0 1 1 (ints l) [.int .i64 x] w (by omega) (by omega) hroom (by omega) (hvb _ rfl) (by rw [ints_length]; omega) rfl
        (fun j v hj => by rw [Nat.zero_add]; exact hb.cell (by rw [List.getElem?_append_left (List.getElem?_eq_some_iff.1 hj).1]; exact hj)) (fun j hj => by rw [Nat.zero_add, hb.cell (o := j) (List.getElem?_eq_getElem (by omega))]; rfl) (fun j hj => hb.free _) hvs (ints_one l) h1v
        3 3 1 c (by unfold World.shape?; unfold Blk at hv; rw [hv]; rfl) (by unfold World.shape?; unfold Blk at hb; rw [hb]; simp [hc]) (by omega) (hv.free _) (hv.free _)
      refine H.mono ?_
      rintro e w' ⟨h1, h2⟩
      rw [hdr] at h2
      rw [Nat.zero_add, Nat.zero_add] at h2
      obtain ⟨b1, t1⟩ := blk_setCells 3 g (ints (l.drop i)) (i + 1) w.drew _ hb.drew (by omega)
      obtain ⟨b2, t2⟩ := blk_setCells 3 g [.int .i64 x] i _ _ b1 (by unfold laid; simp only [List.length_append, List.length_take, List.length_drop, List.length_cons, List.length_nil]; simp only [List.length_append] at hc; omega)
      have e1 : laid (laid (ints l ++ r) (i + 1) (ints (l.drop i))) i [.int .i64 x] = ints (l.take i ++ x :: l.drop i) ++ ((C1 ++ r).drop (ints (l.drop i)).length) := by
        have s1 : ints l ++ r = (ints (l.take i) ++ [c0]) ++ (C1 ++ r) := by rw [hsplit, hC1]; simp
        rw [s1, laid_split (by simp [hA]), List.append_assoc (ints (l.take i)) [c0], laid_split hA, hints]
        simp
      rw [e1] at b2
      have hl2 : (ints (l.take i ++ x :: l.drop i) ++ ((C1 ++ r).drop (ints (l.drop i)).length)).length = c := by
        have : (C1 ++ r).length + (i + 1) = c := by
          rw [← hc, hsplit, hC1]; simp [hA]; omega
        rw [List.length_append, hlen, List.length_drop, hC]
        omega
      rw [← h2] at b2
      exact ⟨_, _, h1, ox_of_parts b2 hlen hl2 hmx (Nat.zero_le _), by rw [h2]; exact (((Turned.refl _ w).drew.trans t1).trans t2).mono (fun k _ e => ⟨_, rfl, e⟩), fun y hy => .inl ⟨_, rfl, by cases hy; rfl⟩⟩
  · have hgr := grownCap_ge w (n + 1) c 3
    have hgm := grownCap_le_maxLen w (n + 1) c 3 (by unfold maxLen; omega)
    have hnew : ∀ y : Addr, (some ⟨w.heap.size, 0, none⟩ : Option Addr) = some y → (∃ z, a = some z ∧ y.block = z.block) ∨ w.heap.size ≤ y.block := fun y hy => .inr (by cases hy; exact Nat.le_refl _)
    by_cases hin : i = n
    · subst hin
      have H := Any2.slices_Insert_int_end_grow Tryz.insI a i c vb 0 1 1 (ints l) [.int .i64 x] w (by omega) hle.1 (by omega) (by omega) (by rw [ints_length]; omega) rfl (fun e => (hle.2.2 e).1) (ints_cells h hn) hvs h1v
      refine H.mono ?_
      rintro e w' ⟨h1, h2⟩
      have hz : l.drop i = [] := List.drop_eq_nil_of_le (by omega)
      have hb := Blk.newAt w.drew (ints (l.take i ++ x :: l.drop i) ++ (Builtin.zeroCells (Value.int .i64 0).cells (grownCap w (i + 1) c 3 - (i + 1))).toList) 3 (b := w.heap.size) rfl (c := (ints l ++ [Value.int .i64 x]).toArray ++ Builtin.zeroCells (Value.int .i64 0).cells (grownCap w (i + 1) c 3 - (i + 1))) (by rw [hints, hz, List.take_of_length_le (by omega)]; apply Array.ext'; simp [ints])
      have h2' : w' = w.drew.alloc (.cells ((ints l ++ [Value.int .i64 x]).toArray ++ Builtin.zeroCells (Value.int .i64 0).cells (grownCap w (i + 1) c 3 - (i + 1))) 3) := h2
      rw [← h2'] at hb
      exact ⟨_, _, h1, ox_of_parts hb hlen (by rw [List.length_append, hlen, Array.length_toList, hzc]; show i + 1 + (grownCap w (i + 1) c 3 - (i + 1)) = grownCap w (i + 1) c 3; omega) hgm (Nat.zero_le _), by rw [h2]; exact (Turned.refl _ w).drew.alloc _, hnew⟩
    · have ha : ∃ g, a = some ⟨g, 0, none⟩ := by
        rcases ox_some h with ⟨_, h1, h2⟩ | h1
        · omega
        · exact h1
      obtain ⟨g, rfl⟩ := ha
      have H := Any2.slices_Insert_int_grow Tryz.insI g 0 n c i vb 0 1 1 (ints l) [.int .i64 x] w (by omega) (by omega) hle.1 (by omega) (by omega) (by rw [ints_length]; omega) rfl
        (fun j v hj => by have := ints_cells h hn _ rfl j v hj; rw [Addr.add_lit] at this; exact this) hvs (ints_one l) h1v
      refine H.mono ?_
      rintro e w' ⟨h1, h2⟩
      have hdr : (ints l).drop i = ints (l.drop i) := by unfold ints; rw [List.map_drop]
      have htk : (ints l).take i = ints (l.take i) := by unfold ints; rw [List.map_take]
      rw [show Tryz.insI_ren.t 3 = 3 from rfl] at h1
      rw [hdr, htk, show Tryz.insI_ren.t 3 = 3 from rfl] at h2
      obtain ⟨Z, hZ⟩ : ∃ Z : List Value, Z = (Builtin.zeroCells (Value.int .i64 0).cells (n + 1 - i)).toList ++ (Builtin.zeroCells (Value.int .i64 0).cells (grownCap w (n + 1) c 3 - (n + 1))).toList := ⟨_, rfl⟩
      have hZl : Z.length = grownCap w (n + 1) c 3 - i := by rw [hZ, List.length_append, Array.length_toList, Array.length_toList, hzc, hzc]; omega
      have hb := Blk.newAt w (ints (l.take i) ++ Z) 3 (b := w.heap.size) rfl (c := (ints (l.take i)).toArray ++ Builtin.zeroCells (Value.int .i64 0).cells (n + 1 - i) ++ Builtin.zeroCells (Value.int .i64 0).cells (grownCap w (n + 1) c 3 - (n + 1))) (by rw [hZ]; apply Array.ext'; simp)
      obtain ⟨b1, t1⟩ := blk_setCells 3 w.heap.size [.int .i64 x] i _ _ hb.drew (by rw [List.length_append, hA, hZl]; simp; omega)
      rw [laid_split hA] at b1
      obtain ⟨b2, t2⟩ := blk_setCells 3 w.heap.size (ints (l.drop i)) (i + 1) _ _ b1.drew (by simp only [List.length_append, List.length_drop, List.length_cons, List.length_nil, hA, hC, hZl]; omega)
      rw [← List.append_assoc (ints (l.take i)), laid_split (by simp [hA])] at b2
      have e1 : ints (l.take i) ++ [Value.int .i64 x] ++ (ints (l.drop i) ++ (Z.drop [Value.int .i64 x].length).drop (ints (l.drop i)).length) = ints (l.take i ++ x :: l.drop i) ++ (Z.drop [Value.int .i64 x].length).drop (ints (l.drop i)).length := by rw [hints]; simp
      rw [e1] at b2
      rw [← h2] at b2
      refine ⟨_, _, h1, ox_of_parts b2 hlen (by rw [List.length_append, hlen, List.length_drop, List.length_drop, hC, hZl]; simp only [List.length_cons, List.length_nil]; omega) hgm (Nat.zero_le _), ?_, hnew⟩
      rw [h2]
      exact ((((((Turned.refl _ w).alloc _).drew).pastOne t1 (Nat.le_refl _)).drew).pastOne t2 (Nat.le_refl _))
end Go.Proofs.YtpmkokckjieidaaGreatDoor

/- A number more, a number less at a node of the program's tree. No condition but that the tree is one, and that its numbers rise. -/
namespace Go.Proofs.YtpmkokckjieidaaGreatDoor
open Go.RowKit
set_option linter.unusedVariables false
set_option linter.unusedSimpArgs false
set_option maxRecDepth 100000

/-! ### rising numbers -/
theorem plN_cons (y : Nat) (r : List Nat) (x : Int) : plN (y :: r) x = (if (y : Int) < x then 1 else 0) + plN r x := by
  unfold plN ni
  rw [List.map_cons, List.countP_cons]
  by_cases h : (y : Int) < x <;> simp [h] <;> omega
theorem plN_zero {r : List Nat} {x : Int} (h : ∀ y ∈ r, x ≤ (y : Int)) : plN r x = 0 := by
  unfold plN
  rw [List.countP_eq_zero]
  intro a ha
  unfold ni at ha
  obtain ⟨y, hy, rfl⟩ := List.mem_map.1 ha
  have := h y hy
  simp; omega
theorem plN_split : ∀ {ns : List Nat}, ns.Pairwise (· < ·) → ∀ x : Int, plN ns x ≤ ns.length ∧ (∀ y ∈ ns.take (plN ns x), (y : Int) < x) ∧ ∀ y ∈ ns.drop (plN ns x), x ≤ (y : Int)
  | [], _, x => by simp [plN, ni]
  | y :: r, h, x => by
    obtain ⟨h1, h2⟩ := List.pairwise_cons.1 h
    by_cases hy : (y : Int) < x
    · obtain ⟨a1, a2, a3⟩ := plN_split h2 x
      rw [plN_cons, if_pos hy, Nat.add_comm 1]
      refine ⟨by simp; omega, ?_, ?_⟩
      · intro z hz
        rw [List.take_succ_cons] at hz
        rcases List.mem_cons.1 hz with rfl | hz
        · exact hy
        · exact a2 z hz
      · rw [List.drop_succ_cons]; exact a3
    · have e : plN (y :: r) x = 0 := plN_zero (fun z hz => by
        rcases List.mem_cons.1 hz with rfl | hz
        · omega
        · have := h1 z hz; omega)
      rw [e]
      refine ⟨Nat.zero_le _, by simp, fun z hz => ?_⟩
      rw [List.drop_zero] at hz
      rcases List.mem_cons.1 hz with rfl | hz
      · omega
      · have := h1 z hz; omega
def insN (ns : List Nat) (x : Nat) : List Nat := ns.take (plN ns x) ++ x :: ns.drop (plN ns x)
def delN (ns : List Nat) (x : Nat) : List Nat := ns.take (plN ns x) ++ ns.drop (plN ns x + 1)
theorem insN_length {ns : List Nat} (h : ns.Pairwise (· < ·)) (x : Nat) : (insN ns x).length = ns.length + 1 := by
  have := (plN_split h x).1
  unfold insN; simp; omega
theorem insN_mem {ns : List Nat} (x y : Nat) : y ∈ insN ns x ↔ y ∈ ns ∨ y = x := by
  unfold insN
  rw [List.mem_append, List.mem_cons]
  conv => rhs; rw [← List.take_append_drop (plN ns x) ns, List.mem_append]
  constructor
  · rintro (h | h | h)
    · exact .inl (.inl h)
    · exact .inr h
    · exact .inl (.inr h)
  · rintro ((h | h) | h)
    · exact .inl h
    · exact .inr (.inr h)
    · exact .inr (.inl h)
theorem Rises.ins {ns : List Nat} (h : Rises ns) {x : Nat} (hx : x < 256) (hn : x ∉ ns) : Rises (insN ns x) := by
  obtain ⟨_, h2, h3⟩ := plN_split h.1 x
  refine ⟨?_, fun y hy => ?_⟩
  · unfold insN
    rw [List.pairwise_append]
    refine ⟨h.1.sublist (List.take_sublist _ _), List.pairwise_cons.2 ⟨fun y hy => ?_, h.1.sublist (List.drop_sublist _ _)⟩, fun a ha b hb => ?_⟩
    · have := h3 y hy
      have hne : y ≠ x := fun e => hn (e ▸ List.mem_of_mem_drop hy)
      omega
    · have := h2 a ha
      rcases List.mem_cons.1 hb with rfl | hb
      · omega
      · have := h3 b hb; omega
  · rcases (insN_mem x y).1 hy with h' | rfl
    · exact h.2 y h'
    · exact hx
theorem delN_at {ns : List Nat} (h : ns.Pairwise (· < ·)) {x : Nat} (hx : x ∈ ns) : ∃ r, ns.drop (plN ns x) = x :: r ∧ ns.drop (plN ns x + 1) = r := by
  obtain ⟨h1, h2, h3⟩ := plN_split h x
  have hm : x ∈ ns.drop (plN ns x) := by
    rw [← List.take_append_drop (plN ns x) ns, List.mem_append] at hx
    rcases hx with h' | h'
    · have := h2 x h'; omega
    · exact h'
  cases hd : ns.drop (plN ns x) with
  | nil => rw [hd] at hm; simp at hm
  | cons y r =>
    have hp := h.sublist (List.drop_sublist (plN ns x) ns)
    rw [hd] at hp hm
    have e : y = x := by
      rcases List.mem_cons.1 hm with e | hm
      · exact e.symm
      · have := (List.pairwise_cons.1 hp).1 x hm
        have := h3 y (by rw [hd]; simp)
        omega
    subst e
    refine ⟨r, rfl, ?_⟩
    rw [← List.drop_drop, hd]; rfl
theorem delN_length {ns : List Nat} (h : ns.Pairwise (· < ·)) {x : Nat} (hx : x ∈ ns) : (delN ns x).length + 1 = ns.length ∧ plN ns x < ns.length := by
  obtain ⟨r, h1, h2⟩ := delN_at h hx
  have := congrArg List.length h1
  rw [List.length_drop, List.length_cons] at this
  unfold delN
  rw [List.length_append, h2, List.length_take]
  omega
theorem Rises.del {ns : List Nat} (h : Rises ns) {x : Nat} (hx : x ∈ ns) : Rises (delN ns x) ∧ ∀ y, y ∈ delN ns x ↔ y ∈ ns ∧ y ≠ x := by
  obtain ⟨r, h1, h2⟩ := delN_at h.1 hx
  obtain ⟨_, h3, h4⟩ := plN_split h.1 x
  have hp := h.1
  rw [← List.take_append_drop (plN ns x) ns, h1, List.pairwise_append] at hp
  obtain ⟨p1, p2, p3⟩ := hp
  obtain ⟨p4, p5⟩ := List.pairwise_cons.1 p2
  have hmem : ∀ y, y ∈ delN ns x ↔ y ∈ ns ∧ y ≠ x := fun y => by
    unfold delN
    rw [h2, List.mem_append]
    conv => rhs; rw [← List.take_append_drop (plN ns x) ns, h1, List.mem_append, List.mem_cons]
    constructor
    · rintro (h' | h')
      · have := h3 y h'; exact ⟨.inl h', by omega⟩
      · have := p4 y h'; exact ⟨.inr (.inr h'), by omega⟩
    · rintro ⟨h' | h' | h', hne⟩
      · exact .inl h'
      · exact absurd h' hne
      · exact .inr h'
  refine ⟨⟨?_, fun y hy => h.2 y ((hmem y).1 hy).1⟩, hmem⟩
  unfold delN
  rw [h2, List.pairwise_append]
  exact ⟨p1, p5, fun a ha b hb => p3 a ha b (by simp [hb])⟩
theorem ni_ins (ns : List Nat) (x : Nat) : ni (insN ns x) = (ni ns).take (plN ns x) ++ (x : Int) :: (ni ns).drop (plN ns x) := by
  unfold insN ni; simp
theorem ni_del (ns : List Nat) (x : Nat) : ni (delN ns x) = (ni ns).take (plN ns x) ++ (ni ns).drop (plN ns x + 1) := by
  unfold delN ni; simp

/-! ### a node whose numbers change -/
theorem NodesAt.nums {w w' : World} {S : Nat → Prop} {g : Gr} (H : NodesAt w g S) (hW : Wf g) {p : Path} {d : Nd} (hp : g p = some d) (a' : Option Addr) (c' : Nat) (ns' : List Nat)
    (hb : Blk w' d.nb [.slice a' ns'.length c', .map (some d.mb)] 72) (hr : w'.ownsRow 0 3 1 (.slice a' ns'.length c') ns'.length (ints (ni ns')))
    (hT : Turned (fun k => k = d.nb ∨ ∃ y, d.a = some y ∧ k = y.block) w w') (ha : ∀ y, a' = some y → (∃ z, d.a = some z ∧ y.block = z.block) ∨ w.heap.size ≤ y.block) :
    ∃ S', NodesAt w' (updG g p (some ⟨d.nb, d.mb, a', c', ns'⟩)) S' ∧ Wf (updG g p (some ⟨d.nb, d.mb, a', c', ns'⟩)) ∧ Since S w S' w' := by
  have hk : ∀ r, kidsOf (updG g p (some ⟨d.nb, d.mb, a', c', ns'⟩)) r = kidsOf g r := fun r => by
    funext l
    unfold kidsOf
    by_cases e : r ++ [l] = p
    · rw [e, updG_same, hp]; rfl
    · rw [updG_other _ _ e]
  have get : ∀ {r : Path} {e : Nd}, updG g p (some ⟨d.nb, d.mb, a', c', ns'⟩) r = some e → (r = p ∧ e = ⟨d.nb, d.mb, a', c', ns'⟩) ∨ (r ≠ p ∧ g r = some e) := fun {r e} h => by
    by_cases hr : r = p
    · subst hr; rw [updG_same] at h; cases h; exact .inl ⟨rfl, rfl⟩
    · rw [updG_other _ _ hr] at h; exact .inr ⟨hr, h⟩
  have hd := H.node hp
  have far : ∀ {r : Path} {e : Nd} {y : Addr}, g r = some e → r ≠ p → a' = some y → ¬ e.fp y.block := fun {r e y} hr hne hy hf => by
    rcases ha y hy with ⟨z, hz, e1⟩ | h1
    · exact H.apart hW hr hp hne hf (.inr (.inr ⟨z, hz, e1⟩))
    · have := (H.node hr).fp_lt hf; omega
  refine ⟨fun k => ∃ r e, updG g p (some ⟨d.nb, d.mb, a', c', ns'⟩) r = some e ∧ e.fp k, ⟨fun {r e} hr' => ?_, fun k => Iff.rfl⟩, ⟨?_, ?_, ?_, ?_, ?_⟩, ⟨hT.mono (fun k _ h => ?_), fun k hk' => ?_⟩⟩
  · rcases get hr' with ⟨rfl, rfl⟩ | ⟨hne, hg⟩
    · refine ⟨hb, hr, ?_⟩
      rw [hk]
      exact hd.map.of_eq (hT.block _ hd.map.lt (fun h => by
        rcases h with h | ⟨y, hy, h⟩
        · exact hd.nb_mb hd h.symm
        · exact hd.mb_row hd hy h))
    · have hh := (H.node hg).turned (w' := w') (fun k hkf => hT.block k ((H.node hg).fp_lt hkf) (fun h => by
        refine H.apart hW hg hp hne hkf ?_
        rcases h with h | ⟨y, hy, h⟩
        · exact .inl h
        · exact .inr (.inr ⟨y, hy, h⟩)))
      exact ⟨hh.blk, hh.row, by rw [hk]; exact hh.map⟩
  · intro r r' e e' h1 h2 hne
    rcases get h1 with ⟨rfl, rfl⟩ | ⟨_, g1⟩ <;> rcases get h2 with ⟨rfl, rfl⟩ | ⟨_, g2⟩
    · exact absurd rfl hne
    · show d.nb ≠ _; exact hW.nb hp g2 hne
    · show _ ≠ d.nb; exact hW.nb g1 hp hne
    · exact hW.nb g1 g2 hne
  · intro r r' e e' h1 h2 hne
    rcases get h1 with ⟨rfl, rfl⟩ | ⟨_, g1⟩ <;> rcases get h2 with ⟨rfl, rfl⟩ | ⟨_, g2⟩
    · exact absurd rfl hne
    · show d.mb ≠ _; exact hW.mb hp g2 hne
    · show _ ≠ d.mb; exact hW.mb g1 hp hne
    · exact hW.mb g1 g2 hne
  · intro r r' e e' y y' h1 h2 hne hy hy'
    rcases get h1 with ⟨rfl, rfl⟩ | ⟨n1, g1⟩ <;> rcases get h2 with ⟨rfl, rfl⟩ | ⟨n2, g2⟩
    · exact absurd rfl hne
    · exact fun e' => far g2 n2 hy (.inr (.inr ⟨y', hy', e'⟩))
    · exact fun e' => far g1 n1 hy' (.inr (.inr ⟨y, hy, e'.symm⟩))
    · exact hW.row g1 g2 hne hy hy'
  · by_cases e : ([] : Path) = p
    · rw [← e, updG_same]; rfl
    · rw [updG_other _ _ e]; exact hW.root
  · intro r l h
    have : (g (r ++ [l])).isSome = true := by
      by_cases e : r ++ [l] = p
      · rw [e, hp]; rfl
      · rwa [updG_other _ _ e] at h
    have := hW.up r l this
    by_cases e : r = p
    · rw [e, updG_same]; rfl
    · rwa [updG_other _ _ e]
  · refine (H.fp k).2 ⟨p, d, hp, ?_⟩
    rcases h with h | ⟨y, hy, h⟩
    · exact .inl h
    · exact .inr (.inr ⟨y, hy, h⟩)
  · obtain ⟨r, e, h1, h2⟩ := hk'
    rcases get h1 with ⟨rfl, rfl⟩ | ⟨_, g1⟩
    · rcases h2 with h2 | h2 | ⟨y, hy, h2⟩
      · exact .inl ((H.fp k).2 ⟨_, d, hp, .inl h2⟩)
      · exact .inl ((H.fp k).2 ⟨_, d, hp, .inr (.inl h2)⟩)
      · rcases ha y hy with ⟨z, hz, e1⟩ | h3
        · exact .inl ((H.fp k).2 ⟨_, d, hp, .inr (.inr ⟨z, hz, h2.trans e1⟩)⟩)
        · exact .inr (by omega)
    · exact .inl ((H.fp k).2 ⟨r, e, g1, h2⟩)

/-- What a change of a node's numbers leaves. -/
def NumSt (g : Gr) (w : World) (S : Nat → Prop) (p : Path) (d : Nd) (ns' : List Nat) (W : World) : Prop :=
  ∃ d' S', d'.nb = d.nb ∧ d'.ns = ns' ∧ NodesAt W (updG g p (some d')) S' ∧ Wf (updG g p (some d')) ∧ Since S w S' W

theorem numSt_of {w w1 : World} {S : Nat → Prop} {g : Gr} (H : NodesAt w g S) (hW : Wf g) {p : Path} {d : Nd} (hp : g p = some d) {a' : Option Addr} {c' m' : Nat} {ns' : List Nat} (hm : m' = ns'.length)
    (hr : w1.ownsRow 0 3 1 (.slice a' m' c') m' (ints (ni ns'))) (hT : Turned (fun k => ∃ y, d.a = some y ∧ k = y.block) w w1) (ha : ∀ y, a' = some y → (∃ z, d.a = some z ∧ y.block = z.block) ∨ w.heap.size ≤ y.block) :
    w1.cell? ⟨d.nb, 0, none⟩ = some (.slice d.a d.ns.length d.c) ∧ w1.frozen? ⟨d.nb, 0, none⟩ = false ∧ NumSt g w S p d ns' (w1.setCell ⟨d.nb, 0, none⟩ (.slice a' m' c')) := by
  subst hm
  have hd := H.node hp
  have hnS : ¬ ∃ y, d.a = some y ∧ d.nb = y.block := fun ⟨y, hy, e⟩ => hd.nb_row hd hy e
  have hb1 : Blk w1 d.nb [.slice d.a d.ns.length d.c, .map (some d.mb)] 72 := hd.blk.turned hT hnS
  have hb2 := hb1.set 0 (.slice a' ns'.length c')
  refine ⟨hb1.cell rfl, hb1.free 0, ?_⟩
  have hr2 : (w1.setCell ⟨d.nb, 0, none⟩ (.slice a' ns'.length c')).ownsRow 0 3 1 (.slice a' ns'.length c') ns'.length (ints (ni ns')) := row_of_eq hr (fun y hy => Below.heap_setCell _ _ _ _ (fun e => by
    have e' : y.block = d.nb := e
    rcases ha y hy with ⟨z, hz, e1⟩ | h1
    · exact hd.nb_row hd hz (by rw [← e', e1])
    · have := hd.blk.lt; omega))
  have hT2 : Turned (fun k => k = d.nb ∨ ∃ y, d.a = some y ∧ k = y.block) w (w1.setCell ⟨d.nb, 0, none⟩ (.slice a' ns'.length c')) := (hT.mono (fun k _ h => .inr h)).setCell (p := ⟨d.nb, 0, none⟩) (.inl (.inl rfl)) _
  obtain ⟨S', h1, h2, h3⟩ := H.nums hW hp a' c' ns' hb2 hr2 hT2 ha
  exact ⟨⟨d.nb, d.mb, a', c', ns'⟩, S', rfl, rfl, h1, h2, h3⟩

set_option maxHeartbeats 2000000 in
theorem yadd_any {w : World} {S : Nat → Prop} {g : Gr} (H : NodesAt w g S) (hW : Wf g) {p : Path} {d : Nd} (hp : g p = some d) (hr : Rises d.ns) (x : Nat) :
    Calls Tryz.prog 38 #[.pointer (some ⟨d.nb, 0, none⟩), .int .i64 (x : Nat)] w fun e w' => e = .returned (.tuple #[]) ∧ NumSt g w S p d (insN d.ns x) w' := by
  obtain ⟨c0, c1, hlook⟩ := H.cells hp
  have HS := Lib.hid (search_any (c := d.c) d.ns rfl (H.node hp).row hr.ni (by have := hr.len; omega) x)
  have HI := Lib.hid (fun V (hV : Still w V) => show Calls Tryz.prog 59 #[.slice d.a d.ns.length d.c, .int .i64 (plN d.ns x : Nat), .slice (some ⟨V.heap.size, 0, none⟩) 1 1] (V.alloc (.cells #[.int .i64 (x : Nat)] 3)) fun e w' =>
      ∃ a' c', e = .returned (.slice a' (d.ns.length + 1) c') ∧ w'.cell? ⟨d.nb, 0, none⟩ = some (.slice d.a d.ns.length d.c) ∧ w'.frozen? ⟨d.nb, 0, none⟩ = false ∧ NumSt g w S p d (insN d.ns x) (w'.setCell ⟨d.nb, 0, none⟩ (.slice a' (d.ns.length + 1) c')) from by
    have hA : Still w (V.alloc (.cells #[.int .i64 (x : Nat)] 3)) := hV.alloc _
    refine (ins10 (ow_still (H.node hp).row hA) (by rw [ni_length]) (plN_split hr.1 x).1 (by have := hr.len; omega) (Blk.new V [.int .i64 (x : Nat)] 3) (fun y hy e => ?_)).mono ?_
    · have := (ow_lt (H.node hp).row y hy).2
      have := hV.size
      omega
    · rintro e w' ⟨a', c', rfl, hown, hT, hat⟩
      rw [← ni_ins] at hown
      exact ⟨a', c', rfl, numSt_of H hW hp (insN_length hr.1 x).symm hown (hA.mono (fun _ _ h => h.elim) |>.trans hT) (fun y hy => (hat y hy).imp id (fun h => Nat.le_trans hA.size h))⟩)
  have HC := Lib.hid (fun V (h : Still w V) => show V.cell? ⟨d.nb, 0, none⟩ = some (.slice d.a d.ns.length d.c) from (h.cell (p := ⟨d.nb, 0, none⟩) (cell_lt c0) (fun h => h)).trans c0)
  clear H hW hp hr hlook c1
  generalize d.ns.length = m at *
  generalize hda : d.a = da at *
  generalize insN d.ns x = nn at *
  generalize plN d.ns x = pl at *
  clear hda
  go_enter Tryz.func38, Tryz.ntmps38
  go_wp2_with (first
    | (go_at_call 58; ((with_reducible refine HS.out.mono ?_)); rintro e w1 ⟨rfl, h1⟩; have cc1 := HC.out _ h1)
    | (go_at_call 59; ((with_reducible refine (HI.out _ h1).mono ?_)); rintro e w2 ⟨a', c', rfl, cc2, ff2, hfin⟩))
  go_end0
  exact ⟨rfl, hfin⟩

set_option maxHeartbeats 2000000 in
theorem yremove_any {w : World} {S : Nat → Prop} {g : Gr} (H : NodesAt w g S) (hW : Wf g) {p : Path} {d : Nd} (hp : g p = some d) (hr : Rises d.ns) (x : Nat) (hx : x ∈ d.ns) :
    Calls Tryz.prog 42 #[.pointer (some ⟨d.nb, 0, none⟩), .int .i64 (x : Nat)] w fun e w' => e = .returned (.tuple #[]) ∧ NumSt g w S p d (delN d.ns x) w' := by
  obtain ⟨c0, c1, hlook⟩ := H.cells hp
  have HS := Lib.hid (search_any (c := d.c) d.ns rfl (H.node hp).row hr.ni (by have := hr.len; omega) x)
  obtain ⟨hl1, hl2⟩ := delN_length hr.1 hx
  have hl3 := hr.len
  have hpl : plN d.ns x ≤ 256 := by omega
  have ha : ∃ gb, d.a = some ⟨gb, 0, none⟩ := by
    rcases ox_some (H.node hp).row with ⟨_, h1, _⟩ | h1
    · omega
    · exact h1
  obtain ⟨gb, hgb⟩ := ha
  have HI := Lib.hid (fun V (hV : Still w V) => show Calls Tryz.prog 61 #[.slice d.a d.ns.length d.c, .int .i64 (plN d.ns x : Nat), .int .i64 ((plN d.ns x : Int) + 1)] V fun e w' =>
      e = .returned (.slice d.a (d.ns.length - 1) d.c) ∧ w'.cell? ⟨d.nb, 0, none⟩ = some (.slice d.a d.ns.length d.c) ∧ w'.frozen? ⟨d.nb, 0, none⟩ = false ∧ NumSt g w S p d (delN d.ns x) (w'.setCell ⟨d.nb, 0, none⟩ (.slice d.a (d.ns.length - 1) d.c)) from by
    have hrow := ow_still (H.node hp).row hV
    rw [hgb] at hrow ⊢
    refine (del10 hrow (by rw [ni_length]) hl2).mono ?_
    rintro e w' ⟨rfl, hown, hT⟩
    rw [← ni_del] at hown
    have := numSt_of H hW hp (a' := some ⟨gb, 0, none⟩) (c' := d.c) (show d.ns.length - 1 = (delN d.ns x).length by omega) hown ((hV.mono (fun _ _ h => h.elim)).trans (hT.mono (fun k _ e => ⟨_, hgb, e⟩))) (fun y hy => .inl ⟨_, hgb, by cases hy; rfl⟩)
    rw [hgb] at this
    exact ⟨rfl, this⟩)
  have HC := Lib.hid (fun V (h : Still w V) => show V.cell? ⟨d.nb, 0, none⟩ = some (.slice d.a d.ns.length d.c) from (h.cell (p := ⟨d.nb, 0, none⟩) (cell_lt c0) (fun h => h)).trans c0)
  clear H hW hp hr hlook c1 hgb hl1 hl2 hl3 hx
  generalize d.ns.length = m at *
  generalize hda : d.a = da at *
  generalize delN d.ns x = nn at *
  generalize plN d.ns x = pl at *
  clear hda
  go_enter Tryz.func42, Tryz.ntmps42
  go_wp2_with (first
    | (go_at_call 58; ((with_reducible refine HS.out.mono ?_)); rintro e w1 ⟨rfl, h1⟩; have cc1 := HC.out _ h1)
    | (go_at_call 61; ((with_reducible refine (HI.out _ h1).mono ?_)); rintro e w2 ⟨rfl, cc2, ff2, hfin⟩))
  go_end0
  exact ⟨rfl, hfin⟩
end Go.Proofs.YtpmkokckjieidaaGreatDoor

/- What prune leaves: no beginning that has nothing below it any more. No condition but that the tree is one. -/
namespace Go.Proofs.YtpmkokckjieidaaGreatDoor
open Go.RowKit
set_option linter.unusedVariables false
set_option linter.unusedSimpArgs false
set_option maxRecDepth 100000

theorem NodesAt.drop {w w5 : World} {S : Nat → Prop} {g : Gr} (H : NodesAt w g S) (hW : Wf g) {p : Path} {d : Nd} {x : Txt} (hp : g p = some d) (hbare : ∀ l, g (p ++ [x] ++ [l]) = none)
    (hmap : MapIs w5 d.mb (updF (kidsOf g p) x none)) (ht : w.mapTurned w5 d.mb) :
    ∃ S', NodesAt w5 (updG g (p ++ [x]) none) S' ∧ Wf (updG g (p ++ [x]) none) ∧ Since S w S' w5 := by
  have hSd : S d.mb := (H.fp _).2 ⟨p, d, hp, .inr (.inl rfl)⟩
  have hne := snoc_ne p x
  have get : ∀ {r : Path} {e : Nd}, updG g (p ++ [x]) none r = some e → r ≠ p ++ [x] ∧ g r = some e := fun {r e} h => by
    by_cases hr : r = p ++ [x]
    · subst hr; rw [updG_same] at h; cases h
    · rw [updG_other _ _ hr] at h; exact ⟨hr, h⟩
  refine ⟨fun k => ∃ r e, updG g (p ++ [x]) none r = some e ∧ e.fp k, ⟨fun {r e} hr => ?_, fun k => Iff.rfl⟩, ⟨fun h1 h2 => hW.nb (get h1).2 (get h2).2, fun h1 h2 => hW.mb (get h1).2 (get h2).2, fun h1 h2 => hW.row (get h1).2 (get h2).2, ?_, ?_⟩, ⟨(mapTurned_turned ht).mono (fun k _ e => by rw [e]; exact hSd), fun k ⟨r, e, h1, h2⟩ => .inl ((H.fp k).2 ⟨r, e, (get h1).2, h2⟩)⟩⟩
  · obtain ⟨hne', hg⟩ := get hr
    have hn := H.node hg
    by_cases hrp : r = p
    · subst hrp
      rw [hp] at hg
      cases hg
      exact ⟨hn.blk.of_eq (mapTurned_other ht (hn.nb_mb hn)), row_of_eq hn.row (fun y hy => mapTurned_other ht (fun e => hn.mb_row hn hy e.symm)), by rw [kids_upd_same]; exact hmap⟩
    · have hh : NodeAt w5 g r e := hn.turned (fun k hk => mapTurned_other ht (fun e' => H.apart hW hg hp hrp hk (.inr (.inl e'))))
      exact ⟨hh.blk, hh.row, by rw [kids_upd_other hrp]; exact hh.map⟩
  · rw [updG_other _ _ (fun e => by have := congrArg List.length e; simp at this)]; exact hW.root
  · intro r l hr
    by_cases e : r ++ [l] = p ++ [x]
    · rw [e, updG_same] at hr; cases hr
    · rw [updG_other _ _ e] at hr
      rw [updG_other _ _ (fun e' => by rw [e', hbare] at hr; cases hr)]
      exact hW.up r l hr

structure PruneOf (g : Gr) (ls : Path) (g' : Gr) : Prop where
  off : ∀ p, ¬ p <+: ls → g' p = g p
  on : ∀ p d, g' p = some d → g p = some d
  gone : ∀ p d, g p = some d → g' p = none → d.ns = []
  fin : ∀ p d, p ≠ [] → p <+: ls → g' p = some d → d.ns = [] → ∃ l, (g' (p ++ [l])).isSome = true

/-- Under way: down to k levels are left. -/
def PruneSt (g : Gr) (w : World) (S : Nat → Prop) (ls : Path) (k : Nat) (wr : World) : Prop := ∃ g' S', Wf g' ∧ NodesAt wr g' S' ∧ Since S w S' wr ∧
  (∀ p, ¬ p <+: ls → g' p = g p) ∧ (∀ p d, g' p = some d → g p = some d) ∧ (∀ p d, g p = some d → g' p = none → d.ns = []) ∧ (g' (ls.take k)).isSome = true ∧ ∀ j, k < j → j ≤ ls.length → g' (ls.take j) = none
def PruneEnd (g : Gr) (w : World) (S : Nat → Prop) (ls : Path) (W : World) : Prop := ∃ g' S', PruneOf g ls g' ∧ Wf g' ∧ NodesAt W g' S' ∧ Since S w S' W

theorem prune_fin {g' : Gr} (hW : Wf g') {ls : Path} {k : Nat} (hk : k ≤ ls.length) (h1 : (g' (ls.take k)).isSome = true) (h2 : ∀ j, k < j → j ≤ ls.length → g' (ls.take j) = none)
    (h3 : k = 0 ∨ ∀ d, g' (ls.take k) = some d → ¬ (d.ns = [] ∧ ∀ l, g' (ls.take k ++ [l]) = none)) : ∀ p d, p ≠ [] → p <+: ls → g' p = some d → d.ns = [] → ∃ l, (g' (p ++ [l])).isSome = true := by
  intro p d hp hpl hg hn
  have hpe : p = ls.take p.length := (List.prefix_iff_eq_take.1 hpl)
  have hlen : p.length ≤ ls.length := hpl.length_le
  have h0 : 0 < p.length := List.length_pos_iff.2 hp
  rcases Nat.lt_trichotomy p.length k with h | h | h
  · obtain ⟨x, hx⟩ := get_some (l := ls) (i := p.length) (by omega)
    refine ⟨x, hW.pre ((ls.drop (p.length + 1)).take (k - (p.length + 1))) _ ?_⟩
    have e1 : p ++ [x] = ls.take (p.length + 1) := by rw [List.take_add_one, hx, ← hpe]; rfl
    rw [e1, show ls.take (p.length + 1) ++ (ls.drop (p.length + 1)).take (k - (p.length + 1)) = ls.take k from by
      rw [← List.take_add]; congr 1; omega]
    exact h1
  · rcases h3 with h3 | h3
    · omega
    · rw [← h, ← hpe] at h3
      have := h3 d hg
      cases hall : (Classical.propDecidable (∀ l, g' (p ++ [l]) = none)) with
      | isTrue ht => exact absurd ⟨hn, ht⟩ this
      | isFalse hf =>
        obtain ⟨l, hl⟩ := Classical.not_forall.1 hf
        exact ⟨l, by cases hh : g' (p ++ [l]) with
          | none => exact absurd hh hl
          | some _ => rfl⟩
  · rw [hpe, h2 _ h hlen] at hg; cases hg

set_option maxHeartbeats 4000000 in
theorem yprune_any {w : World} {S : Nat → Prop} {g : Gr} (H : NodesAt w g S) (hW : Wf g) {q : Nat} {d0 : Nd} (hq : w.cell? ⟨q, 0, none⟩ = some (.pointer (some ⟨d0.nb, 0, none⟩))) (hqS : ¬ S q) (h0 : g [] = some d0) (hR : ∀ p d, g p = some d → Rises d.ns) (ao : Option Addr) (n cap : Nat) (ls : Path) (hn : n = ls.length) (hA : TextsAt w ao ls) (hAS : ∀ x, ao = some x → ¬ S x.block) (hmax : n ≤ 1000) (hcap : SlW ao n cap) (hl : ∀ l ∈ ls, l.length ≤ 1000000) (hls : (g ls).isSome = true) :
    Calls Tryz.prog 43 #[.pointer (some ⟨q, 0, none⟩), .slice ao n cap] w fun e w' => e = .returned (.tuple #[]) ∧ PruneEnd g w S ls w' := by
  have HN := Lib.hid hn
  have HT := Lib.hid (show ls.take n = ls from List.take_of_length_le (by omega))
  have HI := Lib.hid (show PruneSt g w S ls n w from ⟨g, S, hW, H, Since.refl _ _, fun _ _ => rfl, fun _ _ h => h, fun p d h1 h2 => (by rw [h1] at h2; cases h2), by rw [List.take_of_length_le (by omega)]; exact hls, fun j h1 h2 => by omega⟩)
  have hcl := hcap.le
  -- what a round of any world finds
  have HAt := Lib.hid (fun (V : World) (g' : Gr) (S' : Nat → Prop) (h1 : NodesAt V g' S') (h2 : Wf g') (h3 : Since S w S' V) (h4 : ∀ p d, g' p = some d → g p = some d) (k : Nat) (hk : k ≤ n) => show Calls Tryz.prog 35 #[.pointer (some ⟨q, 0, none⟩), .slice ao k cap] V fun e w' => e = .returned (ptrV ((g' (ls.take k)).map Nd.nb)) ∧ w' = V from by
    have hq' : V.cell? ⟨q, 0, none⟩ = some (.pointer (some ⟨d0.nb, 0, none⟩)) := (h3.turn.cell (p := ⟨q, 0, none⟩) (cell_lt hq) hqS).trans hq
    have hroot : g' [] = some d0 := by
      have := h2.root
      cases hg : g' [] with
      | none => rw [hg] at this; cases this
      | some d => rw [h4 _ _ hg] at h0; rw [← h0]
    exact yat_any h1 h2 hq' hroot ao k cap (ls.take k) (by rw [List.length_take]; omega) ((hA.turned h3.turn hAS).take k) (by omega) (fun l hl' => hl l (List.mem_of_mem_take hl')))
  have HA := Lib.hid (fun (V : World) (S' : Nat → Prop) (h3 : Since S w S' V) => hA.turned h3.turn hAS)
  have HR := Lib.hid hR
  have HLl := Lib.hid hl
  clear hn H hW h0 hAS hls hl hA hR hcap
  go_enter Tryz.func43, Tryz.ntmps43
  go_wp2
  go_loopw [4] (fun i wr => ∃ k : Nat, k ≤ n ∧ i = .int .i64 ((k : Int) - 1) ∧ PruneSt g w S ls k wr) (fun i _ => (intOf i + 1).toNat)
  case atStart => exact ⟨n, Nat.le_refl _, by go_num, HI.out⟩
  case round =>
    obtain ⟨k, hk, rfl, hst⟩ := hrel
    have HSt := Lib.hid hst
    cases k with
    | zero =>
      have HE := Lib.hid (show PruneEnd g w S ls wr from by
        obtain ⟨g', S', h1, h2, h3, h4, h5, h6, h7, h8⟩ := hst
        exact ⟨g', S', ⟨h4, h5, h6, prune_fin h1 (Nat.zero_le _) h7 h8 (.inl rfl)⟩, h1, h2, h3⟩)
      clear hst
      simp only [show ((0 : Nat) : Int) - 1 = -1 by omega]
      go_wp2_with fail
      go_end0
      exact ⟨rfl, HE.out⟩
    | succ m =>
      obtain ⟨g', S', h1, h2, h3, h4, h5, h6, h7, h8⟩ := hst
      have hm1 : m + 1 ≤ n := hk
      obtain ⟨d, hd⟩ : ∃ d, g' (ls.take (m + 1)) = some d := by
        cases hg : g' (ls.take (m + 1)) with
        | none => rw [hg] at h7; cases h7
        | some d => exact ⟨d, rfl⟩
      have HC1 := Lib.hid (HAt.out wr g' S' h2 h1 h3 h5 (m + 1) hm1)
      rw [hd] at HC1
      simp only [Option.map_some, ptrV] at HC1
      have HB := Lib.hid (ybare_any h2 (fun p d hp => HR.out p d (h5 p d hp)) hd)
      rw [show ((m + 1 : Nat) : Int) - 1 = (m : Int) by omega]
      have hmn : (m : Int) + 1 ≤ cap := by omega
      by_cases hbare : d.ns = [] ∧ ∀ l, g' (ls.take (m + 1) ++ [l]) = none
      · have HB' := Lib.hid (HB.out.mono (R' := fun e w' => e = .returned (.bool true) ∧ w' = wr) (fun e w' ⟨⟨b, e1, e2⟩, e3⟩ => ⟨by rw [e1, e2.2 hbare], e3⟩))
        obtain ⟨x, hx⟩ := get_some (l := ls) (i := m) (by rw [← HN.out]; omega)
        have htk : ls.take (m + 1) = ls.take m ++ [x] := by rw [List.take_add_one, hx]; rfl
        obtain ⟨dp, hdp⟩ : ∃ dp, g' (ls.take m) = some dp := by
          have := h1.up (ls.take m) x (by rw [← htk, hd]; rfl)
          cases hg : g' (ls.take m) with
          | none => rw [hg] at this; cases this
          | some d => exact ⟨d, rfl⟩
        obtain ⟨b, o, rfl, hc⟩ := HA.out wr S' h3 m x hx
        have hxl : x.length ≤ maxLen := by have := HLl.out x (List.mem_of_getElem? hx); unfold maxLen; omega
        have h2d : NodesAt wr.drew g' S' := h2.still (Turned.refl _ _).drew
        have h3d : Since S w S' wr.drew := ⟨h3.turn.drew, h3.grow⟩
        have HC2 := Lib.hid (HAt.out wr.drew g' S' h2d h1 h3d h5 m (by omega))
        rw [hdp] at HC2
        simp only [Option.map_some, ptrV] at HC2
        obtain ⟨c0, c1, _⟩ := h2d.cells hdp
        obtain ⟨nn, D, ho, hf, _⟩ := (h2d.node hdp).map
        obtain ⟨w5, hdel, hown5, hturn5⟩ := ho.drop keysT Tryz.underlying70 (key_tx x hxl) 0
        have HF := Lib.hid (show PruneSt g w S ls m w5 from by
          obtain ⟨S5, r1, r2, r3⟩ := h2d.drop h1 hdp (x := x) (by rw [← htk]; exact hbare.2) (MapIs.del (w := wr) (n := 0) hf hown5) hturn5
          rw [← htk] at r1 r2
          refine ⟨_, S5, r2, r1, h3d.trans r3, fun p hp => ?_, fun p e hpe => ?_, fun p e hpe hn => ?_, ?_, fun j hj hjl => ?_⟩
          · rw [updG_other _ _ (fun e => hp (by rw [e]; exact List.take_prefix _ _))]; exact h4 p hp
          · by_cases e1 : p = ls.take (m + 1)
            · rw [e1, updG_same] at hpe; cases hpe
            · rw [updG_other _ _ e1] at hpe; exact h5 p e hpe
          · by_cases e1 : p = ls.take (m + 1)
            · have := h5 p d (by rw [e1]; exact hd)
              rw [this] at hpe; cases hpe
              exact hbare.1
            · rw [updG_other _ _ e1] at hn; exact h6 p e hpe hn
          · rw [updG_other _ _ (fun e => by have := congrArg List.length e; simp only [List.length_take] at this; have := HN.out; omega), hdp]; rfl
          · by_cases e1 : ls.take j = ls.take (m + 1)
            · rw [e1, updG_same]
            · rw [updG_other _ _ e1]
              exact h8 j (by
                rcases Nat.lt_or_ge (m + 1) j with h | h
                · exact h
                · exact absurd (by rw [show j = m + 1 by omega]) e1) hjl)
        have hcm : ∀ {bb oo : Nat} {v : Value}, wr.drew.cell? ⟨bb, oo, none⟩ = some v → w5.cell? ⟨bb, oo, none⟩ = some v := fun {bb oo v} hv => by
          obtain ⟨es, cl, hm⟩ := (h2d.node hdp).map.isMap
          have hne : bb ≠ dp.mb := fun e => by rw [e] at hv; unfold World.cell? at hv; simp only [hm] at hv; cases hv
          rw [← hv]
          exact World.cell?_of_block (w := wr.drew) (mapTurned_other hturn5 hne)
        have hw1 := hcm c1
        have hw2 := hcm (show wr.drew.cell? ⟨b, o + m, none⟩ = some (tx x) from hc)
        unfold tx at hc hdel hw2
        clear hcm
        clear h1 h2 h3 h4 h5 h6 h7 h8 hd HB hbare htk hdp hx hxl h2d h3d ho hf hown5 hturn5 HSt HAt HA c0
        have hcd : wr.drew.cell? ⟨b, o + m, none⟩ = some (.string ⟨x.toArray⟩) := hc
        have hb0 : (0 : Int) ≤ (m : Int) := by omega
        have hb1 : (m : Int) < (n : Int) := by omega
        have hb2 : (m : Int) ≤ (cap : Int) := by omega
        go_wp2_with (first
          | (go_at_call 35; ((with_reducible refine HC1.out.mono ?_)); rintro e w1 ⟨rfl, rfl⟩)
          | (go_at_call 62; ((with_reducible refine HB'.out.mono ?_)); rintro e w1 ⟨rfl, rfl⟩))
        go_region_held3 (fun V => V.cell? ⟨dp.nb, 1, none⟩ = some (.map (some dp.mb)) ∧ V.cell? ⟨b, o + m, none⟩ = some (.string ⟨x.toArray⟩)) (first | exact ⟨by assumption, by assumption⟩ | go_keep) (first | (go_at_call 35; ((with_reducible refine HC2.out.mono ?_)); rintro e w1 ⟨rfl, rfl⟩))
        go_wp2_with fail
        go_roundw
        case rel => exact ⟨m, by omega, by go_num, HF.out⟩
        case measure => first | (simp [intOf]; done) | (simp [intOf]; omega)
      · have HB' := Lib.hid (HB.out.mono (R' := fun e w' => e = .returned (.bool false) ∧ w' = wr) (fun e w' ⟨⟨b, e1, e2⟩, e3⟩ => ⟨by rw [e1]; cases b with
          | false => rfl
          | true => exact absurd (e2.1 rfl) hbare, e3⟩))
        have HE := Lib.hid (show PruneEnd g w S ls wr from ⟨g', S', ⟨h4, h5, h6, prune_fin h1 (by rw [← HN.out]; exact hm1) h7 h8 (.inr (fun d' hd' => by rw [hd] at hd'; cases hd'; exact hbare))⟩, h1, h2, h3⟩)
        clear h1 h2 h3 h4 h5 h6 h7 h8 hd HB hbare HSt HAt HA
        go_wp2_with (first
          | (go_at_call 35; ((with_reducible refine HC1.out.mono ?_)); rintro e w1 ⟨rfl, rfl⟩)
          | (go_at_call 62; ((with_reducible refine HB'.out.mono ?_)); rintro e w1 ⟨rfl, rfl⟩))
        go_end0
        exact ⟨rfl, HE.out⟩
end Go.Proofs.YtpmkokckjieidaaGreatDoor

/- The program's tree of filters in memory: what its nodes say of its pairs. No condition. -/
namespace Go.Proofs.YtpmkokckjieidaaGreatDoor
open Go.RowKit
set_option linter.unusedVariables false
set_option linter.unusedSimpArgs false
set_option maxRecDepth 100000

/-- The nodes are the root and the beginnings of filters; each has the numbers of the filter that ends there. -/
structure GL (g : Gr) (L : List Pr) : Prop where
  node : ∀ p, (g p).isSome = true ↔ p = [] ∨ ∃ q ∈ L, p <+: spl q.1
  nums : ∀ p d, g p = some d → Rises d.ns ∧ ∀ n, n ∈ d.ns ↔ ∃ f, spl f = p ∧ (f, n) ∈ L

theorem spl_inj {f f' : Txt} (h : spl f = spl f') : f = f' := by rw [← jn_spl f, ← jn_spl f', h]

theorem GL.no {g : Gr} {L : List Pr} (h : GL g L) {f : Txt} (hg : g (spl f) = none) (n : Nat) : (f, n) ∉ L := fun hm => by
  have := (h.node (spl f)).2 (.inr ⟨_, hm, List.prefix_refl _⟩)
  rw [hg] at this; cases this
theorem GL.has {g : Gr} {L : List Pr} (h : GL g L) (f : Txt) (n : Int) : hasN g (spl f) n = hasP L f n := by
  unfold hasN hasP
  cases hg : g (spl f) with
  | none =>
    refine (decide_eq_false (fun hh => ?_)).symm
    exact h.no hg _ hh.2
  | some d =>
    simp only
    rw [ni_has]
    refine decide_eq_decide.2 ⟨fun ⟨h1, h2⟩ => ⟨h1, ?_⟩, fun ⟨h1, h2⟩ => ⟨h1, ?_⟩⟩
    · obtain ⟨f', e, hm⟩ := ((h.nums _ d hg).2 _).1 h2
      rwa [spl_inj e] at hm
    · exact ((h.nums _ d hg).2 _).2 ⟨f, rfl, h2⟩
theorem GL.rises {g : Gr} {L : List Pr} (h : GL g L) : ∀ p d, g p = some d → Rises d.ns := fun p d hp => (h.nums p d hp).1
/-- So many below a node at most. -/
theorem GL.small {g : Gr} {L : List Pr} (h : GL g L) (hL : TOk L) (p : Path) : ∃ K : List Txt, K.length ≤ 100000 ∧ ∀ l, (g (p ++ [l])).isSome = true → l ∈ K := by
  refine ⟨L.map (fun q => ((spl q.1)[p.length]?).getD []), by rw [List.length_map]; have := hL.len; omega, fun l hl => ?_⟩
  rcases (h.node _).1 hl with h1 | ⟨q, hq, r, hr⟩
  · have := congrArg List.length h1; simp at this
  · refine List.mem_map.2 ⟨q, hq, ?_⟩
    rw [← hr]
    simp

/-- The empty tree. -/
theorem GL.empty (d : Nd) (hd : d.ns = []) : GL (fun p => if p = [] then some d else none) [] :=
  ⟨fun p => by by_cases h : p = [] <;> simp [h], fun p e h => by
    by_cases hp : p = []
    · simp only [hp, if_true, Option.some.injEq] at h
      subst h
      rw [hd]
      exact ⟨⟨List.Pairwise.nil, by simp⟩, by simp⟩
    · simp [hp] at h⟩

/-- A pair more. -/
theorem GL.put {g g' : Gr} {L : List Pr} (h : GL g L) {f : Txt} {x : Nat} {d d' : Nd} (hW : Wf g') (hG : GrowOf g (spl f) g') (hd : g' (spl f) = some d) (hx : x < 256) (hn : (f, x) ∉ L) (hd' : d'.ns = insN d.ns x) :
    GL (updG g' (spl f) (some d')) (L ++ [(f, x)]) := by
  have hold : ∀ p, (g' p).isSome = true ↔ (g p).isSome = true ∨ p <+: spl f := fun p => by
    constructor
    · intro h1
      cases hg : g p with
      | some e => exact .inl rfl
      | none =>
        cases hg' : g' p with
        | none => rw [hg'] at h1; cases h1
        | some e => exact .inr (hG.new p e hg hg').1
    · rintro (h1 | ⟨r, hr⟩)
      · cases hg : g p with
        | none => rw [hg] at h1; cases h1
        | some e => rw [hG.old p e hg]; rfl
      · exact hW.pre r p (by rw [hr]; exact hG.all)
  have hsome : ∀ p, (updG g' (spl f) (some d') p).isSome = (g' p).isSome := fun p => by
    by_cases e : p = spl f
    · rw [e, updG_same, hd]; rfl
    · rw [updG_other _ _ e]
  refine ⟨fun p => ?_, fun p e hp => ?_⟩
  · rw [hsome, hold, h.node]
    constructor
    · rintro ((h1 | ⟨q, hq, h1⟩) | h1)
      · exact .inl h1
      · exact .inr ⟨q, List.mem_append_left _ hq, h1⟩
      · exact .inr ⟨(f, x), by simp, h1⟩
    · rintro (h1 | ⟨q, hq, h1⟩)
      · exact .inl (.inl h1)
      · rcases List.mem_append.1 hq with hq | hq
        · exact .inl (.inr ⟨q, hq, h1⟩)
        · simp at hq; subst hq; exact .inr h1
  · by_cases e1 : p = spl f
    · subst e1
      rw [updG_same] at hp
      cases hp
      have hdn : Rises d.ns ∧ ∀ n, n ∈ d.ns ↔ (f, n) ∈ L := by
        cases hg : g (spl f) with
        | none =>
          have := (hG.new _ d hg hd).2
          rw [this]
          exact ⟨⟨List.Pairwise.nil, by simp⟩, fun n => by simp; exact h.no hg n⟩
        | some d0 =>
          have e2 := hG.old _ d0 hg
          rw [hd] at e2; cases e2
          refine ⟨(h.nums _ d hg).1, fun n => ?_⟩
          rw [(h.nums _ d hg).2]
          exact ⟨fun ⟨f', e, hm⟩ => by rwa [spl_inj e] at hm, fun hm => ⟨f, rfl, hm⟩⟩
      rw [hd']
      refine ⟨hdn.1.ins hx (fun hm => hn ((hdn.2 x).1 hm)), fun n => ?_⟩
      rw [insN_mem, hdn.2]
      constructor
      · rintro (h1 | rfl)
        · exact ⟨f, rfl, List.mem_append_left _ h1⟩
        · exact ⟨f, rfl, by simp⟩
      · rintro ⟨f', e, hm⟩
        rw [spl_inj e] at hm
        rcases List.mem_append.1 hm with hm | hm
        · exact .inl hm
        · simp at hm; exact .inr hm
    · rw [updG_other _ _ e1] at hp
      have hnew : ∀ n, (∃ f', spl f' = p ∧ (f', n) ∈ L ++ [(f, x)]) ↔ ∃ f', spl f' = p ∧ (f', n) ∈ L := fun n => by
        constructor
        · rintro ⟨f', e, hm⟩
          rcases List.mem_append.1 hm with hm | hm
          · exact ⟨f', e, hm⟩
          · simp at hm; exact absurd (by rw [← e, hm.1]) e1
        · rintro ⟨f', e, hm⟩; exact ⟨f', e, List.mem_append_left _ hm⟩
      cases hg : g p with
      | some e0 =>
        have e2 := hG.old _ e0 hg
        rw [hp] at e2; cases e2
        exact ⟨(h.nums _ e hg).1, fun n => by rw [hnew, (h.nums _ e hg).2]⟩
      | none =>
        have := (hG.new _ e hg hp).2
        rw [this]
        refine ⟨⟨List.Pairwise.nil, by simp⟩, fun n => ?_⟩
        rw [hnew]
        simp only [List.not_mem_nil, false_iff, not_exists, not_and]
        rintro f' rfl
        exact h.no hg n

/-- A pair less. -/
theorem GL.take {g g2 : Gr} {L : List Pr} (h : GL g L) (hL : L.Nodup) {f : Txt} {x : Nat} {d d' : Nd} (hW : Wf g2) (hd : g (spl f) = some d) (hx : (f, x) ∈ L) (hd' : d'.ns = delN d.ns x) (hP : PruneOf (updG g (spl f) (some d')) (spl f) g2) :
    GL g2 (L.erase (f, x)) := by
  have hmem : ∀ q, q ∈ L.erase (f, x) ↔ q ∈ L ∧ q ≠ (f, x) := fun q => by rw [hL.mem_erase_iff]; exact and_comm
  have hsame : ∀ p, (updG g (spl f) (some d') p).isSome = (g p).isSome := fun p => by
    by_cases e : p = spl f
    · rw [e, updG_same, hd]; rfl
    · rw [updG_other _ _ e]
  have hxd : x ∈ d.ns := ((h.nums _ d hd).2 x).2 ⟨f, rfl, hx⟩
  obtain ⟨hR, hdm⟩ := (h.nums _ d hd).1.del hxd
  have hnums : ∀ p e, updG g (spl f) (some d') p = some e → Rises e.ns ∧ ∀ n, n ∈ e.ns ↔ ∃ f', spl f' = p ∧ (f', n) ∈ L.erase (f, x) := fun p e hp => by
    by_cases e1 : p = spl f
    · subst e1
      rw [updG_same] at hp; cases hp
      rw [hd']
      refine ⟨hR, fun n => ?_⟩
      rw [hdm, (h.nums _ d hd).2]
      constructor
      · rintro ⟨⟨f', e, hm⟩, hne⟩
        exact ⟨f', e, (hmem _).2 ⟨hm, fun e' => hne (by injection e')⟩⟩
      · rintro ⟨f', e, hm⟩
        obtain ⟨h1, h2⟩ := (hmem _).1 hm
        exact ⟨⟨f', e, h1⟩, fun e' => h2 (by rw [spl_inj e, e'])⟩
    · rw [updG_other _ _ e1] at hp
      refine ⟨(h.nums _ e hp).1, fun n => ?_⟩
      rw [(h.nums _ e hp).2]
      constructor
      · rintro ⟨f', e, hm⟩
        exact ⟨f', e, (hmem _).2 ⟨hm, fun e' => e1 (by rw [← e]; injection e' with e' _; rw [e'])⟩⟩
      · rintro ⟨f', e, hm⟩
        exact ⟨f', e, ((hmem _).1 hm).1⟩
  have hroot : (g2 []).isSome = true := hW.root
  -- a pair that is left keeps its beginnings
  have keep : ∀ q, q ∈ L.erase (f, x) → (g2 (spl q.1)).isSome = true := fun q hq => by
    have hq' := ((hmem q).1 hq).1
    have h1 : (updG g (spl f) (some d') (spl q.1)).isSome = true := by rw [hsame]; exact (h.node _).2 (.inr ⟨q, hq', List.prefix_refl _⟩)
    obtain ⟨e, he⟩ := Option.isSome_iff_exists.1 h1
    cases hg : g2 (spl q.1) with
    | some _ => rfl
    | none =>
      have := hP.gone _ e he hg
      have hm := ((hnums _ e he).2 q.2).2 ⟨q.1, rfl, hq⟩
      rw [this] at hm; simp at hm
  -- a node that is left has a pair below
  have below : ∀ (k : Nat) (p : Path) (e : Nd), (spl f).length ≤ p.length + k → p ≠ [] → g2 p = some e → ∃ q ∈ L.erase (f, x), p <+: spl q.1 := by
    intro k
    induction k with
    | zero =>
      intro p e hk hp he
      have he1 := hP.on p e he
      by_cases hpl : p <+: spl f
      · by_cases hns : e.ns = []
        · obtain ⟨l, hl⟩ := hP.fin p e hp hpl he hns
          obtain ⟨e2, he2⟩ := Option.isSome_iff_exists.1 hl
          have hnp : ¬ (p ++ [l]) <+: spl f := fun hh => by have := hh.length_le; simp at this; omega
          have h1 := hP.off _ hnp
          have h2 : (g (p ++ [l])).isSome = true := by rw [← hsame, ← h1, he2]; rfl
          rcases (h.node _).1 h2 with h3 | ⟨q, hq, h3⟩
          · have := congrArg List.length h3; simp at this
          · refine ⟨q, (hmem q).2 ⟨hq, fun e' => hnp (by rw [e'] at h3; exact h3)⟩, (List.prefix_append _ _).trans h3⟩
        · obtain ⟨n, hn⟩ := List.exists_mem_of_ne_nil _ hns
          obtain ⟨f', e', hm⟩ := ((hnums p e he1).2 n).1 hn
          exact ⟨_, hm, by rw [e']; exact List.prefix_refl _⟩
      · have h1 := hP.off _ hpl
        have h2 : (g p).isSome = true := by rw [← hsame, ← h1, he]; rfl
        rcases (h.node _).1 h2 with h3 | ⟨q, hq, h3⟩
        · exact absurd h3 hp
        · exact ⟨q, (hmem q).2 ⟨hq, fun e' => hpl (by rw [e'] at h3; exact h3)⟩, h3⟩
    | succ k ih =>
      intro p e hk hp he
      have he1 := hP.on p e he
      by_cases hpl : p <+: spl f
      · by_cases hns : e.ns = []
        · obtain ⟨l, hl⟩ := hP.fin p e hp hpl he hns
          obtain ⟨e2, he2⟩ := Option.isSome_iff_exists.1 hl
          obtain ⟨q, hq, h3⟩ := ih (p ++ [l]) e2 (by simp; omega) (by simp) he2
          exact ⟨q, hq, (List.prefix_append _ _).trans h3⟩
        · obtain ⟨n, hn⟩ := List.exists_mem_of_ne_nil _ hns
          obtain ⟨f', e', hm⟩ := ((hnums p e he1).2 n).1 hn
          exact ⟨_, hm, by rw [e']; exact List.prefix_refl _⟩
      · have h1 := hP.off _ hpl
        have h2 : (g p).isSome = true := by rw [← hsame, ← h1, he]; rfl
        rcases (h.node _).1 h2 with h3 | ⟨q, hq, h3⟩
        · exact absurd h3 hp
        · exact ⟨q, (hmem q).2 ⟨hq, fun e' => hpl (by rw [e'] at h3; exact h3)⟩, h3⟩
  refine ⟨fun p => ⟨fun hp => ?_, fun hp => ?_⟩, fun p e hp => hnums p e (hP.on p e hp)⟩
  · by_cases h0 : p = []
    · exact .inl h0
    · obtain ⟨e, he⟩ := Option.isSome_iff_exists.1 hp
      exact .inr (below (spl f).length p e (by omega) h0 he)
  · rcases hp with rfl | ⟨q, hq, r, hr⟩
    · exact hroot
    · exact hW.pre r p (by rw [hr]; exact keep q hq)

/-- The tree in memory. -/
structure TreeIn (w : World) (q : Nat) (L : List Pr) (g : Gr) (d0 : Nd) (S : Nat → Prop) : Prop where
  wf : Wf g
  gl : GL g L
  root : g [] = some d0
  blk : Blk w q [.pointer (some ⟨d0.nb, 0, none⟩), .int .i64 (L.length : Nat)] 57
  nodes : NodesAt w g S
  out : ¬ S q
def tT (q : Nat) (L : List Pr) : Thing where
  at_ w W := ∃ g d0 S, TreeIn w q L g d0 S ∧ ∀ k, W k ↔ k = q ∨ S k
  lt := by
    rintro w W ⟨g, d0, S, h, hW⟩ k hk
    rcases (hW k).1 hk with rfl | h1
    · exact h.blk.lt
    · exact h.nodes.lt h1
  keep := by
    rintro w w' W S ⟨g, d0, S', h, hW⟩ ht hs
    exact ⟨g, d0, S', ⟨h.wf, h.gl, h.root, h.blk.turned ht (hs q ((hW q).2 (.inl rfl))), h.nodes.turned (fun k hk => ht.block k (h.nodes.lt hk) (hs k ((hW k).2 (.inr hk)))), h.out⟩, hW⟩
theorem TreeIn.still {w w' : World} {q : Nat} {L : List Pr} {g : Gr} {d0 : Nd} {S : Nat → Prop} (h : TreeIn w q L g d0 S) (ht : Still w w') : TreeIn w' q L g d0 S :=
  ⟨h.wf, h.gl, h.root, h.blk.turned ht (fun h => h), h.nodes.still ht, h.out⟩
/-- The tree depends on its pairs alone, not on their order. -/
theorem tT_perm {q : Nat} {L L' : List Pr} (hm : ∀ x, x ∈ L ↔ x ∈ L') (hl : L.length = L'.length) {w : World} {W : Nat → Prop} (h : (tT q L).at_ w W) : (tT q L').at_ w W := by
  obtain ⟨g, d0, S, h, hW⟩ := h
  refine ⟨g, d0, S, ⟨h.wf, ⟨fun p => ?_, fun p d hp => ⟨(h.gl.nums p d hp).1, fun n => ?_⟩⟩, h.root, by rw [← hl]; exact h.blk, h.nodes, h.out⟩, hW⟩
  · rw [h.gl.node]; simp only [hm]
  · rw [(h.gl.nums p d hp).2]; simp only [hm]
end Go.Proofs.YtpmkokckjieidaaGreatDoor

/- Putting a pair into the program's tree, and taking one. No condition but that the tree is one, and that texts are not too long. -/
namespace Go.Proofs.YtpmkokckjieidaaGreatDoor
open Go.RowKit
set_option linter.unusedVariables false
set_option linter.unusedSimpArgs false
set_option maxRecDepth 100000

theorem ymade_any {w : World} {q b : Nat} (c0 : w.cell? ⟨q, 0, none⟩ = some (.pointer (some ⟨b, 0, none⟩))) : Calls Tryz.prog 46 #[.pointer (some ⟨q, 0, none⟩)] w fun e w' => e = .returned (.bool true) ∧ w' = w := by
  go_enter Tryz.func46, Tryz.ntmps46
  go_wp2
  go_ret
  exact ⟨rfl, rfl⟩

set_option maxHeartbeats 1000000 in
theorem ylevels_any {w : World} {q b : Nat} (c0 : w.cell? ⟨q, 0, none⟩ = some (.pointer (some ⟨b, 0, none⟩))) (f : Txt) (hf : f.length ≤ 300) : Calls Tryz.prog 44 #[.pointer (some ⟨q, 0, none⟩), tx f] w (FlvFr w f (flv f).length) := by
  have HM := Lib.hid (ymade_any c0)
  have HF := Lib.hid (flevels_fr f w hf)
  generalize (flv f).length = n at *
  have HQ := Lib.hid (show ∀ e w', FlvFr w f n e w' → ∃ a c, e = .returned (.tuple #[.slice a n c, .int .i64 (fcE f)]) ∧ FlvFr w f n (.returned (.tuple #[.slice a n c, .int .i64 (fcE f)])) w' from fun e w' ⟨a, c, h1, h2⟩ => ⟨a, c, h1, a, c, rfl, h2⟩)
  generalize fcE f = er at HQ
  clear hf
  unfold tx at *
  go_enter Tryz.func44, Tryz.ntmps44
  go_wp2_with (first
    | (go_at_call 46; ((with_reducible refine HM.out.mono ?_)); rintro e w1 ⟨rfl, rfl⟩)
    | (go_at_call 63; ((with_reducible refine HF.out.mono ?_)); intro e w2 h2; obtain ⟨a, c, rfl, h3⟩ := HQ.out e w2 h2))
  go_ret2
  exact h3

/-- What pair answers. -/
def pE (f : Txt) (n : Int) : Int := if fcE f ≠ 0 then 90 else if n < 0 ∨ 256 ≤ n then 2 else 0
def PairPost (w : World) (f : Txt) (n : Int) (e : Ending) (w' : World) : Prop :=
  ∃ a k c, e = .returned (.tuple #[.slice a k c, .int .i64 (pE f n)]) ∧ (pE f n = 0 → k = (spl f).length ∧ TextsAt w' a (spl f) ∧ SlW a k c ∧ ∀ x, a = some x → w.heap.size ≤ x.block) ∧ Still w w'

set_option maxHeartbeats 1000000 in
theorem ypair_any {w : World} {q b : Nat} (c0 : w.cell? ⟨q, 0, none⟩ = some (.pointer (some ⟨b, 0, none⟩))) (f : Txt) (n : Int) (hf : f.length ≤ 300) (hn : i64w n) : Calls Tryz.prog 34 #[.pointer (some ⟨q, 0, none⟩), tx f, .int .i64 n] w (PairPost w f n) := by
  have HL := Lib.hid (ylevels_any c0 f hf)
  obtain ⟨hn1, hn2⟩ := hn
  rcases fcE_or f with h0 | h0
  · have hl := flv_ok h0
    have HF := Lib.hid (show ∀ e w', FlvFr w f (flv f).length e w' → ∃ a k c, e = .returned (.tuple #[.slice a k c, .int .i64 0]) ∧ (k = (spl f).length ∧ TextsAt w' a (spl f) ∧ SlW a k c ∧ ∀ x, a = some x → w.heap.size ≤ x.block) ∧ Still w w' from fun e w' ⟨a, c, h1, h2, h3, h4, h5⟩ => ⟨a, (flv f).length, c, by rw [h1, h0], ⟨by rw [hl], by rw [← hl]; exact h2, h3, h5⟩, h4⟩)
    by_cases hb : n < 0 ∨ 256 ≤ n
    · have HE := Lib.hid (show ∀ w', Still w w' → PairPost w f n (.returned (.tuple #[.slice none 0 0, .int .i64 2])) w' from fun w' h => ⟨none, 0, 0, by simp [pE, h0, hb], fun h => by simp [pE, h0, hb] at h, h⟩)
      generalize (flv f).length = m at *
      clear h0 hl hf
      unfold tx at *
      rcases hb with hb | hb
      · go_enter Tryz.func34, Tryz.ntmps34
        go_wp2_with (go_at_call 44; ((with_reducible refine HL.out.mono ?_)); intro e w2 h2; obtain ⟨a, k, c, rfl, h3, h4⟩ := HF.out e w2 h2; have H3 := Lib.hid h3; clear h3)
        go_ret2
        exact HE.out _ h4
      · have hb0 : ¬ n < 0 := by omega
        go_enter Tryz.func34, Tryz.ntmps34
        go_wp2_with (go_at_call 44; ((with_reducible refine HL.out.mono ?_)); intro e w2 h2; obtain ⟨a, k, c, rfl, h3, h4⟩ := HF.out e w2 h2; have H3 := Lib.hid h3; clear h3)
        go_ret2
        exact HE.out _ h4
    · have HE := Lib.hid (show ∀ w' a k c, (k = (spl f).length ∧ TextsAt w' a (spl f) ∧ SlW a k c ∧ ∀ x, a = some x → w.heap.size ≤ x.block) → Still w w' → PairPost w f n (.returned (.tuple #[.slice a k c, .int .i64 0])) w' from fun w' a k c h1 h2 => ⟨a, k, c, by simp [pE, h0, hb], fun _ => h1, h2⟩)
      have hb0 : ¬ n < 0 := by omega
      have hb1 : ¬ 256 ≤ n := by omega
      generalize (flv f).length = m at *
      clear h0 hl hf hb
      unfold tx at *
      go_enter Tryz.func34, Tryz.ntmps34
      go_wp2_with (go_at_call 44; ((with_reducible refine HL.out.mono ?_)); intro e w2 h2; obtain ⟨a, k, c, rfl, h3, h4⟩ := HF.out e w2 h2; have H3 := Lib.hid h3; clear h3)
      go_ret2
      exact HE.out _ _ _ _ H3.out h4
  · have HF := Lib.hid (show ∀ e w', FlvFr w f (flv f).length e w' → ∃ a k c, e = .returned (.tuple #[.slice a k c, .int .i64 90]) ∧ Still w w' from fun e w' ⟨a, c, h1, h2, h3, h4, h5⟩ => ⟨a, (flv f).length, c, by rw [h1, h0], h4⟩)
    have HE := Lib.hid (show ∀ w', Still w w' → PairPost w f n (.returned (.tuple #[.slice none 0 0, .int .i64 90])) w' from fun w' h => ⟨none, 0, 0, by simp [pE, h0], fun h => by simp [pE, h0] at h, h⟩)
    generalize (flv f).length = m at *
    clear h0 hf
    unfold tx at *
    go_enter Tryz.func34, Tryz.ntmps34
    go_wp2_with (go_at_call 44; ((with_reducible refine HL.out.mono ?_)); intro e w2 h2; obtain ⟨a, k, c, rfl, h3⟩ := HF.out e w2 h2)
    go_ret2
    exact HE.out _ h3

theorem pE_put (L : List Pr) (f : Txt) (n : Int) (h : pE f n ≠ 0) : ptE L f n = pE f n ∧ tkE L f n = pE f n := by
  unfold pE at h ⊢
  unfold ptE tkE
  by_cases h1 : fcE f ≠ 0
  · simp [h1]
  · by_cases h2 : n < 0 ∨ 256 ≤ n
    · simp [h1, h2]
    · simp [h1, h2] at h
theorem pE_ok {f : Txt} {n : Int} (h : pE f n = 0) : fcE f = 0 ∧ 0 ≤ n ∧ n < 256 := by
  unfold pE at h
  split at h
  · omega
  · split at h
    · omega
    · rename_i h1 h2
      exact ⟨by simpa using h1, by omega, by omega⟩
theorem spl_each {f : Txt} (h : f.length ≤ 300) : ∀ l ∈ spl f, l.length ≤ 1000000 := fun l hl => by
  have := mem_jn_len hl
  rw [jn_spl] at this
  omega
theorem spl_short {f : Txt} (h : f.length ≤ 300) : (spl f).length ≤ 1000 := by have := (spl_len f).2; omega

/-- What the tree is, at any world that has only more. -/
theorem TreeIn.at' {w : World} {q : Nat} {L : List Pr} {g : Gr} {d0 : Nd} {S : Nat → Prop} (h : TreeIn w q L g d0 S) {w' : World} (ht : Still w w') (ao : Option Addr) (k cap : Nat) (f : Txt) (hf : f.length ≤ 300) (hk : k = (spl f).length) (hA : TextsAt w' ao (spl f)) :
    Calls Tryz.prog 35 #[.pointer (some ⟨q, 0, none⟩), .slice ao k cap] w' fun e w2 => e = .returned (ptrV ((g (spl f)).map Nd.nb)) ∧ w2 = w' :=
  have h' := h.still ht
  yat_any h'.nodes h'.wf (h'.blk.cell rfl) h'.root ao k cap (spl f) hk hA (by rw [hk]; exact spl_short hf) (spl_each hf)

/-- What the last two calls of Put leave, and the store behind them. -/
theorem tree_add {w : World} {W : Nat → Prop} {q : Nat} {L : List Pr} {g : Gr} {d0 : Nd} {S : Nat → Prop} (hI : TreeIn w q L g d0 S) (hW : ∀ k, W k ↔ k = q ∨ S k) {f : Txt} {x : Nat} (hok : ptE L f (x : Nat) = 0) (hx : x < 256) (hn : (f, x) ∉ L)
    {w3 : World} (h3 : Still w w3) {nb : Nat} {w4 : World} (hst : GrowSt g w3 S (spl f) nb w4) :
    Calls Tryz.prog 38 #[.pointer (some ⟨nb, 0, none⟩), .int .i64 (x : Nat)] w4 fun e w5 => e = .returned (.tuple #[]) ∧ w5.cell? ⟨q, 1, none⟩ = some (.int .i64 (L.length : Nat)) ∧ w5.frozen? ⟨q, 1, none⟩ = false ∧ Goes (tT q (putL L f (x : Nat))) W w (w5.setCell ⟨q, 1, none⟩ (.int .i64 ((L.length : Int) + 1))) := by
  obtain ⟨g', S', d, hG, hW', hN', hSi, hgd, rfl⟩ := hst
  have hr : Rises d.ns := by
    cases hg : g (spl f) with
    | some e =>
      have := hG.old _ e hg
      rw [hgd] at this; cases this
      exact hI.gl.rises _ _ hg
    | none => rw [(hG.new _ d hg hgd).2]; exact ⟨List.Pairwise.nil, by simp⟩
  refine (yadd_any hN' hW' hgd hr x).mono ?_
  rintro e w5 ⟨rfl, d', S'', e1, e2, hN5, hW5, hS5⟩
  have hSall : Since S w S'' w5 := by
    have h0 : Since S w S w3 := ⟨h3.mono (fun _ _ h => h.elim), fun _ h => .inl h⟩
    exact (h0.trans hSi).trans hS5
  have hb5 : Blk w5 q [.pointer (some ⟨d0.nb, 0, none⟩), .int .i64 (L.length : Nat)] 57 := hI.blk.turned hSall.turn hI.out
  have hq5 : ¬ S'' q := fun h => by
    rcases hSall.grow q h with h | h
    · exact hI.out h
    · have := hI.blk.lt; omega
  refine ⟨rfl, hb5.cell rfl, hb5.free 1, ?_⟩
  have e3 : putL L f (x : Nat) = L ++ [(f, x)] := by unfold putL; rw [if_pos hok]; simp
  rw [e3]
  have hT : Turned (· = q) w5 (w5.setCell ⟨q, 1, none⟩ (.int .i64 ((L.length : Int) + 1))) := turned_set (Turned.refl _ _) 1 _
  obtain ⟨d1, hd1, hd1n⟩ : ∃ d1, updG g' (spl f) (some d') [] = some d1 ∧ d1.nb = d0.nb := by
    rw [updG_other _ _ (spl_ne f).symm]
    exact ⟨d0, hG.old _ _ hI.root, rfl⟩
  refine ⟨fun k => k = q ∨ S'' k, ⟨_, d1, S'', ⟨hW5, hI.gl.put hW' hG hgd hx hn e2, hd1, ?_, hN5.turned (fun k hk => hT.block k (hN5.lt hk) (fun e => hq5 (e ▸ hk))), hq5⟩, fun k => Iff.rfl⟩, ?_, fun k hk => ?_⟩
  · have := hb5.set 1 (.int .i64 ((L.length : Int) + 1))
    rw [hd1n]
    simpa using this
  · exact (hSall.turn.mono (fun k _ h => (hW k).2 (.inr h))).trans ⟨hT.os, hT.tape, hT.output, hT.size, fun k hk hs => hT.block k hk (fun e => hs ((hW k).2 (.inl e)))⟩
  · rcases hk with hk | hk
    · exact .inl ((hW k).2 (.inl hk))
    · exact (hSall.grow k hk).imp (fun h => (hW k).2 (.inr h)) id

set_option maxHeartbeats 4000000 in
theorem yput_any {w : World} {W : Nat → Prop} {q : Nat} {L : List Pr} (H : (tT q L).at_ w W) (hL : TOk L) (f : Txt) (n : Int) (hf : f.length ≤ 300) (hn : i64w n) :
    Calls Tryz.prog 13 #[.pointer (some ⟨q, 0, none⟩), tx f, .int .i64 n] w fun e w' => e = .returned (.int .i64 (ptE L f n)) ∧ Goes (tT q (putL L f n)) W w w' := by
  obtain ⟨g, d0, S, hI, hW⟩ := H
  have HH := Lib.hid hI
  have hc0 := hI.blk.cell (o := 0) rfl
  have HP := Lib.hid (ypair_any hc0 f n hf hn)
  by_cases hp : pE f n = 0
  · obtain ⟨hf0, hn0, hn1⟩ := pE_ok hp
    have HF := Lib.hid (show ∀ e w', PairPost w f n e w' → ∃ a k c, e = .returned (.tuple #[.slice a k c, .int .i64 0]) ∧ (k = (spl f).length ∧ TextsAt w' a (spl f) ∧ SlW a k c ∧ ∀ x, a = some x → w.heap.size ≤ x.block) ∧ Still w w' from fun e w' ⟨a, k, c, h1, h2, h3⟩ => ⟨a, k, c, by rw [h1, hp], h2 hp, h3⟩)
    have HAt := Lib.hid (fun w1 a k c (h1 : Still w w1) (h2 : k = (spl f).length ∧ TextsAt w1 a (spl f) ∧ SlW a k c ∧ ∀ x, a = some x → w.heap.size ≤ x.block) => hI.at' h1 a k c f hf h2.1 h2.2.1)
    have HHas := Lib.hid (fun w1 (h1 : Still w w1) => yhas_any (hI.nodes.still h1) hI.gl.rises (spl f) n)
    rw [hI.gl.has] at HHas
    cases hh : hasP L f n with
    | true =>
      have e1 : ptE L f n = 6 := by unfold ptE; simp [hf0, hh]; omega
      have e2 : putL L f n = L := by unfold putL; rw [e1]; simp
      rw [hh] at HHas
      rw [e1, e2]
      have HE := Lib.hid (fun w' (h : Still w w') => Goes.still (Q := tT q L) (W := W) ⟨g, d0, S, hI, hW⟩ h)
      generalize ptrV ((g (spl f)).map Nd.nb) = pv at *
      clear hI hW hp hf0 hn0 hn1 hh e1 e2 hL hf hn HH hc0
      unfold tx at *
      go_enter Tryz.func13, Tryz.ntmps13
      go_wp2_with (first
        | (go_at_call 34; ((with_reducible refine HP.out.mono ?_)); intro e w1 h; obtain ⟨a, k, c, rfl, h2, h1⟩ := HF.out e w1 h; have H2 := Lib.hid h2; clear h h2)
        | (go_at_call 35; ((with_reducible refine (HAt.out _ _ _ _ h1 H2.out).mono ?_)); rintro e w2 ⟨rfl, rfl⟩)
        | (go_at_call 36; ((with_reducible refine (HHas.out _ h1).mono ?_)); rintro e w3 ⟨rfl, h3⟩))
      go_ret
      exact ⟨rfl, HE.out _ (h1.trans h3)⟩
    | false =>
      rw [hh] at HHas
      have hlen := hL.len
      have HC1 := Lib.hid (fun w' (h : Still w w') => show w'.cell? ⟨q, 1, none⟩ = some (.int .i64 (L.length : Nat)) from (hI.still h).blk.cell rfl)
      by_cases hfull : 256 ≤ L.length
      · have e1 : ptE L f n = 4 := by unfold ptE; simp [hf0, hh, hfull]; omega
        have e2 : putL L f n = L := by unfold putL; rw [e1]; simp
        rw [e1, e2]
        have HE := Lib.hid (fun w' (h : Still w w') => Goes.still (Q := tT q L) (W := W) ⟨g, d0, S, hI, hW⟩ h)
        generalize ptrV ((g (spl f)).map Nd.nb) = pv at *
        have hfi : (256 : Int) ≤ (L.length : Nat) := by omega
        clear hI hW hp hf0 hn0 hn1 hh e1 e2 hL hf hn HH hc0 hfull
        generalize L.length = m at *
        unfold tx at *
        go_enter Tryz.func13, Tryz.ntmps13
        go_wp2_with (first
          | (go_at_call 34; ((with_reducible refine HP.out.mono ?_)); intro e w1 h; obtain ⟨a, k, c, rfl, h2, h1⟩ := HF.out e w1 h; have H2 := Lib.hid h2; clear h h2)
          | (go_at_call 35; ((with_reducible refine (HAt.out _ _ _ _ h1 H2.out).mono ?_)); rintro e w2 ⟨rfl, rfl⟩)
          | (go_at_call 36; ((with_reducible refine (HHas.out _ h1).mono ?_)); rintro e w3 ⟨rfl, h3⟩; have cc1 := HC1.out _ (h1.trans h3)))
        go_ret
        exact ⟨rfl, HE.out _ (h1.trans h3)⟩
      · obtain ⟨x, rfl⟩ : ∃ x : Nat, n = x := ⟨n.toNat, by omega⟩
        have hx : x < 256 := by omega
        have hno : (f, x) ∉ L := fun hm => by
          have : hasP L f (x : Nat) = true := decide_eq_true ⟨by omega, by simpa using hm⟩
          rw [hh] at this; cases this
        have e1 : ptE L f (x : Nat) = 0 := by unfold ptE; simp [hf0, hh, hfull]; omega
        rw [e1]
        have hfi : ¬ (256 : Int) ≤ (L.length : Nat) := by omega
        have hm0 : L.length < 256 := by omega
        have HGr := Lib.hid (fun w3 (h : Still w w3) a k c (h2 : k = (spl f).length ∧ TextsAt w3 a (spl f) ∧ SlW a k c ∧ ∀ x, a = some x → w.heap.size ≤ x.block) =>
          have h' := hI.still h
          ygrow_any h'.nodes h'.wf (h'.blk.cell rfl) h'.out h'.root a k c (spl f) h2.1 h2.2.1 (fun y hy hs => by have := hI.nodes.lt hs; have := h2.2.2.2 y hy; omega) (by rw [h2.1]; exact spl_short hf) (spl_each hf) (hI.gl.small hL))
        have HAd := Lib.hid (fun w3 (h : Still w w3) nb w4 (hst : GrowSt g w3 S (spl f) nb w4) => tree_add (W := W) hI hW e1 hx hno h hst)
        have HSt := Lib.hid (fun (w1 w3 : World) (a : Option Addr) (k c : Nat) (h : Still w1 w3) (h2 : k = (spl f).length ∧ TextsAt w1 a (spl f) ∧ SlW a k c ∧ ∀ x, a = some x → w.heap.size ≤ x.block) => show k = (spl f).length ∧ TextsAt w3 a (spl f) ∧ SlW a k c ∧ ∀ x, a = some x → w.heap.size ≤ x.block from ⟨h2.1, h2.2.1.still h, h2.2.2⟩)
        generalize ptrV ((g (spl f)).map Nd.nb) = pv at *
        clear hI hW hp hf0 hn0 hn1 hh e1 hL hf hn HH hc0 hfull hno hlen hx
        generalize L.length = m at *
        unfold tx at *
        go_enter Tryz.func13, Tryz.ntmps13
        go_wp2_with (first
          | (go_at_call 34; ((with_reducible refine HP.out.mono ?_)); intro e w1 h; obtain ⟨a, k, c, rfl, h2, h1⟩ := HF.out e w1 h; have H2 := Lib.hid h2; clear h h2)
          | (go_at_call 35; ((with_reducible refine (HAt.out _ _ _ _ h1 H2.out).mono ?_)); rintro e w2 ⟨rfl, rfl⟩)
          | (go_at_call 36; ((with_reducible refine (HHas.out _ h1).mono ?_)); rintro e w3 ⟨rfl, h3⟩; have cc1 := HC1.out _ (h1.trans h3); have H3 := Lib.hid (HSt.out _ _ _ _ _ h3 H2.out))
          | (go_at_call 37; ((with_reducible refine (HGr.out _ (h1.trans h3) _ _ _ H3.out).mono ?_)); rintro e w4 ⟨nb, rfl, hst⟩; have HS := Lib.hid hst; clear hst)
          | (go_at_call 38; ((with_reducible refine (HAd.out _ (h1.trans h3) _ _ HS.out).mono ?_)); rintro e w5 ⟨rfl, cc5, ff5, hfin⟩))
        go_ret
        exact ⟨rfl, hfin⟩
  · obtain ⟨e1, _⟩ := pE_put L f n hp
    have e2 : putL L f n = L := by unfold putL; rw [e1, if_neg hp]
    rw [e1, e2]
    have HE := Lib.hid (fun w' (h : Still w w') => Goes.still (Q := tT q L) (W := W) ⟨g, d0, S, hI, hW⟩ h)
    have HF := Lib.hid (show ∀ e w', PairPost w f n e w' → ∃ a k c, e = .returned (.tuple #[.slice a k c, .int .i64 (pE f n)]) ∧ Still w w' from fun e w' ⟨a, k, c, h1, h2, h3⟩ => ⟨a, k, c, h1, h3⟩)
    generalize pE f n = er at *
    clear hI hW hL hf hn HH hc0 e1 e2
    unfold tx at *
    go_enter Tryz.func13, Tryz.ntmps13
    go_wp2_with (go_at_call 34; ((with_reducible refine HP.out.mono ?_)); intro e w1 h; obtain ⟨a, k, c, rfl, h1⟩ := HF.out e w1 h; clear h)
    go_ret
    exact ⟨rfl, HE.out _ h1⟩
end Go.Proofs.YtpmkokckjieidaaGreatDoor

/- Taking a pair from the program's tree; how many there are; the numbers of a filter. No condition but that the tree is one, and that texts are not too long. -/
namespace Go.Proofs.YtpmkokckjieidaaGreatDoor
open Go.RowKit
set_option linter.unusedVariables false
set_option linter.unusedSimpArgs false
set_option maxRecDepth 100000

/-- What the last calls of Take leave, and the store behind them. -/
theorem tree_prune {w : World} {W : Nat → Prop} {q : Nat} {L : List Pr} {g : Gr} {d0 : Nd} {S : Nat → Prop} (hI : TreeIn w q L g d0 S) (hW : ∀ k, W k ↔ k = q ∨ S k) (hL : TOk L) {f : Txt} {x : Nat} (hf : f.length ≤ 300) (hok : tkE L f (x : Nat) = 0) (hx : (f, x) ∈ L) {d : Nd} (hd : g (spl f) = some d)
    {w3 : World} (h3 : Still w w3) {a : Option Addr} {k c : Nat} (h2 : k = (spl f).length ∧ TextsAt w3 a (spl f) ∧ SlW a k c ∧ ∀ x, a = some x → w.heap.size ≤ x.block) {w4 : World} (hst : NumSt g w3 S (spl f) d (delN d.ns x) w4) :
    Calls Tryz.prog 43 #[.pointer (some ⟨q, 0, none⟩), .slice a k c] w4 fun e w5 => e = .returned (.tuple #[]) ∧ w5.cell? ⟨q, 1, none⟩ = some (.int .i64 (L.length : Nat)) ∧ w5.frozen? ⟨q, 1, none⟩ = false ∧ Goes (tT q (takeL L f (x : Nat))) W w (w5.setCell ⟨q, 1, none⟩ (.int .i64 ((L.length : Int) - 1))) := by
  obtain ⟨d', S1, e1, e2, hN4, hW4, hS4⟩ := hst
  obtain ⟨hk, hA, hSl, hfr⟩ := h2
  have h0 : Since S w S w3 := ⟨h3.mono (fun _ _ h => h.elim), fun _ h => .inl h⟩
  have hS14 := h0.trans hS4
  have hb4 : Blk w4 q [.pointer (some ⟨d0.nb, 0, none⟩), .int .i64 (L.length : Nat)] 57 := hI.blk.turned hS14.turn hI.out
  have hq4 : ¬ S1 q := fun h => by
    rcases hS14.grow q h with h | h
    · exact hI.out h
    · have := hI.blk.lt; omega
  have hroot : updG g (spl f) (some d') [] = some d0 := by rw [updG_other _ _ (spl_ne f).symm]; exact hI.root
  have hold : ∀ y, a = some y → y.block < w3.heap.size := fun y hy => by
    obtain ⟨x0, hx0⟩ := get_some (l := spl f) (i := 0) (spl_len f).1
    obtain ⟨b, o, e, hc⟩ := hA 0 x0 hx0
    rw [hy] at e; cases e
    exact cell_lt hc
  have hA4 : TextsAt w4 a (spl f) := hA.turned hS4.turn (fun y hy hs => by have := hI.nodes.lt hs; have := hfr y hy; omega)
  have hR4 : ∀ p e, updG g (spl f) (some d') p = some e → Rises e.ns := fun p e hp => by
    by_cases h1 : p = spl f
    · rw [h1, updG_same] at hp; cases hp
      rw [e2]
      exact ((hI.gl.nums _ d hd).1.del (((hI.gl.nums _ d hd).2 x).2 ⟨f, rfl, hx⟩)).1
    · rw [updG_other _ _ h1] at hp; exact hI.gl.rises p e hp
  refine (yprune_any hN4 hW4 (hb4.cell rfl) hq4 hroot hR4 a k c (spl f) hk hA4 (fun y hy hs => ?_) (by rw [hk]; exact spl_short hf) hSl (spl_each hf) (by rw [updG_same]; rfl)).mono ?_
  · rcases hS4.grow _ hs with h | h
    · have := hI.nodes.lt h; have := hfr y hy; omega
    · have := hold y hy; omega
  rintro e w5 ⟨rfl, g2, S2, hP, hW5, hN5, hS5⟩
  have hSall : Since S w S2 w5 := hS14.trans hS5
  have hb5 : Blk w5 q [.pointer (some ⟨d0.nb, 0, none⟩), .int .i64 (L.length : Nat)] 57 := hI.blk.turned hSall.turn hI.out
  have hq5 : ¬ S2 q := fun h => by
    rcases hSall.grow q h with h | h
    · exact hI.out h
    · have := hI.blk.lt; omega
  refine ⟨rfl, hb5.cell rfl, hb5.free 1, ?_⟩
  have e3 : takeL L f (x : Nat) = L.erase (f, x) := by unfold takeL; rw [if_pos hok]; simp
  rw [e3]
  have hT : Turned (· = q) w5 (w5.setCell ⟨q, 1, none⟩ (.int .i64 ((L.length : Int) - 1))) := turned_set (Turned.refl _ _) 1 _
  have hd1 : g2 [] = some d0 := by
    have := hW5.root
    cases hg : g2 [] with
    | none => rw [hg] at this; cases this
    | some e => have := hP.on _ e hg; rw [hroot] at this; exact this.symm
  have hlen : (L.erase (f, x)).length = L.length - 1 := List.length_erase_of_mem hx
  have hpos : 0 < L.length := List.length_pos_of_mem hx
  refine ⟨fun k => k = q ∨ S2 k, ⟨_, d0, S2, ⟨hW5, hI.gl.take hL.nodup hW5 hd hx e2 hP, hd1, ?_, hN5.turned (fun k hk => hT.block k (hN5.lt hk) (fun e => hq5 (e ▸ hk))), hq5⟩, fun k => Iff.rfl⟩, ?_, fun k hk => ?_⟩
  · have := hb5.set 1 (.int .i64 ((L.length : Int) - 1))
    rw [hlen, show ((L.length - 1 : Nat) : Int) = (L.length : Int) - 1 by omega]
    simpa using this
  · exact (hSall.turn.mono (fun k _ h => (hW k).2 (.inr h))).trans ⟨hT.os, hT.tape, hT.output, hT.size, fun k hk hs => hT.block k hk (fun e => hs ((hW k).2 (.inl e)))⟩
  · rcases hk with hk | hk
    · exact .inl ((hW k).2 (.inl hk))
    · exact (hSall.grow k hk).imp (fun h => (hW k).2 (.inr h)) id

set_option maxHeartbeats 4000000 in
theorem ytake_any {w : World} {W : Nat → Prop} {q : Nat} {L : List Pr} (H : (tT q L).at_ w W) (hL : TOk L) (f : Txt) (n : Int) (hf : f.length ≤ 300) (hn : i64w n) :
    Calls Tryz.prog 15 #[.pointer (some ⟨q, 0, none⟩), tx f, .int .i64 n] w fun e w' => e = .returned (.int .i64 (tkE L f n)) ∧ Goes (tT q (takeL L f n)) W w w' := by
  obtain ⟨g, d0, S, hI, hW⟩ := H
  have HH := Lib.hid hI
  have hc0 := hI.blk.cell (o := 0) rfl
  have HP := Lib.hid (ypair_any hc0 f n hf hn)
  by_cases hp : pE f n = 0
  · obtain ⟨hf0, hn0, hn1⟩ := pE_ok hp
    have HF := Lib.hid (show ∀ e w', PairPost w f n e w' → ∃ a k c, e = .returned (.tuple #[.slice a k c, .int .i64 0]) ∧ (k = (spl f).length ∧ TextsAt w' a (spl f) ∧ SlW a k c ∧ ∀ x, a = some x → w.heap.size ≤ x.block) ∧ Still w w' from fun e w' ⟨a, k, c, h1, h2, h3⟩ => ⟨a, k, c, by rw [h1, hp], h2 hp, h3⟩)
    have HAt := Lib.hid (fun w1 a k c (h1 : Still w w1) (h2 : k = (spl f).length ∧ TextsAt w1 a (spl f) ∧ SlW a k c ∧ ∀ x, a = some x → w.heap.size ≤ x.block) => hI.at' h1 a k c f hf h2.1 h2.2.1)
    have HHas := Lib.hid (fun w1 (h1 : Still w w1) => yhas_any (hI.nodes.still h1) hI.gl.rises (spl f) n)
    rw [hI.gl.has] at HHas
    cases hh : hasP L f n with
    | false =>
      have e1 : tkE L f n = 5 := by unfold tkE; simp [hf0, hh]; omega
      have e2 : takeL L f n = L := by unfold takeL; rw [e1]; simp
      rw [hh] at HHas
      rw [e1, e2]
      have HE := Lib.hid (fun w' (h : Still w w') => Goes.still (Q := tT q L) (W := W) ⟨g, d0, S, hI, hW⟩ h)
      generalize ptrV ((g (spl f)).map Nd.nb) = pv at *
      clear hI hW hp hf0 hn0 hn1 hh e1 e2 hL hf hn HH hc0
      unfold tx at *
      go_enter Tryz.func15, Tryz.ntmps15
      go_wp2_with (first
        | (go_at_call 34; ((with_reducible refine HP.out.mono ?_)); intro e w1 h; obtain ⟨a, k, c, rfl, h2, h1⟩ := HF.out e w1 h; have H2 := Lib.hid h2; clear h h2)
        | (go_at_call 35; ((with_reducible refine (HAt.out _ _ _ _ h1 H2.out).mono ?_)); rintro e w2 ⟨rfl, rfl⟩)
        | (go_at_call 36; ((with_reducible refine (HHas.out _ h1).mono ?_)); rintro e w3 ⟨rfl, h3⟩))
      go_ret
      exact ⟨rfl, HE.out _ (h1.trans h3)⟩
    | true =>
      rw [hh] at HHas
      obtain ⟨x, rfl⟩ : ∃ x : Nat, n = x := ⟨n.toNat, by omega⟩
      have hx : (f, x) ∈ L := by have := of_decide_eq_true hh; simpa using this.2
      have e1 : tkE L f (x : Nat) = 0 := by unfold tkE; simp [hf0, hh]; omega
      rw [e1]
      obtain ⟨d, hd⟩ : ∃ d, g (spl f) = some d := Option.isSome_iff_exists.1 ((hI.gl.node _).2 (.inr ⟨_, hx, List.prefix_refl _⟩))
      have hxd : x ∈ d.ns := ((hI.gl.nums _ d hd).2 x).2 ⟨f, rfl, hx⟩
      rw [hd] at HAt HHas
      simp only [Option.map_some, ptrV] at HAt HHas
      have hlen := hL.len
      have hpos : 0 < L.length := List.length_pos_of_mem hx
      have HRm := Lib.hid (fun w3 (h : Still w w3) => yremove_any (hI.nodes.still h) hI.wf hd (hI.gl.rises _ d hd) x hxd)
      have HPr := Lib.hid (fun w3 (h : Still w w3) a k c (h2 : k = (spl f).length ∧ TextsAt w3 a (spl f) ∧ SlW a k c ∧ ∀ x, a = some x → w.heap.size ≤ x.block) w4 (hst : NumSt g w3 S (spl f) d (delN d.ns x) w4) => tree_prune (W := W) hI hW hL hf e1 hx hd h h2 hst)
      have HSt := Lib.hid (fun (w1 w3 : World) (a : Option Addr) (k c : Nat) (h : Still w1 w3) (h2 : k = (spl f).length ∧ TextsAt w1 a (spl f) ∧ SlW a k c ∧ ∀ x, a = some x → w.heap.size ≤ x.block) => show k = (spl f).length ∧ TextsAt w3 a (spl f) ∧ SlW a k c ∧ ∀ x, a = some x → w.heap.size ≤ x.block from ⟨h2.1, h2.2.1.still h, h2.2.2⟩)
      clear hI hW hp hf0 hn0 hn1 hh e1 hL hf hn HH hc0 hd hx hxd
      generalize L.length = m at *
      unfold tx at *
      go_enter Tryz.func15, Tryz.ntmps15
      go_wp2_with (first
        | (go_at_call 34; ((with_reducible refine HP.out.mono ?_)); intro e w1 h; obtain ⟨a, k, c, rfl, h2, h1⟩ := HF.out e w1 h; have H2 := Lib.hid h2; clear h h2)
        | (go_at_call 35; ((with_reducible refine (HAt.out _ _ _ _ h1 H2.out).mono ?_)); rintro e w2 ⟨rfl, rfl⟩)
        | (go_at_call 36; ((with_reducible refine (HHas.out _ h1).mono ?_)); rintro e w3 ⟨rfl, h3⟩; have H3 := Lib.hid (HSt.out _ _ _ _ _ h3 H2.out); have h1 := h1.trans h3; have H2 := H3)
        | (go_at_call 42; ((with_reducible refine (HRm.out _ h1).mono ?_)); rintro e w4 ⟨rfl, hst⟩; have HS := Lib.hid hst; clear hst)
        | (go_at_call 43; ((with_reducible refine (HPr.out _ h1 _ _ _ H3.out _ HS.out).mono ?_)); rintro e w5 ⟨rfl, cc5, ff5, hfin⟩))
      go_ret
      exact ⟨rfl, hfin⟩
  · obtain ⟨_, e1⟩ := pE_put L f n hp
    have e2 : takeL L f n = L := by unfold takeL; rw [e1, if_neg hp]
    rw [e1, e2]
    have HE := Lib.hid (fun w' (h : Still w w') => Goes.still (Q := tT q L) (W := W) ⟨g, d0, S, hI, hW⟩ h)
    have HF := Lib.hid (show ∀ e w', PairPost w f n e w' → ∃ a k c, e = .returned (.tuple #[.slice a k c, .int .i64 (pE f n)]) ∧ Still w w' from fun e w' ⟨a, k, c, h1, h2, h3⟩ => ⟨a, k, c, h1, h3⟩)
    generalize pE f n = er at *
    clear hI hW hL hf hn HH hc0 e1 e2
    unfold tx at *
    go_enter Tryz.func15, Tryz.ntmps15
    go_wp2_with (go_at_call 34; ((with_reducible refine HP.out.mono ?_)); intro e w1 h; obtain ⟨a, k, c, rfl, h1⟩ := HF.out e w1 h; clear h)
    go_ret
    exact ⟨rfl, HE.out _ h1⟩

theorem ypairs_any {w : World} {W : Nat → Prop} {q : Nat} {L : List Pr} (H : (tT q L).at_ w W) : Calls Tryz.prog 24 #[.pointer (some ⟨q, 0, none⟩)] w fun e w' => e = .returned (.int .i64 (L.length : Nat)) ∧ Still w w' := by
  obtain ⟨g, d0, S, hI, hW⟩ := H
  have hc1 := hI.blk.cell (o := 1) rfl
  have HM := Lib.hid (ymade_any (hI.blk.cell (o := 0) rfl))
  clear hI hW
  generalize L.length = m at *
  go_enter Tryz.func24, Tryz.ntmps24
  go_wp2_with (go_at_call 46; ((with_reducible refine HM.out.mono ?_)); rintro e w1 ⟨rfl, rfl⟩)
  go_ret
  exact ⟨rfl, Turned.refl _ _⟩

theorem ymake_any (w : World) : Calls Tryz.prog 9 #[] w (TNew tT w) := by
  have HB := Lib.hid (ybud_any w)
  have HE := Lib.hid (show TNew tT w (.returned (.pointer (some ⟨w.heap.size + 2, 0, none⟩))) ((budW w).alloc (.cells #[.pointer (some ⟨w.heap.size + 1, 0, none⟩), .int .i64 0] 57)) from by
    have hst := budW_still w
    have hsz : (budW w).heap.size = w.heap.size + 2 := by simp [budW]
    obtain ⟨W2, hW2⟩ : ∃ W2, W2 = (budW w).alloc (.cells #[.pointer (some ⟨w.heap.size + 1, 0, none⟩), .int .i64 0] 57) := ⟨_, rfl⟩
    rw [← hW2]
    have hT : Still (budW w) W2 := by rw [hW2]; exact (Turned.refl _ _).alloc _
    have hb : Blk W2 (w.heap.size + 2) [.pointer (some ⟨w.heap.size + 1, 0, none⟩), .int .i64 0] 57 := by rw [hW2]; exact Blk.newAt (budW w) _ _ hsz.symm rfl
    have hb0 : Blk (budW w) (w.heap.size + 1) [.slice none 0 0, .map (some w.heap.size)] 72 := Blk.newAt (w.alloc (.map #[] 0)) [.slice none 0 0, .map (some w.heap.size)] 72 (by simp) rfl
    have hm0 : MapIs (budW w) w.heap.size (fun _ => none) := (MapIs.made w).of_eq (Below.heap_alloc _ _ _ (by simp))
    have hm2 : MapIs W2 w.heap.size (fun _ => none) := hm0.of_eq (hT.block _ (by omega) (fun h => h))
    have get : ∀ {p : Path} {e : Nd}, (fun p => if p = [] then some (newNd w) else none : Gr) p = some e → p = [] ∧ e = newNd w := fun {p e} h => by
      by_cases hp : p = []
      · simp only [hp, if_true, Option.some.injEq] at h; exact ⟨hp, h.symm⟩
      · simp [hp] at h
    refine ⟨w.heap.size + 2, rfl, fun k => k = w.heap.size + 2 ∨ (newNd w).fp k, ⟨_, newNd w, (newNd w).fp, ⟨⟨?_, ?_, ?_, rfl, ?_⟩, GL.empty (newNd w) rfl, rfl, hb, ⟨fun {p e} hp => ?_, fun k => ?_⟩, ?_⟩, fun k => Iff.rfl⟩, hst.trans hT, ?_⟩
    · intro p p' d d' h1 h2 hne
      exact absurd ((get h1).1.trans (get h2).1.symm) hne
    · intro p p' d d' h1 h2 hne
      exact absurd ((get h1).1.trans (get h2).1.symm) hne
    · intro p p' d d' y y' h1 h2 hne
      exact absurd ((get h1).1.trans (get h2).1.symm) hne
    · intro p l h
      simp at h
    · obtain ⟨rfl, rfl⟩ := get hp
      refine ⟨hb0.turned hT (fun h => h), World.ownsRow_nil _ _ _ _, hm2.congr (fun l => ?_)⟩
      simp [kidsOf]
    · constructor
      · intro h; exact ⟨[], newNd w, rfl, h⟩
      · rintro ⟨p, e, hp, h⟩
        obtain ⟨rfl, rfl⟩ := get hp
        exact h
    · rintro (h | h | ⟨y, h, _⟩)
      · have : w.heap.size + 2 = w.heap.size + 1 := h
        omega
      · have : w.heap.size + 2 = w.heap.size := h
        omega
      · cases h
    · rintro k (h | h | h | ⟨y, h, _⟩)
      · omega
      · have : k = w.heap.size + 1 := h
        omega
      · have : k = w.heap.size := h
        omega
      · cases h)
  have hsz : (budW w).heap.size = w.heap.size + 2 := by simp [budW]
  go_enter Tryz.func9, Tryz.ntmps9
  go_wp2_with (go_at_call 33; ((with_reducible refine HB.out.mono ?_)); rintro e w1 ⟨rfl, rfl⟩)
  go_ret
  exact HE.out
end Go.Proofs.YtpmkokckjieidaaGreatDoor

/- The numbers of a filter in the program's tree. No condition but that the tree is one, and that texts are not too long. -/
namespace Go.Proofs.YtpmkokckjieidaaGreatDoor
open Go.RowKit
set_option linter.unusedVariables false
set_option linter.unusedSimpArgs false
set_option maxRecDepth 100000

theorem lt_ext {l l' : List Nat} (h : l.Pairwise (· < ·)) (h' : l'.Pairwise (· < ·)) (hm : ∀ x, x ∈ l ↔ x ∈ l') : l = l' :=
  List.Perm.eq_of_pairwise (fun a b _ _ h1 h2 => absurd h1 (by omega)) h h' ((List.perm_ext_iff_of_nodup (h.imp fun {a b} h => Nat.ne_of_lt h) (h'.imp fun {a b} h => Nat.ne_of_lt h)).2 hm)
theorem rises_eq {ns : List Nat} (h : Rises ns) {p : Nat → Bool} (hp : ∀ n, n ∈ ns ↔ n < 256 ∧ p n = true) : ns = (List.range 256).filter p :=
  lt_ext h.1 (List.pairwise_lt_range.filter _) (fun x => by rw [hp, List.mem_filter, List.mem_range])

/-- A copy of numbers. -/
def ClnPost (w : World) (l : List Int) (e : Ending) (w' : World) : Prop := ∃ a n c, e = .returned (.slice a n c) ∧ n = l.length ∧ NumsAt w' a l ∧ SlW a n c ∧ Still w w'
theorem cloneI_any {w : World} {B n c : Nat} {a : Option Addr} {l : List Int} (h : w.ownsRow B 3 1 (.slice a n c) n (ints l)) (hn : n = l.length) (hs : n ≤ 1000000) : Calls Tryz.prog 45 #[.slice a n c] w (ClnPost w l) := by
  have out : ∀ v' w', w'.ownsRow w.heap.size 3 1 v' n (ints l) → Below w.heap.size w w' → ClnPost w l (.returned v') w' := fun v' w' h1 h2 => by
    obtain ⟨a', c', rfl⟩ := ow_slice h1
    exact ⟨a', n, c', rfl, hn, NumsAt.of_own h1 hn, SlW.of_own h1, below_turned h2 (Nat.le_refl _)⟩
  rcases ox_some h with ⟨rfl, h0, h1⟩ | ⟨g, rfl⟩
  · subst h0; subst h1
    have e : l = [] := List.eq_nil_of_length_eq_zero hn.symm
    subst e
    refine (Tryz.slices_Clone_int_nil 0 0 w).mono ?_
    rintro e w' ⟨rfl, rfl⟩
    exact ⟨none, 0, 0, rfl, rfl, NumsAt.nil _ _, ⟨Nat.le_refl _, by unfold maxLen; omega, fun _ => ⟨rfl, rfl⟩⟩, Turned.refl _ _⟩
  · have := Tryz.slices_Clone_int g 0 n c l w (by omega) (by omega) (fun j hj => by
      obtain ⟨b', o', e, hc⟩ := NumsAt.of_own h hn j (l.getD j 0) (by simp [List.getD, hj])
      cases e
      exact hc)
    rw [List.take_of_length_le (by omega)] at this
    refine this.mono ?_
    rintro e w' ⟨v', rfl, h1, _, h2⟩
    exact out v' w' h1 h2

set_option maxHeartbeats 2000000 in
theorem yof_any {w : World} {W : Nat → Prop} {q : Nat} {L : List Pr} (H : (tT q L).at_ w W) (hL : TOk L) (f : Txt) (hf : f.length ≤ 300) :
    Calls Tryz.prog 19 #[.pointer (some ⟨q, 0, none⟩), tx f] w (OutE w (ni (ofL L f)) (fcE f)) := by
  obtain ⟨g, d0, S, hI, hW⟩ := H
  have hc0 := hI.blk.cell (o := 0) rfl
  have HP := Lib.hid (ylevels_any hc0 f hf)
  rcases fcE_or f with h0 | h0
  · have HF := Lib.hid (show ∀ e w', FlvFr w f (flv f).length e w' → ∃ a k c, e = .returned (.tuple #[.slice a k c, .int .i64 0]) ∧ (k = (spl f).length ∧ TextsAt w' a (spl f)) ∧ Still w w' from fun e w' ⟨a, c, h1, h2, h3, h4, h5⟩ => ⟨a, (flv f).length, c, by rw [h1, h0], ⟨by rw [flv_ok h0], by rw [← flv_ok h0]; exact h2⟩, h4⟩)
    have HAt := Lib.hid (fun w1 a k c (h1 : Still w w1) (h2 : k = (spl f).length ∧ TextsAt w1 a (spl f)) => hI.at' h1 a k c f hf h2.1 h2.2)
    rw [h0]
    cases hg : g (spl f) with
    | none =>
      have e1 : ofL L f = [] := by
        unfold ofL
        rw [if_pos h0, List.filter_eq_nil_iff]
        intro n _ hn
        have hh := of_decide_eq_true hn
        exact hI.gl.no hg _ hh.2
      rw [e1, show ni [] = [] from rfl]
      rw [hg] at HAt
      simp only [Option.map_none, ptrV] at HAt
      have HE := Lib.hid (fun w' (h : Still w w') => show OutE w [] 0 (.returned (.tuple #[.slice none 0 0, .int .i64 0])) w' from ⟨none, 0, 0, rfl, rfl, NumsAt.nil _ _, ⟨Nat.le_refl _, by unfold maxLen; omega, fun _ => ⟨rfl, rfl⟩⟩, h⟩)
      generalize (flv f).length = m at *
      clear hI hW hL hf hc0 h0 hg e1
      unfold tx at *
      go_enter Tryz.func19, Tryz.ntmps19
      go_wp2_with (first
        | (go_at_call 44; ((with_reducible refine HP.out.mono ?_)); intro e w1 h; obtain ⟨a, k, c, rfl, h2, h1⟩ := HF.out e w1 h; have H2 := Lib.hid h2; clear h h2)
        | (go_at_call 35; ((with_reducible refine (HAt.out _ _ _ _ h1 H2.out).mono ?_)); rintro e w2 ⟨rfl, rfl⟩))
      go_ret2
      exact HE.out _ h1
    | some d =>
      have hr := (hI.gl.nums _ d hg).1
      have e1 : ofL L f = d.ns := by
        unfold ofL
        rw [if_pos h0]
        refine (rises_eq hr (fun n => ?_)).symm
        rw [(hI.gl.nums _ d hg).2]
        constructor
        · rintro ⟨f', e, hm⟩
          rw [spl_inj e] at hm
          exact ⟨(hL.ok _ hm).2, decide_eq_true ⟨by omega, by simpa using hm⟩⟩
        · rintro ⟨_, hh⟩
          exact ⟨f, rfl, by simpa using (of_decide_eq_true hh).2⟩
      rw [e1]
      rw [hg] at HAt
      simp only [Option.map_some, ptrV] at HAt
      have HC := Lib.hid (fun w' (h : Still w w') => show w'.cell? ⟨d.nb, 0, none⟩ = some (.slice d.a d.ns.length d.c) from ((hI.nodes.still h).cells hg).1)
      have HK := Lib.hid (fun w' (h : Still w w') => cloneI_any (((hI.nodes.still h).node hg).row) (by rw [ni_length]) (by have := hr.len; omega))
      have HE := Lib.hid (fun w1 e w' (h : Still w w1) (h2 : ClnPost w1 (ni d.ns) e w') => show ∃ a n c, e = .returned (.slice a n c) ∧ OutE w (ni d.ns) 0 (.returned (.tuple #[.slice a n c, .int .i64 0])) w' from by
        obtain ⟨a, n, c, e1, h3, h4, h5, h6⟩ := h2
        exact ⟨a, n, c, e1, a, n, c, rfl, h3, h4, h5, h.trans h6⟩)
      generalize (flv f).length = m at *
      generalize d.ns.length = k0 at *
      generalize ni d.ns = l0 at *
      clear hI hW hL hf hc0 h0 hg e1 hr
      unfold tx at *
      go_enter Tryz.func19, Tryz.ntmps19
      go_wp2_with (first
        | (go_at_call 44; ((with_reducible refine HP.out.mono ?_)); intro e w1 h; obtain ⟨a, k, c, rfl, h2, h1⟩ := HF.out e w1 h; have H2 := Lib.hid h2; clear h h2; have cc1 := HC.out _ h1)
        | (go_at_call 35; ((with_reducible refine (HAt.out _ _ _ _ h1 H2.out).mono ?_)); rintro e w2 ⟨rfl, rfl⟩)
        | (go_at_call 45; ((with_reducible refine (HK.out _ h1).mono ?_)); intro e w3 h3; obtain ⟨a', n', c', rfl, hfin⟩ := HE.out _ _ _ h1 h3; clear h3))
      go_ret2
      exact hfin
  · have e1 : ofL L f = [] := by unfold ofL; rw [if_neg (by omega)]
    have HF := Lib.hid (show ∀ e w', FlvFr w f (flv f).length e w' → ∃ a k c, e = .returned (.tuple #[.slice a k c, .int .i64 90]) ∧ Still w w' from fun e w' ⟨a, c, h1, h2, h3, h4, h5⟩ => ⟨a, (flv f).length, c, by rw [h1, h0], h4⟩)
    rw [h0, e1, show ni [] = [] from rfl]
    have HE := Lib.hid (fun w' (h : Still w w') => show OutE w [] 90 (.returned (.tuple #[.slice none 0 0, .int .i64 90])) w' from ⟨none, 0, 0, rfl, rfl, NumsAt.nil _ _, ⟨Nat.le_refl _, by unfold maxLen; omega, fun _ => ⟨rfl, rfl⟩⟩, h⟩)
    generalize (flv f).length = m at *
    clear hI hW hL hf hc0 h0 e1
    unfold tx at *
    go_enter Tryz.func19, Tryz.ntmps19
    go_wp2_with (go_at_call 44; ((with_reducible refine HP.out.mono ?_)); intro e w1 h; obtain ⟨a, k, c, rfl, h1⟩ := HF.out e w1 h; clear h)
    go_ret2
    exact HE.out _ h1
end Go.Proofs.YtpmkokckjieidaaGreatDoor

/- The nodes below some that have one of some levels. No condition but that the tree is one, and that there are not too many. -/
namespace Go.Proofs.YtpmkokckjieidaaGreatDoor
open Go.RowKit
set_option linter.unusedVariables false
set_option linter.unusedSimpArgs false
set_option maxRecDepth 100000

theorem infoPtr : (Tryz.prog.info? 55).map (fun i => (i.zero, i.size, i.bytes)) = some (some (.pointer none), 1, 8) := by kernel_rfl

/-- Pointers to nodes. -/
def ptrs (g : Gr) (ps : List Path) : List Value := ps.map fun p => ptrV ((g p).map Nd.nb)
theorem ptrs_length (g : Gr) (ps : List Path) : (ptrs g ps).length = ps.length := by simp [ptrs]
theorem ptrs_append (g : Gr) (a b : List Path) : ptrs g (a ++ b) = ptrs g a ++ ptrs g b := by simp [ptrs]
def PtrsAt (w : World) (ao : Option Addr) (l : List Value) : Prop := ∀ i v, l[i]? = some v → ∃ b o, ao = some ⟨b, o, none⟩ ∧ w.cell? ⟨b, o + i, none⟩ = some v
theorem PtrsAt.still {w w' : World} {ao : Option Addr} {l : List Value} (h : PtrsAt w ao l) (ht : Still w w') : PtrsAt w' ao l := fun i x hx => by
  obtain ⟨b, o, rfl, hc⟩ := h i x hx
  exact ⟨b, o, rfl, by rw [ht.cell (p := ⟨b, o + i, none⟩) (cell_lt hc) (fun h => h)]; exact hc⟩
theorem PtrsAt.of_own {w : World} {B : Nat} {e : TypeId} {a : Option Addr} {c n : Nat} {l : List Value} (h : w.ownsRow B e 1 (.slice a n c) n l) (hn : n = l.length) : PtrsAt w a l := by
  subst hn
  intro i x hx
  obtain ⟨g, r, rfl, _, hb⟩ := ow_blk h (Nat.lt_of_le_of_lt (Nat.zero_le _) (List.getElem?_eq_some_iff.1 hx).1)
  refine ⟨g, 0, rfl, ?_⟩
  rw [Nat.zero_add]
  exact hb.cell (by rw [List.getElem?_append_left (List.getElem?_eq_some_iff.1 hx).1]; exact hx)

def belowI (g : Gr) (p : Path) (ls : List Txt) : List Path := ls.flatMap fun l => if (g (p ++ [l])).isSome = true then [p ++ [l]] else []
def belowL (g : Gr) (ps : List Path) (ls : List Txt) : List Path := ps.flatMap fun p => belowI g p ls
theorem belowI_step (g : Gr) (p : Path) {ls : List Txt} {t : Nat} {x : Txt} (h : ls[t]? = some x) : belowI g p (ls.take (t + 1)) = belowI g p (ls.take t) ++ if (g (p ++ [x])).isSome = true then [p ++ [x]] else [] := by
  unfold belowI
  rw [List.take_add_one, h, List.flatMap_append]
  simp
theorem belowL_step (g : Gr) {ps : List Path} (ls : List Txt) {k : Nat} {p : Path} (h : ps[k]? = some p) : belowL g (ps.take (k + 1)) ls = belowL g (ps.take k) ls ++ belowI g p ls := by
  unfold belowL
  rw [List.take_add_one, h, List.flatMap_append]
  simp
theorem belowI_len (g : Gr) (p : Path) : ∀ ls : List Txt, (belowI g p ls).length ≤ ls.length
  | [] => by simp [belowI]
  | x :: r => by
    have := belowI_len g p r
    unfold belowI at this ⊢
    rw [List.flatMap_cons, List.length_append, List.length_cons]
    generalize (List.flatMap (fun l => if (g (p ++ [l])).isSome = true then [p ++ [l]] else []) r).length = z at *
    split
    · simp only [List.length_cons, List.length_nil]; omega
    · simp only [List.length_nil]; omega
theorem belowL_len (g : Gr) (ls : List Txt) : ∀ ps : List Path, (belowL g ps ls).length ≤ ps.length * ls.length
  | [] => by simp [belowL]
  | p :: r => by
    have := belowL_len g ls r
    have h2 := belowI_len g p ls
    unfold belowL at this ⊢
    rw [List.flatMap_cons, List.length_append, List.length_cons, Nat.add_mul, Nat.one_mul]
    omega
theorem belowL_some (g : Gr) (ps : List Path) (ls : List Txt) : ∀ p ∈ belowL g ps ls, (g p).isSome = true := fun p hp => by
  unfold belowL belowI at hp
  obtain ⟨r, _, hp⟩ := List.mem_flatMap.1 hp
  obtain ⟨l, _, hp⟩ := List.mem_flatMap.1 hp
  split at hp
  · rename_i h; simp at hp; rw [hp]; exact h
  · simp at hp

def OutP (w : World) (l : List Value) (e : Ending) (w' : World) : Prop := ∃ a k c, e = .returned (.slice a k c) ∧ k = l.length ∧ w'.ownsRow w.heap.size 55 1 (.slice a k c) k l ∧ Still w w'

set_option maxHeartbeats 4000000 in
theorem ybelow_any {w : World} {S : Nat → Prop} {g : Gr} (H : NodesAt w g S) (ps : List Path) (hps : ∀ p ∈ ps, (g p).isSome = true) (ls : List Txt) (ao bo : Option Addr) (n m ca cb : Nat) (hn : n = ps.length) (hm : m = ls.length) (hA : PtrsAt w ao (ptrs g ps)) (hB : TextsAt w bo ls) (hsz : n * m ≤ 100000) (hn2 : n ≤ 100000) (hm2 : m ≤ 100000) (hl : ∀ l ∈ ls, l.length ≤ 1000000) :
    Calls Tryz.prog 66 #[.slice ao n ca, .slice bo m cb] w (OutP w (ptrs g (belowL g ps ls))) := by
  obtain ⟨i0, hi, hz0, hz1, hz2⟩ := info_parts infoPtr
  have HN := Lib.hid hn
  have HM := Lib.hid hm
  have HA := Lib.hid hA
  have HB := Lib.hid hB
  have HH := Lib.hid (fun V (h : Still w V) => H.still h)
  have HP := Lib.hid hps
  have HL := Lib.hid hl
  have HT := Lib.hid (show ps.take n = ps from List.take_of_length_le (by omega))
  have HU := Lib.hid (show ls.take m = ls from List.take_of_length_le (by omega))
  have HSz := Lib.hid (fun (k : Nat) (hk : k ≤ n) => show (belowL g (ps.take k) ls).length ≤ 100000 from by
    have := belowL_len g ls (ps.take k)
    rw [List.length_take, ← hm, ← hn, Nat.min_eq_left hk] at this
    have h2 := Nat.mul_le_mul_right m hk
    omega)
  have HSi := Lib.hid (fun (p : Path) (t : Nat) => belowI_len g p (ls.take t))
  clear hn hm hA hB H hps hl hsz
  go_enter Tryz.func66, Tryz.ntmps66
  go_wp2
  go_loopw [5, 13] (fun o i wr => ∃ (k dn : Nat) (aa : Option Addr) (cc : Nat), k ≤ n ∧ i = .int .i64 k ∧ o = .slice aa dn cc ∧ dn = (belowL g (ps.take k) ls).length ∧ wr.ownsRow w.heap.size 55 1 (.slice aa dn cc) dn (ptrs g (belowL g (ps.take k) ls)) ∧ Still w wr) (fun _ i _ => n - (intOf i).toNat)
  case atStart => exact ⟨0, 0, none, 0, Nat.zero_le _, rfl, rfl, rfl, World.ownsRow_nil _ _ _ _, Turned.refl _ _⟩
  case round =>
    obtain ⟨k, dn, aa, cc, hk, rfl, rfl, hdn, hown, hst⟩ := hrel
    have HO := Lib.hid hown
    have HS := Lib.hid hst
    have HD := Lib.hid hdn
    clear hown hst hdn
    by_cases hlt : k < n
    · obtain ⟨p, hp⟩ := get_some (l := ps) (i := k) (by rw [← HN.out]; exact hlt)
      obtain ⟨d, hd⟩ := Option.isSome_iff_exists.1 (HP.out p (List.mem_of_getElem? hp))
      obtain ⟨b, o, rfl, hc0⟩ := HA.out k (.pointer (some ⟨d.nb, 0, none⟩)) (by unfold ptrs; rw [List.getElem?_map, hp]; simp [hd, ptrV])
      have hc := (HS.out.cell (p := ⟨b, o + k, none⟩) (cell_lt hc0) (fun h => h)).trans hc0
      have HSt := Lib.hid (belowL_step g ls hp)
      have HDd := Lib.hid hd
      clear hp hd hc0
      obtain ⟨U, hU⟩ : ∃ U, U = wr := ⟨_, rfl⟩
      subst hU
      go_wp2
      go_loopw [5, 19] (fun o j wr => ∃ (t en : Nat) (aa : Option Addr) (cc : Nat), t ≤ m ∧ j = .int .i64 t ∧ o = .slice aa en cc ∧ en = (belowL g (ps.take k) ls ++ belowI g p (ls.take t)).length ∧ wr.ownsRow w.heap.size 55 1 (.slice aa en cc) en (ptrs g (belowL g (ps.take k) ls ++ belowI g p (ls.take t))) ∧ Still w wr) (fun _ j _ => m - (intOf j).toNat)
      case atStart => exact ⟨0, dn, aa, cc, Nat.zero_le _, rfl, rfl, by rw [HD.out]; simp [belowI], by simpa [belowI] using HO.out, HS.out⟩
      case round =>
        obtain ⟨t, en, aa2, cc2, ht, rfl, rfl, hen, hown2, hst2⟩ := hrel
        have HO2 := Lib.hid hown2
        have HS2 := Lib.hid hst2
        have HE2 := Lib.hid hen
        have hlo := hst2.size
        have hsm1 := HSz.out k hk
        have hsm2 := HSi.out p t
        rw [List.length_append] at hen
        rw [List.length_take] at hsm2
        have hen2 : en ≤ 200000 := by omega
        clear hown2 hst2 hen hsm1 hsm2
        by_cases hlt2 : t < m
        · obtain ⟨x, hx⟩ := get_some (l := ls) (i := t) (by rw [← HM.out]; exact hlt2)
          obtain ⟨b2, o2, rfl, hcx0⟩ := HB.out t x hx
          have hcx := (HS2.out.cell (p := ⟨b2, o2 + t, none⟩) (cell_lt hcx0) (fun h => h)).trans hcx0
          obtain ⟨c0, c1, hlook⟩ := (HH.out _ HS2.out).cells HDd.out
          have hlk := hlook x (by have := HL.out x (List.mem_of_getElem? hx); unfold maxLen; omega)
          have HSt2 := Lib.hid (belowI_step g p hx)
          clear hx hlook hcx0 c0
          unfold tx at hcx hlk
          cases hg : g (p ++ [x]) with
          | none =>
            rw [hg] at hlk
            simp only [Option.map_none, ptrV] at hlk
            have HG := Lib.hid hg
            clear hg
            go_wp2_with fail
            go_roundw
            case rel =>
              have e1 := HSt2.out
              rw [HG.out] at e1
              simp only [Option.isSome_none, Bool.false_eq_true, if_false, List.append_nil] at e1
              exact ⟨t + 1, en, aa2, cc2, by omega, by go_num, rfl, by rw [e1]; exact HE2.out, by rw [e1]; exact HO2.out, HS2.out⟩
            case measure => simp [intOf]; omega
          | some d2 =>
            rw [hg] at hlk
            simp only [Option.map_some, ptrV] at hlk
            have HG := Lib.hid hg
            clear hg
            go_wp2_with (at_builtin; refine wpList_append_own_at _ rfl _ _ 73 rfl w.heap.size 55 i0 (.pointer none) 1 8 Tryz.underlying73 hi hz0 hz1 hz2 rfl (by decide) (.slice aa2 en cc2) en _ rfl (ow_still HO2.out ((Turned.refl _ _).alloc _)) ⟨wr.heap.size, 0, none⟩ 1 1 [.pointer (some ⟨d2.nb, 0, none⟩)] rfl rfl (ow_cells wr _ _) (by simp [Value.oneCell']) (by unfold maxLen; omega) (by omega) (by simp; omega) ?_; intro v6 w6 hown6 hg6 _ hat6; obtain ⟨a6, c6, rfl⟩ := ow_slice hown6; have HS6 := Lib.hid (ow_put HS2.out HO2.out hg6); have HO6 := Lib.hid hown6; clear hown6 hg6 hat6)
            go_roundw
            case rel =>
              have e1 := HSt2.out
              rw [HG.out] at e1
              simp only [Option.isSome_some, if_true] at e1
              refine ⟨t + 1, en + 1, a6, c6, by omega, by go_num, by go_num, ?_, ?_, HS6.out⟩
              · rw [e1, ← List.append_assoc, List.length_append, ← HE2.out]; rfl
              · have := HO6.out
                rw [e1, ← List.append_assoc, ptrs_append]
                simpa [ptrs, HG.out, ptrV] using this
            case measure => simp [intOf]; omega
        · obtain rfl : t = m := by omega
          go_wp2_with fail
          go_roundw
          case rel =>
            have e1 := HE2.out
            have e2 := HO2.out
            rw [HU.out, ← HSt.out] at e1 e2
            exact ⟨k + 1, en, aa2, cc2, by omega, by go_num, rfl, e1, e2, HS2.out⟩
          case measure => simp [intOf]; omega
    · obtain rfl : k = n := by omega
      have HE := Lib.hid (show OutP w (ptrs g (belowL g ps ls)) (.returned (.slice aa dn cc)) wr from by
        have e1 := HD.out
        have e2 := HO.out
        rw [HT.out] at e1 e2
        exact ⟨aa, dn, cc, rfl, by rw [ptrs_length]; exact e1, e2, HS.out⟩)
      go_wp2_with fail
      go_ret
      exact HE.out
end Go.Proofs.YtpmkokckjieidaaGreatDoor

/- A row appended to a row of one's own, be it of nothing; and what that leaves of things that are held. No condition. -/
namespace Go.Proofs.YtpmkokckjieidaaGreatDoor
open Go.RowKit
set_option linter.unusedVariables false
set_option linter.unusedSimpArgs false

theorem wpList_app_row {P : Program} (w : World) {ops : Array Oper} {rest : List Oper} {o : Oper} {a : Act} {Q : Exit → Act → World → Prop} (hgd : o.guard = none) (s x : Operand) (t : TypeId)
    (ho : o.op = .call { callee := .builtin .append, args := #[s, x], argTypes := #[t, t] })
    (base : Nat) (e : TypeId) (i : TypeInfo) (z : Value) (bytes : Nat) (ht : P.underlying t = some (.slice e)) (hi : P.info? e = some i) (hz : i.zero = some z) (hsize : i.size = 1) (hby : i.bytes = bytes) (hzs : z.cells.size = 1)
    (ao : Option Addr) (n cc : Nat) (xs : List Value) (hs : a.eval s = .slice ao n cc) (hown : w.ownsRow base e 1 (.slice ao n cc) n xs)
    (sp : Option Addr) (m c : Nat) (news : List Value) (hx : a.eval x = .slice sp m c) (hl : news.length = m) (hnews : ∀ y, sp = some y → ∀ j u, news[j]? = some u → w.cell? (y.add j) = some u) (hnil : sp = none → m = 0) (h1 : ∀ u ∈ news, u.oneCell' = true)
    (h63 : n + m ≤ maxLen) (hbytes : (n + m) * bytes ≤ 140737488355328) (hbase : base ≤ w.heap.size)
    (h : ∀ a' c' w', w'.ownsRow base e 1 (.slice a' (n + m) c') (n + m) (xs ++ news) → w.grownBy w' (Value.slice ao n cc).ownBlock → ((Value.slice a' (n + m) c').ownBlock = (Value.slice ao n cc).ownBlock ∨ (Value.slice a' (n + m) c').ownBlock = some w.heap.size) → wpList P ops Q rest (a.put o.dst (.slice a' (n + m) c')) w') :
    wpList P ops Q (o :: rest) a w := by
  have zero : m = 0 → wpList P ops Q (o :: rest) a w := fun h0 => by
    subst h0
    have e0 : news = [] := List.eq_nil_of_length_eq_zero hl
    subst e0
    refine wpList_app_zero hgd s x t ho e i ht hi ao sp n cc c hs hx (ow_le hown).1 ?_
    exact h ao cc w (by simpa using hown) ⟨rfl, rfl, rfl, Nat.le_refl _, fun _ _ _ => rfl⟩ (.inl rfl)
  cases sp with
  | none => exact zero (hnil rfl)
  | some ad =>
    exact wpList_append_own_at w hgd s x t ho base e i z 1 bytes ht hi hz hsize hby hzs (by decide) (.slice ao n cc) n xs hs hown ad m c news hx (by omega) (hnews ad rfl) h1 h63 hbytes hbase (fun v' w' h2 h3 _ h5 => by
      obtain ⟨a', c', rfl⟩ := ow_slice h2
      exact h a' c' w' h2 h3 h5)

/-- What append of a row leaves of one's own. -/
theorem ownT_grownR {e : TypeId} {m : Nat} {ao a' : Option Addr} {n cc n' c' : Nat} {xs ys : List Value} {W : Nat → Prop} {w w' : World} (h : (ownT e m ao n cc xs).at_ w W)
    (hown : w'.ownsRow 0 e m (.slice a' n' c') n' ys) (hg : w.grownBy w' (Value.slice ao n cc).ownBlock)
    (hat : (Value.slice a' n' c').ownBlock = (Value.slice ao n cc).ownBlock ∨ (Value.slice a' n' c').ownBlock = some w.heap.size) : Goes (ownT e m a' n' c' ys) W w w' := by
  obtain ⟨h1, hW⟩ := h
  refine ⟨fun k => (Value.slice a' n' c').ownBlock = some k, ⟨hown, fun k => Iff.rfl⟩, (Turned.refl W w).grown hg (fun k hk => .inl ((hW k).2 hk)), fun k hk => ?_⟩
  rcases hat with h | h
  · exact .inl ((hW k).2 (h ▸ hk))
  · rw [h] at hk
    have : w.heap.size = k := by simpa using hk
    exact .inr (by omega)
theorem Held.grownR {w0 w w' : World} {A : Thing} {e : TypeId} {m : Nat} {ao a' : Option Addr} {n cc n' c' : Nat} {xs ys : List Value} (H : Held w0 w (A.sep (ownT e m ao n cc xs)))
    (hown : w'.ownsRow 0 e m (.slice a' n' c') n' ys) (hg : w.grownBy w' (Value.slice ao n cc).ownBlock)
    (hat : (Value.slice a' n' c').ownBlock = (Value.slice ao n cc).ownBlock ∨ (Value.slice a' n' c').ownBlock = some w.heap.size) : Held w0 w' (A.sep (ownT e m a' n' c' ys)) := by
  obtain ⟨W, h1, h2⟩ := H.swap.fst
  exact (h2 _ _ (ownT_grownR h1 hown hg hat)).swap
theorem Held.ownFst {w0 w : World} {A : Thing} {e : TypeId} {m : Nat} {ao : Option Addr} {n cc : Nat} {xs : List Value} (H : Held w0 w ((ownT e m ao n cc xs).sep A)) : w.ownsRow 0 e m (.slice ao n cc) n xs := H.swap.own
end Go.Proofs.YtpmkokckjieidaaGreatDoor

/- The nodes at which the filters end that match a name, level by level. No condition but that the tree is one, and that the name has not too many levels. -/
namespace Go.Proofs.YtpmkokckjieidaaGreatDoor
open Go.RowKit Go.Shelf
attribute [local go_sem] Oper.semAt_some
set_option linter.unusedVariables false
set_option linter.unusedSimpArgs false
set_option maxRecDepth 100000

def wildL (b : Bool) (x : Txt) : List Txt := if b = true then [x, [43]] else [x]
def endR (g : Gr) (b : Bool) (here : List Path) : List Path := if b = true then belowL g here [[35]] else []
def endsF (g : Gr) : List Txt → Bool → List Path → List Path
  | [], b, here => endR g b here ++ here
  | x :: r, b, here => endR g b here ++ endsF g r true (belowL g here (wildL b x))

theorem ptrs_one (g : Gr) (ps : List Path) : ∀ u ∈ ptrs g ps, u.oneCell' = true := fun u hu => by
  unfold ptrs at hu
  obtain ⟨p, _, rfl⟩ := List.mem_map.1 hu
  cases g p <;> rfl
theorem ptrs_cells {w : World} {B : Nat} {e : TypeId} {a : Option Addr} {c n : Nat} {l : List Value} (h : w.ownsRow B e 1 (.slice a n c) n l) (hn : n = l.length) : ∀ y, a = some y → ∀ j u, l[j]? = some u → w.cell? (y.add j) = some u := by
  rintro y rfl j u hj
  obtain ⟨b, o, e', hc⟩ := PtrsAt.of_own h hn j u hj
  cases e'
  rw [Addr.add_lit]; exact hc
theorem row_nil {w : World} {B : Nat} {e : TypeId} {a : Option Addr} {c n : Nat} {l : List Value} (h : w.ownsRow B e 1 (.slice a n c) n l) : a = none → n = 0 := fun ha => ((ow_le h).2.2 ha).1

/-- What is held on the way: the nodes at hand, and the ends so far. -/
def EnSt (g : Gr) (w wr : World) (H E : List Path) (ha : Option Addr) (hn hc : Nat) (ea : Option Addr) (en ec : Nat) : Prop :=
  Held w wr ((ownT 55 1 ha hn hc (ptrs g H)).sep (ownT 55 1 ea en ec (ptrs g E))) ∧ hn = H.length ∧ en = E.length ∧ ∀ p ∈ H, (g p).isSome = true

theorem EnSt.rest {g : Gr} {w wr V w1 : World} {H E N : List Path} {ha ea a : Option Addr} {hn hc en ec k c : Nat} (h : EnSt g w wr H E ha hn hc ea en ec) (hV : Still wr V)
    (hown : w1.ownsRow V.heap.size 55 1 (.slice a k c) k (ptrs g N)) (hs : Still V w1) :
    Held w w1 (((ownT 55 1 a k c (ptrs g N)).sep (ownT 55 1 ha hn hc (ptrs g H))).sep (ownT 55 1 ea en ec (ptrs g E))) :=
  ((h.1.still hV).got hown hs).swap.assoc'

set_option maxHeartbeats 4000000 in
theorem yends_any {w : World} {S : Nat → Prop} {g : Gr} (H : NodesAt w g S) (hW : Wf g) {q : Nat} {d0 : Nd} (hq : w.cell? ⟨q, 0, none⟩ = some (.pointer (some ⟨d0.nb, 0, none⟩))) (h0 : g [] = some d0) (ls : List Txt) (bo : Option Addr) (m cb : Nat) (hm : m = ls.length) (hm8 : m ≤ 8) (hB : TextsAt w bo ls) (hl : ∀ l ∈ ls, l.length ≤ 1000000) (hid : Bool) :
    Calls Tryz.prog 48 #[.pointer (some ⟨q, 0, none⟩), .slice bo m cb, .bool hid] w fun e w' => ∃ a k c, e = .returned (.slice a k c) ∧ k = (endsF g ls (!hid) [[]]).length ∧ k ≤ 10000 ∧ Held w w' (ownT 55 1 a k c (ptrs g (endsF g ls (!hid) [[]]))) := by
  obtain ⟨i0, hi, hz0, hz1, hz2⟩ := info_parts infoPtr
  have HM := Lib.hid hm
  have HB := Lib.hid (fun V (h : Still w V) => hB.still h)
  have HL := Lib.hid hl
  have HBl := Lib.hid (fun (V : World) (h : Still w V) (ps : List Path) (hps : ∀ p ∈ ps, (g p).isSome = true) (lv : List Txt) (ao bo : Option Addr) (n m ca cb : Nat) (hn : n = ps.length) (hm : m = lv.length) (hA : PtrsAt V ao (ptrs g ps)) (hB : TextsAt V bo lv) (hn2 : n ≤ 1000) (hm2 : m ≤ 2) (hl : ∀ l ∈ lv, l.length ≤ 1000000) =>
    ybelow_any (H.still h) ps hps lv ao bo n m ca cb hn hm hA hB (by have := Nat.mul_le_mul hn2 hm2; omega) (by omega) (by omega) hl)
  have HI := Lib.hid (show EnSt g w (w.alloc (.cells #[.pointer (some ⟨d0.nb, 0, none⟩)] 55)) [[]] [] (some ⟨w.heap.size, 0, none⟩) 1 1 none 0 0 from by
    refine ⟨?_, rfl, rfl, fun p hp => by simp at hp; rw [hp]; exact hW.root⟩
    have h1 : Held w (w.alloc (.cells #[.pointer (some ⟨d0.nb, 0, none⟩)] 55)) (Thing.none.sep (ownT 55 1 (some ⟨w.heap.size, 0, none⟩) 1 1 (ptrs g [[]]))) := by
      refine (Held.start (Turned.refl _ w)).got ?_ ((Turned.refl _ _).alloc _)
      have := ow_one w (.pointer (some ⟨d0.nb, 0, none⟩)) 55 (base := w.heap.size) (Nat.le_refl _)
      simpa [ptrs, h0, ptrV] using this
    have h2 := h1.snd
    exact h2.got (World.ownsRow_nil _ _ _ _) (Turned.refl _ _))
  have HZ := Lib.hid (show endsF g (ls.drop 0) (!hid) [[]] = endsF g ls (!hid) [[]] from by rw [List.drop_zero])
  obtain ⟨R, hR⟩ : ∃ R, R = endsF g ls (!hid) [[]] := ⟨_, rfl⟩
  rw [← hR] at HZ ⊢
  clear hm hB H hW h0 hl hR
  go_enter Tryz.func48, Tryz.ntmps48
  go_wp2_with fail
  go_step3
  go_wp2_with fail
  go_step3
  go_wp2_with fail
  go_loopw [7, 8, 9, 10] (fun e h f i wr => ∃ (k : Nat) (H E : List Path) (b : Bool) (ha : Option Addr) (hn hc : Nat) (ea : Option Addr) (en ec : Nat), k ≤ m ∧ i = .int .i64 k ∧ h = .slice ha hn hc ∧ e = .slice ea en ec ∧ f = .bool b ∧ EnSt g w wr H E ha hn hc ea en ec ∧ R = E ++ endsF g (ls.drop k) b H ∧ hn ≤ 2 ^ k ∧ en ≤ 300 * k) (fun _ _ _ i _ => m - (intOf i).toNat)
  case atStart => exact ⟨0, [[]], [], !hid, some ⟨w.heap.size, 0, none⟩, 1, 1, none, 0, 0, Nat.zero_le _, rfl, rfl, rfl, rfl, HI.out, by rw [List.nil_append, HZ.out], by omega, by omega⟩
  case round =>
    obtain ⟨k, H, E, b, ha, hn, hc, ea, en, ec, hk, rfl, rfl, rfl, rfl, hst, hRk, h2k, h3k⟩ := hrel
    have HSt := Lib.hid hst
    have HRk := Lib.hid hRk
    have hk8 : k ≤ 8 := by omega
    have hpow : 2 ^ k ≤ 256 := Nat.pow_le_pow_right (show 2 > 0 by omega) hk8
    have hn256 : hn ≤ 256 := by omega
    have hen : en ≤ 2400 := by omega
    have H2k := Lib.hid h2k
    have hgr := hst.1.ground
    have HPH := Lib.hid hst.2.2.2
    have HHl := Lib.hid hst.2.1
    have HEl := Lib.hid hst.2.2.1
    -- below(here, "#")
    have H1 := Lib.hid (show Calls Tryz.prog 66 #[.slice ha hn hc, .slice (some ⟨wr.heap.size, 0, none⟩) 1 1] (wr.alloc (.cells #[.string ⟨#[35]⟩] 9)) (fun e w1 => ∃ a k1 c, e = .returned (.slice a k1 c) ∧ Hid (k1 = (ptrs g (belowL g H [[35]])).length) ∧ k1 ≤ 256 ∧ Hid (Held w w1 (((ownT 55 1 a k1 c (ptrs g (belowL g H [[35]]))).sep (ownT 55 1 ha hn hc (ptrs g H))).sep (ownT 55 1 ea en ec (ptrs g E))))) from by
      have hV : Still wr (wr.alloc (.cells #[.string ⟨#[35]⟩] 9)) := (Turned.refl _ _).alloc _
      refine (HBl.out _ (hgr.trans hV) H hst.2.2.2 [[35]] ha _ hn 1 hc 1 hst.2.1 rfl (PtrsAt.of_own (hst.1.still hV).ownFst (by rw [ptrs_length]; exact hst.2.1)) (TextsAt.lit _ _ [[35]] (Blk.new wr (txs [[35]]) 9)) (by omega) (by omega) (by simp)).mono ?_
      rintro e w1 ⟨a, k1, c, rfl, hk1, hown, hs⟩
      refine ⟨a, k1, c, rfl, Lib.hid hk1, ?_, Lib.hid (hst.rest hV hown hs)⟩
      have := belowL_len g [[35]] H
      rw [ptrs_length] at hk1
      rw [List.length_cons, List.length_nil, ← hst.2.1] at this
      omega)
    -- below(here, levels..)
    have H2 := Lib.hid (fun (w6 : World) (A : Thing) (ea6 : Option Addr) (en6 ec6 : Nat) (E6 : List Value) (X6 : Held w w6 ((A.sep (ownT 55 1 ha hn hc (ptrs g H))).sep (ownT 55 1 ea6 en6 ec6 E6))) (x : Txt) (hx : x.length ≤ 1000000) (b : Bool) (xs : Array Value) (hxs : xs = (txs (wildL b x)).toArray) (m2 : Nat) (hm2 : m2 = (wildL b x).length) =>
      show Calls Tryz.prog 66 #[.slice ha hn hc, .slice (some ⟨w6.heap.size, 0, none⟩) m2 m2] (w6.alloc (.cells xs 9)) (fun e w1 => ∃ a k1 c, e = .returned (.slice a k1 c) ∧ Hid (k1 = (belowL g H (wildL b x)).length) ∧ k1 ≤ hn * 2 ∧ Hid (Held w w1 ((ownT 55 1 a k1 c (ptrs g (belowL g H (wildL b x)))).sep (ownT 55 1 ea6 en6 ec6 E6)))) from by
      subst hxs
      have hV : Still w6 (w6.alloc (.cells (txs (wildL b x)).toArray 9)) := (Turned.refl _ _).alloc _
      have hwl : (wildL b x).length ≤ 2 := by unfold wildL; split <;> simp
      refine (HBl.out _ (X6.ground.trans hV) H HPH.out (wildL b x) ha _ hn m2 hc m2 HHl.out hm2 (PtrsAt.of_own ((X6.still hV).drop).own (by rw [ptrs_length]; exact HHl.out)) (TextsAt.lit _ _ (wildL b x) (Blk.new w6 (txs (wildL b x)) 9)) (by omega) (by omega) (fun l hl => ?_)).mono ?_
      · unfold wildL at hl
        split at hl
        · rcases List.mem_cons.1 hl with rfl | hl
          · exact hx
          · simp at hl; rw [hl]; simp
        · simp at hl; rw [hl]; exact hx
      rintro e w1 ⟨a, k1, c, rfl, hk1, hown, hs⟩
      rw [ptrs_length] at hk1
      refine ⟨a, k1, c, rfl, Lib.hid hk1, ?_, Lib.hid (((X6.still hV).got hown hs).assoc.snd.swap)⟩
      have := belowL_len g (wildL b x) H
      rw [← HHl.out] at this
      have h2 := Nat.mul_le_mul_left hn hwl
      omega)
    clear hst hRk
    by_cases hlt : k < m
    · obtain ⟨x, hx⟩ := get_some (l := ls) (i := k) (by rw [← HM.out]; exact hlt)
      obtain ⟨b2, o2, rfl, _⟩ := HB.out w (Turned.refl _ _) k x hx
      have hxl := HL.out x (List.mem_of_getElem? hx)
      have HX := Lib.hid (fun V (h : Still w V) => show V.cell? ⟨b2, o2 + k, none⟩ = some (.string ⟨x.toArray⟩) from by
        obtain ⟨b', o', e, hc⟩ := HB.out V h k x hx
        cases e
        exact hc)
      have HDr := Lib.hid (show ls.drop k = x :: ls.drop (k + 1) from by
        obtain ⟨h1, h2⟩ := List.getElem?_eq_some_iff.1 hx
        rw [← h2]; exact List.drop_eq_getElem_cons h1)
      have hne : ((k : Int) == (m : Int)) = false := by simp; omega
      have hcr := HX.out wr hgr
      have hp2 : 2 ^ (k + 1) = 2 ^ k * 2 := Nat.pow_succ ..
      cases b with
      | true =>
        have HL2 := Lib.hid (fun w6 A ea6 en6 ec6 E6 X6 => H2.out w6 A ea6 en6 ec6 E6 X6 x hxl true #[.string ⟨x.toArray⟩, .string ⟨#[43]⟩] rfl 2 rfl)
        clear hx
        go_wp2_with (first
          | (go_at_call 66; ((with_reducible refine H1.out.mono ?_)); rintro e w1 ⟨a1, k1, c1, rfl, HK1, hk256, X1⟩)
          | (at_builtin; refine wpList_app_row _ rfl _ _ 73 rfl 0 55 i0 (.pointer none) 8 Tryz.underlying73 hi hz0 hz1 hz2 rfl ea en ec _ rfl X1.out.own a1 k1 c1 _ rfl HK1.out.symm (ptrs_cells X1.out.drop.ownFst HK1.out) (row_nil X1.out.drop.ownFst) (ptrs_one _ _) (by unfold maxLen; omega) (by omega) (Nat.zero_le _) ?_; intro a6 c6 w6 hown6 hg6 hat6; have X6 := Lib.hid (X1.out.grownR hown6 hg6 hat6); have hc6 := HX.out _ X6.out.ground; clear hown6 hg6 hat6)
          | (go_at_call 66; ((with_reducible refine (HL2.out _ _ _ _ _ _ X6.out).mono ?_)); rintro e w7 ⟨a7, k7, c7, rfl, HK7, hk7, X7⟩))
        go_roundw
        case rel =>
          refine ⟨k + 1, belowL g H (wildL true x), E ++ belowL g H [[35]], true, a7, k7, c7, a6, en + k1, c6, by omega, by go_num, rfl, by go_num, rfl, ⟨by rw [ptrs_append]; exact X7.out, HK7.out, by rw [List.length_append, ← HEl.out]; have := HK1.out; rw [ptrs_length] at this; omega, belowL_some g H _⟩, ?_, by have := H2k.out; omega, by omega⟩
          rw [HRk.out, HDr.out, endsF, endR, if_pos rfl, List.append_assoc]
        case measure => simp [intOf]; omega
      | false =>
        have X6 := Lib.hid (show Held w wr ((Thing.none.sep (ownT 55 1 ha hn hc (ptrs g H))).sep (ownT 55 1 ea en ec (ptrs g E))) from
          (HSt.out.1.new (B := Thing.none) ⟨fun _ => False, fun _ h => h, Turned.refl _ _, fun _ h => h.elim⟩).assoc')
        have HL2 := Lib.hid (H2.out wr _ _ _ _ _ X6.out x hxl false #[.string ⟨x.toArray⟩] rfl 1 rfl)
        clear hx
        go_wp2_with (go_at_call 66; ((with_reducible refine HL2.out.mono ?_)); rintro e w7 ⟨a7, k7, c7, rfl, HK7, hk7, X7⟩)
        go_roundw
        case rel =>
          refine ⟨k + 1, belowL g H (wildL false x), E, true, a7, k7, c7, ea, en, ec, by omega, by go_num, rfl, rfl, rfl, ⟨X7.out, HK7.out, HEl.out, belowL_some g H _⟩, ?_, by have := H2k.out; omega, by omega⟩
          rw [HRk.out, HDr.out, endsF, endR, if_neg (by simp), List.nil_append]
        case measure => simp [intOf]; omega
    · obtain rfl : k = m := by omega
      have hDr : ls.drop k = [] := List.drop_eq_nil_of_le (by rw [HM.out]; exact Nat.le_refl _)
      have HDr := Lib.hid hDr
      have heq : ((k : Int) == (k : Int)) = true := by simp
      clear hDr
      cases b with
      | true =>
        have HE := Lib.hid (fun (w8 : World) (A : Thing) a8 k8 c8 (hk8 : k8 = en + (belowL g H [[35]]).length + hn) (hb : k8 ≤ 10000) (X : Held w w8 (A.sep (ownT 55 1 a8 k8 c8 (ptrs g E ++ ptrs g (belowL g H [[35]]) ++ ptrs g H)))) =>
          show ∃ a k c, (Ending.returned (.slice a8 k8 c8)) = .returned (.slice a k c) ∧ k = R.length ∧ k ≤ 10000 ∧ Held w w8 (ownT 55 1 a k c (ptrs g R)) from by
            have e1 : R = E ++ belowL g H [[35]] ++ H := by rw [HRk.out, HDr.out, endsF, endR, if_pos rfl, List.append_assoc]
            refine ⟨a8, k8, c8, rfl, by rw [hk8, e1, List.length_append, List.length_append, ← HEl.out, ← HHl.out], hb, ?_⟩
            rw [e1, ptrs_append, ptrs_append]
            exact X.snd)
        go_wp2_with (first
          | (go_at_call 66; ((with_reducible refine H1.out.mono ?_)); rintro e w1 ⟨a1, k1, c1, rfl, HK1, hk256, X1⟩)
          | (at_builtin; refine wpList_app_row _ rfl _ _ 73 rfl 0 55 i0 (.pointer none) 8 Tryz.underlying73 hi hz0 hz1 hz2 rfl ea en ec _ rfl X1.out.own a1 k1 c1 _ rfl HK1.out.symm (ptrs_cells X1.out.drop.ownFst HK1.out) (row_nil X1.out.drop.ownFst) (ptrs_one _ _) (by unfold maxLen; omega) (by omega) (Nat.zero_le _) ?_; intro a6 c6 w6 hown6 hg6 hat6; have X6 := Lib.hid (X1.out.grownR hown6 hg6 hat6); clear hown6 hg6 hat6)
          | (at_builtin; refine wpList_app_row _ rfl _ _ 73 rfl 0 55 i0 (.pointer none) 8 Tryz.underlying73 hi hz0 hz1 hz2 rfl a6 (en + k1) c6 _ rfl X6.out.own ha hn hc _ rfl (by rw [ptrs_length]; exact HHl.out.symm) (ptrs_cells X6.out.drop.own (by rw [ptrs_length]; exact HHl.out)) (row_nil X6.out.drop.own) (ptrs_one _ _) (by unfold maxLen; omega) (by omega) (Nat.zero_le _) ?_; intro a8 c8 w8 hown8 hg8 hat8; have X8 := Lib.hid (X6.out.grownR hown8 hg8 hat8); clear hown8 hg8 hat8))
        rw [Exit.noGoto_ret]
        go_ret
        exact HE.out _ _ _ _ _ (by have := HK1.out; rw [ptrs_length] at this; omega) (by omega) X8.out
      | false =>
        have HE := Lib.hid (fun (w8 : World) (A : Thing) a8 k8 c8 (hk8 : k8 = en + hn) (hb : k8 ≤ 10000) (X : Held w w8 (A.sep (ownT 55 1 a8 k8 c8 (ptrs g E ++ ptrs g H)))) =>
          show ∃ a k c, (Ending.returned (.slice a8 k8 c8)) = .returned (.slice a k c) ∧ k = R.length ∧ k ≤ 10000 ∧ Held w w8 (ownT 55 1 a k c (ptrs g R)) from by
            have e1 : R = E ++ H := by rw [HRk.out, HDr.out, endsF, endR, if_neg (by simp), List.nil_append]
            refine ⟨a8, k8, c8, rfl, by rw [hk8, e1, List.length_append, ← HEl.out, ← HHl.out], hb, ?_⟩
            rw [e1, ptrs_append]
            exact X.snd)
        go_wp2_with (at_builtin; refine wpList_app_row _ rfl _ _ 73 rfl 0 55 i0 (.pointer none) 8 Tryz.underlying73 hi hz0 hz1 hz2 rfl ea en ec _ rfl HSt.out.1.own ha hn hc _ rfl (by rw [ptrs_length]; exact HHl.out.symm) (ptrs_cells HSt.out.1.ownFst (by rw [ptrs_length]; exact HHl.out)) (row_nil HSt.out.1.ownFst) (ptrs_one _ _) (by unfold maxLen; omega) (by omega) (Nat.zero_le _) ?_; intro a8 c8 w8 hown8 hg8 hat8; have X8 := Lib.hid (HSt.out.1.grownR hown8 hg8 hat8); clear hown8 hg8 hat8)
        rw [Exit.noGoto_ret]
        go_ret
        exact HE.out _ _ _ _ _ rfl (by omega) X8.out
end Go.Proofs.YtpmkokckjieidaaGreatDoor

/- Going down all ways of a name at once comes to just the filters that match it. No condition but what each says. -/
namespace Go.Proofs.YtpmkokckjieidaaGreatDoor
open Go.RowKit
set_option linter.unusedVariables false
set_option linter.unusedSimpArgs false

def mOk : Bool → List Txt → List Txt → Bool
  | _, [], N => decide (N = [])
  | w, x :: s, N => if x = [35] then w && decide (s = []) else match N with
    | [] => false
    | y :: M => (decide (x = y) || (decide (x = [43]) && w)) && mOk true s M

theorem mem_belowL {g : Gr} {H : List Path} {lv : List Txt} {p : Path} : p ∈ belowL g H lv ↔ ∃ r ∈ H, ∃ l ∈ lv, p = r ++ [l] ∧ (g p).isSome = true := by
  unfold belowL belowI
  simp only [List.mem_flatMap]
  constructor
  · rintro ⟨r, hr, l, hl, hp⟩
    split at hp
    · rename_i h
      simp at hp
      exact ⟨r, hr, l, hl, hp, by rw [hp]; exact h⟩
    · simp at hp
  · rintro ⟨r, hr, l, hl, rfl, h⟩
    exact ⟨r, hr, l, hl, by rw [if_pos h]; simp⟩
theorem mem_restL {g : Gr} {b : Bool} {H : List Path} {p : Path} : p ∈ endR g b H ↔ b = true ∧ ∃ r ∈ H, p = r ++ [[35]] ∧ (g p).isSome = true := by
  unfold endR
  cases b with
  | false => simp
  | true => simp [mem_belowL]

theorem ends_mem {g : Gr} (hW : Wf g) : ∀ (N : List Txt), ([35] : Txt) ∉ N → ∀ (b : Bool) (H : List Path), (∀ r ∈ H, (g r).isSome = true) → ∀ p, p ∈ endsF g N b H ↔ ∃ r ∈ H, ∃ s, p = r ++ s ∧ (g p).isSome = true ∧ mOk b s N = true
  | [], _, b, H, hH, p => by
    rw [endsF, List.mem_append, mem_restL]
    constructor
    · rintro (⟨hb, r, hr, rfl, h⟩ | h)
      · exact ⟨r, hr, [[35]], rfl, h, by simp [mOk, hb]⟩
      · exact ⟨p, h, [], by simp, hH p h, by simp [mOk]⟩
    · rintro ⟨r, hr, s, rfl, h, hm⟩
      cases s with
      | nil => right; simpa using hr
      | cons x s =>
        rw [mOk] at hm
        split at hm
        · rename_i hx
          simp only [Bool.and_eq_true, decide_eq_true_eq] at hm
          left
          exact ⟨hm.1, r, hr, by rw [hx, hm.2], h⟩
        · cases hm
  | y :: M, hN, b, H, hH, p => by
    have hy : y ≠ [35] := fun e => hN (by simp [e])
    have hM : ([35] : Txt) ∉ M := fun h => hN (by simp [h])
    rw [endsF, List.mem_append, mem_restL, ends_mem hW M hM true _ (belowL_some g H _)]
    constructor
    · rintro (⟨hb, r, hr, rfl, h⟩ | ⟨r', hr', s, rfl, h, hm⟩)
      · exact ⟨r, hr, [[35]], rfl, h, by simp [mOk, hb]⟩
      · obtain ⟨r, hr, l, hl, rfl, _⟩ := mem_belowL.1 hr'
        refine ⟨r, hr, l :: s, by simp, h, ?_⟩
        have hl' : l = y ∨ (l = [43] ∧ b = true) := by
          unfold wildL at hl
          cases b with
          | false => simp at hl; exact .inl hl
          | true =>
            simp at hl
            rcases hl with h1 | h1
            · exact .inl h1
            · exact .inr ⟨h1, rfl⟩
        have hl35 : l ≠ [35] := by
          rcases hl' with rfl | ⟨rfl, _⟩
          · exact hy
          · decide
        rw [mOk, if_neg hl35]
        simp only [Bool.and_eq_true, Bool.or_eq_true, decide_eq_true_eq]
        exact ⟨hl', hm⟩
    · rintro ⟨r, hr, s, rfl, h, hm⟩
      cases s with
      | nil => simp [mOk] at hm
      | cons x s =>
        rw [mOk] at hm
        split at hm
        · rename_i hx
          simp only [Bool.and_eq_true, decide_eq_true_eq] at hm
          left
          exact ⟨hm.1, r, hr, by rw [hx, hm.2], h⟩
        · simp only [Bool.and_eq_true, Bool.or_eq_true, decide_eq_true_eq] at hm
          right
          refine ⟨r ++ [x], mem_belowL.2 ⟨r, hr, x, ?_, rfl, hW.pre s _ (by simpa using h)⟩, s, by simp, h, hm.2⟩
          unfold wildL
          rcases hm.1 with rfl | ⟨rfl, rfl⟩
          · split <;> simp
          · simp

def lastH (s : List Txt) : Prop := ∀ i x, s[i]? = some x → x = [35] → i + 1 = s.length
theorem lastH_of {s : List Txt} (h : lvB s = true) : lastH s := fun i x hx e => ((lvB_at h hx).2 (by rw [e]; simp)).2
theorem lastH_tail {x : Txt} {s : List Txt} (h : lastH (x :: s)) : lastH s := fun i y hy e => by have := h (i + 1) y (by simpa using hy) e; simpa using this
theorem lastH_nil {s : List Txt} (h : lastH ([35] :: s)) : s = [] := by
  have := h 0 [35] rfl rfl
  simp at this
  exact this
theorem mOk_hash (b : Bool) (s N : List Txt) : mOk b ([35] :: s) N = (b && decide (s = [])) := by cases N <;> simp [mOk]
theorem mOk_mts : ∀ (s N : List Txt), lastH s → mOk true s N = mts s N
  | [], N, _ => by rw [mts_nil, mOk]
  | x :: s, N, h => by
    by_cases hx : x = [35]
    · subst hx
      rw [mts_hash, mOk_hash, lastH_nil h]; rfl
    · cases N with
      | nil => rw [mts_end hx, mOk, if_neg hx]
      | cons y M =>
        rw [mts_go hx, mOk, if_neg hx, mOk_mts s M (lastH_tail h), Bool.and_true, Bool.or_comm]

theorem mOk_is {f n : Txt} (hf : fcE f = 0) (hn : nmE n = 0) : mOk (!hdB n) (spl f) (spl n) = isB f n := by
  have hlast : lastH (spl f) := lastH_of (fcE_iff.1 hf).2.2.2.2
  unfold isB
  rw [← tk_hid hf]
  unfold hid2
  obtain ⟨y, M, hyM, hy⟩ := spl_head n 36 (by decide)
  obtain ⟨x, s, hxs⟩ : ∃ x s, spl f = x :: s := by
    cases h : spl f with
    | nil => exact absurd h (spl_ne f)
    | cons x s => exact ⟨x, s, rfl⟩
  have hhd : hdB n = decide (y[0]? = some 36) := by unfold hdB; exact decide_eq_decide.2 ⟨fun h => hy.1 h.2, fun h => ⟨hn, hy.2 h⟩⟩
  rw [hhd, hyM, hxs]
  rw [hxs] at hlast
  simp only [List.getElem?_cons_zero, Option.some.injEq, prefix_iff]
  by_cases h36 : y[0]? = some 36
  · simp only [h36, decide_true, Bool.not_true, Bool.and_true]
    by_cases hx : x = [35]
    · subst hx; simp [mOk]
    · by_cases h43 : x = [43]
      · subst h43
        have hne : ([43] : Txt) ≠ y := fun e => by rw [← e] at h36; simp at h36
        simp [mOk, hne]
      · have e1 : mOk false (x :: s) (y :: M) = ((decide (x = y) || (decide (x = [43]) && false)) && mOk true s M) := by rw [mOk, if_neg hx]
        first | rw [e1] | (rw [show (!true) = false from rfl, e1])
        rw [mts_go hx, mOk_mts s M (lastH_tail hlast)]
        simp [h43, hx]
  · simp only [h36, decide_false, Bool.not_false, Bool.and_false, Bool.true_and]
    exact mOk_mts _ _ hlast

/-- The numbers of nodes. -/
def numsOf (g : Gr) (ps : List Path) : List Nat := ps.flatMap fun p => match g p with
  | some d => d.ns
  | none => []
theorem match_mem {g : Gr} {L : List Pr} (hW : Wf g) (hG : GL g L) (hL : TOk L) {s : Txt} (hn : nmE s = 0) (n : Nat) : n ∈ numsOf g (endsF g (spl s) (!hdB s) [[]]) ↔ n < 256 ∧ hitB L s n = true := by
  have hno : ([35] : Txt) ∉ spl s := name_no_hash hn
  unfold numsOf hitB
  rw [List.mem_flatMap, List.any_eq_true]
  constructor
  · rintro ⟨p, hp, hnp⟩
    obtain ⟨r, hr, s', rfl, h1, h2⟩ := (ends_mem hW _ hno _ _ (by simp; exact hW.root) p).1 hp
    simp at hr
    subst hr
    rw [List.nil_append] at h1 hnp
    obtain ⟨d, hd⟩ := Option.isSome_iff_exists.1 h1
    rw [hd] at hnp
    obtain ⟨f, hf, hm⟩ := ((hG.nums _ d hd).2 n).1 hnp
    obtain ⟨hfe, hlt⟩ := hL.ok _ hm
    refine ⟨hlt, (f, n), hm, ?_⟩
    rw [← hf, mOk_is hfe hn] at h2
    simp [h2]
  · rintro ⟨_, ⟨f, m⟩, hm, h⟩
    simp only [Bool.and_eq_true, decide_eq_true_eq] at h
    obtain ⟨rfl, h2⟩ := h
    obtain ⟨hfe, hlt⟩ := hL.ok _ hm
    have h1 : (g (spl f)).isSome = true := (hG.node _).2 (.inr ⟨_, hm, List.prefix_refl _⟩)
    obtain ⟨d, hd⟩ := Option.isSome_iff_exists.1 h1
    refine ⟨spl f, (ends_mem hW _ hno _ _ (by simp; exact hW.root) _).2 ⟨[], by simp, spl f, by simp, h1, by rw [mOk_is hfe hn]; exact h2⟩, ?_⟩
    rw [hd]
    exact ((hG.nums _ d hd).2 m).2 ⟨f, rfl, hm⟩

/-! ### sorted and made thin -/
theorem compact_sorted (l : List Int) (hs : l.Pairwise (· ≤ ·)) : ∀ m, m ≤ l.length → (Lib.compactUpTo l.toArray m).Pairwise (· < ·) ∧ ∀ x, x ∈ Lib.compactUpTo l.toArray m ↔ x ∈ l.take m
  | 0, _ => by simp [Lib.compactUpTo]
  | m + 1, h => by
    obtain ⟨h1, h2⟩ := compact_sorted l hs m (by omega)
    have hget : ∀ j (hj : j < l.length), l.toArray[j]! = l[j] := fun j hj => by rw [getElem!_pos l.toArray j (by simpa using hj)]; simp
    have htk : l.take (m + 1) = l.take m ++ [l[m]'(by omega)] := by rw [List.take_add_one, List.getElem?_eq_getElem (by omega)]; rfl
    rw [Lib.compactUpTo_succ, htk]
    by_cases hk : Lib.keeps l.toArray m = true
    · rw [if_pos hk, hget m (by omega)]
      refine ⟨List.pairwise_append.2 ⟨h1, by simp, fun a ha b hb => ?_⟩, fun x => by rw [List.mem_append, List.mem_append, h2]⟩
      simp at hb; subst hb
      have ha' := (h2 a).1 ha
      obtain ⟨i, hi, rfl⟩ := List.getElem_of_mem ha'
      rw [List.length_take] at hi
      rw [List.getElem_take]
      have hle : ∀ i j (hi : i < l.length) (hj : j < l.length), i ≤ j → l[i] ≤ l[j] := fun i j hi hj hij => by
        rcases Nat.lt_or_eq_of_le hij with h | rfl
        · exact List.pairwise_iff_getElem.1 hs i j hi hj h
        · exact Int.le_refl _
      have hm0 : 0 < m := by omega
      unfold Lib.keeps at hk
      have hk' := of_decide_eq_true hk
      rcases hk' with hk' | hk'
      · omega
      · rw [hget m (by omega), hget (m - 1) (by omega)] at hk'
        have a1 := hle i (m - 1) (by omega) (by omega) (by omega)
        have a2 := hle (m - 1) m (by omega) (by omega) (by omega)
        omega
    · rw [if_neg hk, List.append_nil]
      refine ⟨h1, fun x => ?_⟩
      rw [h2, List.mem_append]
      constructor
      · exact .inl
      · rintro (hx | hx)
        · exact hx
        · simp at hx; subst hx
          unfold Lib.keeps at hk
          have hk' : ¬ (m = 0 ∨ l.toArray[m]! ≠ l.toArray[m - 1]!) := fun hh => hk (decide_eq_true hh)
          have hm0 : m ≠ 0 := fun e => hk' (.inl e)
          have e1 : l.toArray[m]! = l.toArray[m - 1]! := Classical.byContradiction fun hh => hk' (.inr hh)
          rw [hget m (by omega), hget (m - 1) (by omega)] at e1
          rw [e1]
          exact List.mem_take_iff_getElem.2 ⟨m - 1, by omega, rfl⟩
def srtI (l : List Int) : List Int := l.mergeSort fun x y => decide (x ≤ y)
theorem srtI_sorted (l : List Int) : (srtI l).Pairwise (· ≤ ·) := by
  have := List.pairwise_mergeSort (le := fun x y : Int => decide (x ≤ y)) (by intro a b c; simp; omega) (by intro a b; simp; omega) l
  exact this.imp (fun h => by simpa using h)
theorem srtI_mem (l : List Int) (x : Int) : x ∈ srtI l ↔ x ∈ l := (List.mergeSort_perm l _).mem_iff
theorem srtI_length (l : List Int) : (srtI l).length = l.length := (List.mergeSort_perm l _).length_eq
theorem thin_eq {l : List Nat} {p : Nat → Bool} (h : ∀ n, n ∈ l ↔ n < 256 ∧ p n = true) : Lib.compact (srtI (ni l)) = ni ((List.range 256).filter p) := by
  obtain ⟨h1, h2⟩ := compact_sorted (srtI (ni l)) (srtI_sorted _) (srtI (ni l)).length (Nat.le_refl _)
  rw [List.take_length] at h2
  refine List.Perm.eq_of_pairwise (le := (· < ·)) (fun a b _ _ h h' => absurd h (by omega)) h1 ?_ ((List.perm_ext_iff_of_nodup (h1.imp fun {a b} h => by omega) ?_).2 (fun x => ?_))
  · unfold ni; rw [List.pairwise_map]; exact (List.pairwise_lt_range.filter _).imp (fun {a b} h => by omega)
  · unfold ni; rw [List.nodup_iff_pairwise_ne, List.pairwise_map]; exact (List.pairwise_lt_range.filter _).imp (fun {a b} h => by omega)
  · rw [h2, srtI_mem]
    unfold ni
    simp only [List.mem_map, List.mem_filter, List.mem_range, h]
end Go.Proofs.YtpmkokckjieidaaGreatDoor

/- What the program's tree tells of a name: the numbers of all filters that match it, rising, each once. No condition but that the tree is one, and that the name is not too long. -/
namespace Go.Proofs.YtpmkokckjieidaaGreatDoor
open Go.RowKit
set_option linter.unusedVariables false
set_option linter.unusedSimpArgs false
set_option maxRecDepth 100000

theorem Held.reT {w0 w w' : World} {A : Thing} {e : TypeId} {m n n' cc : Nat} {ao : Option Addr} {xs ys : List Value} (H : Held w0 w (A.sep (ownT e m ao n cc xs)))
    (hown : w'.ownsRow 0 e m (.slice ao n' cc) n' ys) (hT : Turned (fun k => ∃ y, ao = some y ∧ k = y.block) w w') : Held w0 w' (A.sep (ownT e m ao n' cc ys)) := by
  obtain ⟨W, h, h2⟩ := H.swap.fst
  have hW := h.2
  refine (h2 (ownT e m ao n' cc ys) w' ⟨W, ⟨hown, fun k => (hW k).trans (by cases ao <;> rfl)⟩, hT.mono (fun k _ ⟨y, hy, e⟩ => (hW k).2 (by rw [hy, e]; rfl)), fun k hk => .inl hk⟩).swap

theorem turned_growS {S : Nat → Prop} {w w' : World} (h : Turned S w w') (os : Array Obj) : Turned S w (Sort.grow w' os) :=
  ⟨h.os, h.tape, h.output, by show w.heap.size ≤ (w'.heap ++ os).size; rw [Array.size_append]; have := h.size; omega, fun k hk hs => (Sort.heap_grow_old w' os (Nat.lt_of_lt_of_le hk h.size)).trans (h.block k hk hs)⟩
theorem row_growS {w : World} {B : Nat} {e : TypeId} {m n c : Nat} {a : Option Addr} {xs : List Value} (h : w.ownsRow B e m (.slice a n c) n xs) (os : Array Obj) : (Sort.grow w os).ownsRow B e m (.slice a n c) n xs :=
  row_of_eq h (fun y hy => Sort.heap_grow_old w os (ow_lt h y hy).2)

theorem sortI_any {w : World} {B n c : Nat} {a : Option Addr} {l : List Int} (h : w.ownsRow B 3 1 (.slice a n c) n (ints l)) (hn : n = l.length) (hs : n ≤ 10000000) :
    Calls Tryz.prog 50 #[.slice a n c] w fun e w' => e = .returned (.tuple #[]) ∧ w'.ownsRow B 3 1 (.slice a n c) n (ints (srtI l)) ∧ Turned (fun k => ∃ y, a = some y ∧ k = y.block) w w' := by
  cases h0 : n with
  | zero =>
    have e : l = [] := List.eq_nil_of_length_eq_zero (by omega)
    subst e
    subst h0
    refine (Tryz.slices_Sort_int_none a c w).mono ?_
    rintro e w' ⟨h1, rfl⟩
    exact ⟨h1, by simpa [srtI] using h, Turned.refl _ _⟩
  | succ m =>
    rw [← h0]
    obtain ⟨b, r, rfl, _, hb⟩ := ow_blk h (by omega)
    have H := Tryz.slices_Sort_int b 0 c l w (holds_row h) hb.lt (by omega)
    rw [← hn] at H
    refine H.mono ?_
    rintro e w' ⟨h1, q, os, h2⟩
    obtain ⟨g1, g2⟩ := put_row h hn q (ys := srtI l) (srtI_length l) (m := n) (Nat.le_refl _)
    rw [List.take_of_length_le (by rw [srtI_length]; omega)] at g1
    subst h2
    exact ⟨h1, row_growS g1 os, turned_growS (g2.mono (fun k _ e => ⟨_, rfl, e⟩)) os⟩
theorem compactU_len (d : Array Int) : ∀ m, (Lib.compactUpTo d m).length ≤ m := fun m => by
  unfold Lib.compactUpTo
  rw [List.length_map]
  have := List.length_filter_le (Lib.keeps d) (List.range m)
  rwa [List.length_range] at this
theorem compI_any {w : World} {B n c : Nat} {a : Option Addr} {l : List Int} (h : w.ownsRow B 3 1 (.slice a n c) n (ints l)) (hn : n = l.length) (hs : n ≤ 10000000) :
    Calls Tryz.prog 51 #[.slice a n c] w fun e w' => ∃ m, e = .returned (.slice a m c) ∧ m = (Lib.compact l).length ∧ w'.ownsRow B 3 1 (.slice a m c) m (ints (Lib.compact l)) ∧ Turned (fun k => ∃ y, a = some y ∧ k = y.block) w w' := by
  have hle : (Lib.compact l).length ≤ l.length := compactU_len _ _
  cases h0 : n with
  | zero =>
    have e : l = [] := List.eq_nil_of_length_eq_zero (by omega)
    subst e
    subst h0
    refine (Tryz.slices_Compact_int_empty a c w).mono ?_
    rintro e w' ⟨h1, rfl⟩
    exact ⟨0, h1, by simp [Lib.compact, Lib.compactUpTo], by simpa [Lib.compact, Lib.compactUpTo] using h, Turned.refl _ _⟩
  | succ m =>
    rw [← h0]
    obtain ⟨b, r, rfl, _, hb⟩ := ow_blk h (by omega)
    have H := Tryz.slices_Compact_int b 0 c l w (holds_row h) (by omega) (by have := (ow_le h).1; omega)
    rw [← hn] at H
    refine H.mono ?_
    rintro e w' ⟨h1, q, h2⟩
    obtain ⟨g1, g2⟩ := put_row h hn q (ys := Lib.compact l ++ List.replicate (n - (Lib.compact l).length) 0) (by simp; omega) (m := (Lib.compact l).length) (by omega)
    rw [List.take_left] at g1
    subst h2
    exact ⟨_, h1, rfl, g1, g2.mono (fun k _ e => ⟨_, rfl, e⟩)⟩

theorem numsOf_step {g : Gr} {ps : List Path} {k : Nat} {p : Path} {d : Nd} (hp : ps[k]? = some p) (hd : g p = some d) : numsOf g (ps.take (k + 1)) = numsOf g (ps.take k) ++ d.ns := by
  unfold numsOf
  rw [List.take_add_one, hp, List.flatMap_append]
  simp [hd]
theorem ends_some {g : Gr} : ∀ (N : List Txt) (b : Bool) (H : List Path), (∀ r ∈ H, (g r).isSome = true) → ∀ p ∈ endsF g N b H, (g p).isSome = true
  | [], b, H, hH, p, hp => by
    rw [endsF, List.mem_append, mem_restL] at hp
    rcases hp with ⟨_, _, _, _, h⟩ | h
    · exact h
    · exact hH p h
  | y :: M, b, H, hH, p, hp => by
    rw [endsF, List.mem_append, mem_restL] at hp
    rcases hp with ⟨_, _, _, _, h⟩ | h
    · exact h
    · exact ends_some M true _ (belowL_some g H _) p h

set_option maxHeartbeats 4000000 in
theorem ymatch_any {w : World} {W : Nat → Prop} {q : Nat} {L : List Pr} (H : (tT q L).at_ w W) (hL : TOk L) (s : Txt) (hs : s.length ≤ 300) :
    Calls Tryz.prog 22 #[.pointer (some ⟨q, 0, none⟩), tx s] w (OutE w (ni (mtL L s)) (nmE s)) := by
  obtain ⟨g, d0, S, hI, hW⟩ := H
  have hc0 := hI.blk.cell (o := 0) rfl
  have HMd := Lib.hid (ymade_any hc0)
  have HLv := Lib.hid (fun V => levels_any8 s V (by omega))
  rcases nmE_or s with h0 | h0
  · have hl := lvls_ok h0
    have HF := Lib.hid (show ∀ V e w', LevPost V s (lvls s).length e w' → ∃ a k c, e = .returned (.tuple #[.slice a k c, .int .i64 0]) ∧ (k = (spl s).length ∧ TextsAt w' a (spl s)) ∧ Still V w' from fun V e w' ⟨a, c, h1, h2, h3, h4⟩ => ⟨a, (lvls s).length, c, by rw [h1, h0], ⟨by rw [hl], by rw [← hl]; exact h2⟩, h4⟩)
    have HHd := Lib.hid (fun V => hidden_any8 s V (by omega))
    obtain ⟨ps, hps⟩ : ∃ ps, ps = endsF g (spl s) (!hdB s) [[]] := ⟨_, rfl⟩
    have hmem := match_mem hI.wf hI.gl hL h0
    rw [← hps] at hmem
    have HEn := Lib.hid (fun (V w' : World) (hV : Still w V) a m c (h1 : Still V w') (h2 : m = (spl s).length ∧ TextsAt V a (spl s)) => show Calls Tryz.prog 48 #[.pointer (some ⟨q, 0, none⟩), .slice a m c, .bool (hdB s)] w' (fun e w' => ∃ a k c, e = .returned (.slice a k c) ∧ k ≤ 10000 ∧ Hid (k = ps.length) ∧ Hid (Held w w' (ownT 55 1 a k c (ptrs g ps)))) from by
      have h' := hI.still (hV.trans h1)
      refine (yends_any h'.nodes h'.wf (h'.blk.cell rfl) h'.root (spl s) a m c h2.1 (by rw [h2.1]; exact (nmE_iff.1 h0).2.2.2) (h2.2.still h1) (spl_each (by omega)) (hdB s)).mono ?_
      rintro e w2 ⟨a, k, c, rfl, hk, hk2, hh⟩
      rw [← hps] at hk hh
      obtain ⟨Q, r1, r2, r3⟩ := hh
      exact ⟨a, k, c, rfl, hk2, Lib.hid hk, Lib.hid ⟨Q, r1, fun i hi => Nat.le_trans (hV.trans h1).size (r2 i hi), (hV.trans h1).trans r3⟩⟩)
    have HSm := Lib.hid (show ∀ p ∈ ps, (g p).isSome = true from by rw [hps]; exact ends_some _ _ _ (by simp; exact hI.wf.root))
    have HN := Lib.hid (fun V (h : Still w V) => (hI.still h).nodes)
    have HRi := Lib.hid hI.gl.rises
    have e1 : mtL L s = (List.range 256).filter (hitB L s) := by unfold mtL; rw [if_pos h0]
    have HTh := Lib.hid (thin_eq hmem)
    rw [h0, e1]
    have HE := Lib.hid (fun (w' : World) (A : Thing) a m c (hm : m = (Lib.compact (srtI (ni (numsOf g ps)))).length) (X : Held w w' (A.sep (ownT 3 1 a m c (ints (Lib.compact (srtI (ni (numsOf g ps)))))))) => show OutE w (ni ((List.range 256).filter (hitB L s))) 0 (.returned (.tuple #[.slice a m c, .int .i64 0])) w' from by
      have := X.own
      rw [HTh.out] at hm this
      exact ⟨a, m, c, rfl, hm, NumsAt.of_own this hm, SlW.of_own this, X.ground⟩)
    obtain ⟨i0, hi, hz0, hz1, hz2⟩ := info_parts infoIntW
    generalize (lvls s).length = m at *
    generalize hdB s = hb at *
    clear hI hW hL hs hc0 h0 hl hps hmem e1
    unfold tx at *
    go_enter Tryz.func22, Tryz.ntmps22
    go_wp2_with (first
      | (go_at_call 46; ((with_reducible refine HMd.out.mono ?_)); rintro e w0 ⟨rfl, e0⟩; rw [e0]; clear e0)
      | (go_at_call 47; ((with_reducible refine (HLv.out _).mono ?_)); intro e w1 h; obtain ⟨a, k, c, rfl, h2, h1⟩ := HF.out _ e w1 h; have H2 := Lib.hid h2; clear h h2)
      | (go_at_call 49; ((with_reducible refine (HHd.out _).mono ?_)); rintro e w2 ⟨rfl, h3⟩)
      | (go_at_call 48; ((with_reducible refine (HEn.out _ _ h1 _ _ _ h3 H2.out).mono ?_)); rintro e w4 ⟨ea, en, ec, rfl, hen, HEn', X4⟩))
    go_loopw [8, 28] (fun o i wr => ∃ (k : Nat) (la : Option Addr) (ln lc : Nat), k ≤ en ∧ i = .int .i64 k ∧ o = .slice la ln lc ∧ Held w wr ((ownT 55 1 ea en ec (ptrs g ps)).sep (ownT 3 1 la ln lc (ints (ni (numsOf g (ps.take k)))))) ∧ ln = (numsOf g (ps.take k)).length ∧ ln ≤ 256 * k) (fun _ i _ => en - (intOf i).toNat)
    case atStart => exact ⟨0, none, 0, 0, Nat.zero_le _, rfl, rfl, X4.out.got (World.ownsRow_nil _ _ _ _) (Turned.refl _ _), rfl, Nat.zero_le _⟩
    case round =>
      obtain ⟨k, la, ln, lc, hk, rfl, rfl, hX, hln, hlb⟩ := hrel
      have X := Lib.hid hX
      have HLn := Lib.hid hln
      have hgr := hX.ground
      clear hX hln
      by_cases hlt : k < en
      · obtain ⟨p, hp⟩ := get_some (l := ps) (i := k) (by rw [← HEn'.out]; exact hlt)
        obtain ⟨d, hd⟩ := Option.isSome_iff_exists.1 (HSm.out p (List.mem_of_getElem? hp))
        obtain ⟨b, o, rfl, hc⟩ := PtrsAt.of_own X.out.ownFst (by rw [ptrs_length]; exact HEn'.out) k (.pointer (some ⟨d.nb, 0, none⟩)) (by unfold ptrs; rw [List.getElem?_map, hp]; simp [hd, ptrV])
        obtain ⟨c0, _, _⟩ := (HN.out _ hgr).cells hd
        have hrow := Lib.hid ((HN.out _ hgr).node hd).row
        have hdl := (HRi.out p d hd).len
        have HSt := Lib.hid (numsOf_step hp hd)
        have hnl := Lib.hid (ni_length d.ns)
        clear hp hd
        go_wp2_with (at_builtin; refine wpList_app_row _ rfl _ _ 35 rfl 0 3 i0 (.int .i64 0) 8 Tryz.underlying35 hi hz0 hz1 hz2 rfl la ln lc _ rfl X.out.own d.a d.ns.length d.c (ints (ni d.ns)) rfl (by rw [ints_length]; exact hnl.out) (ints_cells hrow.out hnl.out.symm) (row_nil hrow.out) (ints_one _) (by unfold maxLen; omega) (by omega) (Nat.zero_le _) ?_; intro a6 c6 w6 hown6 hg6 hat6; have X6 := Lib.hid (X.out.grownR hown6 hg6 hat6); clear hown6 hg6 hat6)
        go_roundw
        case rel =>
          refine ⟨k + 1, a6, ln + d.ns.length, c6, by omega, by go_num, rfl, ?_, by rw [HSt.out, List.length_append, ← HLn.out], by omega⟩
          have := X6.out
          rw [HSt.out, ni_append]
          unfold ints at this ⊢
          rw [List.map_append]
          exact this
        case measure => simp [intOf]; omega
      · obtain rfl : k = en := by omega
        have hT : ps.take k = ps := List.take_of_length_le (by rw [HEn'.out]; exact Nat.le_refl _)
        have X' := X.out
        rw [hT] at X'
        have hl2 := HLn.out
        rw [hT] at hl2
        have HS := Lib.hid (sortI_any X'.own (by rw [ni_length]; exact hl2) (by omega))
        have HX2 := Lib.hid (fun w5 (h5 : w5.ownsRow 0 3 1 (.slice la ln lc) ln (ints (srtI (ni (numsOf g ps))))) (hT5 : Turned (fun k => ∃ y, la = some y ∧ k = y.block) wr w5) => X'.reT h5 hT5)
        have HC := Lib.hid (fun (w5 : World) (A : Thing) (h5 : Held w w5 (A.sep (ownT 3 1 la ln lc (ints (srtI (ni (numsOf g ps))))))) => show Calls Tryz.prog 51 #[.slice la ln lc] w5 (fun e w' => ∃ m, e = .returned (.slice la m lc) ∧ OutE w (ni ((List.range 256).filter (hitB L s))) 0 (.returned (.tuple #[.slice la m lc, .int .i64 0])) w') from by
          refine (compI_any h5.own (by rw [srtI_length, ni_length]; exact hl2) (by omega)).mono ?_
          rintro e w6 ⟨m, rfl, hm, h6, hT6⟩
          exact ⟨m, rfl, HE.out w6 A la m lc hm (h5.reT h6 hT6)⟩)
        clear hT X' hl2 hgr
        go_wp2_with (first
          | (go_at_call 50; ((with_reducible refine HS.out.mono ?_)); rintro e w5 ⟨rfl, h5, hT5⟩; have X5 := Lib.hid (HX2.out _ h5 hT5); clear h5 hT5)
          | (go_at_call 51; ((with_reducible refine (HC.out _ _ X5.out).mono ?_)); rintro e w6 ⟨m6, rfl, hfin⟩))
        go_ret2
        exact hfin
  · have e1 : mtL L s = [] := by unfold mtL; rw [if_neg (by omega)]
    have HF := Lib.hid (show ∀ V e w', LevPost V s (lvls s).length e w' → ∃ a k c, e = .returned (.tuple #[.slice a k c, .int .i64 80]) ∧ Still V w' from fun V e w' ⟨a, c, h1, h2, h3, h4⟩ => ⟨a, (lvls s).length, c, by rw [h1, h0], h4⟩)
    rw [h0, e1, show ni [] = [] from rfl]
    have HE := Lib.hid (fun w' (h : Still w w') => show OutE w [] 80 (.returned (.tuple #[.slice none 0 0, .int .i64 80])) w' from ⟨none, 0, 0, rfl, rfl, NumsAt.nil _ _, ⟨Nat.le_refl _, by unfold maxLen; omega, fun _ => ⟨rfl, rfl⟩⟩, h⟩)
    generalize (lvls s).length = m at *
    clear hI hW hL hs hc0 h0 e1
    unfold tx at *
    go_enter Tryz.func22, Tryz.ntmps22
    go_wp2_with (first
      | (go_at_call 46; ((with_reducible refine HMd.out.mono ?_)); rintro e w0 ⟨rfl, e0⟩; rw [e0]; clear e0)
      | (go_at_call 47; ((with_reducible refine (HLv.out _).mono ?_)); intro e w1 h; obtain ⟨a, k, c, rfl, h1⟩ := HF.out _ e w1 h; clear h))
    go_ret2
    exact HE.out _ h1
end Go.Proofs.YtpmkokckjieidaaGreatDoor
