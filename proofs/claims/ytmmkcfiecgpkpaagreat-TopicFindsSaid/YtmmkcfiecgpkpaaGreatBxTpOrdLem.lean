/- Texts that lie next to one another, laid into one: each says what it holds. No condition but what each states. -/
import Derived.Test.YtmmkcfiecgpkpaaGreatBxTpHeld
import Derived.Test.YtmmkcfiecgpkpaaGreatBxTpOrd
import Derived.Test.YtmmkcfiecgpkpaaGreatBdKeepA
import Derived.Test.YtmmkcfiecgpkpaaGreatBdPool
import Derived.Test.YtmmkcfiecgpkpaaGreatBxAppRow
import Derived.Test.YtmmkcfiecgpkpaaGreatBdApp

/- TopicOrder: what lies beside the set. No condition. -/
namespace Go.Proofs.YtmmkcfiecgpkpaaGreat
open Go.RowKit
set_option linter.unusedVariables false
set_option linter.unusedSimpArgs false
set_option maxRecDepth 100000

/-- Beside the set: the tails, the keys that came, and where they went. -/
abbrev orR (tb : Nat) (tls : List Nat) (ta : Option Addr) (tn tc : Nat) (ks : List (Sl UInt8)) (wa : Option Addr) (wn wc : Nat) (wh : List Nat) : Thing :=
  (blkT tb (ints (nums tls)) 3).sep ((ownT 35 1 ta tn tc (ks.map kvS)).sep (ownT 3 1 wa wn wc (ints (nums wh))))
structure OrdAt (HT : Nat → Nat → List Txt → List (List Nat) → Thing) (PT : Nat → PM → Thing) (XT : Nat → Nat → RM → Thing) (w wr : World) (s q n r N K : Nat) (L : List (List Nat)) (S : StM) (tb : Nat) (tls : List Nat) (ta : Option Addr) (tn tc : Nat) (ks : List (Sl UInt8)) (wa : Option Addr) (wn wc : Nat) (wh : List Nat) : Prop where
  held : Held w wr ((setT HT PT XT s q L S).sep (orR tb tls ta tn tc ks wa wn wc wh))
  fits : Fits L S.T
  ok : S.Ok [] N K
  ord : OrdP n r S tls
  tl : tn = ks.length ∧ wn = tn
  wl : wh = ks.map (fun k => pt n k.xs)
  each : ∀ y ∈ ks, SlW y.a y.len y.cap ∧ y.len = y.xs.length ∧ BytesAt w y.a y.xs

/-- One of four grows. -/
theorem or_three {w W w8 : World} {A B C : Thing} {e : TypeId} {m n cc n' c' : Nat} {ao a' : Option Addr} {xs ys : List Value} (h : Held w W (A.sep (B.sep ((ownT e m ao n cc xs).sep C))))
    (hown : w8.ownsRow 0 e m (.slice a' n' c') n' ys) (hg : W.grownBy w8 (Value.slice ao n cc).ownBlock)
    (hat : (Value.slice a' n' c').ownBlock = (Value.slice ao n cc).ownBlock ∨ (Value.slice a' n' c').ownBlock = some W.heap.size) : Held w w8 (A.sep (B.sep ((ownT e m a' n' c' ys).sep C))) := by
  have h1 : Held w W ((A.sep (B.sep C)).sep (ownT e m ao n cc xs)) := h.imp (fun h => sep_swap (sep_turn (sep_mono2 (fun h => h) (fun h => sep_turn h) h)))
  exact (Held.grownR h1 hown hg hat).imp (fun h => sep_mono2 (fun h => h) (fun h => sep_turn h) (sep_turn (sep_swap h)))
theorem or_four {w W w8 : World} {A B D C : Thing} {e : TypeId} {m n cc n' c' : Nat} {ao a' : Option Addr} {xs ys : List Value} (h : Held w W (A.sep (B.sep (D.sep ((ownT e m ao n cc xs).sep C)))))
    (hown : w8.ownsRow 0 e m (.slice a' n' c') n' ys) (hg : W.grownBy w8 (Value.slice ao n cc).ownBlock)
    (hat : (Value.slice a' n' c').ownBlock = (Value.slice ao n cc).ownBlock ∨ (Value.slice a' n' c').ownBlock = some W.heap.size) : Held w w8 (A.sep (B.sep (D.sep ((ownT e m a' n' c' ys).sep C)))) := by
  have h1 := or_three (Held.assoc' h) hown hg hat
  exact Held.assoc h1
theorem or_row {w W : World} {A B C : Thing} {e : TypeId} {m n cc : Nat} {ao : Option Addr} {xs : List Value} (h : Held w W (A.sep (B.sep ((ownT e m ao n cc xs).sep C)))) : W.ownsRow 0 e m (.slice ao n cc) n xs := by
  obtain ⟨_, ⟨_, _, ho, _⟩, _⟩ := (h.snd.snd).use
  exact ho.1
theorem or_box {w W : World} {A B D C : Thing} {b : Nat} {xs : List Value} {e : TypeId} (h : Held w W (A.sep (B.sep (D.sep (C.sep (blkT b xs e)))))) : Blk W b xs e := Held.blk h.snd.snd.snd.snd
/-- A cell of the tails is another one. -/
theorem or_tail {w W : World} {A R : Thing} {tb : Nat} {tls : List Nat} {p t : Nat} (h : Held w W (A.sep ((blkT tb (ints (nums tls)) 3).sep R))) : Held w (W.setCell ⟨tb, p, none⟩ (.int .i64 (t : Nat))) (A.sep ((blkT tb (ints (nums (tls.set p t))) 3).sep R)) := by
  obtain ⟨Q, h1, h2⟩ := (Held.turn h).fst
  have h3 := h2 (blkT tb (ints (nums (tls.set p t))) 3) (W.setCell ⟨tb, p, none⟩ (.int .i64 (t : Nat))) (by
    have e : (ints (nums tls)).set p (.int .i64 (t : Nat)) = ints (nums (tls.set p t)) := by
      simp [ints, nums, List.map_set]
    rw [← e]
    exact ⟨Q, ⟨h1.1.set p _, h1.2⟩, (Turned.refl Q W).setCell (p := ⟨tb, p, none⟩) (.inl ((h1.2 tb).2 rfl)) _, fun _ hk => .inl hk⟩)
  exact Held.turn h3
theorem grown_cell {U w8 : World} {row : Option Nat} {c : Addr} {v : Value} (hg : U.grownBy w8 row) (hc : U.cell? c = some v) (hr : row ≠ some c.block) : w8.cell? c = some v := by
  have h := World.cell?_of_block (w := U) (w' := w8) (a := c) (hg.block c.block (cell_lt hc) (fun e => hr e.symm))
  first
    | exact h.trans hc
    | exact h.symm.trans hc
theorem new_up (w : World) (l : List Value) (t : TypeId) (o : Obj) : ∀ (j : Nat) (u : Value), l[j]? = some u → ((w.alloc (.cells l.toArray t)).alloc o).cell? ((⟨w.heap.size, 0, none⟩ : Addr).add j) = some u := fun j u hj => by
  have h := ow_cells w l t j u hj
  rw [Addr.add_lit] at h ⊢
  exact still_cell ((Turned.refl _ _).alloc o) h rfl
theorem new_low (w : World) (l : List Value) (t : TypeId) (o : Obj) : ∀ (j : Nat) (u : Value), l[j]? = some u → ((w.alloc o).alloc (.cells l.toArray t)).cell? ((⟨w.heap.size + 1, 0, none⟩ : Addr).add j) = some u := fun j u hj => by
  have := ow_cells (w.alloc o) l t j u hj
  rwa [World.size_alloc] at this
/-- A row of one's own lies in no newer block. -/
theorem row_ne {w : World} {B : Nat} {e : TypeId} {m n cc k : Nat} {ao : Option Addr} {xs : List Value} (h : w.ownsRow B e m (.slice ao n cc) n xs) (hk : w.heap.size ≤ k) : (Value.slice ao n cc).ownBlock ≠ some k := by
  cases ao with
  | none => intro h; cases h
  | some a =>
    intro e
    have h1 := (ow_lt h a rfl).2
    have h2 : a.block = k := by simpa [Value.ownBlock] using e
    omega
theorem cell_up {w : World} {g k : Nat} {v : Value} {o : Obj} (h : w.cell? ⟨g, k, none⟩ = some v) : (w.alloc o).cell? ⟨g, k, none⟩ = some v := still_cell ((Turned.refl (fun _ => False) w).alloc o) h rfl
theorem news_grown {U w8 : World} {row : Option Nat} {g : Nat} {l : List Value} (h : ∀ (j : Nat) (u : Value), l[j]? = some u → U.cell? ((⟨g, 0, none⟩ : Addr).add j) = some u) (hg : U.grownBy w8 row) (hr : row ≠ some g) : ∀ (j : Nat) (u : Value), l[j]? = some u → w8.cell? ((⟨g, 0, none⟩ : Addr).add j) = some u := fun j u hj => by
  have h1 := h j u hj
  rw [Addr.add_lit] at h1 ⊢
  exact grown_cell hg h1 hr
theorem or_nobox {w W : World} {A B C D E : Thing} (h : Held w W (A.sep (B.sep (C.sep (D.sep E))))) : Held w W (A.sep (B.sep (C.sep D))) := Held.assoc (Held.assoc (Held.drop (Held.assoc' (Held.assoc' (Held.assoc' h)))))
theorem ints_snoc (wh : List Nat) (p : Nat) : ints (nums wh) ++ [Value.int .i64 (p : Nat)] = ints (nums (wh ++ [p])) := by simp [ints, nums]

end Go.Proofs.YtmmkcfiecgpkpaaGreat
