/- Loops over iterators inside loops: the marks that they leave, one behind the other, as a thing; they are taken back at the end. No condition. -/
import Derived.Test.YtlnbgfglpdkifaaIterX
import Derived.Test.YtlnbgfglpdkifaaRowsT
namespace Go.Proofs.Ytlnbgfglpdkifaa
open Go.RowKit
set_option linter.unusedVariables false

def mkD (D : Nat) : Deferred := { target := .collected D, args := #[] }
/-- The marks. -/
def markT (Ds : List Nat) : Thing where
  at_ w W := Ds.Nodup ∧ (∀ D ∈ Ds, w.heap[D]? = some (.deferred (some []))) ∧ ∀ k, W k ↔ k ∈ Ds
  lt := by
    rintro w W ⟨_, h, hW⟩ k hk
    exact (Array.getElem?_eq_some_iff.1 (h k ((hW k).1 hk))).1
  keep := by
    rintro w w' W S ⟨hn, h, hW⟩ ht hs
    exact ⟨hn, fun D hD => (ht.block D (Array.getElem?_eq_some_iff.1 (h D hD)).1 (hs D ((hW D).2 hD))).trans (h D hD), hW⟩
theorem Held.mark {w0 w : World} {A : Thing} (h : Held w0 w A) : Held w0 w (A.sep (markT [])) := by
  obtain ⟨W, h1, h2, h3⟩ := h
  exact ⟨W, ⟨W, fun _ => False, h1, ⟨List.nodup_nil, (fun _ h => nomatch h), fun k => ⟨fun h => h.elim, fun h => nomatch h⟩⟩, fun _ _ h => h, fun k => ⟨.inl, fun h => h.elim id (fun h => h.elim)⟩⟩, h2, h3⟩
/-- What a loop leaves: one mark more. -/
theorem mark_more {A : Thing} {Ds : List Nat} {W : World} {Q : Nat → Prop} {D : Nat} (h : (A.sep (markT Ds)).at_ W Q) (hK : W.heap[D]? = some (.deferred (some []))) (hQ : ¬ Q D) : (A.sep (markT (D :: Ds))).at_ W (fun k => Q k ∨ k = D) := by
  obtain ⟨Q1, Q2, h1, ⟨hn, h2, hW⟩, hd, hQ2⟩ := h
  have hD : D ∉ Ds := fun hm => hQ ((hQ2 D).2 (.inr ((hW D).2 hm)))
  refine ⟨Q1, fun k => Q2 k ∨ k = D, h1, ⟨List.nodup_cons.2 ⟨hD, hn⟩, fun E hE => ?_, fun k => ?_⟩, fun k hk hk2 => ?_, fun k => ?_⟩
  · rcases List.mem_cons.1 hE with rfl | hE
    · exact hK
    · exact h2 E hE
  · show Q2 k ∨ k = D ↔ k ∈ D :: Ds
    rw [List.mem_cons, hW k]; exact Or.comm
  · rcases hk2 with h | rfl
    · exact hd k hk h
    · exact hQ ((hQ2 _).2 (.inl hk))
  · show Q k ∨ k = D ↔ Q1 k ∨ (Q2 k ∨ k = D)
    rw [hQ2 k, or_assoc]
/-- Behind a loop, told of what was held ahead of it. -/
theorem Held.loop {w0 w W' : World} {A : Thing} {Ds : List Nat} {Q0 Q : Nat → Prop} {D : Nat} (hlo : ∀ k, Q0 k → w0.heap.size ≤ k) (hst : Still w0 w) (hs : Since Q0 w Q W') (hw : w.heap.size ≤ D) (hK : W'.heap[D]? = some (.deferred (some []))) (hQ : ¬ Q D) (h : (A.sep (markT Ds)).at_ W' Q) : Held w0 W' (A.sep (markT (D :: Ds))) := by
  have hz := hst.size
  refine ⟨_, mark_more h hK hQ, fun k hk => ?_, ?_⟩
  · rcases hk with hk | rfl
    · rcases hs.grow k hk with h1 | h1
      · exact hlo k h1
      · omega
    · omega
  · have : Turned (fun k => w0.heap.size ≤ k) w0 W' := (hst.mono (fun _ _ h => h.elim)).trans (hs.turn.mono (fun k _ h => hlo k h))
    exact this.mono (fun k hk h => by omega)
theorem leaves_marks {F : Fence} {n : Nat} {fn : Func} {tmps : Array Value} {R : Ending → World → Prop} {u : FrameMode} {w0 : World} {A : Thing} (hu : u ≠ .run) : ∀ {Ds : List Nat} {w : World}, Held w0 w (A.sep (markT Ds)) →
    (∀ w', Held w0 w' A → LeavesIn F n Try.prog fn tmps R [] u w') → LeavesInM F n Try.prog fn tmps R (Ds.map mkD) u w := by
  intro Ds
  induction Ds with
  | nil => intro w h hf; exact hf w h.drop
  | cons D Ds ih =>
    rintro w ⟨W, ⟨Q1, Q2, h1, ⟨hn, h2, hW⟩, hd, hQ⟩, hlo, hst⟩ hf
    have hDW : Q2 D := (hW D).2 (List.mem_cons_self ..)
    rw [List.nodup_cons] at hn
    have hp := putObj_since (.deferred none) (Array.getElem?_eq_some_iff.1 (h2 D (List.mem_cons_self ..))).1
    refine ⟨hu, .inl ⟨D, _, rfl, run_takeDeferred (h2 D (List.mem_cons_self ..)), ih ⟨fun k => Q1 k ∨ k ∈ Ds, ⟨Q1, (· ∈ Ds), A.keep h1 hp (fun k hk e => hd k hk (e ▸ hDW)), ⟨hn.2, fun E hE => ?_, fun _ => Iff.rfl⟩, fun k hk hm => hd k hk ((hW k).2 (List.mem_cons_of_mem _ hm)), fun _ => Iff.rfl⟩, fun k hk => ?_, ?_⟩ hf⟩⟩
    · have hne : D ≠ E := fun e => hn.1 (by rw [e]; exact hE)
      exact (World.putObj_heap_other (by omega)).trans (h2 E (List.mem_cons_of_mem _ hE))
    · rcases hk with hk | hk
      · exact hlo k ((hQ k).2 (.inl hk))
      · exact hlo k ((hQ k).2 (.inr ((hW k).2 (List.mem_cons_of_mem _ hk))))
    · have hD := hlo D ((hQ D).2 (.inr hDW))
      have : Turned (fun k => w0.heap.size ≤ k) w0 (w.putObj D (.deferred none)) := (hst.mono (fun _ _ h => h.elim)).trans (hp.mono (fun k _ e => by rw [e]; exact hD))
      exact this.mono (fun k hk h => by omega)
/-- The same, of what changes one of two things. -/
theorem goes_loop {w W' : World} {A : Thing} {Ds : List Nat} {Q0 Q : Nat → Prop} {D : Nat} (hs : Since Q0 w Q W') (hw : w.heap.size ≤ D) (hK : W'.heap[D]? = some (.deferred (some []))) (hQ : ¬ Q D) (h : ((markT Ds).sep A).at_ W' Q) : Goes ((markT (D :: Ds)).sep A) Q0 w W' :=
  ⟨_, sep_swap (mark_more (sep_swap h) hK hQ), hs.turn, fun k hk => hk.elim (hs.grow k) (fun e => .inr (by omega))⟩
theorem held_again {w0 w W' : World} {A' B : Thing} {Q0 QB W : Nat → Prop} (hB : B.at_ w QB) (hd : ∀ k, Q0 k → ¬ QB k) (hW : ∀ k, W k ↔ Q0 k ∨ QB k) (hlo : ∀ k, W k → w0.heap.size ≤ k) (hst : Still w0 w) (hg : Goes A' Q0 w W') : Held w0 W' (A'.sep B) := by
  obtain ⟨Q', h1, h2, h3⟩ := hg
  have hz := hst.size
  refine ⟨fun k => Q' k ∨ QB k, ⟨Q', QB, h1, B.keep hB h2 (fun k hk hq => hd k hq hk), fun k hk hk2 => ?_, fun _ => Iff.rfl⟩, fun k hk => ?_, ?_⟩
  · rcases h3 k hk with h | h
    · exact hd k h hk2
    · have := B.lt hB k hk2; omega
  · rcases hk with hk | hk
    · rcases h3 k hk with h | h
      · exact hlo k ((hW k).2 (.inl h))
      · omega
    · exact hlo k ((hW k).2 (.inr hk))
  · have : Turned (fun k => w0.heap.size ≤ k) w0 W' := (hst.mono (fun _ _ h => h.elim)).trans (h2.mono (fun k _ h => hlo k ((hW k).2 (.inl h))))
    exact this.mono (fun k hk h => by omega)
/-- A thing, where something holds. -/
def Thing.and_ (p : Prop) (A : Thing) : Thing where
  at_ w W := p ∧ A.at_ w W
  lt := fun h => A.lt h.2
  keep := fun h ht hs => ⟨h.1, A.keep h.2 ht hs⟩
theorem Goes.and_ {p : Prop} {A : Thing} {W : Nat → Prop} {w w' : World} (hp : p) (h : Goes A W w w') : Goes (Thing.and_ p A) W w w' := by
  obtain ⟨Q, h1, h2⟩ := h
  exact ⟨Q, ⟨hp, h1⟩, h2⟩
theorem Held.im {w0 w : World} {A B : Thing} (h : Held w0 w A) (f : ∀ {w : World} {W : Nat → Prop}, A.at_ w W → B.at_ w W) : Held w0 w B := by
  obtain ⟨W, h1, h2⟩ := h
  exact ⟨W, f h1, h2⟩
theorem un1 {A B C D : Thing} {w : World} {W : Nat → Prop} (h : (A.sep (B.sep (C.sep D))).at_ w W) : (A.sep (C.sep (B.sep D))).at_ w W := sep_imp2 (fun h => h) sep_turn h
theorem un2 {A B C D E : Thing} {w : World} {W : Nat → Prop} (h : (A.sep (B.sep (C.sep (D.sep E)))).at_ w W) : (A.sep (B.sep (D.sep (C.sep E)))).at_ w W := sep_imp2 (fun h => h) (sep_imp2 (fun h => h) sep_turn) h
theorem Held.loop' {w0 w W' : World} {A : Thing} {Ds : List Nat} {Q0 Q : Nat → Prop} {D : Nat} (hlo : ∀ k, Q0 k → w0.heap.size ≤ k) (hst : Still w0 w) (hs : Since Q0 w Q W') (hw : w.heap.size ≤ D) (hK : W'.heap[D]? = some (.deferred (some []))) (hQ : ¬ Q D) (h : ((markT Ds).sep A).at_ W' Q) : Held w0 W' ((markT (D :: Ds)).sep A) :=
  (Held.loop hlo hst hs hw hK hQ (sep_swap h)).swap
theorem sit_ints {Q0 : Nat → Prop} {w0 V : World} {g n c j : Nat} {l : List Int} {u : Int} {R : Thing} (H : Sit Q0 w0 V ((intsT (some ⟨g, 0, none⟩) n c l).sep R)) (hj : l[j]? = some u) :
    V.cell? ⟨g, j, none⟩ = some (.int .i64 u) ∧ V.frozen? ⟨g, j, none⟩ = false ∧ ∀ v : Int, Sit Q0 w0 (V.setCell ⟨g, j, none⟩ (.int .i64 v)) ((intsT (some ⟨g, 0, none⟩) n c (l.set j v)).sep R) := by
  obtain ⟨U, h1, h2⟩ := H.fst
  have hc := owm_cell h1.1 (ints_get hj)
  refine ⟨hc.1, hc.2, fun v => ?_⟩
  have := h2 _ _ (ownM_set h1 (by rw [ints_length]; exact (List.getElem?_eq_some_iff.1 hj).1) (.int .i64 v))
  rwa [ints_set] at this
theorem Held.flip {w0 w : World} {A B C : Thing} (h : Held w0 w ((A.sep B).sep C)) : Held w0 w ((A.sep C).sep B) := (h.assoc.im (sep_imp2 (fun h => h) sep_swap)).assoc'
theorem ap3 {A B C D E : Thing} {w : World} {W : Nat → Prop} (h : ((A.sep (B.sep (C.sep D))).sep E).at_ w W) : (A.sep (B.sep (C.sep (D.sep E)))).at_ w W :=
  sep_imp2 (fun h => h) (sep_imp2 (fun h => h) sep_assoc) (sep_imp2 (fun h => h) sep_assoc (sep_assoc h))
theorem ap3' {A B C D E : Thing} {w : World} {W : Nat → Prop} (h : (A.sep (B.sep (C.sep (D.sep E)))).at_ w W) : ((A.sep (B.sep (C.sep D))).sep E).at_ w W :=
  sep_assoc' (sep_imp2 (fun h => h) sep_assoc' (sep_imp2 (fun h => h) (sep_imp2 (fun h => h) sep_assoc') h))
theorem sit_own {Q0 : Nat → Prop} {w0 V : World} {g n c i : Nat} {ps : List Plc} {xs : List Int} {p : Plc} {x : Int} {R : Thing} (H : Sit Q0 w0 V ((ownsT (some ⟨g, 0, none⟩) n c (oL ps xs)).sep R)) (hp : ps[i]? = some p) (hx : xs[i]? = some x) :
    V.cell? ⟨g, i * 3 + 2, none⟩ = some (.int .i64 x) ∧ V.frozen? ⟨g, i * 3 + 2, none⟩ = false ∧ ∀ v : Int, Sit Q0 w0 (V.setCell ⟨g, i * 3 + 2, none⟩ (.int .i64 v)) ((ownsT (some ⟨g, 0, none⟩) n c (oL ps (xs.set i v))).sep R) := by
  obtain ⟨U, h1, h2⟩ := H.fst
  have hl := oL_get hp hx
  have hr : (rowOf encOw (oL ps xs))[i * 3 + 2]? = some (.int .i64 x) := rowOf_get encOw_len hl (j := 2) rfl
  have hc := owm_cell h1.1 hr
  refine ⟨hc.1, hc.2, fun v => ?_⟩
  have := h2 _ _ (ownM_set h1 (List.getElem?_eq_some_iff.1 hr).1 (.int .i64 v))
  rwa [rowOf_set encOw_len hl (j := 2) (b := (p, v)) (by omega) rfl, oL_set hp] at this
end Go.Proofs.Ytlnbgfglpdkifaa
