/- Loops over functions whose rounds all go on, told of things that lie in memory: what the iterator reads, and what the rounds change, lie apart. No condition. -/
import Derived.RangeFuncNested
import Derived.RangeFuncBound
import Derived.RangeFuncCalls
import Derived.RangeFuncLeaves
import Derived.Shelf.Abstract
import Derived.Test.YtdlkdagmaeapdaaThing
namespace Go.Proofs.Ytdlkdagmaeapdaa
open Go.RowKit Go.Shelf
set_option linter.unusedVariables false

/-- One block, whatever it is. -/
def objT (l : Nat) (o : Obj) : Thing where
  at_ w W := w.heap[l]? = some o ∧ ∀ k, W k ↔ k = l
  lt := by rintro w W ⟨h, hW⟩ k hk; rw [(hW k).1 hk]; exact (Array.getElem?_eq_some_iff.1 h).1
  keep := by
    rintro w w' W S ⟨h, hW⟩ ht hs
    exact ⟨(ht.block l (Array.getElem?_eq_some_iff.1 h).1 (hs l ((hW l).2 rfl))).trans h, hW⟩

/-- What has come of a world since: blocks of a thing, and new ones. -/
structure Since (Q : Nat → Prop) (w : World) (Q' : Nat → Prop) (w' : World) : Prop where
  turn : Turned Q w w'
  grow : ∀ i, Q' i → Q i ∨ w.heap.size ≤ i
theorem Since.refl (Q : Nat → Prop) (w : World) : Since Q w Q w := ⟨Turned.refl _ _, fun _ h => .inl h⟩
theorem Since.trans {Q1 Q2 Q3 : Nat → Prop} {a b c : World} (h : Since Q1 a Q2 b) (k : Since Q2 b Q3 c) : Since Q1 a Q3 c :=
  ⟨h.turn.past k.turn h.grow, fun i hi => by
    rcases k.grow i hi with h1 | h1
    · exact h.grow i h1
    · exact .inr (Nat.le_trans h.turn.size h1)⟩
theorem Goes.since {A : Thing} {Q : Nat → Prop} {w w' : World} (h : Goes A Q w w') : ∃ Q', A.at_ w' Q' ∧ Since Q w Q' w' := by
  obtain ⟨Q', h1, h2, h3⟩ := h; exact ⟨Q', h1, h2, h3⟩
theorem Since.goes {A : Thing} {Q Q' : Nat → Prop} {w w' : World} (h : Since Q w Q' w') (hA : A.at_ w' Q') : Goes A Q w w' := ⟨Q', hA, h.turn, h.grow⟩
/-- What lies apart stays. -/
theorem Since.stays {A : Thing} {Q Q' S : Nat → Prop} {w w' : World} (h : Since Q w Q' w') (hA : A.at_ w S) (hd : ∀ k, Q k → ¬ S k) : A.at_ w' S ∧ ∀ k, Q' k → ¬ S k :=
  ⟨A.keep hA h.turn (fun k hS hQ => hd k hQ hS), fun k hk hS => by
    rcases h.grow k hk with h1 | h1
    · exact hd k h1 hS
    · have := A.lt hA k hS; omega⟩

theorem roomAny (k : Nat) : Fence.wide.room k := fun d h => by cases h
theorem YieldAt.any {m : Nat} (m' : Nat) {P : Program} {l : Nat} {args : Array Value} {W : World} {R : Ending → World → Prop} (h : YieldAt Fence.wide m P l args W R) : YieldAt Fence.wide m' P l args W R := by
  obtain ⟨fn, tmps, assign, body, hy, hR⟩ := h
  exact ⟨fn, tmps, assign, body, hy, ⟨hR.1, fun c cs _ => hR.2 c cs (roomAny _)⟩⟩

/-- A function that a loop goes through: it hands its rounds the elements of xs, one behind the other, reads R, and changes nothing but what the rounds change. -/
def IterT {α : Type} (gf : Nat) (lb : Array Value) (encs : α → Array Value) (xs : List α) (R : Thing) : Prop :=
  ∀ (l : Nat) (J : Nat → Thing) (W : World) (Q S : Nat → Prop), R.at_ W S → (J 0).at_ W Q → (∀ k, Q k → ¬ S k) →
    (∀ k x W1 Q1, xs[k]? = some x → (J k).at_ W1 Q1 → Since Q W Q1 W1 → YieldAt Fence.wide 9 Try.prog l (encs x) W1 fun e W' => e = .returned (.bool true) ∧ Goes (J (k + 1)) Q1 W1 W') →
    Calls Try.prog gf (#[.func (.yield l) #[] #[]] ++ lb) W fun e W' => (∃ v, e = .returned v) ∧ Goes (J xs.length) Q W W'

/-- How the body of a round ends. -/
def roundT (A : Thing) (Q : Nat → Prop) (W : World) : Exit → Act → World → Prop
  | .normal, _, W' => Goes A Q W W'
  | _, _, _ => False

theorem obj_sep {A : Thing} {l : Nat} {o : Obj} {w : World} {Q : Nat → Prop} (h : A.at_ w Q) (ho : w.heap[l]? = some o) (hl : ¬ Q l) : (A.sep (objT l o)).at_ w (fun k => Q k ∨ k = l) :=
  ⟨Q, (· = l), h, ⟨ho, fun _ => Iff.rfl⟩, fun k hk e => hl (e ▸ hk), fun _ => Iff.rfl⟩
theorem putObj_since {l : Nat} (o' : Obj) {w : World} (hl : l < w.heap.size) : Turned (· = l) w (w.putObj l o') :=
  ⟨rfl, rfl, rfl, by simp, fun k _ hk => World.putObj_heap_other hk⟩

section
variable {α : Type} {g : Operand} {ps : Array Tmp} {assign body : Code} {Qx : Exit → Act → World → Prop} {a : Act} {w : World} {gf : Nat} {lb : Array Value} {encs : α → Array Value} {xs : List α} {R : Thing}

/-- One round, between two states of the record. -/
theorem roundT_yield {rec : LoopState → Option Code → Loop} {fn l : Nat} {df : Nat} {tm : Array Value} (hrec : rec = fun st pe => { state := st, pending := pe, fn, tmps := tm, params := ps, assign, body, defers := df })
    (hps : ∀ x, (encs x).size = ps.size) {A B : Thing} {x : α} {W : World} {Q : Nat → Prop} {a1 : Act}
    (hA : A.at_ W Q) (hl : W.heap[l]? = some (.loop (rec .ready none))) (hQ : ¬ Q l)
    (hassign : ∀ K : Act → World → Prop, K a1 W → assign.wpIn (Fence.wide.inRound l) 9 Try.prog (Exit.then K (fun _ _ _ => False)) { tmps := (ps.zip (encs x)).foldl (fun t (p, v) => t.setIfInBounds p v) tm, defers := [] } W)
    (hbody : ∀ W2, (∃ r, W2.heap[l]? = some (.loop r)) → A.at_ W2 Q → Turned (· = l) W W2 → body.wpIn (Fence.wide.inRound l) 9 Try.prog (roundT B Q W2) a1 W2) :
    YieldAt Fence.wide 9 Try.prog l (encs x) W fun e W' => e = .returned (.bool true) ∧ ∃ Q', B.at_ W' Q' ∧ W'.heap[l]? = some (.loop (rec .ready none)) ∧ ¬ Q' l ∧ Turned (fun k => Q k ∨ k = l) W W' ∧ ∀ i, Q' i → Q i ∨ W.heap.size ≤ i := by
  have hlt : l < W.heap.size := (Array.getElem?_eq_some_iff.1 hl).1
  have hy := run_yield (P := Try.prog) (args := encs x) hl (by rw [hrec]; exact hps x)
  rw [hrec] at hy
  refine ⟨fn, _, assign, body, hy, roundIn_of_wpIn trivial (hassign _ ?_)⟩
  refine ⟨_, run_beginRound hl (by rw [hrec]), ?_⟩
  have hl2 : (W.putObj l (.loop { rec .ready none with state := .busy })).heap[l]? = some (.loop { rec .ready none with state := .busy }) := World.putObj_heap_same hlt
  have ht2 := putObj_since (l := l) (.loop { rec .ready none with state := .busy }) hlt
  refine wpIn_mono (hbody _ ⟨_, hl2⟩ (A.keep hA ht2 (fun k hk e => hQ (e ▸ hk))) ht2) ?_
  rintro e a3 W3 hp
  cases e with
  | normal =>
    obtain ⟨Q', hB, hT, hG⟩ := hp
    have hl3 : W3.heap[l]? = some (.loop { rec .ready none with state := .busy }) := (hT.block l (by simpa using hlt) hQ).trans hl2
    have hlt3 : l < W3.heap.size := (Array.getElem?_eq_some_iff.1 hl3).1
    have hr := run_endRound (P := Try.prog) none hl3
    have hQ' : ¬ Q' l := fun h => by
      rcases hG l h with h1 | h1
      · exact hQ h1
      · rw [World.putObj_size] at h1; omega
    have ht4 := putObj_since (l := l) (.loop (rec .ready none)) hlt3
    rw [hrec] at hr ht4 ⊢
    refine ⟨_, _, hr, rfl, Q', B.keep hB ht4 (fun k hk e => hQ' (e ▸ hk)), World.putObj_heap_same hlt3, hQ', ?_, fun i hi => by have := hG i hi; rwa [World.putObj_size] at this⟩
    refine ((ht2.mono (fun k _ e => .inr e)).trans ((hT.mono (fun k _ h => .inl h)).trans (ht4.mono (fun k _ e => .inr e))))
  | ret => exact hp.elim
  | exit id => exact hp.elim
  | goto t => exact hp.elim
  | panic ch => exact hp.elim
  | outgrown => exact hp.elim

/-- A loop within a round of another one. -/
theorem loopT_inner {l0 : Nat} {r0 : Loop} (hl0 : w.heap[l0]? = some (.loop r0)) (hg : a.eval g = .func (.func gf) #[] lb) (eg : ∀ args w, (callFunc gf args).run Try.prog w = .ok (.enter gf args) w)
    (hseq : IterT gf lb encs xs R) (hps : ∀ x, (encs x).size = ps.size) (I : Nat → Thing) {Q0 S0 : Nat → Prop} (hR : R.at_ w S0) (h0 : (I 0).at_ w Q0) (hd : ∀ k, Q0 k → ¬ S0 k) (a1 : α → Act)
    (hassign : ∀ (l : Nat) (x : α) (W : World) (K : Act → World → Prop), K (a1 x) W → assign.wpIn (Fence.wide.inRound l) 9 Try.prog (Exit.then K (fun _ _ _ => False)) { tmps := (ps.zip (encs x)).foldl (fun t (p, v) => t.setIfInBounds p v) a.tmps, defers := [] } W)
    (hbody : ∀ (l k : Nat) (x : α) (W : World) (Q : Nat → Prop), (∃ r, W.heap[l]? = some (.loop r)) → w.heap.size ≤ l → xs[k]? = some x → (I k).at_ W Q → ¬ Q l → Since Q0 w Q W → body.wpIn (Fence.wide.inRound l) 9 Try.prog (roundT (I (k + 1)) Q W) (a1 x) W)
    (hdone : ∀ W', Goes (I xs.length) Q0 w W' → Qx .normal a W') :
    (Code.rangeFunc g ps assign body).wpIn (Fence.wide.inRound l0) 9 Try.prog Qx a w := by
  refine wpIn_rangeFunc ?_
  intro fn hfn
  obtain ⟨rec, hrec⟩ : ∃ rec : LoopState → Option Code → Loop, rec = fun st pe => { state := st, pending := pe, fn, tmps := a.tmps, params := ps, assign, body, defers := r0.defers } := ⟨_, rfl⟩
  obtain ⟨W1, hW1⟩ : ∃ W1, w.alloc (.loop (rec .ready none)) = W1 := ⟨_, rfl⟩
  have hL1 : W1.heap[w.heap.size]? = some (.loop (rec .ready none)) := by rw [← hW1]; exact World.alloc_heap_new w _
  have hT1 : Still w W1 := by rw [← hW1]; exact (Turned.refl _ _).alloc _
  refine ⟨w.heap.size, [], W1, { target := .fn (.func gf) lb, args := #[.func (.yield w.heap.size) #[] #[]] }, W1, gf, #[.func (.yield w.heap.size) #[] #[]] ++ lb, W1, ?_, ?_, ?_, ?_, fun _ => by omega, ?_⟩
  · rw [← hW1, hrec]; exact run_enterLoop_inner hl0 _ _ _ _ _
  · simp only [resolve, hg]; simp [go_sem]
  · intro f' hf'; trivial
  · simp [invoke, go_sem, eg]
  · have hQl : ¬ Q0 w.heap.size := fun h => by have := (I 0).lt h0 _ h; omega
    refine callsIn_wide.2 ((hseq w.heap.size (fun k => (I k).sep (objT w.heap.size (.loop (rec .ready none)))) W1 (fun k => Q0 k ∨ k = w.heap.size) S0 (R.keep hR hT1 (fun _ _ h => h)) (obj_sep ((I 0).keep h0 hT1 (fun _ _ h => h)) hL1 hQl) ?_ ?_).mono ?_)
    · rintro k (hk | rfl)
      · exact hd k hk
      · intro h; have := R.lt hR _ h; omega
    · rintro k x W Q hx ⟨Q1, Q2, hI, ⟨hl, hQ2⟩, hdd, hQ⟩ hS
      have hn : ¬ Q1 w.heap.size := fun h => hdd _ h ((hQ2 _).2 rfl)
      have hS1 : Since Q0 w Q1 W := by
        refine ⟨⟨hS.turn.os.trans hT1.os, hS.turn.tape.trans hT1.tape, hS.turn.output.trans hT1.output, Nat.le_trans hT1.size hS.turn.size, fun j hj hq => (hS.turn.block j (Nat.lt_of_lt_of_le hj hT1.size) (fun h => by
          rcases h with h | h
          · exact hq h
          · omega)).trans (hT1.block j hj (fun h => h))⟩, fun i hi => ?_⟩
        rcases hS.grow i ((hQ i).2 (.inl hi)) with (h | h) | h
        · exact .inl h
        · exact .inr (by omega)
        · exact .inr (Nat.le_trans hT1.size h)
      obtain ⟨fn', tm', as', bd', hy, hR'⟩ := roundT_yield hrec hps (B := I (k + 1)) hI hl hn (hassign _ x W) (fun W2 hr hI2 hT2 => hbody _ k x W2 Q1 hr (Nat.le_refl _) hx hI2 hn
        ⟨hS1.turn.past hT2 (fun i e => .inr (by omega)), hS1.grow⟩)
      refine ⟨fn', tm', as', bd', hy, hR'.mono ?_⟩
      rintro e W' ⟨he, Q', hB, hl', hnl, hT, hG⟩
      refine ⟨he, fun i => Q' i ∨ i = w.heap.size, obj_sep hB hl' hnl, hT.mono (fun i _ h => (hQ i).2 (h.imp id (fun e => (hQ2 i).2 e))), fun i hi => ?_⟩
      rcases hi with hi | hi
      · exact (hG i hi).imp (fun h => (hQ i).2 (.inl h)) id
      · exact .inl ((hQ i).2 (.inr ((hQ2 i).2 hi)))
    · rintro e W2 ⟨⟨v, rfl⟩, Q, ⟨Q1, Q2, hI, ⟨hl, hQ2⟩, hdd, hQ⟩, hT, hG⟩
      have hn : ¬ Q1 w.heap.size := fun h => hdd _ h ((hQ2 _).2 rfl)
      obtain ⟨o4, hend⟩ : ∃ o4, (Instr.endLoop w.heap.size).run Try.prog W2 = .ok none (W2.putObj w.heap.size o4) := ⟨_, by have := run_endLoop (P := Try.prog) hl (by rw [hrec]; simp); rw [hrec] at this; exact this⟩
      have ht4 := putObj_since (l := w.heap.size) o4 (Array.getElem?_eq_some_iff.1 hl).1
      refine ⟨none, _, hend, hdone _ ⟨Q1, (I xs.length).keep hI ht4 (fun k hk e => hn (by rw [← e]; exact hk)), ?_, fun i hi => ?_⟩⟩
      · have hT' : Turned (fun k => Q0 k ∨ w.heap.size ≤ k) w (W2.putObj w.heap.size o4) :=
          (hT1.mono (fun _ _ h => h.elim)).trans ((hT.mono (fun k _ h => h.imp id (fun e => by omega))).trans (ht4.mono (fun k _ e => .inr (by omega))))
        exact hT'.mono (fun k hk h => h.elim id (fun h => by omega))
      · rcases hG i ((hQ i).2 (.inl hi)) with (h | h) | h
        · exact .inl h
        · exact .inr (by omega)
        · exact .inr (Nat.le_trans hT1.size h)

/-- A loop at a function's own level. -/
theorem loopT_outer (hg : a.eval g = .func (.func gf) #[] lb) (eg : ∀ args w, (callFunc gf args).run Try.prog w = .ok (.enter gf args) w)
    (hseq : IterT gf lb encs xs R) (hps : ∀ x, (encs x).size = ps.size) (I : Nat → Thing) {Q0 S0 : Nat → Prop} (hR : R.at_ w S0) (h0 : (I 0).at_ w Q0) (hd : ∀ k, Q0 k → ¬ S0 k) (a1 : α → Act)
    (hassign : ∀ (l : Nat) (x : α) (W : World) (K : Act → World → Prop), K (a1 x) W → assign.wpIn (Fence.wide.inRound l) 9 Try.prog (Exit.then K (fun _ _ _ => False)) { tmps := (ps.zip (encs x)).foldl (fun t (p, v) => t.setIfInBounds p v) a.tmps, defers := [] } W)
    (hbody : ∀ (l k : Nat) (x : α) (W : World) (Q : Nat → Prop), (∃ r, W.heap[l]? = some (.loop r)) → w.heap.size ≤ l → xs[k]? = some x → (I k).at_ W Q → ¬ Q l → Since Q0 w Q W → body.wpIn (Fence.wide.inRound l) 9 Try.prog (roundT (I (k + 1)) Q W) (a1 x) W)
    (hdone : ∀ (D : Nat) (W' : World) (Q : Nat → Prop), w.heap.size ≤ D → W'.heap[D]? = some (.deferred (some [])) → ¬ Q D → (I xs.length).at_ W' Q → Since Q0 w Q W' → Qx .normal { a with defers := { target := .collected D, args := #[] } :: a.defers } W') :
    (Code.rangeFunc g ps assign body).wpIn Fence.wide 9 Try.prog Qx a w := by
  refine wpIn_rangeFunc ?_
  intro fn hfn
  obtain ⟨rec, hrec⟩ : ∃ rec : LoopState → Option Code → Loop, rec = fun st pe => { state := st, pending := pe, fn, tmps := a.tmps, params := ps, assign, body, defers := w.heap.size } := ⟨_, rfl⟩
  obtain ⟨W1, hW1⟩ : ∃ W1, (w.alloc (.deferred (some []))).alloc (.loop (rec .ready none)) = W1 := ⟨_, rfl⟩
  have hL1 : W1.heap[w.heap.size + 1]? = some (.loop (rec .ready none)) := by
    rw [← hW1]; have := World.alloc_heap_new (w.alloc (.deferred (some []))) (.loop (rec .ready none)); rwa [World.size_alloc] at this
  have hK1 : W1.heap[w.heap.size]? = some (.deferred (some [])) := by
    rw [← hW1]; exact (Below.heap_alloc _ _ _ (by simp)).trans (World.alloc_heap_new w _)
  have hT1 : Still w W1 := by rw [← hW1]; exact ((Turned.refl _ _).alloc _).alloc _
  refine ⟨w.heap.size + 1, [{ target := .collected w.heap.size, args := #[] }], W1, { target := .fn (.func gf) lb, args := #[.func (.yield (w.heap.size + 1)) #[] #[]] }, W1, gf, #[.func (.yield (w.heap.size + 1)) #[] #[]] ++ lb, W1, ?_, ?_, ?_, ?_, fun _ => by omega, ?_⟩
  · rw [← hW1, hrec]; exact run_enterLoop_outer _ _ _ _ _
  · simp only [resolve, hg]; simp [go_sem]
  · intro f' hf'; trivial
  · simp [invoke, go_sem, eg]
  · have hQl : ¬ Q0 w.heap.size := fun h => by have := (I 0).lt h0 _ h; omega
    have hQl1 : ¬ Q0 (w.heap.size + 1) := fun h => by have := (I 0).lt h0 _ h; omega
    have hst : ((((I 0).sep (objT w.heap.size (.deferred (some [])))).sep (objT (w.heap.size + 1) (.loop (rec .ready none))))).at_ W1 (fun k => (Q0 k ∨ k = w.heap.size) ∨ k = w.heap.size + 1) :=
      obj_sep (obj_sep ((I 0).keep h0 hT1 (fun _ _ h => h)) hK1 hQl) hL1 (fun h => h.elim hQl1 (by omega))
    refine callsIn_wide.2 ((hseq (w.heap.size + 1) (fun k => ((I k).sep (objT w.heap.size (.deferred (some [])))).sep (objT (w.heap.size + 1) (.loop (rec .ready none)))) W1 _ S0 (R.keep hR hT1 (fun _ _ h => h)) hst ?_ ?_).mono ?_)
    · rintro k ((hk | rfl) | rfl)
      · exact hd k hk
      · intro h; have := R.lt hR _ h; omega
      · intro h; have := R.lt hR _ h; omega
    · rintro k x W Q hx ⟨Q1, Q2, ⟨P1, P2, hI, ⟨hD, hP2⟩, hpp, hP⟩, ⟨hl, hQ2⟩, hdd, hQ⟩ hS
      have hn : ¬ P1 (w.heap.size + 1) := fun h => hdd _ ((hP _).2 (.inl h)) ((hQ2 _).2 rfl)
      have hnD : ¬ P1 w.heap.size := fun h => hpp _ h ((hP2 _).2 rfl)
      have hS1 : Since Q0 w P1 W := by
        refine ⟨⟨hS.turn.os.trans hT1.os, hS.turn.tape.trans hT1.tape, hS.turn.output.trans hT1.output, Nat.le_trans hT1.size hS.turn.size, fun j hj hq => (hS.turn.block j (Nat.lt_of_lt_of_le hj hT1.size) (fun h => by
          rcases h with (h | h) | h
          · exact hq h
          · omega
          · omega)).trans (hT1.block j hj (fun h => h))⟩, fun i hi => ?_⟩
        rcases hS.grow i ((hQ i).2 (.inl ((hP i).2 (.inl hi)))) with ((h | h) | h) | h
        · exact .inl h
        · exact .inr (by omega)
        · exact .inr (by omega)
        · exact .inr (Nat.le_trans hT1.size h)
      obtain ⟨fn', tm', as', bd', hy, hR'⟩ := roundT_yield hrec hps (B := I (k + 1)) hI hl hn (hassign _ x W) (fun W2 hr hI2 hT2 => hbody _ k x W2 P1 hr (by omega) hx hI2 hn
        ⟨hS1.turn.past hT2 (fun i e => .inr (by omega)), hS1.grow⟩)
      refine ⟨fn', tm', as', bd', hy, hR'.mono ?_⟩
      rintro e W' ⟨he, Q', hB, hl', hnl, hT, hG⟩
      have hlt := (Array.getElem?_eq_some_iff.1 hD).1
      have hD' : W'.heap[w.heap.size]? = some (.deferred (some [])) := (hT.block _ hlt (fun h => h.elim hnD (by omega))).trans hD
      have hnD' : ¬ Q' w.heap.size := fun h => by
        rcases hG _ h with h | h
        · exact hnD h
        · omega
      refine ⟨he, fun i => (Q' i ∨ i = w.heap.size) ∨ i = w.heap.size + 1, obj_sep (obj_sep hB hD' hnD') hl' (fun h => h.elim hnl (by omega)), hT.mono (fun i _ h => (hQ i).2 (h.imp (fun h => (hP i).2 (.inl h)) (fun e => (hQ2 i).2 e))), fun i hi => ?_⟩
      rcases hi with (hi | hi) | hi
      · exact (hG i hi).imp (fun h => (hQ i).2 (.inl ((hP i).2 (.inl h)))) id
      · exact .inl ((hQ i).2 (.inl ((hP i).2 (.inr ((hP2 i).2 hi)))))
      · exact .inl ((hQ i).2 (.inr ((hQ2 i).2 hi)))
    · rintro e W2 ⟨⟨v, rfl⟩, Q, ⟨Q1, Q2, ⟨P1, P2, hI, ⟨hD, hP2⟩, hpp, hP⟩, ⟨hl, hQ2⟩, hdd, hQ⟩, hT, hG⟩
      have hn : ¬ P1 (w.heap.size + 1) := fun h => hdd _ ((hP _).2 (.inl h)) ((hQ2 _).2 rfl)
      have hnD : ¬ P1 w.heap.size := fun h => hpp _ h ((hP2 _).2 rfl)
      obtain ⟨o4, hend⟩ : ∃ o4, (Instr.endLoop (w.heap.size + 1)).run Try.prog W2 = .ok none (W2.putObj (w.heap.size + 1) o4) := ⟨_, by have := run_endLoop (P := Try.prog) hl (by rw [hrec]; simp); rw [hrec] at this; exact this⟩
      have ht4 := putObj_since (l := w.heap.size + 1) o4 (Array.getElem?_eq_some_iff.1 hl).1
      refine ⟨none, _, hend, hdone w.heap.size _ P1 (Nat.le_refl _) ?_ hnD ((I xs.length).keep hI ht4 (fun k hk e => hn (by rw [← e]; exact hk))) ⟨?_, fun i hi => ?_⟩⟩
      · exact (World.putObj_heap_other (by omega)).trans hD
      · have hT' : Turned (fun k => Q0 k ∨ w.heap.size ≤ k) w (W2.putObj (w.heap.size + 1) o4) :=
          (hT1.mono (fun _ _ h => h.elim)).trans ((hT.mono (fun k _ h => by
            rcases h with (h | h) | h
            · exact .inl h
            · exact .inr (by omega)
            · exact .inr (by omega))).trans (ht4.mono (fun k _ e => .inr (by omega))))
        exact hT'.mono (fun k hk h => h.elim id (fun h => by omega))
      · rcases hG i ((hQ i).2 (.inl ((hP i).2 (.inl hi)))) with ((h | h) | h) | h
        · exact .inl h
        · exact .inr (by omega)
        · exact .inr (by omega)
        · exact .inr (Nat.le_trans hT1.size h)
end

theorem RoundIn.any {m : Nat} (m' : Nat) {P : Program} {l : Nat} {f : FuncId} {tmps : Array Value} {assign body : Code} {w : World} {R : Ending → World → Prop} (h : RoundIn Fence.wide m P l f tmps assign body w R) : RoundIn Fence.wide m' P l f tmps assign body w R := ⟨h.1, fun c cs _ => h.2 c cs (roomAny _)⟩

theorem RoundIn.inRound {F : Fence} {m : Nat} {P : Program} {l : Nat} {f : FuncId} {tmps : Array Value} {assign body : Code} {w : World} {R : Ending → World → Prop} (l' : Nat) (h : RoundIn F m P l f tmps assign body w R) : RoundIn (F.inRound l') m P l f tmps assign body w R := h

section
variable {α : Type} {g : Operand} {ps : Array Tmp} {assign body : Code} {Qx : Exit → Act → World → Prop} {a : Act} {w : World} {gf : Nat} {lb : Array Value} {encs : α → Array Value} {xs : List α} {R : Thing}
theorem loopT_innerE {l0 : Nat} {r0 : Loop} (hl0 : w.heap[l0]? = some (.loop r0)) (hg : a.eval g = .func (.func gf) #[] lb) (eg : ∀ args w, (callFunc gf args).run Try.prog w = .ok (.enter gf args) w)
    (hseq : IterT gf lb encs xs R) (hps : ∀ x, (encs x).size = ps.size) (I : Nat → Thing) {Q0 S0 : Nat → Prop} (hR : R.at_ w S0) (h0 : (I 0).at_ w Q0) (hd : ∀ k, Q0 k → ¬ S0 k)
    (hround : ∀ x, ∃ a1, (∀ (l : Nat) (W : World) (K : Act → World → Prop), K a1 W → assign.wpIn (Fence.wide.inRound l) 9 Try.prog (Exit.then K (fun _ _ _ => False)) { tmps := (ps.zip (encs x)).foldl (fun t (p, v) => t.setIfInBounds p v) a.tmps, defers := [] } W) ∧
      (∀ (l k : Nat) (W : World) (Q : Nat → Prop), (∃ r, W.heap[l]? = some (.loop r)) → w.heap.size ≤ l → xs[k]? = some x → (I k).at_ W Q → ¬ Q l → Since Q0 w Q W → body.wpIn (Fence.wide.inRound l) 9 Try.prog (roundT (I (k + 1)) Q W) a1 W))
    (hdone : ∀ W', Goes (I xs.length) Q0 w W' → Qx .normal a W') :
    (Code.rangeFunc g ps assign body).wpIn (Fence.wide.inRound l0) 9 Try.prog Qx a w :=
  loopT_inner hl0 hg eg hseq hps I hR h0 hd (fun x => (hround x).choose) (fun l x W K hK => (hround x).choose_spec.1 l W K hK) (fun l k x W Q h1 h2 h3 h4 h5 h6 => (hround x).choose_spec.2 l k W Q h1 h2 h3 h4 h5 h6) hdone
theorem loopT_outerE (hg : a.eval g = .func (.func gf) #[] lb) (eg : ∀ args w, (callFunc gf args).run Try.prog w = .ok (.enter gf args) w)
    (hseq : IterT gf lb encs xs R) (hps : ∀ x, (encs x).size = ps.size) (I : Nat → Thing) {Q0 S0 : Nat → Prop} (hR : R.at_ w S0) (h0 : (I 0).at_ w Q0) (hd : ∀ k, Q0 k → ¬ S0 k)
    (hround : ∀ x, ∃ a1, (∀ (l : Nat) (W : World) (K : Act → World → Prop), K a1 W → assign.wpIn (Fence.wide.inRound l) 9 Try.prog (Exit.then K (fun _ _ _ => False)) { tmps := (ps.zip (encs x)).foldl (fun t (p, v) => t.setIfInBounds p v) a.tmps, defers := [] } W) ∧
      (∀ (l k : Nat) (W : World) (Q : Nat → Prop), (∃ r, W.heap[l]? = some (.loop r)) → w.heap.size ≤ l → xs[k]? = some x → (I k).at_ W Q → ¬ Q l → Since Q0 w Q W → body.wpIn (Fence.wide.inRound l) 9 Try.prog (roundT (I (k + 1)) Q W) a1 W))
    (hdone : ∀ (D : Nat) (W' : World) (Q : Nat → Prop), w.heap.size ≤ D → W'.heap[D]? = some (.deferred (some [])) → ¬ Q D → (I xs.length).at_ W' Q → Since Q0 w Q W' → Qx .normal { a with defers := { target := .collected D, args := #[] } :: a.defers } W') :
    (Code.rangeFunc g ps assign body).wpIn Fence.wide 9 Try.prog Qx a w :=
  loopT_outer hg eg hseq hps I hR h0 hd (fun x => (hround x).choose) (fun l x W K hK => (hround x).choose_spec.1 l W K hK) (fun l k x W Q h1 h2 h3 h4 h5 h6 => (hround x).choose_spec.2 l k W Q h1 h2 h3 h4 h5 h6) hdone
end
end Go.Proofs.Ytdlkdagmaeapdaa
