/- Loops over functions whose rounds go on or leave the function at once, told of things that lie in memory: what the iterator reads, and what the rounds change, lie apart. No condition. -/
import Derived.Test.YtdlkdagmaeapdaaIter
namespace Go.Proofs.Ytdlkdagmaeapdaa
open Go.RowKit Go.Shelf
set_option linter.unusedVariables false

/-- What never lies in memory. -/
def noT : Thing where
  at_ _ _ := False
  lt := fun h => h.elim
  keep := fun h _ _ => h

/-- A function that a loop goes through: it hands its rounds the elements of xs, one behind the other, till one of them leaves; it reads R, and changes nothing but what the rounds change. -/
def IterS {α : Type} (gf : Nat) (lb : Array Value) (encs : α → Array Value) (xs : List α) (R : Thing) : Prop :=
  ∀ (l : Nat) (J Jx : Nat → Thing) (W : World) (Q S : Nat → Prop), R.at_ W S → (J 0).at_ W Q → (∀ k, Q k → ¬ S k) →
    (∀ k x W1 Q1, xs[k]? = some x → (J k).at_ W1 Q1 → Since Q W Q1 W1 → YieldAt Fence.wide 9 Try.prog l (encs x) W1 fun e W' =>
      (e = .returned (.bool true) ∧ Goes (J (k + 1)) Q1 W1 W') ∨ (e = .returned (.bool false) ∧ Goes (Jx k) Q1 W1 W')) →
    Calls Try.prog gf (#[.func (.yield l) #[] #[]] ++ lb) W fun e W' => (∃ v, e = .returned v) ∧ (Goes (J xs.length) Q W W' ∨ ∃ k, k < xs.length ∧ Goes (Jx k) Q W W')

theorem IterS.all {α : Type} {gf : Nat} {lb : Array Value} {encs : α → Array Value} {xs : List α} {R : Thing} (h : IterS gf lb encs xs R) : IterT gf lb encs xs R := by
  intro l J W Q S hR h0 hd hY
  refine (h l J (fun _ => noT) W Q S hR h0 hd (fun k x W1 Q1 hx hJ hs => ?_)).mono ?_
  · obtain ⟨fn, tm, as', bd, hy, hr⟩ := hY k x W1 Q1 hx hJ hs
    exact ⟨fn, tm, as', bd, hy, hr.mono (fun e W' he => .inl he)⟩
  · rintro e W' ⟨hv, h | ⟨k, _, Q', h, _⟩⟩
    · exact ⟨hv, h⟩
    · exact h.elim

/-- How the body of a round ends: it goes on, or leaves. -/
def roundS (A B : Thing) (Q : Nat → Prop) (W : World) : Exit → Act → World → Prop
  | .normal, _, W' => Goes A Q W W'
  | .ret, _, W' => Goes B Q W W'
  | _, _, _ => False

section
variable {α : Type} {g : Operand} {ps : Array Tmp} {assign body : Code} {Qx : Exit → Act → World → Prop} {a : Act} {w : World} {gf : Nat} {lb : Array Value} {encs : α → Array Value} {xs : List α} {R : Thing}

/-- One round, between two states of the record. -/
theorem roundS_yield {rec : LoopState → Option Code → Loop} {fn l : Nat} {df : Nat} {tm : Array Value} (hrec : rec = fun st pe => { state := st, pending := pe, fn, tmps := tm, params := ps, assign, body, defers := df })
    (hps : ∀ x, (encs x).size = ps.size) {A B C : Thing} {x : α} {W : World} {Q : Nat → Prop} {a1 : Act}
    (hA : A.at_ W Q) (hl : W.heap[l]? = some (.loop (rec .ready none))) (hQ : ¬ Q l)
    (hassign : ∀ K : Act → World → Prop, K a1 W → assign.wpIn (Fence.wide.inRound l) 9 Try.prog (Exit.then K (fun _ _ _ => False)) { tmps := (ps.zip (encs x)).foldl (fun t (p, v) => t.setIfInBounds p v) tm, defers := [] } W)
    (hbody : ∀ W2, (∃ r, W2.heap[l]? = some (.loop r)) → A.at_ W2 Q → Turned (· = l) W W2 → body.wpIn (Fence.wide.inRound l) 9 Try.prog (roundS B C Q W2) a1 W2) :
    YieldAt Fence.wide 9 Try.prog l (encs x) W fun e W' =>
      (e = .returned (.bool true) ∧ ∃ Q', B.at_ W' Q' ∧ W'.heap[l]? = some (.loop (rec .ready none)) ∧ ¬ Q' l ∧ Turned (fun k => Q k ∨ k = l) W W' ∧ ∀ i, Q' i → Q i ∨ W.heap.size ≤ i) ∨
      (e = .returned (.bool false) ∧ ∃ Q', C.at_ W' Q' ∧ W'.heap[l]? = some (.loop (rec .done (some .ret))) ∧ ¬ Q' l ∧ Turned (fun k => Q k ∨ k = l) W W' ∧ ∀ i, Q' i → Q i ∨ W.heap.size ≤ i) := by
  have hlt : l < W.heap.size := (Array.getElem?_eq_some_iff.1 hl).1
  have hy := run_yield (P := Try.prog) (args := encs x) hl (by rw [hrec]; exact hps x)
  rw [hrec] at hy
  refine ⟨fn, _, assign, body, hy, roundIn_of_wpIn trivial (hassign _ ?_)⟩
  refine ⟨_, run_beginRound hl (by rw [hrec]), ?_⟩
  have hl2 : (W.putObj l (.loop { rec .ready none with state := .busy })).heap[l]? = some (.loop { rec .ready none with state := .busy }) := World.putObj_heap_same hlt
  have ht2 := putObj_since (l := l) (.loop { rec .ready none with state := .busy }) hlt
  refine wpIn_mono (hbody _ ⟨_, hl2⟩ (A.keep hA ht2 (fun k hk e => hQ (e ▸ hk))) ht2) ?_
  have fin : ∀ (T : Thing) (jump : Option Code) (W3 : World), Goes T Q (W.putObj l (.loop { rec .ready none with state := .busy })) W3 →
      (Instr.endRound l jump).run Try.prog W3 = .ok (.bool jump.isNone) (W3.putObj l (.loop (rec (if jump.isNone then .ready else .done) jump))) ∧
      ∃ Q', T.at_ (W3.putObj l (.loop (rec (if jump.isNone then .ready else .done) jump))) Q' ∧ (W3.putObj l (.loop (rec (if jump.isNone then .ready else .done) jump))).heap[l]? = some (.loop (rec (if jump.isNone then .ready else .done) jump)) ∧ ¬ Q' l ∧
        Turned (fun k => Q k ∨ k = l) W (W3.putObj l (.loop (rec (if jump.isNone then .ready else .done) jump))) ∧ ∀ i, Q' i → Q i ∨ W.heap.size ≤ i := by
    rintro T jump W3 ⟨Q', hB, hT, hG⟩
    have hl3 : W3.heap[l]? = some (.loop { rec .ready none with state := .busy }) := (hT.block l (by simpa using hlt) hQ).trans hl2
    have hlt3 : l < W3.heap.size := (Array.getElem?_eq_some_iff.1 hl3).1
    have hr := run_endRound (P := Try.prog) jump hl3
    have hQ' : ¬ Q' l := fun h => by
      rcases hG l h with h1 | h1
      · exact hQ h1
      · rw [World.putObj_size] at h1; omega
    have ht4 := putObj_since (l := l) (.loop (rec (if jump.isNone then .ready else .done) jump)) hlt3
    rw [hrec] at hr ht4 ⊢
    refine ⟨hr, Q', T.keep hB ht4 (fun k hk e => hQ' (e ▸ hk)), World.putObj_heap_same hlt3, hQ', ?_, fun i hi => by have := hG i hi; rwa [World.putObj_size] at this⟩
    exact ((ht2.mono (fun k _ e => .inr e)).trans ((hT.mono (fun k _ h => .inl h)).trans (ht4.mono (fun k _ e => .inr e))))
  rintro e a3 W3 hp
  cases e with
  | normal =>
    obtain ⟨hr, h⟩ := fin B none W3 hp
    exact ⟨_, _, hr, .inl ⟨rfl, h⟩⟩
  | ret =>
    obtain ⟨hr, h⟩ := fin C (some .ret) W3 hp
    exact ⟨_, _, hr, .inr ⟨rfl, h⟩⟩
  | exit id => exact hp.elim
  | goto t => exact hp.elim
  | panic ch => exact hp.elim
  | outgrown => exact hp.elim

/-- A loop at a function's own level, whose rounds may leave the function. -/
theorem loopS_outer (hg : a.eval g = .func (.func gf) #[] lb) (eg : ∀ args w, (callFunc gf args).run Try.prog w = .ok (.enter gf args) w)
    (hseq : IterS gf lb encs xs R) (hps : ∀ x, (encs x).size = ps.size) (I Ix : Nat → Thing) {Q0 S0 : Nat → Prop} (hR : R.at_ w S0) (h0 : (I 0).at_ w Q0) (hd : ∀ k, Q0 k → ¬ S0 k)
    (hround : ∀ x, ∃ a1, (∀ (l : Nat) (W : World) (K : Act → World → Prop), K a1 W → assign.wpIn (Fence.wide.inRound l) 9 Try.prog (Exit.then K (fun _ _ _ => False)) { tmps := (ps.zip (encs x)).foldl (fun t (p, v) => t.setIfInBounds p v) a.tmps, defers := [] } W) ∧
      (∀ (l k : Nat) (W : World) (Q : Nat → Prop), (∃ r, W.heap[l]? = some (.loop r)) → w.heap.size ≤ l → xs[k]? = some x → (I k).at_ W Q → ¬ Q l → Since Q0 w Q W → body.wpIn (Fence.wide.inRound l) 9 Try.prog (roundS (I (k + 1)) (Ix k) Q W) a1 W))
    (hdone : ∀ (D : Nat) (W' : World) (Q : Nat → Prop), w.heap.size ≤ D → W'.heap[D]? = some (.deferred (some [])) → ¬ Q D → (I xs.length).at_ W' Q → Since Q0 w Q W' → Qx .normal { a with defers := { target := .collected D, args := #[] } :: a.defers } W')
    (hstop : ∀ (D k : Nat) (W' : World) (Q : Nat → Prop), w.heap.size ≤ D → W'.heap[D]? = some (.deferred (some [])) → ¬ Q D → k < xs.length → (Ix k).at_ W' Q → Since Q0 w Q W' → Code.ret.wpIn Fence.wide 9 Try.prog Qx { a with defers := { target := .collected D, args := #[] } :: a.defers } W') :
    (Code.rangeFunc g ps assign body).wpIn Fence.wide 9 Try.prog Qx a w := by
  refine wpIn_rangeFunc ?_
  intro fn hfn
  obtain ⟨rec, hrec⟩ : ∃ rec : LoopState → Option Code → Loop, rec = fun st pe => { state := st, pending := pe, fn, tmps := a.tmps, params := ps, assign, body, defers := w.heap.size } := ⟨_, rfl⟩
  obtain ⟨W1, hW1⟩ : ∃ W1, (w.alloc (.deferred (some []))).alloc (.loop (rec .ready none)) = W1 := ⟨_, rfl⟩
  have hL1 : W1.heap[w.heap.size + 1]? = some (.loop (rec .ready none)) := by
    rw [← hW1]; have := World.alloc_heap_new (w.alloc (.deferred (some []))) (.loop (rec .ready none)); rwa [World.size_alloc] at this
  have hK1 : W1.heap[w.heap.size]? = some (.deferred (some [])) := by
    rw [← hW1]; exact (Below.heap_alloc _ _ _ (by simp)).trans (World.alloc_heap_new w _)
  have hT1 : Still w W1 := by rw [← hW1]; exact ((Turned.refl _ _).alloc _).alloc _
  refine ⟨w.heap.size + 1, [{ target := .collected w.heap.size, args := #[] }], W1, { target := .fn (.func gf) lb, args := #[.func (.yield (w.heap.size + 1)) #[] #[]] }, W1, gf, #[.func (.yield (w.heap.size + 1)) #[] #[]] ++ lb, W1, ?_, ?_, ?_, ?_, fun _ => by omega, ?_⟩
  · rw [← hW1, hrec]; exact run_enterLoop_outer _ _ _ _ _
  · simp only [resolve, hg]; simp [go_sem]
  · intro f' hf'; trivial
  · simp [invoke, go_sem, eg]
  · have hQl : ¬ Q0 w.heap.size := fun h => by have := (I 0).lt h0 _ h; omega
    have hQl1 : ¬ Q0 (w.heap.size + 1) := fun h => by have := (I 0).lt h0 _ h; omega
    have hst : ((((I 0).sep (objT w.heap.size (.deferred (some [])))).sep (objT (w.heap.size + 1) (.loop (rec .ready none))))).at_ W1 (fun k => (Q0 k ∨ k = w.heap.size) ∨ k = w.heap.size + 1) :=
      obj_sep (obj_sep ((I 0).keep h0 hT1 (fun _ _ h => h)) hK1 hQl) hL1 (fun h => h.elim hQl1 (by omega))
    have hend : ∀ (T : Thing) (pe : Option Code) (st : LoopState) (W2 : World), st ≠ .busy → Goes ((T.sep (objT w.heap.size (.deferred (some [])))).sep (objT (w.heap.size + 1) (.loop (rec st pe)))) (fun k => (Q0 k ∨ k = w.heap.size) ∨ k = w.heap.size + 1) W1 W2 →
        ∃ W', (Instr.endLoop (w.heap.size + 1)).run Try.prog W2 = .ok pe W' ∧ ∃ P1, W'.heap[w.heap.size]? = some (.deferred (some [])) ∧ ¬ P1 w.heap.size ∧ T.at_ W' P1 ∧ Since Q0 w P1 W' := by
      rintro T pe st W2 hne ⟨Q, ⟨Q1, Q2, ⟨P1, P2, hI, ⟨hD, hP2⟩, hpp, hP⟩, ⟨hl, hQ2⟩, hdd, hQ⟩, hT, hG⟩
      have hn : ¬ P1 (w.heap.size + 1) := fun h => hdd _ ((hP _).2 (.inl h)) ((hQ2 _).2 rfl)
      have hnD : ¬ P1 w.heap.size := fun h => hpp _ h ((hP2 _).2 rfl)
      obtain ⟨o4, hend⟩ : ∃ o4, (Instr.endLoop (w.heap.size + 1)).run Try.prog W2 = .ok pe (W2.putObj (w.heap.size + 1) o4) := ⟨_, by have := run_endLoop (P := Try.prog) hl (by rw [hrec]; exact hne); rw [hrec] at this; exact this⟩
      have ht4 := putObj_since (l := w.heap.size + 1) o4 (Array.getElem?_eq_some_iff.1 hl).1
      refine ⟨_, hend, P1, (World.putObj_heap_other (by omega)).trans hD, hnD, T.keep hI ht4 (fun k hk e => hn (by rw [← e]; exact hk)), ?_, fun i hi => ?_⟩
      · have hT' : Turned (fun k => Q0 k ∨ w.heap.size ≤ k) w (W2.putObj (w.heap.size + 1) o4) :=
          (hT1.mono (fun _ _ h => h.elim)).trans ((hT.mono (fun k _ h => by
            rcases h with (h | h) | h
            · exact .inl h
            · exact .inr (by omega)
            · exact .inr (by omega))).trans (ht4.mono (fun k _ e => .inr (by omega))))
        exact hT'.mono (fun k hk h => h.elim id (fun h => by omega))
      · rcases hG i ((hQ i).2 (.inl ((hP i).2 (.inl hi)))) with ((h | h) | h) | h
        · exact .inl h
        · exact .inr (by omega)
        · exact .inr (by omega)
        · exact .inr (Nat.le_trans hT1.size h)
    refine callsIn_wide.2 ((hseq (w.heap.size + 1) (fun k => ((I k).sep (objT w.heap.size (.deferred (some [])))).sep (objT (w.heap.size + 1) (.loop (rec .ready none)))) (fun k => ((Ix k).sep (objT w.heap.size (.deferred (some [])))).sep (objT (w.heap.size + 1) (.loop (rec .done (some .ret))))) W1 _ S0 (R.keep hR hT1 (fun _ _ h => h)) hst ?_ ?_).mono ?_)
    · rintro k ((hk | rfl) | rfl)
      · exact hd k hk
      · intro h; have := R.lt hR _ h; omega
      · intro h; have := R.lt hR _ h; omega
    · rintro k x W Q hx ⟨Q1, Q2, ⟨P1, P2, hI, ⟨hD, hP2⟩, hpp, hP⟩, ⟨hl, hQ2⟩, hdd, hQ⟩ hS
      have hn : ¬ P1 (w.heap.size + 1) := fun h => hdd _ ((hP _).2 (.inl h)) ((hQ2 _).2 rfl)
      have hnD : ¬ P1 w.heap.size := fun h => hpp _ h ((hP2 _).2 rfl)
      have hS1 : Since Q0 w P1 W := by
        refine ⟨⟨hS.turn.os.trans hT1.os, hS.turn.tape.trans hT1.tape, hS.turn.output.trans hT1.output, Nat.le_trans hT1.size hS.turn.size, fun j hj hq => (hS.turn.block j (Nat.lt_of_lt_of_le hj hT1.size) (fun h => by
          rcases h with (h | h) | h
          · exact hq h
          · omega
          · omega)).trans (hT1.block j hj (fun h => h))⟩, fun i hi => ?_⟩
        rcases hS.grow i ((hQ i).2 (.inl ((hP i).2 (.inl hi)))) with ((h | h) | h) | h
        · exact .inl h
        · exact .inr (by omega)
        · exact .inr (by omega)
        · exact .inr (Nat.le_trans hT1.size h)
      obtain ⟨a1, hass, hbod⟩ := hround x
      obtain ⟨fn', tm', as', bd', hy, hR'⟩ := roundS_yield hrec hps (B := I (k + 1)) (C := Ix k) hI hl hn (hass _ W) (fun W2 hr hI2 hT2 => hbod _ k W2 P1 hr (by omega) hx hI2 hn
        ⟨hS1.turn.past hT2 (fun i e => .inr (by omega)), hS1.grow⟩)
      have hlt := (Array.getElem?_eq_some_iff.1 hD).1
      have join : ∀ (T : Thing) (o : Obj) (W' : World) (Q' : Nat → Prop), T.at_ W' Q' → W'.heap[w.heap.size + 1]? = some o → ¬ Q' (w.heap.size + 1) → Turned (fun k => P1 k ∨ k = w.heap.size + 1) W W' → (∀ i, Q' i → P1 i ∨ W.heap.size ≤ i) →
          Goes ((T.sep (objT w.heap.size (.deferred (some [])))).sep (objT (w.heap.size + 1) o)) Q W W' := fun T o W' Q' hB hl' hnl hT hG => by
        have hD' : W'.heap[w.heap.size]? = some (.deferred (some [])) := (hT.block _ hlt (fun h => h.elim hnD (by omega))).trans hD
        have hnD' : ¬ Q' w.heap.size := fun h => by
          rcases hG _ h with h | h
          · exact hnD h
          · omega
        refine ⟨fun i => (Q' i ∨ i = w.heap.size) ∨ i = w.heap.size + 1, obj_sep (obj_sep hB hD' hnD') hl' (fun h => h.elim hnl (by omega)), hT.mono (fun i _ h => (hQ i).2 (h.imp (fun h => (hP i).2 (.inl h)) (fun e => (hQ2 i).2 e))), fun i hi => ?_⟩
        rcases hi with (hi | hi) | hi
        · exact (hG i hi).imp (fun h => (hQ i).2 (.inl ((hP i).2 (.inl h)))) id
        · exact .inl ((hQ i).2 (.inl ((hP i).2 (.inr ((hP2 i).2 hi)))))
        · exact .inl ((hQ i).2 (.inr ((hQ2 i).2 hi)))
      refine ⟨fn', tm', as', bd', hy, hR'.mono ?_⟩
      rintro e W' (⟨he, Q', hB, hl', hnl, hT, hG⟩ | ⟨he, Q', hB, hl', hnl, hT, hG⟩)
      · exact .inl ⟨he, join _ _ _ _ hB hl' hnl hT hG⟩
      · exact .inr ⟨he, join _ _ _ _ hB hl' hnl hT hG⟩
    · rintro e W2 ⟨⟨v, rfl⟩, h | ⟨k, hk, h⟩⟩
      · obtain ⟨W', he, P1, hD, hnD, hI, hS⟩ := hend _ none .ready W2 (by simp) h
        exact ⟨none, _, he, hdone w.heap.size _ P1 (Nat.le_refl _) hD hnD hI hS⟩
      · obtain ⟨W', he, P1, hD, hnD, hI, hS⟩ := hend _ (some .ret) .done W2 (by simp) h
        exact ⟨some .ret, _, he, hstop w.heap.size k _ P1 (Nat.le_refl _) hD hnD hk hI hS⟩
end
end Go.Proofs.Ytdlkdagmaeapdaa
