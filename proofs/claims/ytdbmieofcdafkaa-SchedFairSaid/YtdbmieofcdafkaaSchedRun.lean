/- The loop of package sched that does the picks' steps: over any iterator it does the plain machine's steps, and counts them. Conditions: the machine was made by Make; the iterator keeps its word. -/
import Derived.Test.YtdbmieofcdafkaaSchedTurns
import Derived.Test.YtdbmieofcdafkaaSchedStep
import Derived.Scope
import Derived.WalkMore
namespace Go.Proofs.Ytdbmieofcdafkaa
open Go.RowKit Go.Shelf
attribute [local go_sem] Oper.semAt_some
set_option linter.unusedVariables false
set_option maxRecDepth 100000

theorem keeps_turned {S : Nat → Prop} {B : Nat} {W W' : World} (h : Turned S W W') (hS : ∀ b, S b → b < B) : KeepsFrom B W W' :=
  ⟨h.size, fun k o hk ho _ => (h.block k (Array.getElem?_eq_some_iff.1 ho).1 (fun hs => by have := hS k hs; omega)).trans ho⟩

/-- What holds between two rounds. -/
structure RunI (w : World) (L : Lay) (M : Mach) (pre : List Int) (W : World) : Prop where
  m : SM W L (M.run pre)
  bm : Boxed W w.heap.size 25 (.pointer (some ⟨L.hb, 0, none⟩))
  bd : Boxed W (w.heap.size + 1) 3 (.int .i64 (M.cnt pre : Nat))
  t : Turned L.W w W

theorem RunI.own {w : World} {L : Lay} {M : Mach} (hhi : L.hi ≤ w.heap.size) : OwnFrom (w.heap.size + 2) (RunI w L M) := by
  intro s W W' row h hg hr
  have hT : Turned (fun k => row = some k) W W' := (Turned.refl _ W).grown hg (fun k e => .inl e)
  refine ⟨h.m.turned hT (fun b e => ?_), boxed_own (β := Unit) _ _ (fun _ => _) () W W' row h.bm hg (fun r e => (hr r e).2), boxed_own (β := Unit) _ _ (fun _ => _) () W W' row h.bd hg (fun r e => (hr r e).2), ?_⟩
  · have := (hr b e).1; omega
  · exact h.t.grown hg (fun k e => .inr (by have := (hr k e).1; omega))

theorem Mach.run_over {M : Mach} {pre : List Int} {x : Int} (h : (M.run pre).over x = true) : M.run (pre ++ [x]) = M.run pre ∧ M.cnt (pre ++ [x]) = M.cnt pre := by
  rw [Mach.run_snoc, Mach.cnt_snoc, Mach.step_over h, Mach.inc_over h]; exact ⟨rfl, rfl⟩

set_option maxHeartbeats 4000000 in
theorem run_any {w : World} {L : Lay} {M : Mach} (H : SM w L M) (hhi : L.hi ≤ w.heap.size) (gf : Nat) (lb : Array Value) (xs : List Int) (N : Nat) (hN : N ≤ 4611686018427387904)
    (eg : ∀ args w, (callFunc gf args).run Try.prog w = .ok (.enter gf args) w)
    (hseq : SeqStopsK Fence.wide 2 Try.prog gf lb (fun x : Int => #[.int .i64 x]) (Kp L.W w.heap.size) (fun ys => ys = xs) (fun pre => pre <+: xs) N w) :
    Calls Try.prog 53 #[.pointer (some ⟨L.hb, 0, none⟩), .func (.func gf) #[] lb] w fun e w' => e = .returned (.int .i64 (M.cnt xs : Nat)) ∧ SM w' L (M.run xs) ∧ Turned L.W w w' := by
  refine (callsIn_wide (n := 3)).1 ?_
  have HH := Lib.hid H
  have hWlt : ∀ b, L.W b → b < L.hi := fun b hb => (H.W_in hb).2
  have HWL := Lib.hid hWlt
  clear H hWlt
  refine callsIn_of_wp_marks Try.func53 rfl trivial ?_ rfl
  simp only [Try.ntmps53, List.size_toArray, List.length_cons, List.length_nil, Nat.reduceAdd, Nat.reduceSub, Array.replicate_succ, Array.replicate_zero, List.push_toArray, List.append_toArray, List.nil_append, List.cons_append]
  gi_wp2_with fail
  refine wpIn_wide.2 (wp_scope_straight ((wpIn_wide (n := 3)).1 ?_))
  gi_wp2_with fail
  refine wpIn_label ?_
  gi_wp2_with fail
  have hT0 : Turned (fun _ => False) w ((w.alloc (.cells #[.pointer (some ⟨L.hb, 0, none⟩)] 25)).alloc (.cells #[.int .i64 0] 3)) := ((Turned.refl _ _).alloc _).alloc _
  have bM := (Boxed.new w 25 (.pointer (some ⟨L.hb, 0, none⟩))).alloc (.cells #[.int .i64 0] 3)
  have bD := Boxed.new (w.alloc (.cells #[.pointer (some ⟨L.hb, 0, none⟩)] 25)) 3 (.int .i64 0)
  rw [World.size_alloc] at bD
  have HI0 := Lib.hid (show RunI w L M [] ((w.alloc (.cells #[.pointer (some ⟨L.hb, 0, none⟩)] 25)).alloc (.cells #[.int .i64 0] 3)) from
    ⟨HH.out.still hT0, bM, bD, hT0.mono (fun _ _ h => h.elim)⟩)
  have hsz : ((w.alloc (.cells #[.pointer (some ⟨L.hb, 0, none⟩)] 25)).alloc (.cells #[.int .i64 0] 3)).heap.size = w.heap.size + 2 := by simp
  have hB0 : Below w.heap.size w ((w.alloc (.cells #[.pointer (some ⟨L.hb, 0, none⟩)] 25)).alloc (.cells #[.int .i64 0] 3)) := ((Below.refl _ w).alloc (Nat.le_refl _) _).alloc (by simp) _
  obtain ⟨W0, hW0⟩ : ∃ W0, (w.alloc (.cells #[.pointer (some ⟨L.hb, 0, none⟩)] 25)).alloc (.cells #[.int .i64 0] 3) = W0 := ⟨_, rfl⟩
  rw [hW0] at HI0 hsz hB0 ⊢
  clear hW0 hT0 bM bD
  refine wpIn_rangeFunc_ownG rfl (by omega) (gf := gf) (lb := lb) rfl trivial eg hseq kp_t (kp_b (by omega)) hB0 (fun _ => rfl)
    (RunI w L M) (fun c ys W => c = .exit 0 ∧ (M.run ys).done = true ∧ RunI w L M ys W)
    (by rw [hsz]; exact RunI.own hhi) (fun c s W W' row h hg hr => ⟨h.1, h.2.1, RunI.own hhi s W W' row h.2.2 hg (by rw [hsz] at hr; exact hr)⟩)
    HI0.out
    (fun x => { tmps := #[.pointer (some ⟨L.hb, 0, none⟩), .func (.func gf) #[] lb, .pointer (some ⟨w.heap.size, 0, none⟩), undef, .int .i64 0, .pointer (some ⟨w.heap.size + 1, 0, none⟩), .int .i64 x, .func (.func gf) #[] lb, .int .i64 x, undef, undef, undef, undef, undef, undef, undef, undef, undef, undef, undef, undef, undef], defers := [] })
    ?assign ?body ?done ?stop
  case assign =>
    intro l x W K hK
    gi_wp2
    exact hK
  case body =>
    rintro l pre x W hI hlt
    have hc := hI.bm.cell
    have hd := hI.bd.cell
    have hdf := hI.bd.frozen
    have hKW : ∀ V : World, Turned L.W W V → KeepsFrom W0.heap.size W V := fun V hT => keeps_turned hT (fun b hb => by have := HWL.out b hb; omega)
    have hKp : ∀ V : World, Turned L.W W V → Kp L.W w.heap.size W V := fun V hT => hT.mono (fun _ _ h => .inl h)
    have HKW := Lib.hid hKW
    have HKP := Lib.hid hKp
    have HAO := Lib.hid (allOver_any hI.m)
    have HII := Lib.hid hI
    clear hKW hKp hI
    cases hdn : (M.run pre).done with
    | true =>
      rw [hdn] at HAO
      have HDN := Lib.hid hdn
      clear hdn
      gi_wp2_with (first | (refine ⟨trivial, ?_⟩; gi_at_call 55; refine (CallsIn.inRound l (callsIn_wide.2 HAO.out)).mono ?_; rintro e w' ⟨rfl, q, rfl⟩) | (gi_at_call 55; refine (CallsIn.inRound l (callsIn_wide.2 HAO.out)).mono ?_; rintro e w' ⟨rfl, q, rfl⟩))
      have hov := Mach.over_of_done HDN.out x
      obtain ⟨e1, e2⟩ := Mach.run_over hov
      have hI := HII.out
      refine ⟨HKW.out _ ((Turned.refl _ W).drewN q), rfl, ?_, ?_⟩
      · rw [e1]; exact HDN.out
      · exact ⟨by rw [e1]; exact hI.m.drewN q, hI.bm, by rw [e2]; exact hI.bd, hI.t.drewN q⟩
    | false =>
      rw [hdn] at HAO
      clear hdn
      have HOV := Lib.hid (fun q => over_any (HII.out.m.drewN q) x)
      cases hov : (M.run pre).over x with
      | true =>
        rw [hov] at HOV
        have HO := Lib.hid hov
        clear hov
        gi_wp2_with (first | (refine ⟨trivial, ?_⟩; gi_at_call 55; refine (CallsIn.inRound l (callsIn_wide.2 HAO.out)).mono ?_; rintro e w' ⟨rfl, q, rfl⟩) | (gi_at_call 55; refine (CallsIn.inRound l (callsIn_wide.2 HAO.out)).mono ?_; rintro e w' ⟨rfl, q, rfl⟩) | (refine ⟨trivial, ?_⟩; gi_at_call 41; refine (CallsIn.inRound l (callsIn_wide.2 (HOV.out _))).mono ?_; rintro e w' ⟨rfl, q2, rfl⟩) | (gi_at_call 41; refine (CallsIn.inRound l (callsIn_wide.2 (HOV.out _))).mono ?_; rintro e w' ⟨rfl, q2, rfl⟩))
        obtain ⟨e1, e2⟩ := Mach.run_over HO.out
        have hI := HII.out
        have hT := (Turned.refl L.W W).drewN (q + q2)
        refine ⟨HKW.out _ hT, HKP.out _ hT, ?_⟩
        exact ⟨by rw [e1]; exact hI.m.drewN (q + q2), hI.bm, by rw [e2]; exact hI.bd, hI.t.trans hT⟩
      | false =>
        rw [hov] at HOV
        cases hg : (M.run pre).get x with
        | none => unfold Mach.over at hov; rw [hg] at hov; cases hov
        | some s =>
          obtain ⟨h0, h1, h2⟩ := Mach.get_some hg
          obtain ⟨j, rfl⟩ : ∃ j : Nat, x = j := ⟨x.toNat, by omega⟩
          rw [Int.toNat_natCast] at h2
          have hgo : s.goes = true := by unfold Mach.over at hov; rw [hg] at hov; simpa using hov
          have HDO := Lib.hid (fun q => dostep (HII.out.m.drewN q) h2 hgo)
          have HO := Lib.hid hov
          clear hov hg h0 h1 h2 hgo
          have hcnt : M.cnt pre < 4611686018427387904 := by have := Mach.cnt_le M pre; omega
          gi_wp2_with (first | (refine ⟨trivial, ?_⟩; gi_at_call 55; refine (CallsIn.inRound l (callsIn_wide.2 HAO.out)).mono ?_; rintro e w' ⟨rfl, q, rfl⟩) | (gi_at_call 55; refine (CallsIn.inRound l (callsIn_wide.2 HAO.out)).mono ?_; rintro e w' ⟨rfl, q, rfl⟩) | (refine ⟨trivial, ?_⟩; gi_at_call 41; refine (CallsIn.inRound l (callsIn_wide.2 (HOV.out _))).mono ?_; rintro e w' ⟨rfl, q2, rfl⟩) | (gi_at_call 41; refine (CallsIn.inRound l (callsIn_wide.2 (HOV.out _))).mono ?_; rintro e w' ⟨rfl, q2, rfl⟩) | (refine ⟨trivial, ?_⟩; gi_at_call 42; refine (CallsIn.inRound l (callsIn_wide.2 (HDO.out _))).mono ?_; rintro e W3 ⟨rfl, hM3, hT3⟩; have hT3' := ((Turned.refl L.W W).drewN (q + q2)).trans hT3; have hbd3 : Boxed W3 (w.heap.size + 1) 3 (.int .i64 (M.cnt pre : Nat)) := (hT3'.block _ HII.out.bd.lt (fun h => by have := HWL.out _ h; omega)).trans HII.out.bd; have hcd3 := hbd3.cell; have hfd3 := hbd3.frozen) | (gi_at_call 42; refine (CallsIn.inRound l (callsIn_wide.2 (HDO.out _))).mono ?_; rintro e W3 ⟨rfl, hM3, hT3⟩; have hT3' := ((Turned.refl L.W W).drewN (q + q2)).trans hT3; have hbd3 : Boxed W3 (w.heap.size + 1) 3 (.int .i64 (M.cnt pre : Nat)) := (hT3'.block _ HII.out.bd.lt (fun h => by have := HWL.out _ h; omega)).trans HII.out.bd; have hcd3 := hbd3.cell; have hfd3 := hbd3.frozen))
          have hI := HII.out
          have hT4 : Turned L.W W W3 := hT3'
          have hbm3 : Boxed W3 w.heap.size 25 (.pointer (some ⟨L.hb, 0, none⟩)) := (hT4.block _ hI.bm.lt (fun h => by have := HWL.out _ h; omega)).trans hI.bm
          have hTS : Turned (fun k => k = w.heap.size + 1) W3 (W3.setCell ⟨w.heap.size + 1, 0, none⟩ (.int .i64 ((M.cnt pre : Int) + 1))) := turned_set (Turned.refl _ _) _ _
          refine ⟨⟨Nat.le_trans hT4.size hTS.size, fun k o hk ho hc => ?_⟩, (HKP.out _ hT4).trans (hTS.mono (fun k _ e => .inr (by omega))), ?_⟩
          · have h5 := (HKW.out _ hT4).same k o hk ho hc
            exact (hTS.block k (Array.getElem?_eq_some_iff.1 h5).1 (fun e => by omega)).trans h5
          · refine ⟨?_, hbm3.other (by omega) _, ?_, ?_⟩
            · rw [Mach.run_snoc]; exact hM3.turned hTS (fun b e => .inr (by omega))
            · rw [Mach.cnt_snoc, Mach.inc_goes HO.out]
              exact hbd3.set (.int .i64 ((M.cnt pre : Int) + 1))
            · exact (hI.t.trans hT4).setCell (p := ⟨w.heap.size + 1, 0, none⟩) (.inr (Nat.le_succ _)) _
  case done =>
    rintro D ys W hD rfl hI hK
    have hc := hI.bd.cell
    have HII := Lib.hid hI
    clear hI
    gi_wp2
    rw [Exit.noGoto_ret]
    refine ⟨by simp, .inl ⟨_, _, rfl, run_takeDeferred hK, ?_⟩⟩
    have hTD : Turned (fun k => k = D) W (W.putObj D (.deferred none)) := (Turned.refl _ W).grown (grownBy_putObj' W D _) (fun k e => by cases e; exact .inl rfl)
    exact ⟨_, results_tmp rfl _ _ _, rfl, HII.out.m.turned hTD (fun b e => .inr (by omega)), HII.out.t.grown (grownBy_putObj' W D _) (fun k e => by cases e; exact .inr (by omega))⟩
  case stop =>
    rintro D c pre W hD hpre ⟨rfl, hdone, hI⟩ hK
    have hc := hI.bd.cell
    have HII := Lib.hid hI
    have HDN := Lib.hid hdone
    clear hI hdone
    gi_wp2
    rw [Exit.noGoto_ret]
    refine ⟨by simp, .inl ⟨_, _, rfl, run_takeDeferred hK, ?_⟩⟩
    have hTD : Turned (fun k => k = D) W (W.putObj D (.deferred none)) := (Turned.refl _ W).grown (grownBy_putObj' W D _) (fun k e => by cases e; exact .inl rfl)
    have hpe : pre = xs.take pre.length := List.prefix_iff_eq_take.1 hpre
    have hrt := Mach.run_take_done (M := M) (l := xs) (k := pre.length) (by rw [← hpe]; exact HDN.out)
    rw [← hpe] at hrt
    rw [hrt.1, hrt.2]
    exact ⟨_, results_tmp rfl _ _ _, rfl, HII.out.m.turned hTD (fun b e => .inr (by omega)), HII.out.t.grown (grownBy_putObj' W D _) (fun k e => by cases e; exact .inr (by omega))⟩
end Go.Proofs.Ytdbmieofcdafkaa
