/- The program's ring that no call made: what its calls answer. No condition. -/
import Derived.Test.YtbljjmehjkmjaaaBdRing
import Derived.Test.YtbljjmehjkmjaaaRingVoid
namespace Go.Proofs.Ytbljjmehjkmjaaa
open Go.RowKit Go.Shelf
attribute [local go_sem] Oper.semAt_some
set_option linter.unusedVariables false
set_option linter.unusedSimpArgs false
set_option maxRecDepth 100000

/-- A pointer to a ring that no call made. -/
def NilR (p : Option Addr) (W : World) : Prop := p = none ∨ ∃ b, p = some ⟨b, 0, none⟩ ∧ Blk W b [.int .i64 0, .int .i64 0, .int .i64 0, .slice none 0 0, .slice none 0 0] 73
theorem NilR.still {p : Option Addr} {W W' : World} (h : NilR p W) (ht : Still W W') : NilR p W' := by
  rcases h with rfl | ⟨b, rfl, hb⟩
  · exact .inl rfl
  · exact .inr ⟨b, rfl, hb.turned ht (fun h => h)⟩

theorem nrmade_in (F : Fence) (n : Nat) {p : Option Addr} {W : World} (hp : NilR p W) (h : F.fn 56) (hro : F.round = none) :
    CallsIn F n Try.prog 56 #[.pointer p] W fun e w' => e = .returned (.bool false) ∧ W = w' := by
  refine callsIn_of_wp Try.func56 rfl h ?_ hro
  simp only [Try.ntmps56, List.size_toArray, List.length_cons, List.length_nil, Nat.reduceAdd, Nat.reduceSub, Array.replicate_succ, Array.replicate_zero, List.push_toArray, List.append_toArray, List.nil_append, List.cons_append]
  rcases hp with rfl | ⟨b, rfl, hb⟩
  · gi_wp2
    go_ret
    exact ⟨rfl, rfl⟩
  · have c1 : W.cell? ⟨b, 0, none⟩ = some (.int .i64 0) := hb.cell rfl
    clear hb
    gi_wp2
    go_ret
    exact ⟨rfl, rfl⟩
theorem nrmade_any {p : Option Addr} {W : World} (hp : NilR p W) : Calls Try.prog 56 #[.pointer p] W fun e w' => e = .returned (.bool false) ∧ W = w' :=
  (callsIn_wide (n := 1)).1 (nrmade_in Fence.wide 1 hp trivial rfl)

theorem nrplaces1_in (F : Fence) (n : Nat) (h6 : F.fn 71) (h7 : F.fn 56) (hro : F.round = none) (hn : 1 ≤ n) (l Bn : Nat) (p : Option Addr) (J Jx : List (PlcAt []) → World → Prop) (W : World) (hp : NilR p W)
    (hBn : W.cell? ⟨Bn, 0, none⟩ = some (.pointer p)) (h0 : J [] W) :
    CallsIn F n Try.prog 71 #[.func (.yield l) #[] #[], .pointer (some ⟨Bn, 0, none⟩)] W fun e W' => (∃ v, e = .returned v) ∧
      ((∃ ys, ys = ([] : List (PlcAt [])) ∧ J ys W') ∨ (∃ pre : List (PlcAt []), False ∧ Jx pre W')) := by
  have HM := Lib.hid (fun m => nrmade_in F m hp h7 hro)
  clear hp
  refine callsIn_of_wp Try.func71 rfl h6 ?_ hro
  simp only [Try.ntmps71, List.size_toArray, List.length_cons, List.length_nil, Nat.reduceAdd, Nat.reduceSub, Array.replicate_succ, Array.replicate_zero, List.push_toArray, List.append_toArray, List.nil_append, List.cons_append]
  gi_wp2_with (gi_at_call 56; refine (HM.out _).mono ?_; rintro e w' ⟨rfl, rfl⟩)
  refine bodyPost_ret (results_none rfl _ _ _) rfl ?_
  first
    | exact ⟨⟨_, rfl⟩, .inl ⟨_, rfl, h0⟩⟩
    | exact ⟨⟨_, rfl⟩, .inl h0⟩

theorem nrplaces_stops (F : Fence) (n : Nat) (h6 : F.fn 71) (h7 : F.fn 56) (hro : F.round = none) (hn : 1 ≤ n) (Bn n₀ : Nat) (p : Option Addr) (w : World) (hp : NilR p w)
    (hc : w.cell? ⟨Bn, 0, none⟩ = some (.pointer p)) :
    SeqStopsK F n Try.prog 71 #[.pointer (some ⟨Bn, 0, none⟩)] (fun x : PlcAt [] => #[plVal 0 x]) (Below n₀) (fun ys => ys = []) (fun _ => False) 0 w := fun l J Jx W hW hJ _ hY h0 =>
  nrplaces1_in F n h6 h7 hro hn l Bn p J Jx W (hp.still (below_turned hW (Nat.le_refl _))) ((hW.cell (p := ⟨Bn, 0, none⟩) (cell_lt hc)).trans hc) h0

set_option maxHeartbeats 1000000 in
theorem nrrefs_in (F : Fence) (n : Nat) (h3 : F.fn 62) (h4 : F.fn 60) (h5 : F.fn 71) (h7 : F.fn 56) (hro : F.round = none) (hn : 3 ≤ n) (p : Option Addr) (w : World) (hp : NilR p w) :
    CallsIn F n Try.prog 62 #[.pointer p] w fun e w' => e = .returned (.slice none 0 0) ∧ Below w.heap.size w w' := by
  have h1 : 1 ≤ n := by omega
  refine callsIn_of_wp_marks Try.func62 rfl h3 ?_ hro
  simp only [Try.ntmps62, List.size_toArray, List.length_cons, List.length_nil, Nat.reduceAdd, Nat.reduceSub, Array.replicate_succ, Array.replicate_zero, List.push_toArray, List.append_toArray, List.nil_append, List.cons_append]
  gi_wp2_with (gi_at_call 60; refine (places_in F (n - 1) h4 hro _ _).mono ?_; rintro e w' ⟨rfl, rfl⟩)
  have bO := (Boxed.new w 23 (.slice none 0 0)).alloc (.cells #[.pointer p] 46)
  have bN := Boxed.new (w.alloc (.cells #[.slice none 0 0] 23)) 46 (.pointer p)
  rw [World.size_alloc] at bN
  have hB0 : Below w.heap.size w ((w.alloc (.cells #[.slice none 0 0] 23)).alloc (.cells #[.pointer p] 46)) := ((Below.refl _ w).alloc (Nat.le_refl _) _).alloc (by simp) _
  have hsz : ((w.alloc (.cells #[.slice none 0 0] 23)).alloc (.cells #[.pointer p] 46)).heap.size = w.heap.size + 2 := by simp
  obtain ⟨W0, hW0⟩ : ∃ W0, (w.alloc (.cells #[.slice none 0 0] 23)).alloc (.cells #[.pointer p] 46) = W0 := ⟨_, rfl⟩
  rw [hW0] at bO bN hB0 hsz ⊢
  have hp0 := hp.still (below_turned hB0 (Nat.le_refl _))
  clear hW0
  refine wpIn_rangeFunc_ownH hro h1 (gf := 71) (lb := #[.pointer (some ⟨w.heap.size + 1, 0, none⟩)]) rfl h5 (enters_of Try.func71 (by kernel_rfl) rfl)
    (nrplaces_stops F (n - 1) h5 h7 hro (by omega) (w.heap.size + 1) w.heap.size p W0 hp0 bN.cell) belowK_t (belowK_b (by omega)) (Below.refl _ _) (fun _ => rfl)
    (fun pre W => Boxed W w.heap.size 23 (.slice none 0 0) ∧ Below w.heap.size W0 W)
    (fun _ _ _ => False)
    (OwnFrom.and (Own.from (boxed_own _ _ (fun _ => _)) _) (ownFrom_below (by omega) (by omega)))
    (fun _ _ _ _ _ hs _ _ => hs)
    ⟨bO, Below.refl _ _⟩
    (fun x a' W => True)
    (fun x a' _ X Y row hs hg hr => trivial)
    ?assign ?body ?done ?stop
  case assign =>
    rintro l pre ⟨⟨x1, x2⟩, x3⟩ W K hI hK
    exact absurd x3 (by simp)
  case body =>
    rintro l pre x a' W hl ⟨r, hr⟩ hI _ hlt
    exact absurd hlt (Nat.not_lt_zero _)
  case done =>
    rintro D ys W hD rfl ⟨hv, hB⟩ hK
    have hc := hv.cell
    gi_wp2
    refine ⟨by simp, .inl ⟨_, _, rfl, run_takeDeferred hK, ?_⟩⟩
    exact ⟨_, results_tmp rfl _ _ _, rfl, hB0.trans (hB.trans (belowK_b (w := w) (Nat.le_refl _) W D _ _ (by omega) hK rfl rfl))⟩
  case stop =>
    rintro D c pre W _ _ h _
    exact h.elim

section
variable {p : Option Addr} {W : World}

theorem nrhead (hp : NilR p W) : Calls Try.prog 34 #[.pointer p] W fun e w' => e = .returned (.int .i64 0) ∧ Still W w' := by
  have HM := Lib.hid (nrmade_any hp)
  clear hp
  go_enter Try.func34, Try.ntmps34
  go_wp2_with (go_at_call 56; refine HM.out.mono ?_; rintro e w' ⟨rfl, rfl⟩)
  go_ret
  exact ⟨rfl, Turned.refl _ _⟩
theorem nrtail (hp : NilR p W) : Calls Try.prog 35 #[.pointer p] W fun e w' => e = .returned (.int .i64 0) ∧ Still W w' := by
  have HM := Lib.hid (nrmade_any hp)
  clear hp
  go_enter Try.func35, Try.ntmps35
  go_wp2_with (go_at_call 56; refine HM.out.mono ?_; rintro e w' ⟨rfl, rfl⟩)
  go_ret
  exact ⟨rfl, Turned.refl _ _⟩
theorem nrroom (hp : NilR p W) : Calls Try.prog 47 #[.pointer p] W fun e w' => e = .returned (.int .i64 0) ∧ Still W w' := by
  have HM := Lib.hid (nrmade_any hp)
  clear hp
  go_enter Try.func47, Try.ntmps47
  go_wp2_with (go_at_call 56; refine HM.out.mono ?_; rintro e w' ⟨rfl, rfl⟩)
  go_ret
  exact ⟨rfl, Turned.refl _ _⟩
theorem nrtrim (n : Int) (hp : NilR p W) : Calls Try.prog 38 #[.pointer p, .int .i64 n] W fun e w' => (∃ a c, e = .returned (.tuple #[.slice a 0 c, .int .i64 1])) ∧ Still W w' := by
  have HM := Lib.hid (nrmade_any hp)
  clear hp
  go_enter Try.func38, Try.ntmps38
  go_wp2_with (go_at_call 56; refine HM.out.mono ?_; rintro e w' ⟨rfl, rfl⟩)
  go_ret2
  exact ⟨⟨_, _, rfl⟩, Turned.refl _ _⟩
theorem nrrefuse (n : Int) (hp : NilR p W) : Calls Try.prog 55 #[.pointer p, .int .i64 n] W fun e w' => e = .returned (.int .i64 1) ∧ W = w' := by
  have HM := Lib.hid (nrmade_any hp)
  clear hp
  go_enter Try.func55, Try.ntmps55
  go_wp2_with (go_at_call 56; refine HM.out.mono ?_; rintro e w' ⟨rfl, rfl⟩)
  go_ret
  exact ⟨rfl, rfl⟩
theorem nrrefc (n : Int) (hp : NilR p W) : Calls Try.prog 52 #[.pointer p, .int .i64 n] W fun e w' => e = .returned (.int .i64 1) ∧ W = w' := by
  have HM := Lib.hid (nrmade_any hp)
  clear hp
  go_enter Try.func52, Try.ntmps52
  go_wp2_with (go_at_call 56; refine HM.out.mono ?_; rintro e w' ⟨rfl, rfl⟩)
  go_ret
  exact ⟨rfl, rfl⟩
theorem nrclaim (n : Int) (hp : NilR p W) : Calls Try.prog 27 #[.pointer p, .int .i64 n] W fun e w' => e = .returned (.tuple #[.int .i64 0, .int .i64 0, .int .i64 1]) ∧ Still W w' := by
  have HM := Lib.hid (nrrefc n hp)
  clear hp
  go_enter Try.func27, Try.ntmps27
  go_wp2_with (go_at_call 52; refine HM.out.mono ?_; rintro e w' ⟨rfl, rfl⟩)
  go_ret3
  exact ⟨rfl, Turned.refl _ _⟩
theorem nrpub (n : Int) (hp : NilR p W) : Calls Try.prog 32 #[.pointer p, .int .i64 n] W fun e w' => e = .returned (.int .i64 1) ∧ Still W w' := by
  have HM := Lib.hid (nrrefuse n hp)
  clear hp
  go_enter Try.func32, Try.ntmps32
  go_wp2_with (go_at_call 55; refine HM.out.mono ?_; rintro e w' ⟨rfl, rfl⟩)
  go_ret
  exact ⟨rfl, Turned.refl _ _⟩
theorem nrget (n : Int) (hp : NilR p W) : Calls Try.prog 29 #[.pointer p, .int .i64 n] W fun e w' => e = .returned (.tuple #[.int .i64 0, .int .i64 1]) ∧ Still W w' := by
  have HM := Lib.hid (nrrefuse n hp)
  clear hp
  go_enter Try.func29, Try.ntmps29
  go_wp2_with (go_at_call 55; refine HM.out.mono ?_; rintro e w' ⟨rfl, rfl⟩)
  go_ret2
  exact ⟨rfl, Turned.refl _ _⟩
end

theorem nrhead_in (F : Fence) (n : Nat) {p : Option Addr} {W : World} (hp : NilR p W) (hn : 1 ≤ n) (h : F.fn 34) (h2 : F.fn 56) (hro : F.round = none) :
    CallsIn F n Try.prog 34 #[.pointer p] W fun e w' => e = .returned (.int .i64 0) ∧ W = w' := by
  refine callsIn_of_wp Try.func34 rfl h ?_ hro
  simp only [Try.ntmps34, List.size_toArray, List.length_cons, List.length_nil, Nat.reduceAdd, Nat.reduceSub, Array.replicate_succ, Array.replicate_zero, List.push_toArray, List.append_toArray, List.nil_append, List.cons_append]
  gi_wp2_with (gi_at_call 56; refine (nrmade_in F (n - 1) hp h2 hro).mono ?_; rintro e w' ⟨rfl, rfl⟩)
  go_ret
  exact ⟨rfl, rfl⟩

set_option maxHeartbeats 1000000 in
theorem nrready {p : Option Addr} {w : World} (a : Int) (hp : NilR p w) : Calls Try.prog 40 #[.pointer p, .int .i64 a] w fun e w' => e = .returned (.int .i64 0) ∧ Still w w' := by
  refine (callsIn_wide (n := 3)).1 ?_
  have HHd := Lib.hid (fun (V : World) (hst : Still w V) d (hd : 1 ≤ d) => nrhead_in Fence.wide d (hp.still hst) hd trivial trivial rfl)
  refine callsIn_of_wp_marks Try.func40 rfl trivial ?_ rfl
  simp only [Try.ntmps40, List.size_toArray, List.length_cons, List.length_nil, Nat.reduceAdd, Nat.reduceSub, Array.replicate_succ, Array.replicate_zero, List.push_toArray, List.append_toArray, List.nil_append, List.cons_append]
  have hs1 : Still w (w.alloc (.cells #[.int .i64 a] 3)) := (Turned.refl _ w).alloc _
  gi_wp2_with fail
  refine wpIn_wide.2 (wp_scope_straight ((wpIn_wide (n := 3)).1 ?_))
  gi_wp2_with (refine ⟨trivial, ?_⟩; gi_at_call 34; refine (HHd.out _ hs1 _ (by omega)).mono ?_; rintro e w' ⟨rfl, rfl⟩)
  refine wpIn_label ?_
  gi_wp2_with (refine ⟨trivial, ?_⟩; gi_at_call 60; refine (places_in Fence.wide _ trivial rfl _ _).mono ?_; rintro e w' ⟨rfl, rfl⟩)
  rw [show w.heap.size + 1 + 1 = w.heap.size + 2 by omega]
  obtain ⟨o1, ho1⟩ : ∃ o : Obj, o = .cells #[.int .i64 a] 3 := ⟨_, rfl⟩
  obtain ⟨o2, ho2⟩ : ∃ o : Obj, o = .cells #[.int .i64 0] 3 := ⟨_, rfl⟩
  obtain ⟨o3, ho3⟩ : ∃ o : Obj, o = .cells #[.pointer p] 46 := ⟨_, rfl⟩
  have bO : Boxed (((w.alloc o1).alloc o2).alloc o3) (w.heap.size + 1) 3 (.int .i64 0) := by
    have := (Boxed.new (w.alloc o1) 3 (.int .i64 0)).alloc o3
    rw [ho2]; rwa [World.size_alloc] at this
  have bN : Boxed (((w.alloc o1).alloc o2).alloc o3) (w.heap.size + 2) 46 (.pointer p) := by
    have := Boxed.new ((w.alloc o1).alloc o2) 46 (.pointer p)
    rw [ho3]; rwa [World.size_alloc, World.size_alloc] at this
  have hB0 : Below w.heap.size w (((w.alloc o1).alloc o2).alloc o3) := (((Below.refl _ w).alloc (Nat.le_refl _) _).alloc (by simp) _).alloc (by simp; omega) _
  have hszl : w.heap.size + 3 ≤ (((w.alloc o1).alloc o2).alloc o3).heap.size := by simp
  rw [← ho1, ← ho2, ← ho3]
  obtain ⟨W0, hW0⟩ : ∃ W0, ((w.alloc o1).alloc o2).alloc o3 = W0 := ⟨_, rfl⟩
  rw [hW0] at bO bN hB0 hszl ⊢
  have hp0 := hp.still (below_turned hB0 (Nat.le_refl _))
  clear hW0 ho1 ho2 ho3 hs1
  refine wpIn_rangeFunc_ownH rfl (by omega) (gf := 71) (lb := #[.pointer (some ⟨w.heap.size + 2, 0, none⟩)]) rfl trivial (enters_of Try.func71 (by kernel_rfl) rfl)
    (nrplaces_stops Fence.wide (3 - 1) trivial trivial rfl (by omega) (w.heap.size + 2) w.heap.size p W0 hp0 bN.cell) belowK_t (belowK_b (by omega)) (Below.refl _ _) (fun _ => rfl)
    (fun pre W => Boxed W (w.heap.size + 1) 3 (.int .i64 0) ∧ Below w.heap.size W0 W)
    (fun _ _ _ => False)
    (OwnFrom.and (Own.from (boxed_own _ _ (fun _ => _)) _) (ownFrom_below (by omega) (by omega)))
    (fun _ _ _ _ _ hs _ _ => hs)
    ⟨bO, Below.refl _ _⟩
    (fun x a' W => True)
    (fun x a' _ X Y row hs hg hr => trivial)
    ?assign ?body ?done ?stop
  case assign =>
    rintro l pre ⟨⟨x1, x2⟩, x3⟩ W K hI hK
    exact absurd x3 (by simp)
  case body =>
    rintro l pre x a' W hl ⟨r, hr⟩ hI _ hlt
    exact absurd hlt (Nat.not_lt_zero _)
  case done =>
    rintro D ys W hD rfl ⟨hv, hB⟩ hK
    have hc := hv.cell
    gi_wp2
    try rw [Exit.noGoto_ret]
    refine ⟨by simp, .inl ⟨_, _, rfl, run_takeDeferred hK, ?_⟩⟩
    exact ⟨_, results_tmp rfl _ _ _, rfl, below_turned (hB0.trans (hB.trans (belowK_b (w := w) (Nat.le_refl _) W D _ _ (by omega) hK rfl rfl))) (Nat.le_refl _)⟩
  case stop =>
    rintro D c pre W _ _ h _
    exact h.elim

theorem void_ring : VoidRing NilR zeroRing where
  nil_ := fun W => .inl rfl
  zero := fun W => .inr ⟨_, rfl, Blk.new W [.int .i64 0, .int .i64 0, .int .i64 0, .slice none 0 0, .slice none 0 0] 73⟩
  still := fun h ht => h.still ht
  claim := fun n hp => nrclaim n hp
  pub := fun n hp => nrpub n hp
  get := fun n hp => nrget n hp
  trim := fun n hp => nrtrim n hp
  ready := fun n hp => nrready n hp
  head := fun hp => nrhead hp
  tail := fun hp => nrtail hp
  room := fun hp => nrroom hp
  refs := fun {p W} hp => (callsIn_wide (n := 3)).1 ((nrrefs_in Fence.wide 3 trivial trivial trivial trivial rfl (by omega) p W hp).mono fun e w' ⟨h1, h2⟩ => ⟨⟨_, _, h1⟩, below_turned h2 (Nat.le_refl _)⟩)
end Go.Proofs.Ytbljjmehjkmjaaa
