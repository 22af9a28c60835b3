/- The program's pool that no call made: what its calls answer. No condition. -/
import Derived.Test.YtbljjmehjkmjaaaBdPool
import Derived.Test.YtbljjmehjkmjaaaPoolVoid
namespace Go.Proofs.Ytbljjmehjkmjaaa
open Go.RowKit Go.Shelf
attribute [local go_sem] Oper.semAt_some
set_option linter.unusedVariables false
set_option linter.unusedSimpArgs false
set_option maxRecDepth 100000

/-- A pointer to a pool that no call made. -/
def NilP (p : Option Addr) (W : World) : Prop := p = none ∨ ∃ b, p = some ⟨b, 0, none⟩ ∧ Blk W b [.int .i64 0, .slice none 0 0, .slice none 0 0, .slice none 0 0] 54
theorem NilP.still {p : Option Addr} {W W' : World} (h : NilP p W) (ht : Still W W') : NilP p W' := by
  rcases h with rfl | ⟨b, rfl, hb⟩
  · exact .inl rfl
  · exact .inr ⟨b, rfl, hb.turned ht (fun h => h)⟩

theorem nmade_in (F : Fence) (n : Nat) {p : Option Addr} {W : World} (hp : NilP p W) (h : F.fn 42) (hro : F.round = none) :
    CallsIn F n Try.prog 42 #[.pointer p] W fun e w' => e = .returned (.bool false) ∧ W = w' := by
  refine callsIn_of_wp Try.func42 rfl h ?_ hro
  simp only [Try.ntmps42, List.size_toArray, List.length_cons, List.length_nil, Nat.reduceAdd, Nat.reduceSub, Array.replicate_succ, Array.replicate_zero, List.push_toArray, List.append_toArray, List.nil_append, List.cons_append]
  rcases hp with rfl | ⟨b, rfl, hb⟩
  · gi_wp2
    go_ret
    exact ⟨rfl, rfl⟩
  · have c1 : W.cell? ⟨b, 1, none⟩ = some (.slice none 0 0) := hb.cell rfl
    clear hb
    gi_wp2
    go_ret
    exact ⟨rfl, rfl⟩
theorem nmade_any {p : Option Addr} {W : World} (hp : NilP p W) : Calls Try.prog 42 #[.pointer p] W fun e w' => e = .returned (.bool false) ∧ W = w' :=
  (callsIn_wide (n := 1)).1 (nmade_in Fence.wide 1 hp trivial rfl)

theorem nlive1_in (F : Fence) (n : Nat) (h6 : F.fn 79) (h7 : F.fn 42) (hro : F.round = none) (hn : 1 ≤ n) (l Bn : Nat) (p : Option Addr) (J Jx : List (SlotOf 0) → World → Prop) (W : World) (hp : NilP p W)
    (hBn : W.cell? ⟨Bn, 0, none⟩ = some (.pointer p)) (h0 : J [] W) :
    CallsIn F n Try.prog 79 #[.func (.yield l) #[] #[], .pointer (some ⟨Bn, 0, none⟩)] W fun e W' => (∃ v, e = .returned v) ∧
      ((∃ ys, ys = ([] : List (SlotOf 0)) ∧ J ys W') ∨ (∃ pre : List (SlotOf 0), False ∧ Jx pre W')) := by
  have HM := Lib.hid (fun m => nmade_in F m hp h7 hro)
  clear hp
  refine callsIn_of_wp Try.func79 rfl h6 ?_ hro
  simp only [Try.ntmps79, List.size_toArray, List.length_cons, List.length_nil, Nat.reduceAdd, Nat.reduceSub, Array.replicate_succ, Array.replicate_zero, List.push_toArray, List.append_toArray, List.nil_append, List.cons_append]
  gi_wp2_with (gi_at_call 42; refine (HM.out _).mono ?_; rintro e w' ⟨rfl, rfl⟩)
  refine bodyPost_ret (results_none rfl _ _ _) rfl ?_
  first
    | exact ⟨⟨_, rfl⟩, .inl ⟨_, rfl, h0⟩⟩
    | exact ⟨⟨_, rfl⟩, .inl h0⟩

theorem nlive_stops (F : Fence) (n : Nat) (h6 : F.fn 79) (h7 : F.fn 42) (hro : F.round = none) (hn : 1 ≤ n) (Bn n₀ eb : Nat) (p : Option Addr) (w : World) (hp : NilP p w)
    (hc : w.cell? ⟨Bn, 0, none⟩ = some (.pointer p)) :
    SeqStopsK F n Try.prog 79 #[.pointer (some ⟨Bn, 0, none⟩)] (fun x : SlotOf 0 => #[.pointer (some ⟨eb, x.1 * 3, none⟩)]) (Below n₀) (fun ys => ys = []) (fun _ => False) 0 w := fun l J Jx W hW hJ _ hY h0 =>
  nlive1_in F n h6 h7 hro hn l Bn p J Jx W (hp.still (below_turned hW (Nat.le_refl _))) ((hW.cell (p := ⟨Bn, 0, none⟩) (cell_lt hc)).trans hc) h0

set_option maxHeartbeats 1000000 in
theorem ntaken_in (F : Fence) (n : Nat) (h4 : F.fn 58) (h5 : F.fn 70) (h6 : F.fn 79) (h7 : F.fn 42) (hro : F.round = none) (hn : 3 ≤ n) (p : Option Addr) (k : Int) (w : World) (hp : NilP p w) :
    CallsIn F n Try.prog 58 #[.pointer p, .int .i64 k] w fun e W' => e = .returned (.pointer none) ∧ Below w.heap.size w W' := by
  have h1 : 1 ≤ n := by omega
  refine callsIn_of_wp_marks Try.func58 rfl h4 ?_ hro
  simp only [Try.ntmps58, List.size_toArray, List.length_cons, List.length_nil, Nat.reduceAdd, Nat.reduceSub, Array.replicate_succ, Array.replicate_zero, List.push_toArray, List.append_toArray, List.nil_append, List.cons_append]
  gi_wp2_with (gi_at_call 70; refine (live_in F (n - 1) h5 hro _ _).mono ?_; rintro e w' ⟨rfl, rfl⟩)
  have c1 := cnew (w.alloc (.cells #[.int .i64 k] 3)) (.pointer none) 62
  have c2 := cnew ((w.alloc (.cells #[.int .i64 k] 3)).alloc (.cells #[.pointer none] 62)) (.pointer p) 25
  simp only [World.size_alloc] at c1 c2
  have hB0 : Below w.heap.size w (((w.alloc (.cells #[.int .i64 k] 3)).alloc (.cells #[.pointer none] 62)).alloc (.cells #[.pointer p] 25)) := (((Below.refl _ w).alloc (Nat.le_refl _) _).alloc (by simp) _).alloc (by simp; omega) _
  refine wpIn_rangeFunc_ownF hro h1 (gf := 79) (lb := #[.pointer (some ⟨w.heap.size + 1 + 1, 0, none⟩)]) rfl h6 (enters_of Try.func79 (by kernel_rfl) rfl)
    (nlive_stops F (n - 1) h6 h7 hro (by omega) (w.heap.size + 1 + 1) (w.heap.size + 3) 0 p _ (hp.still (below_turned hB0 (Nat.le_refl _))) c2.1) belowK_t (belowK_b (by simp)) (Below.refl _ _) (fun _ => rfl)
    (fun pre W => (W.cell? ⟨w.heap.size + 1, 0, none⟩ = some (.pointer none) ∧ W.frozen? ⟨w.heap.size + 1, 0, none⟩ = false) ∧ Below w.heap.size w W)
    (fun c pre W => False)
    (OwnFrom.and (Own.from (fun s A B row hs hg hr => ⟨cell_kept hs.1 hg hr, (frozen_kept hs.1 hg hr).trans hs.2⟩) _) (ownFrom_below (Nat.le_refl _) (by simp; omega)))
    (fun c s A B row hs hg hr => hs)
    ⟨⟨calloc _ c1.1, falloc _ c1.1 c1.2⟩, hB0⟩
    (fun x => { tmps := #[.pointer p, .int .i64 k, undef, .pointer (some ⟨w.heap.size, 0, none⟩), .pointer (some ⟨w.heap.size + 1, 0, none⟩), .pointer (some ⟨0, x.1 * 3, none⟩), .pointer p, .func (.func 79) #[] #[.pointer (some ⟨w.heap.size + 1 + 1, 0, none⟩)], .pointer (some ⟨0, x.1 * 3, none⟩), undef, undef, undef, undef, undef, undef, undef], defers := [] }) ?assign ?body ?done ?stop
  case assign =>
    intro l x W K hK
    gi_wp2
    exact hK
  case body =>
    rintro l pre x W _ hlt
    exact absurd hlt (Nat.not_lt_zero _)
  case done =>
    rintro D ys W hD rfl ⟨⟨hcr, hfr⟩, hB⟩ hK
    gi_wp2
    have hK' := (KeepsOthers.setCell W ⟨w.heap.size + 1, 0, none⟩ (.pointer none)).same D _ hK rfl
    refine ⟨by simp, .inl ⟨_, _, rfl, run_takeDeferred hK', ?_⟩⟩
    have hc5 := cell_kept (World.cell?_setCell_same' W ⟨w.heap.size + 1, 0, none⟩ (.pointer none) (by rw [hcr]; rfl)) (grownBy_putObj' _ D (.deferred none)) (fun r e => by cases e; exact ⟨_, hK', rfl⟩)
    refine ⟨.pointer none, ?_, rfl, (hB.setCell (p := ⟨w.heap.size + 1, 0, none⟩) (by simp) _).trans (belowK_b (w := w) (Nat.le_refl _) _ D _ _ (by simp at hD; omega) hK' rfl rfl)⟩
    simp [results, Try.f58, go_sem, hc5]
  case stop =>
    rintro D c pre W hD hpre _ hK
    exact hpre.elim
theorem ntaken_any {p : Option Addr} {W : World} (hp : NilP p W) (k : Int) : Calls Try.prog 58 #[.pointer p, .int .i64 k] W fun e w' => e = .returned (.pointer none) ∧ Still W w' :=
  (callsIn_wide (n := 3)).1 ((ntaken_in Fence.wide 3 trivial trivial trivial trivial rfl (by omega) p k W hp).mono fun e w' ⟨h1, h2⟩ => ⟨h1, below_turned h2 (Nat.le_refl _)⟩)

theorem nfind_any {p : Option Addr} {W : World} (hp : NilP p W) (k : Int) : Calls Try.prog 36 #[.pointer p, .int .i64 k] W fun e w' => e = .returned (.tuple #[.pointer none, .int .i64 1]) ∧ W = w' := by
  have HA := Lib.hid (nmade_any hp)
  clear hp
  go_enter Try.func36, Try.ntmps36
  go_wp2_with (go_at_call 42; refine HA.out.mono ?_; rintro e w' ⟨rfl, rfl⟩)
  go_ret2
  exact ⟨rfl, rfl⟩

theorem ntake_in (F : Fence) (hF : F = Fence.wide) {p : Option Addr} {w : World} (hp : NilP p w) (n : Int) :
    CallsIn F 3 Try.prog 26 #[.pointer p, .int .i64 n] w fun e w' => e = .returned (.tuple #[.int .i64 0, .int .i64 1]) ∧ Still w w' := by
  have hro : F.round = none := by rw [hF]; rfl
  have h3 : F.fn 26 := by rw [hF]; trivial
  have h4 : F.fn 42 := by rw [hF]; trivial
  have HM := Lib.hid (fun m w' (hb : Below w.heap.size w w') => nmade_in F m (hp.still (below_turned hb (Nat.le_refl _))) h4 hro)
  have c2 := cnew ((w.alloc (.cells #[.pointer p] 25)).alloc (.cells #[.int .i64 n] 3)) (.int .i64 0) 3
  have c3 := cnew (((w.alloc (.cells #[.pointer p] 25)).alloc (.cells #[.int .i64 n] 3)).alloc (.cells #[.int .i64 0] 3)) (.int .i64 1) 26
  simp only [World.size_alloc] at c2 c3
  have e2 := calloc (.cells #[.int .i64 1] 26) c2.1
  have e3 := c3.1
  have HE := Lib.hid (And.intro e2 e3)
  clear hp hF c2 c3 e2 e3
  refine callsIn_of_wp_marks Try.func26 rfl h3 ?_ hro
  simp only [Try.ntmps26, List.size_toArray, List.length_cons, List.length_nil, Nat.reduceAdd, Nat.reduceSub, Array.replicate_succ, Array.replicate_zero, List.push_toArray, List.append_toArray, List.nil_append, List.cons_append]
  gi_wp2_with (gi_at_call 42; refine (HM.out _ _ (((((Below.refl _ w).alloc (Nat.le_refl _) _).alloc (by simp) _).alloc (by simp; omega) _).alloc (by simp; omega) _)).mono ?_; rintro e w' ⟨rfl, rfl⟩)
  obtain ⟨e2, e3⟩ := HE.out
  refine ⟨.tuple #[.int .i64 0, .int .i64 1], ?_, rfl, ((((Turned.refl _ w).alloc _).alloc _).alloc _).alloc _⟩
  rw [results_cell2 rfl]
  go_simp

def nilV : Value := .slice none 0 0

theorem void_api : VoidApi NilP zeroPool where
  nil_ := fun W => .inl rfl
  zero := fun W => .inr ⟨_, rfl, Blk.new W [.int .i64 0, .slice none 0 0, .slice none 0 0, .slice none 0 0] 54⟩
  still := fun h ht => h.still ht
  take := fun n hp => (callsIn_wide (n := 3)).1 (ntake_in Fence.wide rfl hp n)
  drop := by
    intro p W n hp
    have HV := Lib.hid (nfind_any hp n)
    clear hp
    go_enter Try.func39, Try.ntmps39
    go_wp2_with (go_at_call 36; refine HV.out.mono ?_; rintro e w' ⟨rfl, rfl⟩)
    go_ret2
    exact ⟨rfl, Turned.refl _ _⟩
  bytes := by
    intro p W n hp
    have HV := Lib.hid (nfind_any hp n)
    clear hp
    go_enter Try.func18, Try.ntmps18
    go_wp2_with (go_at_call 36; refine HV.out.mono ?_; rintro e w' ⟨rfl, rfl⟩)
    go_ret2
    exact ⟨⟨none, 0, rfl⟩, Turned.refl _ _⟩
  fill := by
    intro p W n hp
    have HV := Lib.hid (nfind_any hp n)
    clear hp
    go_enter Try.func30, Try.ntmps30
    go_wp2_with (go_at_call 36; refine HV.out.mono ?_; rintro e w' ⟨rfl, rfl⟩)
    go_ret
    exact ⟨rfl, Turned.refl _ _⟩
  keep := by
    intro p W n hp
    have HV := Lib.hid (nfind_any hp n)
    clear hp
    go_enter Try.func33, Try.ntmps33
    go_wp2_with (go_at_call 36; refine HV.out.mono ?_; rintro e w' ⟨rfl, rfl⟩)
    go_ret
    exact ⟨rfl, Turned.refl _ _⟩
  count := by
    intro p W n hp
    have HV := Lib.hid (ntaken_any hp n)
    clear hp
    go_enter Try.func78, Try.ntmps78
    go_wp2_with (go_at_call 58; refine HV.out.mono ?_; rintro e w' ⟨rfl, hst⟩)
    go_ret
    exact ⟨rfl, hst⟩
  gen := by
    intro p W n hp
    have HS := Lib.hid (show Calls Try.prog 22 #[.pointer p] W fun e w' => e = .returned (.int .i64 0) ∧ W = w' by
      have HA := Lib.hid (nmade_any hp)
      clear hp
      go_enter Try.func22, Try.ntmps22
      go_wp2_with (go_at_call 42; refine HA.out.mono ?_; rintro e w' ⟨rfl, rfl⟩)
      go_ret
      exact ⟨rfl, rfl⟩)
    clear hp
    go_enter Try.func75, Try.ntmps75
    rcases Int.lt_or_le n 0 with h0 | h0
    · go_wp2_with (go_at_call 22; refine HS.out.mono ?_; rintro e w' ⟨rfl, rfl⟩)
      go_ret
      exact ⟨rfl, Turned.refl _ _⟩
    · go_wp2_with (go_at_call 22; refine HS.out.mono ?_; rintro e w' ⟨rfl, rfl⟩)
      go_ret
      exact ⟨rfl, Turned.refl _ _⟩
  free := by
    intro p W hp
    have HA := Lib.hid (nmade_any hp)
    clear hp
    go_enter Try.func64, Try.ntmps64
    go_wp2_with (go_at_call 42; refine HA.out.mono ?_; rintro e w' ⟨rfl, rfl⟩)
    go_ret
    exact ⟨⟨none, 0, rfl⟩, Turned.refl _ _⟩
  slots := by
    intro p W hp
    have HA := Lib.hid (nmade_any hp)
    clear hp
    go_enter Try.func22, Try.ntmps22
    go_wp2_with (go_at_call 42; refine HA.out.mono ?_; rintro e w' ⟨rfl, rfl⟩)
    go_ret
    exact ⟨rfl, Turned.refl _ _⟩
  size := by
    intro p W hp
    have HA := Lib.hid (nmade_any hp)
    clear hp
    go_enter Try.func44, Try.ntmps44
    go_wp2_with (go_at_call 42; refine HA.out.mono ?_; rintro e w' ⟨rfl, rfl⟩)
    go_ret
    exact ⟨rfl, Turned.refl _ _⟩
end Go.Proofs.Ytbljjmehjkmjaaa
