/- The iterator of package ring goes through the window's places, the head's first. No condition but that the ring is one. -/
import Derived.RangeFuncNested
import Derived.RangeFuncBound
import Derived.RangeFuncCalls
import Derived.RangeFuncLeaves
import Derived.RangeFuncBox
import Derived.Maps.AppendAt
import Derived.Shelf.Abstract
import Derived.Shelf.RegionOpen
import Derived.OwnWalkIn
import Derived.TacticsInMore
import Derived.LoopNIn
import Derived.LoopIn
import Derived.Stop.RegionWithIn
import Derived.BigRegionIn
import Derived.Test.YtefopajkcpcjpaaReads
import Derived.Test.YtefopajkcpcjpaaRingDo
namespace Go.Proofs.Ytefopajkcpcjpaa
open Go.RowKit Go.Shelf
attribute [local go_sem] Oper.semAt_some
set_option linter.unusedVariables false
set_option linter.unusedSimpArgs false
set_option maxRecDepth 100000

/-- A place of a window, with its number. -/
abbrev PlcAt (L : List Plc) := { x : Nat × Plc // L[x.1]? = some x.2 }
/-- The first so many places. -/
def plTo (L : List Plc) : Nat → List (PlcAt L)
  | 0 => []
  | k + 1 => if h : k < L.length then plTo L k ++ [⟨(k, L[k]), List.getElem?_eq_getElem h⟩] else plTo L k
theorem plTo_len (L : List Plc) : ∀ k, k ≤ L.length → (plTo L k).length = k
  | 0, _ => rfl
  | k + 1, h => by rw [plTo, dif_pos (by omega)]; simp [plTo_len L k (by omega)]
theorem plTo_step {L : List Plc} {k : Nat} {p : Plc} (h : L[k]? = some p) : plTo L (k + 1) = plTo L k ++ [⟨(k, p), h⟩] := by
  obtain ⟨hk, hp⟩ := List.getElem?_eq_some_iff.1 h
  rw [plTo, dif_pos hk]
  subst hp
  rfl
theorem plTo_pre (L : List Plc) {k n : Nat} (h : k ≤ n) : plTo L k <+: plTo L n := by
  obtain ⟨d, rfl⟩ := Nat.le.dest h
  induction d with
  | zero => exact List.prefix_refl _
  | succ d ih =>
    refine (ih (by omega)).trans ?_
    show _ <+: plTo L ((k + d) + 1)
    rw [plTo]
    split
    · exact List.prefix_append _ _
    · exact List.prefix_refl _
/-- What the iterator hands out of a place. -/
def plVal (h : Nat) {L : List Plc} (x : PlcAt L) : Value := .agg #[.int .i64 ((h : Int) + (x.1.1 : Int)), .int .i64 x.1.2.r, .bool x.1.2.d]

/-- What lay before n₀ is as it was, and block B, which lies behind. -/
def Keeps2 (n₀ B : Nat) (W W' : World) : Prop := Below n₀ W W' ∧ W'.heap[B]? = W.heap[B]?
theorem Keeps2.refl (n₀ B : Nat) (W : World) : Keeps2 n₀ B W W := ⟨Below.refl _ _, rfl⟩
theorem Keeps2.trans {n₀ B : Nat} {W W' W2 : World} (h : Keeps2 n₀ B W W') (k : Keeps2 n₀ B W' W2) : Keeps2 n₀ B W W2 := ⟨h.1.trans k.1, k.2.trans h.2⟩
theorem Keeps2.drew {n₀ B : Nat} {W W' : World} (h : Keeps2 n₀ B W W') : Keeps2 n₀ B W W'.drew := ⟨h.1.drew, h.2⟩
theorem Keeps2.alloc {n₀ B : Nat} {W W' : World} (h : Keeps2 n₀ B W W') (hn : n₀ ≤ W'.heap.size) (hB : B < W'.heap.size) (o : Obj) : Keeps2 n₀ B W (W'.alloc o) := ⟨h.1.alloc hn o, (Below.heap_alloc _ _ _ hB).trans h.2⟩
theorem keeps2K_b {n₀ B : Nat} {w : World} (hn : n₀ ≤ w.heap.size) (hB : B < w.heap.size) (W : World) (l : Nat) (o o' : Obj) (hl : w.heap.size ≤ l) (h : W.heap[l]? = some o) (h1 : o.isCells = false) (h2 : o.isWalk = false) : Keeps2 n₀ B W (W.putObj l o') :=
  ⟨belowK_b hn W l o o' hl h h1 h2, (grownBy_putObj' W l o').block B (by have := (Array.getElem?_eq_some_iff.1 h).1; omega) (fun e => by cases e; omega)⟩

theorem below_turned' {n₀ : Nat} {w w' : World} (h : Below n₀ w w') : Turned (fun k => n₀ ≤ k) w w' := ⟨h.os, h.tape, h.output, h.size, fun k _ hk => h.block k (by omega)⟩

theorem rmade_in (F : Fence) (n q : Nat) (m : Nat) (w : World) (hm : 0 < m) (h : F.fn 35) (hro : F.round = none) (c0 : w.cell? ⟨q, 0, none⟩ = some (.int .i64 m)) :
    CallsIn F n Try.prog 35 #[.pointer (some ⟨q, 0, none⟩)] w fun e w' => e = .returned (.bool true) ∧ w = w' := by
  refine callsIn_of_wp Try.func35 rfl h ?_ hro
  simp only [Try.ntmps35, List.size_toArray, List.length_cons, List.length_nil, Nat.reduceAdd, Nat.reduceSub, Array.replicate_succ, Array.replicate_zero, List.push_toArray, List.append_toArray, List.nil_append, List.cons_append]
  gi_wp2
  go_ret
  exact ⟨by first | rfl | (simp; omega), rfl⟩

theorem places_in (F : Fence) (n : Nat) (h : F.fn 36) (hro : F.round = none) (x : Option Addr) (w : World) :
    CallsIn F n Try.prog 36 #[.pointer x] w fun e w' => e = .returned (.func (.func 38) #[] #[.pointer (some ⟨w.heap.size, 0, none⟩)]) ∧ w' = w.alloc (.cells #[.pointer x] 23) := by
  refine callsIn_of_wp Try.func36 rfl h ?_ hro
  simp only [Try.ntmps36, List.size_toArray, List.length_cons, List.length_nil, Nat.reduceAdd, Nat.reduceSub, Array.replicate_succ, Array.replicate_zero, List.push_toArray, List.append_toArray, List.nil_append, List.cons_append]
  gi_wp2
  go_ret
  exact ⟨rfl, rfl⟩

set_option maxHeartbeats 2000000 in
theorem places1_in (F : Fence) (n : Nat) (h6 : F.fn 38) (h7 : F.fn 35) (hro : F.round = none) (hn : 1 ≤ n) (l Bn n₀ q m : Nat) {la pa : Option Addr} {lc pc : Nat} {Wf : Nat → Prop} {M : RM} (hm : m = M.l.length) (hst : m ≤ 64) (hpos : 1 ≤ M.n) (hhd : M.h < 1000000)
    (hlow : ∀ k, Wf k → k < n₀) (J Jx : List (PlcAt M.l) → World → Prop)
    (W : World) (hJ : AbidesFrom W.heap.size J)
    (hY : ∀ pre x W, J pre W → pre.length < m → YieldAt F (n - 1) Try.prog l #[plVal M.h x] W fun e W' =>
      (e = .returned (.bool true) ∧ J (pre ++ [x]) W' ∧ Keeps2 n₀ Bn W W') ∨ (e = .returned (.bool false) ∧ Jx (pre ++ [x]) W'))
    (hn₀ : n₀ ≤ W.heap.size) (hBn : W.cell? ⟨Bn, 0, none⟩ = some (.pointer (some ⟨q, 0, none⟩))) (hA : RgM W Wf q la lc pa pc M) (h0 : J [] W) :
    CallsIn F n Try.prog 38 #[.func (.yield l) #[] #[], .pointer (some ⟨Bn, 0, none⟩)] W fun e W' => (∃ v, e = .returned v) ∧
      ((∃ ys, ys = plTo M.l m ∧ J ys W') ∨ (∃ pre, pre <+: plTo M.l m ∧ Jx pre W')) := by
  have HJ := Lib.hid hJ
  have HD := Lib.hid (fun (pre : List (PlcAt M.l)) (V : World) (h : J pre V) => show J pre V.drew from hJ pre V _ none h ⟨rfl, rfl, rfl, Nat.le_refl _, fun _ _ _ => rfl⟩ (fun r e => by cases e))
  have HA := Lib.hid hA
  obtain ⟨c0, _, c2, c3, c4⟩ := hA.cells
  rw [RM.refs_len, ← hm] at c3
  rw [RM.dn_len, ← hm] at c4
  have HMd := Lib.hid (fun d => rmade_in F d q M.n W hpos h7 hro c0)
  have HCs := Lib.hid (fun (V : World) (hb : Keeps2 n₀ Bn W V) => (by
    have hA' := hA.turned (below_turned' hb.1) (fun k hk h => by have := hlow k hk; omega)
    obtain ⟨_, _, x2, x3, x4⟩ := hA'.cells
    rw [RM.refs_len, ← hm] at x3
    rw [RM.dn_len, ← hm] at x4
    exact ⟨x2, x3, x4, (World.cell?_of_block (w := V) (w' := W) (a := ⟨Bn, 0, none⟩) hb.2.symm).symm.trans hBn⟩ : V.cell? ⟨q, 2, none⟩ = some (.int .i64 M.h) ∧ V.cell? ⟨q, 3, none⟩ = some (.slice la m lc) ∧ V.cell? ⟨q, 4, none⟩ = some (.slice pa m pc) ∧ V.cell? ⟨Bn, 0, none⟩ = some (.pointer (some ⟨q, 0, none⟩))))
  have HPl := Lib.hid (fun (V : World) (hb : Keeps2 n₀ Bn W V) (k : Nat) (hk : k < m) => (by
    have hA' := hA.turned (below_turned' hb.1) (fun k hk h => by have := hlow k hk; omega)
    obtain ⟨p, hp⟩ := get_some (l := M.l) (i := k) (by omega)
    obtain ⟨⟨g, o, e1, h1⟩, g', o', e2, _, h2, _⟩ := hA'.place hp
    exact ⟨p, hp, g, o, g', o', e1, e2, h1, h2⟩ : ∃ p, M.l[k]? = some p ∧ ∃ g o g' o', la = some ⟨g, o, none⟩ ∧ pa = some ⟨g', o', none⟩ ∧ V.cell? ⟨g, o + k, none⟩ = some (.int .i64 p.r) ∧ V.cell? ⟨g', o' + k, none⟩ = some (.bool p.d)))
  have HLen := Lib.hid (fun k (hk : k ≤ m) => plTo_len M.l k (by omega))
  have hhh : (M.h : Int) < 1000000 := by omega
  have hlm : m ≤ lc ∧ m ≤ pc := by
    have h1 := hA.ls.le
    have h2 := hA.ps.le
    rw [RM.refs_len, ← hm] at h1
    rw [RM.dn_len, ← hm] at h2
    exact ⟨h1, h2⟩
  obtain ⟨hl1, hl2⟩ := hlm
  obtain ⟨hh, hhe⟩ : ∃ hh : Nat, hh = M.h := ⟨_, rfl⟩
  rw [← hhe] at hhh HCs
  have HHE := Lib.hid hhe
  clear hJ hA c4 hm hhe
  refine callsIn_of_wp Try.func38 rfl h6 ?_ hro
  simp only [Try.ntmps38, List.size_toArray, List.length_cons, List.length_nil, Nat.reduceAdd, Nat.reduceSub, Array.replicate_succ, Array.replicate_zero, List.push_toArray, List.append_toArray, List.nil_append, List.cons_append]
  gi_wp2_with (gi_at_call 35; refine (HMd.out _).mono ?_; rintro e w' ⟨rfl, rfl⟩)
  gi_loopw [13] (fun i wr => ∃ k : Nat, k ≤ m ∧ i = .int .i64 k ∧ J (plTo M.l k) wr ∧ Keeps2 n₀ Bn W wr)
    (fun i _ => m - (intOf i).toNat)
  case atStart => exact ⟨0, Nat.zero_le _, rfl, h0, Keeps2.refl _ _ _⟩
  case round =>
    clear c0 c2 c3 hBn
    obtain ⟨k, hk, rfl, hJs, hnx⟩ := hrel
    by_cases hlt : k < m
    · obtain ⟨c2, c3, c4, cB⟩ := HCs.out wr hnx
      obtain ⟨p, hp, g, o, g', o', rfl, rfl, d1, d2⟩ := HPl.out wr hnx k hlt
      obtain ⟨fn, tmps, assign, body, hy, hR⟩ := hY _ ⟨(k, p), hp⟩ _ (HD.out _ _ hJs) (by rw [HLen.out _ hk]; exact hlt)
      dsimp only [plVal] at hy
      rw [← HHE.out] at hy
      have HL := Lib.hid (plTo_step hp)
      have hki : (k : Int) < (m : Int) := by omega
      clear HPl HCs hY
      have hR2 : RoundIn F (n - 1) Try.prog l fn tmps assign body wr.drew fun e W' => ∃ b, e = .returned (.bool b) ∧ ((b = true ∧ J (plTo M.l (k + 1)) W' ∧ Keeps2 n₀ Bn wr.drew W') ∨ (b = false ∧ Jx (plTo M.l (k + 1)) W')) := by
        refine hR.mono ?_
        rw [HL.out]
        rintro e W3 (⟨rfl, h1, h2⟩ | ⟨rfl, h1⟩)
        · exact ⟨true, rfl, .inl ⟨rfl, h1, h2⟩⟩
        · exact ⟨false, rfl, .inr ⟨rfl, h1⟩⟩
      clear hR HL
      have hwr : IntKind.i64.wrap ((hh : Int) + (k : Int)) = (hh : Int) + (k : Int) := by simp [IntKind.wrap, IntKind.signed, IntKind.bits]; omega
      rw [← hwr] at hy
      clear hwr
      gi_wp2
      refine region_reads 16 (by kernel_rfl) ?_
      refine reads_take (i := 0) (v := ?_) rfl (by kernel_rfl) (by kernel_rfl) (by kernel_rfl) (by decide) (by kernel_rfl) (by kernel_rfl) (fun _ _ _ h => h) (by rfl) (fun _ => by rfl) ?_ ?_
      rotate_left
      · go_simp
        try with_reducible rfl
      try simp only [Act.put, List.setIfInBounds_toArray, List.set_cons_zero, List.set_cons_succ]
      refine reads_take (i := 1) (v := ?_) rfl (by kernel_rfl) (by kernel_rfl) (by kernel_rfl) (by decide) (by kernel_rfl) (by kernel_rfl) (fun _ _ _ h => h) (by rfl) (fun _ => by rfl) ?_ ?_
      rotate_left
      · go_simp
        try with_reducible rfl
      try simp only [Act.put, List.setIfInBounds_toArray, List.set_cons_zero, List.set_cons_succ]
      refine reads_take (i := 2) (v := ?_) rfl (by kernel_rfl) (by kernel_rfl) (by kernel_rfl) (by decide) (by kernel_rfl) (by kernel_rfl) (fun _ _ _ h => h) (by rfl) (fun _ => by rfl) ?_ ?_
      rotate_left
      · go_simp
        try with_reducible rfl
      try simp only [Act.put, List.setIfInBounds_toArray, List.set_cons_zero, List.set_cons_succ]
      refine reads_take (i := 3) (v := ?_) rfl (by kernel_rfl) (by kernel_rfl) (by kernel_rfl) (by decide) (by kernel_rfl) (by kernel_rfl) (fun _ _ _ h => h) (by rfl) (fun _ => by rfl) ?_ ?_
      rotate_left
      · go_simp
        try with_reducible rfl
      try simp only [Act.put, List.setIfInBounds_toArray, List.set_cons_zero, List.set_cons_succ]
      refine reads_take (i := 4) (v := ?_) rfl (by kernel_rfl) (by kernel_rfl) (by kernel_rfl) (by decide) (by kernel_rfl) (by kernel_rfl) (fun _ _ _ h => h) (by rfl) (fun _ => by rfl) ?_ ?_
      rotate_left
      · go_simp
        try with_reducible rfl
      try simp only [Act.put, List.setIfInBounds_toArray, List.set_cons_zero, List.set_cons_succ]
      refine reads_take (i := 5) (v := ?_) rfl (by kernel_rfl) (by kernel_rfl) (by kernel_rfl) (by decide) (by kernel_rfl) (by kernel_rfl) (fun _ _ _ h => h) (by rfl) (fun _ => by rfl) ?_ ?_
      rotate_left
      · go_simp
        try with_reducible rfl
      try simp only [Act.put, List.setIfInBounds_toArray, List.set_cons_zero, List.set_cons_succ]
      refine reads_take (i := 6) (v := ?_) rfl (by kernel_rfl) (by kernel_rfl) (by kernel_rfl) (by decide) (by kernel_rfl) (by kernel_rfl) (fun _ _ _ h => h) (by rfl) (fun _ => by rfl) ?_ ?_
      rotate_left
      · go_simp
        try with_reducible rfl
      try simp only [Act.put, List.setIfInBounds_toArray, List.set_cons_zero, List.set_cons_succ]
      refine reads_take (i := 7) (v := ?_) rfl (by kernel_rfl) (by kernel_rfl) (by kernel_rfl) (by decide) (by kernel_rfl) (by kernel_rfl) (fun _ _ _ h => h) (by rfl) (fun _ => by rfl) ?_ ?_
      rotate_left
      · go_simp
        try with_reducible rfl
      try simp only [Act.put, List.setIfInBounds_toArray, List.set_cons_zero, List.set_cons_succ]
      refine reads_take (i := 8) (v := ?_) rfl (by kernel_rfl) (by kernel_rfl) (by kernel_rfl) (by decide) (by kernel_rfl) (by kernel_rfl) (fun _ _ _ h => h) (by rfl) (fun _ => by rfl) ?_ ?_
      rotate_left
      · go_simp
        try with_reducible rfl
      try simp only [Act.put, List.setIfInBounds_toArray, List.set_cons_zero, List.set_cons_succ]
      refine reads_take (i := 9) (v := ?_) rfl (by kernel_rfl) (by kernel_rfl) (by kernel_rfl) (by decide) (by kernel_rfl) (by kernel_rfl) (fun _ _ _ h => h) (by rfl) (fun _ => by rfl) ?_ ?_
      rotate_left
      · go_simp
        try with_reducible rfl
      try simp only [Act.put, List.setIfInBounds_toArray, List.set_cons_zero, List.set_cons_succ]
      refine reads_take (i := 10) (v := ?_) rfl (by kernel_rfl) (by kernel_rfl) (by kernel_rfl) (by decide) (by kernel_rfl) (by kernel_rfl) (fun _ _ _ h => h) (by rfl) (fun _ => by rfl) ?_ ?_
      rotate_left
      · go_simp
        try with_reducible rfl
      try simp only [Act.put, List.setIfInBounds_toArray, List.set_cons_zero, List.set_cons_succ]
      refine reads_take (i := 11) (v := ?_) rfl (by kernel_rfl) (by kernel_rfl) (by kernel_rfl) (by decide) (by kernel_rfl) (by kernel_rfl) (fun _ _ _ h => h) (by rfl) (fun _ => by rfl) ?_ ?_
      rotate_left
      · go_simp
        try with_reducible rfl
      try simp only [Act.put, List.setIfInBounds_toArray, List.set_cons_zero, List.set_cons_succ]
      refine reads_take (i := 12) (v := ?_) rfl (by kernel_rfl) (by kernel_rfl) (by kernel_rfl) (by decide) (by kernel_rfl) (by kernel_rfl) (fun _ _ _ h => h) (by rfl) (fun _ => by rfl) ?_ ?_
      rotate_left
      · go_simp
        try with_reducible rfl
      try simp only [Act.put, List.setIfInBounds_toArray, List.set_cons_zero, List.set_cons_succ]
      refine reads_take (i := 13) (v := ?_) rfl (by kernel_rfl) (by kernel_rfl) (by kernel_rfl) (by decide) (by kernel_rfl) (by kernel_rfl) (fun _ _ _ h => h) (by rfl) (fun _ => by rfl) ?_ ?_
      rotate_left
      · go_simp
        try with_reducible rfl
      try simp only [Act.put, List.setIfInBounds_toArray, List.set_cons_zero, List.set_cons_succ]
      refine reads_take (i := 14) (v := ?_) rfl (by kernel_rfl) (by kernel_rfl) (by kernel_rfl) (by decide) (by kernel_rfl) (by kernel_rfl) (fun _ _ _ h => h) (by rfl) (fun _ => by rfl) ?_ ?_
      rotate_left
      · go_simp
        try with_reducible rfl
      try simp only [Act.put, List.setIfInBounds_toArray, List.set_cons_zero, List.set_cons_succ]
      refine reads_take (i := 15) (v := ?_) rfl (by kernel_rfl) (by kernel_rfl) (by kernel_rfl) (by decide) (by kernel_rfl) (by kernel_rfl) (fun _ _ _ h => h) (by rfl) (fun _ => by rfl) ?_ ?_
      rotate_left
      · go_simp
        try with_reducible rfl
      try simp only [Act.put, List.setIfInBounds_toArray, List.set_cons_zero, List.set_cons_succ]
      refine reads_call (i := 16) (by kernel_rfl) (by decide) rfl (fun K hK => ?_)
      go_simp
      gi_wp2_with (refine hR2.mono ?_; rintro e W3 ⟨b, rfl, hX⟩)
      try simp only [Act.put, List.setIfInBounds_toArray, List.set_cons_zero, List.set_cons_succ]
      refine wpAnyIn_ready (rs := [17]) (by kernel_rfl) (by simp) ?_
      refine AllReadyIn.cons rfl (fun K hK => ?_) AllReadyIn.nil
      go_simp
      refine hK _ _ ?_
      clear hK K
      try simp only [Act.put, List.setIfInBounds_toArray, List.set_cons_zero, List.set_cons_succ]
      refine wpAnyIn_done (by kernel_rfl) ?_ _
      clear hy hR2
      rcases hX with ⟨rfl, hJ3, hk3⟩ | ⟨rfl, hJx3⟩
      · simp only [Bool.not_true]
        gi_wp2
        go_roundw
        case rel => exact ⟨k + 1, by omega, by go_num, hJ3, hnx.drew.trans hk3⟩
        case measure => simp [intOf]; omega
      · simp only [Bool.not_false]
        gi_wp2
        refine bodyPost_ret (results_none rfl _ _ _) rfl ?_
        exact ⟨⟨_, rfl⟩, .inr ⟨plTo M.l (k + 1), plTo_pre M.l (by omega), hJx3⟩⟩
    · obtain rfl : k = m := by omega
      gi_wp2
      go_end0
      exact ⟨⟨_, rfl⟩, .inl ⟨_, rfl, hJs⟩⟩

theorem places_stops (F : Fence) (n : Nat) (h6 : F.fn 38) (h7 : F.fn 35) (hro : F.round = none) (hn : 1 ≤ n) (Bn n₀ q m : Nat) {la pa : Option Addr} {lc pc : Nat} {Wf : Nat → Prop} {M : RM} (w : World) (hm : m = M.l.length) (hst : m ≤ 64) (hpos : 1 ≤ M.n) (hhd : M.h < 1000000)
    (hlow : ∀ k, Wf k → k < n₀) (hB0 : Bn < w.heap.size) (hn₀ : n₀ ≤ w.heap.size) (hc : w.cell? ⟨Bn, 0, none⟩ = some (.pointer (some ⟨q, 0, none⟩))) (hA : RgM w Wf q la lc pa pc M) :
    SeqStopsK F n Try.prog 38 #[.pointer (some ⟨Bn, 0, none⟩)] (fun x : PlcAt M.l => #[plVal M.h x]) (Keeps2 n₀ Bn) (fun ys => ys = plTo M.l m) (fun pre => pre <+: plTo M.l m) m w := fun l J Jx W hW hJ _ hY h0 =>
  places1_in F n h6 h7 hro hn l Bn n₀ q m hm hst hpos hhd hlow J Jx W hJ hY (Nat.le_trans hn₀ hW.size) ((hW.cell (p := ⟨Bn, 0, none⟩) (cell_lt hc)).trans hc)
    (hA.turned (below_turned' hW) (fun k hk h => by have := hlow k hk; omega)) h0
end Go.Proofs.Ytefopajkcpcjpaa
