/- Run and Fair of a machine of sessions that no call made, or of none: no step is done, and all of none are over. No condition. -/
import Derived.Test.YtkeacdhjkhojhaaVoid
import Derived.Scope
import Derived.WalkMore
namespace Go.Proofs.Ytkeacdhjkhojhaa
open Go.RowKit Go.Shelf
attribute [local go_sem] Oper.semAt_some
set_option linter.unusedVariables false
set_option maxRecDepth 100000

set_option maxHeartbeats 1000000 in
theorem turns1_vd (n : Nat) (hn : 1 ≤ n) (l Bm Bt n₀ : Nat) (p : Option Addr) (most : Nat) (hmax : most ≤ 4611686018427387904)
    (hS3 : Bm < n₀) (hp : ∀ x, p = some x → x.block < n₀) (J Jx : List Int → World → Prop)
    (W : World) (hJ : AbidesFrom W.heap.size J)
    (hY : ∀ pre x W, J pre W → pre.length < most → YieldAt Fence.wide (n - 1) Try.prog l #[.int .i64 x] W fun e W' =>
      (e = .returned (.bool true) ∧ J (pre ++ [x]) W' ∧ Kp (fun _ => False) n₀ W W') ∨ (e = .returned (.bool false) ∧ Jx (pre ++ [x]) W'))
    (hBt : W.cell? ⟨Bt, 0, none⟩ = some (.int .i64 most)) (hBm : W.cell? ⟨Bm, 0, none⟩ = some (.pointer p)) (hX : Vd W p) (h0 : J [] W) :
    CallsIn Fence.wide n Try.prog 60 #[.func (.yield l) #[] #[], .pointer (some ⟨Bt, 0, none⟩), .pointer (some ⟨Bm, 0, none⟩)] W fun e W' => (∃ v, e = .returned v) ∧
      ((∃ ys, ys = fairL 1 most ∧ J ys W') ∨ (∃ pre, pre <+: fairL 1 most ∧ Jx pre W')) := by
  have HX := Lib.hid hX
  have HJ := Lib.hid hJ
  clear hX hJ
  refine callsIn_of_wp Try.func60 rfl trivial ?_ rfl
  simp only [Try.ntmps60, List.size_toArray, List.length_cons, List.length_nil, Nat.reduceAdd, Nat.reduceSub, Array.replicate_succ, Array.replicate_zero, List.push_toArray, List.append_toArray, List.nil_append, List.cons_append]
  gi_wp2
  gi_loopw [4, 6] (fun pk i wr => ∃ k : Nat, k ≤ most ∧ i = .int .i64 k ∧ pk = .int .i64 0 ∧ J (fairL 1 k) wr ∧ Kp (fun _ => False) n₀ W wr)
    (fun pk i _ => most - (intOf i).toNat)
  case atStart => exact ⟨0, Nat.zero_le _, rfl, rfl, h0, Turned.refl _ _⟩
  case round =>
    obtain ⟨k, hk, rfl, rfl, hJs, hnx⟩ := hrel
    by_cases hlt : k < most
    · obtain ⟨fn, tmps, assign, body, hy, hR⟩ := hY _ 0 _ hJs (by unfold fairL; simp; exact hlt)
      have HF : Hid (fairL 1 (k + 1) = fairL 1 k ++ [0]) := Lib.hid (by have := fairL_succ 1 k; rw [Nat.mod_one] at this; exact this)
      gi_wp2
      refine hR.mono ?_
      rintro e W3 (⟨rfl, hJ3, hk3⟩ | ⟨rfl, hJx3⟩)
      · have hk4 := hnx.trans hk3
        have HC := Lib.hid (session_vd (HX.out.turned hk4 (fun x hx h => by have := hp x hx; rcases h with h | h; exact h; omega)) 1)
        have hBm3 : W3.cell? ⟨Bm, 0, none⟩ = some (.pointer p) := by
          rw [hk4.cell (p := ⟨Bm, 0, none⟩) (cell_lt hBm) (fun h => by rcases h with h | h; exact h; dsimp only at h; omega)]; exact hBm
        gi_wp2_with (first | (refine ⟨trivial, ?_⟩; gi_at_call 46; refine (callsIn_wide.2 HC.out).mono ?_; rintro e w' ⟨rfl, rfl⟩) | (gi_at_call 46; refine (callsIn_wide.2 HC.out).mono ?_; rintro e w' ⟨rfl, rfl⟩))
        go_roundw
        case rel => exact ⟨k + 1, by omega, by go_num, rfl, by rw [HF.out]; exact hJ3, hk4⟩
        case measure => simp [intOf]; omega
      · gi_wp2
        refine bodyPost_ret (results_none rfl _ _ _) rfl ?_
        refine ⟨⟨_, rfl⟩, .inr ⟨fairL 1 (k + 1), fairL_prefix _ _ _ (by omega), ?_⟩⟩
        rw [HF.out]
        exact hJx3
    · obtain rfl : k = most := by omega
      gi_wp2
      go_end0
      exact ⟨⟨_, rfl⟩, .inl ⟨_, rfl, hJs⟩⟩

theorem turns_stops_vd (n : Nat) (hn : 1 ≤ n) (Bm Bt n₀ : Nat) (p : Option Addr) (most : Nat) (hmax : most ≤ 4611686018427387904) (w : World)
    (hS3 : Bm < n₀) (hp : ∀ x, p = some x → x.block < n₀)
    (hBt : w.cell? ⟨Bt, 0, none⟩ = some (.int .i64 most)) (hBm : w.cell? ⟨Bm, 0, none⟩ = some (.pointer p)) (hX : Vd w p) :
    SeqStopsK Fence.wide n Try.prog 60 #[.pointer (some ⟨Bt, 0, none⟩), .pointer (some ⟨Bm, 0, none⟩)] (fun x : Int => #[.int .i64 x]) (Kp (fun _ => False) n₀) (fun ys => ys = fairL 1 most) (fun pre => pre <+: fairL 1 most) most w := fun l J Jx W hW hJ _ hY h0 =>
  turns1_vd n hn l Bm Bt n₀ p most hmax hS3 hp J Jx W hJ hY ((hW.cell (p := ⟨Bt, 0, none⟩) (cell_lt hBt)).trans hBt) ((hW.cell (p := ⟨Bm, 0, none⟩) (cell_lt hBm)).trans hBm)
    (by rcases hX with rfl | ⟨zb, rfl, hb⟩
        · exact .inl rfl
        · exact .inr ⟨zb, rfl, hb.of_eq (hW.block zb hb.lt)⟩) h0

structure VI (w : World) (p : Option Addr) (W : World) : Prop where
  bm : Boxed W w.heap.size 25 (.pointer p)
  bd : Boxed W (w.heap.size + 1) 3 (.int .i64 0)
  t : Still w W

theorem VI.own {w : World} {p : Option Addr} : OwnFrom (w.heap.size + 2) (fun (_ : List Int) => VI w p) := by
  intro s W W' row h hg hr
  exact ⟨boxed_own (β := Unit) _ _ (fun _ => _) () W W' row h.bm hg (fun r e => (hr r e).2), boxed_own (β := Unit) _ _ (fun _ => _) () W W' row h.bd hg (fun r e => (hr r e).2), h.t.grown hg (fun k e => .inr (by have := (hr k e).1; omega))⟩

set_option maxHeartbeats 4000000 in
theorem run_vd {w : World} {p : Option Addr} (H : Vd w p) (gf : Nat) (lb : Array Value) (xs : List Int) (N : Nat)
    (eg : ∀ args w, (callFunc gf args).run Try.prog w = .ok (.enter gf args) w)
    (hseq : SeqStopsK Fence.wide 2 Try.prog gf lb (fun x : Int => #[.int .i64 x]) (Kp (fun _ => False) w.heap.size) (fun ys => ys = xs) (fun pre => pre <+: xs) N w) :
    Calls Try.prog 41 #[.pointer p, .func (.func gf) #[] lb] w fun e w' => e = .returned (.int .i64 0) ∧ Still w w' := by
  refine (callsIn_wide (n := 3)).1 ?_
  have HH := Lib.hid H
  clear H
  refine callsIn_of_wp_marks Try.func41 rfl trivial ?_ rfl
  simp only [Try.ntmps41, List.size_toArray, List.length_cons, List.length_nil, Nat.reduceAdd, Nat.reduceSub, Array.replicate_succ, Array.replicate_zero, List.push_toArray, List.append_toArray, List.nil_append, List.cons_append]
  gi_wp2_with fail
  refine wpIn_wide.2 (wp_scope_straight ((wpIn_wide (n := 3)).1 ?_))
  gi_wp2_with fail
  refine wpIn_label ?_
  gi_wp2_with fail
  have hT0 : Still w ((w.alloc (.cells #[.pointer p] 25)).alloc (.cells #[.int .i64 0] 3)) := ((Turned.refl _ _).alloc _).alloc _
  have bM := (Boxed.new w 25 (.pointer p)).alloc (.cells #[.int .i64 0] 3)
  have bD := Boxed.new (w.alloc (.cells #[.pointer p] 25)) 3 (.int .i64 0)
  rw [World.size_alloc] at bD
  have HI0 := Lib.hid (show VI w p ((w.alloc (.cells #[.pointer p] 25)).alloc (.cells #[.int .i64 0] 3)) from ⟨bM, bD, hT0⟩)
  have hsz : ((w.alloc (.cells #[.pointer p] 25)).alloc (.cells #[.int .i64 0] 3)).heap.size = w.heap.size + 2 := by simp
  have hB0 : Below w.heap.size w ((w.alloc (.cells #[.pointer p] 25)).alloc (.cells #[.int .i64 0] 3)) := ((Below.refl _ w).alloc (Nat.le_refl _) _).alloc (by simp) _
  obtain ⟨W0, hW0⟩ : ∃ W0, (w.alloc (.cells #[.pointer p] 25)).alloc (.cells #[.int .i64 0] 3) = W0 := ⟨_, rfl⟩
  rw [hW0] at HI0 hsz hB0 ⊢
  clear hW0 hT0 bM bD
  refine wpIn_rangeFunc_ownG rfl (by omega) (gf := gf) (lb := lb) rfl trivial eg hseq kp_t (kp_b (by omega)) hB0 (fun _ => rfl)
    (fun _ => VI w p) (fun c ys W => c = .exit 0 ∧ VI w p W)
    (by rw [hsz]; exact VI.own) (fun c s W W' row h hg hr => ⟨h.1, VI.own s W W' row h.2 hg (by rw [hsz] at hr; exact hr)⟩)
    HI0.out
    (fun x => { tmps := #[.pointer p, .func (.func gf) #[] lb, .pointer (some ⟨w.heap.size, 0, none⟩), undef, .int .i64 0, .pointer (some ⟨w.heap.size + 1, 0, none⟩), .int .i64 x, .func (.func gf) #[] lb, .int .i64 x, undef, undef, undef, undef, undef, undef, undef, undef, undef, undef, undef, undef, undef], defers := [] })
    ?assign ?body ?done ?stop
  case assign =>
    intro l x W K hK
    gi_wp2
    exact hK
  case body =>
    rintro l pre x W hI hlt
    have hc := hI.bm.cell
    have HAO := Lib.hid (allOver_vd (HH.out.still hI.t))
    have HII := Lib.hid hI
    clear hI
    gi_wp2_with (first | (refine ⟨trivial, ?_⟩; gi_at_call 43; refine (CallsIn.inRound l (callsIn_wide.2 HAO.out)).mono ?_; rintro e w' ⟨rfl, rfl⟩) | (gi_at_call 43; refine (CallsIn.inRound l (callsIn_wide.2 HAO.out)).mono ?_; rintro e w' ⟨rfl, rfl⟩))
    exact ⟨(KeepsOthers.refl _).from _, rfl, HII.out⟩
  case done =>
    rintro D ys W hD rfl hI hK
    have hc := hI.bd.cell
    have HII := Lib.hid hI
    clear hI
    gi_wp2
    rw [Exit.noGoto_ret]
    refine ⟨by simp, .inl ⟨_, _, rfl, run_takeDeferred hK, ?_⟩⟩
    exact ⟨_, results_tmp rfl _ _ _, rfl, HII.out.t.grown (grownBy_putObj' W D _) (fun k e => by cases e; exact .inr (by omega))⟩
  case stop =>
    rintro D c pre W hD hpre ⟨rfl, hI⟩ hK
    have hc := hI.bd.cell
    have HII := Lib.hid hI
    clear hI
    gi_wp2
    rw [Exit.noGoto_ret]
    refine ⟨by simp, .inl ⟨_, _, rfl, run_takeDeferred hK, ?_⟩⟩
    exact ⟨_, results_tmp rfl _ _ _, rfl, HII.out.t.grown (grownBy_putObj' W D _) (fun k e => by cases e; exact .inr (by omega))⟩

theorem Vd.lt {w : World} {p : Option Addr} (h : Vd w p) : ∀ x, p = some x → x.block < w.heap.size := by
  rcases h with rfl | ⟨zb, rfl, hb⟩
  · intro x h; cases h
  · intro x h; cases h; exact hb.lt

/-- One pick. -/
theorem mrun_vd {w : World} {p : Option Addr} (H : Vd w p) (x : Int) :
    Calls Try.prog 19 #[.pointer p, .slice (some ⟨w.heap.size, 0, none⟩) 1 1] (w.alloc (.cells #[.int .i64 x] 3)) fun e w' => e = .returned (.int .i64 0) ∧ Still w w' := by
  have HT : Still w ((w.alloc (.cells #[.int .i64 x] 3)).alloc (.cells #[.slice (some ⟨w.heap.size, 0, none⟩) 1 1] 23)) := ((Turned.refl _ _).alloc _).alloc _
  have hc := (Boxed.new (w.alloc (.cells #[.int .i64 x] 3)) 23 (.slice (some ⟨w.heap.size, 0, none⟩) 1 1)).cell
  rw [World.size_alloc] at hc
  have hX : NumsAt ((w.alloc (.cells #[.int .i64 x] 3)).alloc (.cells #[.slice (some ⟨w.heap.size, 0, none⟩) 1 1] 23)) (some ⟨w.heap.size, 0, none⟩) [x] := NumsAt.of_blk ((Blk.new w (ints [x]) 3).alloc _)
  have hsz : ((w.alloc (.cells #[.int .i64 x] 3)).alloc (.cells #[.slice (some ⟨w.heap.size, 0, none⟩) 1 1] 23)).heap.size = w.heap.size + 2 := by simp
  have HR := Lib.hid (run_vd (H.still HT) 62 #[.pointer (some ⟨w.heap.size + 1, 0, none⟩)] [x] 1 (enters_of Try.func62 (by kernel_rfl) rfl)
    (values_stops Fence.wide 2 trivial rfl (by omega) (w.heap.size + 1) _ (fun _ => False) (some ⟨w.heap.size, 0, none⟩) 1 1 [x] rfl (by omega) _
      (fun _ y hy h => by cases hy; rcases h with h | h; exact h; dsimp only at h; omega) hc hX))
  have HTT := Lib.hid HT
  have hse : (w.alloc (.cells #[.int .i64 x] 3)).heap.size = w.heap.size + 1 := by simp
  have HV := Lib.hid (values_any (some ⟨w.heap.size, 0, none⟩) 1 1 (w.alloc (.cells #[.int .i64 x] 3)))
  rw [hse] at HV
  clear H HT hc hX hsz hse
  go_enter Try.func19, Try.ntmps19
  go_wp2_with fail
  refine HV.out.mono ?_
  rintro e w1 ⟨rfl, rfl⟩
  go_wp2_with fail
  refine HR.out.mono ?_
  rintro e w2 ⟨rfl, hT⟩
  have HT2 := Lib.hid (HTT.out.trans hT)
  clear hT HR
  go_wp2_with fail
  go_ret
  exact ⟨rfl, HT2.out⟩

theorem fair_vd {w : World} {p : Option Addr} (H : Vd w p) : Calls Try.prog 17 #[.pointer p, .int .i64 5] w fun e w' => e = .returned (.tuple #[.int .i64 0, .bool true]) ∧ Still w w' := by
  have HT : Still w ((w.alloc (.cells #[.pointer p] 25)).alloc (.cells #[.int .i64 5] 3)) := ((Turned.refl _ _).alloc _).alloc _
  have hc1 : ((w.alloc (.cells #[.pointer p] 25)).alloc (.cells #[.int .i64 5] 3)).cell? ⟨w.heap.size, 0, none⟩ = some (.pointer p) := ((Boxed.new w 25 _).alloc _).cell
  have hc2 : ((w.alloc (.cells #[.pointer p] 25)).alloc (.cells #[.int .i64 5] 3)).cell? ⟨w.heap.size + 1, 0, none⟩ = some (.int .i64 ((5 : Nat) : Int)) := by
    have := (Boxed.new (w.alloc (.cells #[.pointer p] 25)) 3 (.int .i64 (5 : Int))).cell
    rwa [World.size_alloc] at this
  have hsz : ((w.alloc (.cells #[.pointer p] 25)).alloc (.cells #[.int .i64 5] 3)).heap.size = w.heap.size + 2 := by simp
  have hlt := H.lt
  have HR := Lib.hid (run_vd (H.still HT) 60 #[.pointer (some ⟨w.heap.size + 1, 0, none⟩), .pointer (some ⟨w.heap.size, 0, none⟩)] (fairL 1 5) 5 (enters_of Try.func60 (by kernel_rfl) rfl)
    (turns_stops_vd 2 (by omega) w.heap.size (w.heap.size + 1) _ p 5 (by omega) _ (by omega) (fun x hx => by have := hlt x hx; omega) hc2 hc1 (H.still HT)))
  have HTT := Lib.hid HT
  have HVV := Lib.hid (H.still HT)
  clear H HT hc1 hc2 hsz hlt
  go_enter Try.func17, Try.ntmps17
  go_wp2_with fail
  refine (turns_any _ _ _).mono ?_
  rintro e w1 ⟨rfl, rfl⟩
  go_wp2_with fail
  refine HR.out.mono ?_
  rintro e w2 ⟨rfl, hT⟩
  have HT2 := Lib.hid (HTT.out.trans hT)
  have HA := Lib.hid (allOver_vd (HVV.out.still hT))
  clear hT HR
  go_wp2_with fail
  refine HA.out.mono ?_
  rintro e w3 ⟨rfl, rfl⟩
  go_wp2_with fail
  go_ret2
  exact ⟨rfl, HT2.out⟩
end Go.Proofs.Ytkeacdhjkhojhaa
