/- The iterators of package sched: over the values of a slice, and over the turns of the sessions, for every loop body that keeps what they read. No condition. -/
import Derived.Test.YtdbmieofcdafkaaCellEach
import Derived.Test.YtdbmieofcdafkaaSched
namespace Go.Proofs.Ytdbmieofcdafkaa
open Go.RowKit Go.Shelf
attribute [local go_sem] Oper.semAt_some
set_option linter.unusedVariables false
set_option maxRecDepth 100000

/-- What a round of the loop may turn: blocks that S tells, and whatever is newer. -/
abbrev Kp (S : Nat → Prop) (n₀ : Nat) : World → World → Prop := Turned (fun k => S k ∨ n₀ ≤ k)

theorem kp_t {S : Nat → Prop} {n₀ : Nat} {A B C : World} (h : Kp S n₀ A B) (k : Kp S n₀ B C) : Kp S n₀ A C := h.trans k
theorem kp_b {S : Nat → Prop} {n₀ : Nat} {w : World} (hn : n₀ ≤ w.heap.size) (W : World) (l : Nat) (o o' : Obj) (hl : w.heap.size ≤ l) (h : W.heap[l]? = some o) (_ : o.isCells = false) (_ : o.isWalk = false) : Kp S n₀ W (W.putObj l o') :=
  (Turned.refl _ W).grown (grownBy_putObj' W l o') (fun k e => by cases e; exact .inl (.inr (by omega)))

theorem values_any (a : Option Addr) (len cap : Nat) (w : World) :
    Calls Try.prog 61 #[.slice a len cap] w fun e w' => e = .returned (.func (.func 78) #[] #[.pointer (some ⟨w.heap.size, 0, none⟩)]) ∧ w' = w.alloc (.cells #[.slice a len cap] 23) := by
  go_enter Try.func61, Try.ntmps61
  go_wp2
  go_ret
  exact ⟨rfl, rfl⟩

theorem turns_any (p : Option Addr) (most : Int) (w : World) :
    Calls Try.prog 54 #[.pointer p, .int .i64 most] w fun e w' => e = .returned (.func (.func 74) #[] #[.pointer (some ⟨w.heap.size + 1, 0, none⟩), .pointer (some ⟨w.heap.size, 0, none⟩)]) ∧ w' = (w.alloc (.cells #[.pointer p] 25)).alloc (.cells #[.int .i64 most] 3) := by
  go_enter Try.func54, Try.ntmps54
  go_wp2
  go_ret
  exact ⟨rfl, rfl⟩

set_option maxHeartbeats 1000000 in
theorem values1_in (F : Fence) (n : Nat) (h6 : F.fn 78) (hro : F.round = none) (hn : 1 ≤ n) (l Bn n₀ : Nat) (S : Nat → Prop) (a : Option Addr) (len cap : Nat) (xs : List Int) (hlen : xs.length = len) (hmax : len ≤ 4611686018427387904)
    (hS : xs ≠ [] → ∀ x, a = some x → ¬ (S x.block ∨ n₀ ≤ x.block)) (J Jx : List Int → World → Prop)
    (W : World) (hJ : AbidesFrom W.heap.size J)
    (hY : ∀ pre x W, J pre W → pre.length < xs.length → YieldAt F (n - 1) Try.prog l #[.int .i64 x] W fun e W' =>
      (e = .returned (.bool true) ∧ J (pre ++ [x]) W' ∧ Kp S n₀ W W') ∨ (e = .returned (.bool false) ∧ Jx (pre ++ [x]) W'))
    (hBn : W.cell? ⟨Bn, 0, none⟩ = some (.slice a len cap)) (hX : NumsAt W a xs) (h0 : J [] W) :
    CallsIn F n Try.prog 78 #[.func (.yield l) #[] #[], .pointer (some ⟨Bn, 0, none⟩)] W fun e W' => (∃ v, e = .returned v) ∧
      ((∃ ys, ys = xs ∧ J ys W') ∨ (∃ pre, pre <+: xs ∧ Jx pre W')) := by
  have HX := Lib.hid hX
  have HJ := Lib.hid hJ
  have HL := Lib.hid hlen
  clear hX hJ hlen
  refine callsIn_of_wp Try.func78 rfl h6 ?_ hro
  simp only [Try.ntmps78, List.size_toArray, List.length_cons, List.length_nil, Nat.reduceAdd, Nat.reduceSub, Array.replicate_succ, Array.replicate_zero, List.push_toArray, List.append_toArray, List.nil_append, List.cons_append]
  gi_wp2
  gi_loopw [7] (fun i wr => ∃ k : Nat, k ≤ len ∧ i = .int .i64 k ∧ J (xs.take k) wr ∧ Kp S n₀ W wr)
    (fun i _ => len - (intOf i).toNat)
  case atStart => exact ⟨0, Nat.zero_le _, rfl, h0, Turned.refl _ _⟩
  case round =>
    obtain ⟨k, hk, rfl, hJs, hnx⟩ := hrel
    by_cases hlt : k < len
    · obtain ⟨x, hx⟩ := get_some (l := xs) (i := k) (by rw [HL.out]; exact hlt)
      obtain ⟨b, o, rfl, hc0⟩ := HX.out k x hx
      have hc1 : wr.cell? ⟨b, o + k, none⟩ = some (.int .i64 x) := by
        rw [hnx.cell (p := ⟨b, o + k, none⟩) (cell_lt hc0) (hS (fun e => by rw [e] at hx; simp at hx) ⟨b, o, none⟩ rfl)]; exact hc0
      obtain ⟨fn, tmps, assign, body, hy, hR⟩ := hY _ x _ hJs (by rw [List.length_take, HL.out]; omega)
      have HX2 := Lib.hid hx
      clear hx hc0
      gi_wp2
      refine hR.mono ?_
      rintro e W3 (⟨rfl, hJ3, hk3⟩ | ⟨rfl, hJx3⟩)
      · gi_wp2
        go_roundw
        case rel => exact ⟨k + 1, by omega, by go_num, by rw [List.take_add_one, HX2.out]; exact hJ3, hnx.trans hk3⟩
        case measure => simp [intOf]; omega
      · gi_wp2
        refine bodyPost_ret (results_none rfl _ _ _) rfl ?_
        refine ⟨⟨_, rfl⟩, .inr ⟨xs.take (k + 1), List.take_prefix _ _, ?_⟩⟩
        rw [List.take_add_one, HX2.out]
        exact hJx3
    · obtain rfl : k = len := by omega
      gi_wp2
      go_end0
      exact ⟨⟨_, rfl⟩, .inl ⟨_, rfl, by rw [List.take_of_length_le (by rw [HL.out]; omega)] at hJs; exact hJs⟩⟩

theorem values_stops (F : Fence) (n : Nat) (h6 : F.fn 78) (hro : F.round = none) (hn : 1 ≤ n) (Bn n₀ : Nat) (S : Nat → Prop) (a : Option Addr) (len cap : Nat) (xs : List Int) (hlen : xs.length = len) (hmax : len ≤ 4611686018427387904) (w : World)
    (hS : xs ≠ [] → ∀ x, a = some x → ¬ (S x.block ∨ n₀ ≤ x.block)) (hc : w.cell? ⟨Bn, 0, none⟩ = some (.slice a len cap)) (hX : NumsAt w a xs) :
    SeqStopsK F n Try.prog 78 #[.pointer (some ⟨Bn, 0, none⟩)] (fun x : Int => #[.int .i64 x]) (Kp S n₀) (fun ys => ys = xs) (fun pre => pre <+: xs) xs.length w := fun l J Jx W hW hJ _ hY h0 =>
  values1_in F n h6 hro hn l Bn n₀ S a len cap xs hlen hmax hS J Jx W hJ hY ((hW.cell (p := ⟨Bn, 0, none⟩) (cell_lt hc)).trans hc)
    (fun i x hx => by obtain ⟨b, o, rfl, hcc⟩ := hX i x hx; exact ⟨b, o, rfl, (hW.cell (p := ⟨b, o + i, none⟩) (cell_lt hcc)).trans hcc⟩) h0

end Go.Proofs.Ytdbmieofcdafkaa
