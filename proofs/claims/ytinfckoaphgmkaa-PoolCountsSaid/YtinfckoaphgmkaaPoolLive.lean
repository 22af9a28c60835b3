/- The program's iterator over the live slots of a pool, what finds a slot among them, and what finds a handle's slot. No condition. -/
import Derived.RangeFuncNested
import Derived.RangeFuncBound
import Derived.RangeFuncCalls
import Derived.RangeFuncLeaves
import Derived.RangeFuncBox
import Derived.Maps.AppendAt
import Derived.Shelf.Abstract
import Derived.Shelf.RegionOpen
import Derived.OwnWalkIn
import Derived.TacticsInMore
import Derived.LoopNIn
import Derived.LoopIn
import Derived.Test.YtinfckoaphgmkaaPoolLay
namespace Go.Proofs.Ytinfckoaphgmkaa
open Go.RowKit Go.Shelf
attribute [local go_sem] Oper.semAt_some
set_option linter.unusedVariables false
set_option linter.unusedSimpArgs false
set_option maxRecDepth 100000

theorem cnew (W : World) (v : Value) (t : TypeId) : (W.alloc (.cells #[v] t)).cell? ⟨W.heap.size, 0, none⟩ = some v ∧ (W.alloc (.cells #[v] t)).frozen? ⟨W.heap.size, 0, none⟩ = false := ⟨(Boxed.new W t v).cell, (Boxed.new W t v).frozen⟩
theorem calloc {W : World} {a : Addr} {v : Value} (o : Obj) (h : W.cell? a = some v) : (W.alloc o).cell? a = some v := cell_kept h (World.grownBy_alloc W o none) (fun r e => by cases e)
theorem falloc {W : World} {a : Addr} {v : Value} (o : Obj) (h : W.cell? a = some v) (hf : W.frozen? a = false) : (W.alloc o).frozen? a = false := (frozen_kept h (World.grownBy_alloc W o none) (fun r e => by cases e)).trans hf

theorem made_in (F : Fence) (n : Nat) (q : Nat) (a : Option Addr) (m c : Nat) (w : World) (hm : 0 < m) (h : F.fn 34) (hro : F.round = none) (c1 : w.cell? ⟨q, 1, none⟩ = some (.slice a m c)) :
    CallsIn F n Try.prog 34 #[.pointer (some ⟨q, 0, none⟩)] w fun e w' => e = .returned (.bool true) ∧ w = w' := by
  refine callsIn_of_wp Try.func34 rfl h ?_ hro
  simp only [Try.ntmps34, List.size_toArray, List.length_cons, List.length_nil, Nat.reduceAdd, Nat.reduceSub, Array.replicate_succ, Array.replicate_zero, List.push_toArray, List.append_toArray, List.nil_append, List.cons_append]
  have hb : decide ((0 : Int) < (m : Int)) = true := by rw [decide_eq_true_eq]; omega
  gi_wp2
  go_ret
  exact ⟨rfl, rfl⟩

theorem live_in (F : Fence) (n : Nat) (h : F.fn 53) (hro : F.round = none) (x : Option Addr) (w : World) :
    CallsIn F n Try.prog 53 #[.pointer x] w fun e w' => e = .returned (.func (.func 56) #[] #[.pointer (some ⟨w.heap.size, 0, none⟩)]) ∧ w' = w.alloc (.cells #[.pointer x] 23) := by
  refine callsIn_of_wp Try.func53 rfl h ?_ hro
  simp only [Try.ntmps53, List.size_toArray, List.length_cons, List.length_nil, Nat.reduceAdd, Nat.reduceSub, Array.replicate_succ, Array.replicate_zero, List.push_toArray, List.append_toArray, List.nil_append, List.cons_append]
  gi_wp2
  go_ret
  exact ⟨rfl, rfl⟩

/-- A slot that there is. -/
abbrev SlotOf (m : Nat) := { x : Nat // x < m }
/-- The live slots among the first so many. -/
def lvTo (cs : List Nat) (m : Nat) : Nat → List (SlotOf m)
  | 0 => []
  | k + 1 => if h : k < m ∧ cs[k]?.getD 0 ≠ 0 then lvTo cs m k ++ [⟨k, h.1⟩] else lvTo cs m k
theorem lvTo_live {cs : List Nat} {m k c : Nat} (h : cs[k]? = some c) (hc : c ≠ 0) (hk : k < m) : lvTo cs m (k + 1) = lvTo cs m k ++ [⟨k, hk⟩] := by
  rw [lvTo, dif_pos ⟨hk, by simpa [h] using hc⟩]
theorem lvTo_free {cs : List Nat} {m k : Nat} (h : cs[k]? = some 0) : lvTo cs m (k + 1) = lvTo cs m k := by
  rw [lvTo, dif_neg (by simp [h])]
theorem lvTo_le (cs : List Nat) (m : Nat) : ∀ k : Nat, (lvTo cs m k).length ≤ k
  | 0 => Nat.le_refl _
  | k + 1 => by
    have := lvTo_le cs m k
    unfold lvTo
    split
    · simp; omega
    · omega
theorem lvTo_pre (cs : List Nat) (m : Nat) {k n : Nat} (h : k ≤ n) : lvTo cs m k <+: lvTo cs m n := by
  obtain ⟨d, rfl⟩ := Nat.le.dest h
  induction d with
  | zero => exact List.prefix_refl _
  | succ d ih =>
    refine (ih (by omega)).trans ?_
    rw [← Nat.add_assoc]
    show _ <+: lvTo cs m ((k + d) + 1)
    rw [lvTo]
    split
    · exact List.prefix_append _ _
    · exact List.prefix_refl _
theorem lvTo_mem {cs : List Nat} {m : Nat} {i : SlotOf m} : ∀ {k : Nat}, i ∈ lvTo cs m k ↔ i.1 < k ∧ cs[i.1]?.getD 0 ≠ 0
  | 0 => by simp [lvTo]
  | k + 1 => by
    rw [lvTo]
    split
    · rename_i h
      rw [List.mem_append, lvTo_mem (k := k), List.mem_singleton]
      constructor
      · rintro (h' | h')
        · exact ⟨by omega, h'.2⟩
        · subst h'; exact ⟨Nat.lt_succ_self _, h.2⟩
      · rintro ⟨h1, h2⟩
        by_cases e : i.1 = k
        · exact .inr (Subtype.ext e)
        · exact .inl ⟨by omega, h2⟩
    · rename_i h
      rw [lvTo_mem (k := k)]
      constructor
      · rintro ⟨h1, h2⟩; exact ⟨by omega, h2⟩
      · rintro ⟨h1, h2⟩
        refine ⟨?_, h2⟩
        rcases Nat.lt_succ_iff_lt_or_eq.1 h1 with h3 | h3
        · exact h3
        · exact absurd ⟨h3 ▸ i.2, h3 ▸ h2⟩ h

/-- Where the counts lie. -/
structure CntAt (w : World) (q eb ec : Nat) (cs : List Nat) : Prop where
  c1 : ∃ a m c, w.cell? ⟨q, 1, none⟩ = some (.slice a m c) ∧ 0 < m
  c2 : w.cell? ⟨q, 2, none⟩ = some (.slice (some ⟨eb, 0, none⟩) cs.length ec)
  cc : ∀ k c, cs[k]? = some c → w.cell? ⟨eb, k * 3 + 1, none⟩ = some (.int .i64 (c : Nat))
  c0 : ∀ k, k < cs.length → w.cell? ⟨eb, k * 3, none⟩ = some (.int .i64 (k : Nat))
theorem CntAt.below {n₀ : Nat} {w w' : World} {q eb ec : Nat} {cs : List Nat} (h : CntAt w q eb ec cs) (hb : Below n₀ w w') (hq : q < n₀) (he : eb < n₀) : CntAt w' q eb ec cs := by
  have k : ∀ {b o : Nat}, b < n₀ → w'.cell? ⟨b, o, none⟩ = w.cell? ⟨b, o, none⟩ := fun hb' => hb.cell (p := ⟨_, _, none⟩) hb'
  obtain ⟨a, m, c, h1, hm⟩ := h.c1
  exact ⟨⟨a, m, c, by rw [k hq]; exact h1, hm⟩, by rw [k hq]; exact h.c2, fun i c hi => by rw [k he]; exact h.cc i c hi, fun i hi => by rw [k he]; exact h.c0 i hi⟩

set_option maxHeartbeats 1000000 in
theorem live1_in (F : Fence) (n : Nat) (h6 : F.fn 56) (h7 : F.fn 34) (hro : F.round = none) (hn : 1 ≤ n) (l Bn n₀ q eb ec m : Nat) (cs : List Nat) (hm : m = cs.length) (hst : m ≤ 128)
    (hq : q < n₀) (he : eb < n₀) (hB0 : Bn < n₀) (J Jx : List (SlotOf m) → World → Prop)
    (W : World) (hJ : AbidesFrom W.heap.size J)
    (hY : ∀ pre x W, J pre W → pre.length < m → YieldAt F (n - 1) Try.prog l #[.pointer (some ⟨eb, x.1 * 3, none⟩)] W fun e W' =>
      (e = .returned (.bool true) ∧ J (pre ++ [x]) W' ∧ Below n₀ W W') ∨ (e = .returned (.bool false) ∧ Jx (pre ++ [x]) W'))
    (hn₀ : n₀ ≤ W.heap.size) (hBn : W.cell? ⟨Bn, 0, none⟩ = some (.pointer (some ⟨q, 0, none⟩))) (hA : CntAt W q eb ec cs) (h0 : J [] W) :
    CallsIn F n Try.prog 56 #[.func (.yield l) #[] #[], .pointer (some ⟨Bn, 0, none⟩)] W fun e W' => (∃ v, e = .returned v) ∧
      ((∃ ys, ys = lvTo cs m m ∧ J ys W') ∨ (∃ pre, pre <+: lvTo cs m m ∧ Jx pre W')) := by
  have HA := Lib.hid hA
  have HJ := Lib.hid hJ
  obtain ⟨a1, m1, k1, c1, hm1⟩ := hA.c1
  have c2 := hA.c2
  clear hJ
  have HM := Lib.hid (fun m => made_in F m q a1 m1 k1 W hm1 h7 hro c1)
  clear c1 hA hm1
  rw [← hm] at c2
  have HSL := Lib.hid hm
  refine callsIn_of_wp Try.func56 rfl h6 ?_ hro
  simp only [Try.ntmps56, List.size_toArray, List.length_cons, List.length_nil, Nat.reduceAdd, Nat.reduceSub, Array.replicate_succ, Array.replicate_zero, List.push_toArray, List.append_toArray, List.nil_append, List.cons_append]
  clear hm
  gi_wp2_with (gi_at_call 34; refine (HM.out _).mono ?_; rintro e w' ⟨rfl, rfl⟩)
  gi_loopw [13] (fun i wr => ∃ k : Nat, k ≤ m ∧ i = .int .i64 k ∧ J (lvTo cs m k) wr ∧ Below n₀ W wr)
    (fun i _ => m - (intOf i).toNat)
  case atStart => exact ⟨0, Nat.zero_le _, rfl, h0, Below.refl _ _⟩
  case round =>
    obtain ⟨k, hk, rfl, hJs, hnx⟩ := hrel
    have HAr := HA.out.below hnx hq he
    have cB : wr.cell? ⟨Bn, 0, none⟩ = some (.pointer (some ⟨q, 0, none⟩)) := (hnx.cell (p := ⟨Bn, 0, none⟩) hB0).trans hBn
    have cq : wr.cell? ⟨q, 2, none⟩ = some (.slice (some ⟨eb, 0, none⟩) m ec) := HSL.out ▸ HAr.c2
    by_cases hlt : k < m
    · obtain ⟨c, hc⟩ := get_some (l := cs) (i := k) (by rw [← HSL.out]; exact hlt)
      have cc := HAr.cc k c hc
      have HAr := Lib.hid HAr
      have HC := Lib.hid hc
      clear hc
      rcases Nat.eq_zero_or_pos c with rfl | hpos
      · gi_wp2
        refine ⟨fun _ h => (by cases h), ?_⟩
        gi_wp2
        go_roundw
        case rel => exact ⟨k + 1, by omega, by go_num, by rw [lvTo_free HC.out]; exact hJs, hnx⟩
        case measure => simp [intOf]; omega
      · have hb : (0 : Int) < (c : Int) := by omega
        obtain ⟨fn, tmps, assign, body, hy, hR⟩ := hY _ ⟨k, hlt⟩ _ hJs (by have := lvTo_le cs m k; omega)
        dsimp only at hy
        have HL := Lib.hid (lvTo_live (m := m) HC.out (by omega) hlt)
        clear hpos
        gi_wp2
        refine hR.mono ?_
        rintro e W3 (⟨rfl, hJ3, hk3⟩ | ⟨rfl, hJx3⟩)
        · gi_wp2
          go_roundw
          case rel => exact ⟨k + 1, by omega, by go_num, by rw [HL.out]; exact hJ3, hnx.trans hk3⟩
          case measure => simp [intOf]; omega
        · gi_wp2
          refine bodyPost_ret (results_none rfl _ _ _) rfl ?_
          exact ⟨⟨_, rfl⟩, .inr ⟨lvTo cs m (k + 1), lvTo_pre cs m (by omega), by rw [HL.out]; exact hJx3⟩⟩
    · obtain rfl : k = m := by omega
      gi_wp2
      go_end0
      exact ⟨⟨_, rfl⟩, .inl ⟨_, rfl, hJs⟩⟩

theorem live_stops (F : Fence) (n : Nat) (h6 : F.fn 56) (h7 : F.fn 34) (hro : F.round = none) (hn : 1 ≤ n) (Bn n₀ q eb ec m : Nat) (cs : List Nat) (w : World) (hm : m = cs.length) (hst : m ≤ 128)
    (hq : q < n₀) (he : eb < n₀) (hB0 : Bn < n₀) (hn₀ : n₀ ≤ w.heap.size) (hc : w.cell? ⟨Bn, 0, none⟩ = some (.pointer (some ⟨q, 0, none⟩))) (hA : CntAt w q eb ec cs) :
    SeqStopsK F n Try.prog 56 #[.pointer (some ⟨Bn, 0, none⟩)] (fun x : SlotOf m => #[.pointer (some ⟨eb, x.1 * 3, none⟩)]) (Below n₀) (fun ys => ys = lvTo cs m m) (fun pre => pre <+: lvTo cs m m) m w := fun l J Jx W hW hJ _ hY h0 =>
  live1_in F n h6 h7 hro hn l Bn n₀ q eb ec m cs hm hst hq he hB0 J Jx W hJ hY (Nat.le_trans hn₀ hW.size) ((hW.cell (p := ⟨Bn, 0, none⟩) (cell_lt hc)).trans hc)
    (hA.below hW (by omega) (by omega)) h0
end Go.Proofs.Ytinfckoaphgmkaa
