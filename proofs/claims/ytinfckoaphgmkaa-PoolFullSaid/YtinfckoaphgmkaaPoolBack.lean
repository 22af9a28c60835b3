/- slices.Backward over numbers: its iterator goes through them from the last on. No condition. -/
import Derived.Test.YtinfckoaphgmkaaPoolLive
namespace Go.Proofs.Ytinfckoaphgmkaa
open Go.RowKit Go.Shelf
attribute [local go_sem] Oper.semAt_some
set_option linter.unusedVariables false
set_option linter.unusedSimpArgs false
set_option maxRecDepth 100000

/-- A number of a list, with its place. -/
abbrev PlaceOf (l : List Nat) := { x : Nat × Nat // l[x.1]? = some x.2 }
theorem last_of {l : List Nat} {k : Nat} (h : k < l.length) : l[l.length - 1 - k]? = some (l[l.length - 1 - k]?.getD 0) := by
  rw [List.getElem?_eq_getElem (show l.length - 1 - k < l.length by omega)]; rfl
/-- The last so many, from the last on. -/
def bkTo (l : List Nat) : Nat → List (PlaceOf l)
  | 0 => []
  | k + 1 => if h : k < l.length then bkTo l k ++ [⟨(l.length - 1 - k, l[l.length - 1 - k]?.getD 0), last_of h⟩] else bkTo l k
theorem bkTo_len (l : List Nat) : ∀ k, k ≤ l.length → (bkTo l k).length = k
  | 0, _ => rfl
  | k + 1, h => by rw [bkTo, dif_pos (by omega)]; simp [bkTo_len l k (by omega)]
theorem bkTo_step {l : List Nat} {k : Nat} (h : k < l.length) : bkTo l (k + 1) = bkTo l k ++ [⟨(l.length - 1 - k, l[l.length - 1 - k]?.getD 0), last_of h⟩] := by rw [bkTo, dif_pos h]
theorem bkTo_pre (l : List Nat) {k n : Nat} (h : k ≤ n) : bkTo l k <+: bkTo l n := by
  obtain ⟨d, rfl⟩ := Nat.le.dest h
  induction d with
  | zero => exact List.prefix_refl _
  | succ d ih =>
    refine (ih (by omega)).trans ?_
    show _ <+: bkTo l ((k + d) + 1)
    rw [bkTo]
    split
    · exact List.prefix_append _ _
    · exact List.prefix_refl _
theorem bkTo_one {l : List Nat} {x : PlaceOf l} (h : [x] <+: bkTo l l.length) : x.1.1 = l.length - 1 ∧ 0 < l.length := by
  have h0 : 0 < l.length := by
    rcases Nat.eq_zero_or_pos l.length with e | e
    · rw [e] at h; obtain ⟨t, ht⟩ := h; cases ht
    · exact e
  refine ⟨?_, h0⟩
  have h1 := bkTo_pre l (show 1 ≤ l.length by omega)
  rw [bkTo_step h0] at h1
  obtain ⟨t, ht⟩ := h
  obtain ⟨t', ht'⟩ := h1
  rw [← ht] at ht'
  simp [bkTo] at ht'
  rw [← ht'.1]

theorem back_in (F : Fence) (n : Nat) (h : F.fn 35) (hro : F.round = none) (a : Option Addr) (m c : Nat) (w : World) :
    CallsIn F n Try.prog 35 #[.slice a m c] w fun e w' => e = .returned (.func (.func 48) #[] #[.pointer (some ⟨w.heap.size, 0, none⟩)]) ∧ w' = w.alloc (.cells #[.slice a m c] 31) := by
  refine callsIn_of_wp Try.func35 rfl h ?_ hro
  simp only [Try.ntmps35, List.size_toArray, List.length_cons, List.length_nil, Nat.reduceAdd, Nat.reduceSub, Array.replicate_succ, Array.replicate_zero, List.push_toArray, List.append_toArray, List.nil_append, List.cons_append]
  gi_wp2
  go_ret
  exact ⟨rfl, rfl⟩

/-- Where the numbers lie. -/
def RowLow (w : World) (sb : Nat) (l : List Nat) : Prop := ∀ i x, l[i]? = some x → w.cell? ⟨sb, i, none⟩ = some (.int .i64 (x : Nat))
theorem RowLow.below {n₀ : Nat} {w w' : World} {sb : Nat} {l : List Nat} (h : RowLow w sb l) (hb : Below n₀ w w') (hl : sb < n₀) : RowLow w' sb l := fun i x hi => (hb.cell (p := ⟨sb, i, none⟩) hl).trans (h i x hi)

set_option maxHeartbeats 1000000 in
theorem back1_in (F : Fence) (n : Nat) (h6 : F.fn 48) (hro : F.round = none) (hn : 1 ≤ n) (l Bn n₀ sb sc m : Nat) (st : List Nat) (hm : m = st.length) (hst : m ≤ 128)
    (hs : sb < n₀) (hB0 : Bn < n₀) (J Jx : List (PlaceOf st) → World → Prop)
    (W : World) (hJ : AbidesFrom W.heap.size J)
    (hY : ∀ pre x W, J pre W → pre.length < m → YieldAt F (n - 1) Try.prog l #[.int .i64 (x.1.1 : Nat), .int .i64 (x.1.2 : Nat)] W fun e W' =>
      (e = .returned (.bool true) ∧ J (pre ++ [x]) W' ∧ Below n₀ W W') ∨ (e = .returned (.bool false) ∧ Jx (pre ++ [x]) W'))
    (hn₀ : n₀ ≤ W.heap.size) (hBn : W.cell? ⟨Bn, 0, none⟩ = some (.slice (some ⟨sb, 0, none⟩) m sc)) (hA : RowLow W sb st) (h0 : J [] W) :
    CallsIn F n Try.prog 48 #[.func (.yield l) #[] #[], .pointer (some ⟨Bn, 0, none⟩)] W fun e W' => (∃ v, e = .returned v) ∧
      ((∃ ys, ys = bkTo st m ∧ J ys W') ∨ (∃ pre, pre <+: bkTo st m ∧ Jx pre W')) := by
  have HA := Lib.hid hA
  have HJ := Lib.hid hJ
  have HM := Lib.hid hm
  clear hJ hA hm
  refine callsIn_of_wp Try.func48 rfl h6 ?_ hro
  simp only [Try.ntmps48, List.size_toArray, List.length_cons, List.length_nil, Nat.reduceAdd, Nat.reduceSub, Array.replicate_succ, Array.replicate_zero, List.push_toArray, List.append_toArray, List.nil_append, List.cons_append]
  gi_wp2
  gi_loopw [3] (fun i wr => ∃ k : Nat, k ≤ m ∧ i = .int .i64 ((m : Int) - 1 - k) ∧ J (bkTo st k) wr ∧ Below n₀ W wr)
    (fun i _ => ((intOf i) + 1).toNat)
  case atStart => exact ⟨0, Nat.zero_le _, by go_num, h0, Below.refl _ _⟩
  case round =>
    obtain ⟨k, hk, rfl, hJs, hnx⟩ := hrel
    have cB : wr.cell? ⟨Bn, 0, none⟩ = some (.slice (some ⟨sb, 0, none⟩) m sc) := (hnx.cell (p := ⟨Bn, 0, none⟩) hB0).trans hBn
    by_cases hlt : k < m
    · obtain ⟨j, hj⟩ : ∃ j : Nat, (m : Int) - 1 - k = j := ⟨m - 1 - k, by omega⟩
      rw [hj]
      have hjm : j < m := by omega
      obtain ⟨x, hx⟩ := get_some (l := st) (i := j) (by rw [← HM.out]; exact hjm)
      have cx := (HA.out.below hnx hs) j x hx
      obtain ⟨fn, tmps, assign, body, hy, hR⟩ := hY _ ⟨(j, x), hx⟩ _ hJs (by rw [bkTo_len _ _ (by rw [← HM.out]; exact hk)]; exact hlt)
      dsimp only at hy
      have HL := Lib.hid (show bkTo st (k + 1) = bkTo st k ++ [⟨(j, x), hx⟩] by
        have e : st.length - 1 - k = j := by rw [← HM.out]; omega
        rw [bkTo_step (by rw [← HM.out]; exact hlt)]
        congr 2
        apply Subtype.ext
        show (st.length - 1 - k, st[st.length - 1 - k]?.getD 0) = (j, x)
        rw [e, hx]; rfl)
      have HJ2 := Lib.hid hj
      clear hj
      gi_wp2
      refine hR.mono ?_
      rintro e W3 (⟨rfl, hJ3, hk3⟩ | ⟨rfl, hJx3⟩)
      · gi_wp2
        go_roundw
        case rel => exact ⟨k + 1, by omega, congrArg (Value.int .i64) (by have := HJ2.out; omega), by rw [HL.out]; exact hJ3, hnx.trans hk3⟩
        case measure => simp [intOf]
      · gi_wp2
        refine bodyPost_ret (results_none rfl _ _ _) rfl ?_
        exact ⟨⟨_, rfl⟩, .inr ⟨bkTo st (k + 1), bkTo_pre st (by omega), by rw [HL.out]; exact hJx3⟩⟩
    · obtain rfl : k = m := by omega
      have hneg : ¬ ((0 : Int) ≤ (k : Int) - 1 - k) := by omega
      gi_wp2
      go_end0
      first
        | exact ⟨⟨_, rfl⟩, .inl hJs⟩
        | exact ⟨⟨_, rfl⟩, .inl ⟨_, rfl, hJs⟩⟩

theorem back_stops (F : Fence) (n : Nat) (h6 : F.fn 48) (hro : F.round = none) (hn : 1 ≤ n) (Bn n₀ sb sc m : Nat) (st : List Nat) (w : World) (hm : m = st.length) (hst : m ≤ 128)
    (hs : sb < n₀) (hB0 : Bn < n₀) (hn₀ : n₀ ≤ w.heap.size) (hc : w.cell? ⟨Bn, 0, none⟩ = some (.slice (some ⟨sb, 0, none⟩) m sc)) (hA : RowLow w sb st) :
    SeqStopsK F n Try.prog 48 #[.pointer (some ⟨Bn, 0, none⟩)] (fun x : PlaceOf st => #[.int .i64 (x.1.1 : Nat), .int .i64 (x.1.2 : Nat)]) (Below n₀) (fun ys => ys = bkTo st m) (fun pre => pre <+: bkTo st m) m w := fun l J Jx W hW hJ _ hY h0 =>
  back1_in F n h6 hro hn l Bn n₀ sb sc m st hm hst hs hB0 J Jx W hJ hY (Nat.le_trans hn₀ hW.size) ((hW.cell (p := ⟨Bn, 0, none⟩) (cell_lt hc)).trans hc)
    (hA.below hW (by omega)) h0
end Go.Proofs.Ytinfckoaphgmkaa
