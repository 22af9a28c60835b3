/- The statements' own helpers of layer 17: places, members that may be. No condition. -/
import Derived.Test.YtplnbphbccflfaaSameOw
import Derived.Test.YtplnbphbccflfaaHasInt
import Derived.Test.YtplnbphbccflfaaOutNums
import Derived.Test.YtplnbphbccflfaaRbModel
import Derived.Test.YtplnbphbccflfaaRowsT
import Derived.Deep.DeepCutAuto
import Derived.Maps.AppendAt
namespace Go.Proofs.Ytplnbphbccflfaa
open Go.RowKit
set_option linter.unusedVariables false
set_option linter.unusedSimpArgs false
set_option maxRecDepth 100000

/-- Some places. -/
def plN : Nat → List Plc
  | 0 => []
  | k + 1 => plN k ++ [((k : Int) / 3, (k : Int) % 3)]
theorem plN_len : ∀ n, (plN n).length = n
  | 0 => rfl
  | n + 1 => by rw [plN, List.length_append, plN_len n]; rfl
theorem plN_get : ∀ {n k : Nat}, k < n → (plN n)[k]? = some ((k : Int) / 3, (k : Int) % 3)
  | 0, k, h => by omega
  | n + 1, k, h => by
    rw [plN]
    by_cases hk : k < n
    · rw [List.getElem?_append_left (by rw [plN_len]; exact hk)]; exact plN_get hk
    · obtain rfl : k = n := by omega
      rw [List.getElem?_append_right (by rw [plN_len]; omega), plN_len]; simp
theorem plN_dis (n : Nat) : disI (plN n) := by
  refine ⟨fun p hp => ?_, ?_⟩
  · obtain ⟨k, hk, e⟩ := List.mem_iff_getElem.1 hp
    have h := plN_get (n := n) (k := k) (by rw [plN_len] at hk; exact hk)
    rw [List.getElem?_eq_getElem hk, e] at h
    obtain rfl := Option.some.inj h
    exact ⟨by show (0 : Int) ≤ (k : Int) / 3; omega, by show (0 : Int) ≤ (k : Int) % 3; omega⟩
  · refine List.pairwise_iff_getElem.2 (fun i j hi hj hij => ?_)
    have h1 := plN_get (n := n) (k := i) (by rw [plN_len] at hi; exact hi)
    have h2 := plN_get (n := n) (k := j) (by rw [plN_len] at hj; exact hj)
    rw [List.getElem?_eq_getElem hi] at h1
    rw [List.getElem?_eq_getElem hj] at h2
    rw [Option.some.inj h1, Option.some.inj h2]
    intro e
    have e1 : (i : Int) / 3 = (j : Int) / 3 := congrArg Prod.fst e
    have e2 : (i : Int) % 3 = (j : Int) % 3 := congrArg Prod.snd e
    omega
/-- Members that may be, of a list. -/
def risN (l : List Int) (k : Nat) : List Int := ((List.range k).filter (fun i => decide (((i : Nat) : Int) ∈ l))).map fun (i : Nat) => (i : Int)
theorem risN_succ (l : List Int) (k : Nat) : risN l (k + 1) = if ((k : Nat) : Int) ∈ l then risN l k ++ [((k : Nat) : Int)] else risN l k := by
  unfold risN
  rw [List.range_succ, List.filter_append, List.filter_cons, List.filter_nil]
  by_cases h : ((k : Nat) : Int) ∈ l
  · rw [if_pos (by simpa using h), if_pos h, List.map_append]; rfl
  · rw [if_neg (by simpa using h), if_neg h, List.append_nil]
theorem risN_len (l : List Int) (k : Nat) : (risN l k).length ≤ k := by
  unfold risN
  rw [List.length_map]
  have := List.length_filter_le (fun i : Nat => decide (((i : Nat) : Int) ∈ l)) (List.range k)
  rwa [List.length_range] at this
theorem risN_ris (l : List Int) : risI (risN l 8) := by
  refine ⟨risN_len l 8, fun x hx => ?_, ?_⟩
  · unfold risN at hx
    obtain ⟨i, hi, rfl⟩ := List.mem_map.1 hx
    have := List.mem_range.1 (List.mem_filter.1 hi).1
    omega
  · unfold risN
    rw [List.pairwise_map]
    exact (List.Pairwise.filter _ List.pairwise_lt_range).imp (fun h => by omega)
theorem beg_pl (n : Nat) (hn : n ≤ 256) (l : List Int) : begE (plN n) (risN l 8) = 0 := asgE_of (by rw [plN_len]; exact hn) (Nat.zero_le _) (risN_ris l) (plN_dis n)

theorem infoPl17 : (Try.prog.info? 49).map (fun i => (i.zero, i.size, i.bytes)) = some (some (.agg #[.int .i64 0, .int .i64 0]), 2, 16) := by kernel_rfl
theorem row_appended {w wr w6 : World} {e : TypeId} {m : Nat} {ao : Option Addr} {k cc : Nat} {xs : List Value} {o : Obj} (hs : Still w wr) (h : wr.ownsRow w.heap.size e m (.slice ao k cc) k xs) (hg : (wr.alloc o).grownBy w6 (Value.slice ao k cc).ownBlock) : Still w w6 := by
  refine (hs.alloc o).past ((Turned.refl (fun i => (Value.slice ao k cc).ownBlock = some i) _).grown hg (fun i e => .inl e)) (fun i hi => ?_)
  cases ao with
  | none => cases hi
  | some x => have := (ow_lt h x rfl).1
              have e : x.block = i := by simpa [Value.ownBlock] using hi
              exact .inr (by omega)
set_option maxHeartbeats 2000000 in
theorem places_any (n : Nat) (w : World) (h : n ≤ 1000) : Calls Try.prog 11 #[.int .i64 (n : Int)] w (OutRow encPl 2 49 w (plN n) n) := by
  obtain ⟨pi, qi, pz0, pz1, pz2⟩ := info_parts infoPl17
  have HW := Lib.hid (World.ownsRow_made (e := 49) (size := 2) w #[] 0 (Nat.le_refl _) (by simp) (by simp))
  go_enter Try.func11, Try.ntmps11
  go_wp2_with fail
  go_loopw [3, 4] (fun ll ix wq => ∃ (i : Nat) (a2 : Option Addr) (c2 : Nat), i ≤ n ∧ ix = .int .i64 i ∧ ll = .slice a2 i c2 ∧ wq.ownsRow w.heap.size 49 2 (.slice a2 i c2) i (rowOf encPl (plN i)) ∧ Still w wq) (fun _ ix _ => n - (intOf ix).toNat)
  case atStart => exact ⟨0, _, 0, Nat.zero_le _, rfl, rfl, HW.out, (Turned.refl _ _).alloc _⟩
  case round =>
    obtain ⟨i, a2, c2, hi, rfl, rfl, hown, hst⟩ := hrel
    have HO := Lib.hid hown
    have HS := Lib.hid hst
    have hlo := hst.size
    by_cases hlt : i < n
    · have hii : (i : Int) < (n : Int) := by omega
      clear hown hst
      go_wp2_with (at_builtin; refine wpList_append_own_at _ rfl _ _ 23 rfl w.heap.size 49 pi (.agg #[.int .i64 0, .int .i64 0]) 2 16 Try.underlying23 qi pz0 pz1 pz2 rfl (by decide) (.slice a2 i c2) i (rowOf encPl (plN i)) rfl (ow_still HO.out ((Turned.refl _ _).alloc _)) ⟨wr.heap.size, 0, none⟩ 1 1 [.int .i64 ((i : Int) / 3), .int .i64 ((i : Int) % 3)] rfl rfl (ow_cells wr _ _) (ow_ints rfl) (by unfold maxLen; omega) (by omega) (by simp; omega) ?_; intro v6 w6 hown6 hg6 _ hat6; obtain ⟨a6, c6, rfl⟩ := ow_slice hown6; have HS6 := Lib.hid (row_appended HS.out HO.out hg6); have HO6 := Lib.hid hown6; clear hown6 hg6 hat6)
      go_roundw
      case rel => exact ⟨i + 1, a6, c6, by omega, by go_num, rfl, by rw [plN, rowOf_append, rowOf_cons, rowOf_nil, List.append_nil]; exact HO6.out, HS6.out⟩
      case measure => simp [intOf]; omega
    · obtain rfl : i = n := by omega
      clear hown hst hlt
      go_wp2_with fail
      go_ret
      exact ⟨a2, c2, rfl, HO.out, HS.out⟩
set_option maxHeartbeats 2000000 in
theorem rising_any (w : World) (ao : Option Addr) (l : List Int) (n cap d0 : Nat) (hn : n = l.length) (hmax : n ≤ 9223372036854775807) (hA : NumsAt w ao l) (hd0 : d0 = (risN l 8).length) :
    Calls Try.prog 21 #[.slice ao n cap] w (OutNums w (risN l 8) d0) := by
  obtain ⟨i0, hi, hz0, hz1, hz2⟩ := info_parts infoIntW
  have HW := Lib.hid (World.ownsRow_made (e := 3) (size := 1) w #[] 0 (Nat.le_refl _) (by simp) (by simp))
  have HH := Lib.hid (fun V (hs : Still w V) (x : Int) => hasI_any V ao l n cap x hn hmax (hA.still hs))
  have HN := Lib.hid hd0
  clear hn hmax hA hd0
  go_enter Try.func21, Try.ntmps21
  go_wp2_with fail
  go_loopw [3, 4] (fun o i wr => ∃ (k d : Nat) (ao : Option Addr) (cc : Nat), k ≤ 8 ∧ d = (risN l k).length ∧ i = .int .i64 k ∧ o = .slice ao d cc ∧ wr.ownsRow w.heap.size 3 1 (.slice ao d cc) d (ints (risN l k)) ∧ Still w wr) (fun _ i _ => 8 - (intOf i).toNat)
  case atStart => exact ⟨0, 0, _, 0, Nat.zero_le _, rfl, rfl, rfl, HW.out, (Turned.refl _ _).alloc _⟩
  case round =>
    obtain ⟨k, d, ao', cc, hk, hd, rfl, rfl, hown, hst⟩ := hrel
    have hd16 : d ≤ 8 := by rw [hd]; have := risN_len l k; omega
    have HD := Lib.hid hd
    have HO := Lib.hid hown
    have HS := Lib.hid hst
    have hlo := hst.size
    by_cases hlt : k < 8
    · have hki : (k : Int) < 8 := by omega
      have hsn := risN_succ l k
      have HHk := Lib.hid (HH.out wr hst (k : Int))
      clear hown hst hd
      by_cases ha : ((k : Nat) : Int) ∈ l
      · have HSn := Lib.hid (show risN l (k + 1) = risN l k ++ [((k : Nat) : Int)] from by rw [hsn, if_pos ha])
        rw [decide_eq_true ha] at HHk
        clear hsn ha
        go_wp2_with (first
          | (go_at_call 24; ((with_reducible refine HHk.out.mono ?_)); rintro e w5 ⟨rfl, rfl⟩)
          | (at_builtin; refine wpList_append_own_at _ rfl _ _ 28 rfl w.heap.size 3 i0 (.int .i64 0) 1 8 Try.underlying28 hi hz0 hz1 hz2 rfl (by decide) (.slice ao' d cc) d (ints (risN l k)) rfl (ow_still HO.out ((Turned.refl _ _).alloc _)) ⟨wr.heap.size, 0, none⟩ 1 1 [.int .i64 (k : Int)] rfl rfl (ow_cells wr _ _) (ow_ints rfl) (by unfold maxLen; omega) (by omega) (by first | (simp; done) | (simp; omega)) ?_; intro v6 w6 hown6 hg6 _ hat6; obtain ⟨a6, c6, rfl⟩ := ow_slice hown6; have HS6 := Lib.hid (ow_appended (xs := ints (risN l k)) (ys := []) (v6 := undef) HS.out HO.out hg6); have HO6 := Lib.hid hown6; clear hown6 hg6 hat6))
        go_roundw
        case rel => exact ⟨k + 1, d + 1, a6, c6, by omega, by rw [HSn.out, List.length_append, ← HD.out]; rfl, by go_num, rfl, by rw [HSn.out]; have := HO6.out; simpa [ints] using this, HS6.out⟩
        case measure => simp [intOf]; omega
      · have HSn := Lib.hid (show risN l (k + 1) = risN l k from by rw [hsn, if_neg ha])
        rw [decide_eq_false ha] at HHk
        clear hsn ha
        go_wp2_with (go_at_call 24; ((with_reducible refine HHk.out.mono ?_)); rintro e w5 ⟨rfl, rfl⟩)
        go_roundw
        case rel => exact ⟨k + 1, d, ao', cc, by omega, by rw [HSn.out]; exact HD.out, by go_num, rfl, by rw [HSn.out]; exact HO.out, HS.out⟩
        case measure => simp [intOf]; omega
    · obtain rfl : k = 8 := by omega
      obtain rfl : d = d0 := by rw [HD.out, HN.out]
      clear hown hst hd
      go_wp2_with fail
      go_ret
      exact ⟨ao', cc, rfl, HO.out, HS.out⟩
end Go.Proofs.Ytplnbphbccflfaa
