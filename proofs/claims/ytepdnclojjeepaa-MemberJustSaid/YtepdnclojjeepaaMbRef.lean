/- The document's list of members, as it lies in memory; what its calls answer. No condition but that it is one. -/
import Derived.Test.YtepdnclojjeepaaMbModel
import Derived.Test.YtepdnclojjeepaaOutNums
import Derived.Test.YtepdnclojjeepaaSitRow
import Derived.Test.YtepdnclojjeepaaRead
import Derived.Deep.RegionHeld3
import Derived.Deep.DeepCutAuto
import Derived.Deep.CutBlock
import Derived.Deep.RegionLaw
import Derived.Maps.AppendAt
import Derived.BigQuiet
import Derived.BigRegion
namespace Go.Proofs.Ytepdnclojjeepaa
open Go.RowKit
set_option linter.unusedVariables false
set_option linter.unusedSimpArgs false
set_option maxRecDepth 100000

def sVm (M : MbM) : List Value := (M.S.map fun n => .int .i64 ((n : Nat) : Int)) ++ [.int .i64 ((M.T : Nat) : Int)]
/-- The document's list. -/
def zMbT (q : Nat) (M : MbM) : Thing := blkT q (sVm M) 40
/-- The first members' numbers. -/
def membN (M : MbM) (n : Nat) : List Nat := (List.range n).filter (fun i => decide (0 < M.at i))
theorem membN_all (M : MbM) : membN M 16 = M.memb := rfl
theorem membN_succ (M : MbM) (n : Nat) : membN M (n + 1) = if 0 < M.at n then membN M n ++ [n] else membN M n := by
  unfold membN
  rw [List.range_succ, List.filter_append, List.filter_cons, List.filter_nil]
  by_cases h : 0 < M.at n
  · rw [if_pos h, if_pos (by simpa using h)]
  · rw [if_neg h, if_neg (by simpa using h), List.append_nil]
theorem membN_len (M : MbM) (n : Nat) : (membN M n).length ≤ n := by
  have := List.length_filter_le (fun i => decide (0 < M.at i)) (List.range n)
  rw [List.length_range] at this
  exact this
theorem below_membN (M : MbM) (n : Nat) : M.below n = (membN M n).length := rfl
def intsN (l : List Nat) : List Int := l.map fun (n : Nat) => (n : Int)
theorem intsN_len (l : List Nat) : (intsN l).length = l.length := by simp [intsN]

/-- A new list. -/
def MNew (MT : Nat → MbM → Thing) (w : World) (M : MbM) (q : Nat) (w' : World) : Prop := ∃ W, (MT q M).at_ w' W ∧ Still w w' ∧ ∀ k, W k → w.heap.size ≤ k

section
variable {q K : Nat} {M : MbM} {w w' : World} {W : Nat → Prop}
theorem sVm_get (hM : M.Ok K) {i : Nat} (hi : i < 16) : (sVm M)[i]? = some (.int .i64 ((M.at i : Nat) : Int)) := by
  unfold sVm MbM.at
  rw [List.getElem?_append_left (by rw [List.length_map, hM.len]; exact hi), List.getElem?_map]
  obtain ⟨s, hs⟩ := get_some (l := M.S) (i := i) (by rw [hM.len]; exact hi)
  rw [hs]; rfl
theorem sVm_time (hM : M.Ok K) : (sVm M)[16]? = some (.int .i64 ((M.T : Nat) : Int)) := by
  unfold sVm
  rw [List.getElem?_append_right (by rw [List.length_map, hM.len]; omega), List.length_map, hM.len]; rfl
theorem sVm_put (hM : M.Ok K) (k v : Nat) (hk : k < 16) : ((sVm M).set 16 (.int .i64 ((M.T + 1 : Nat) : Int))).set k (.int .i64 ((v : Nat) : Int)) = sVm (M.put (k : Int) v) := by
  unfold sVm MbM.put
  dsimp only
  rw [List.set_append_right _ _ (by rw [List.length_map, hM.len]; omega), List.length_map, hM.len]
  rw [List.set_append_left _ _ (by rw [List.length_map, hM.len]; exact hk), Int.toNat_natCast, ← List.map_set]
  rfl
structure ZmRd (q : Nat) (M : MbM) (w : World) : Prop where
  cell : ∀ i, i < 16 → w.cell? ⟨q, i, none⟩ = some (.int .i64 ((M.at i : Nat) : Int))
  time : w.cell? ⟨q, 16, none⟩ = some (.int .i64 ((M.T : Nat) : Int))
theorem zMbT_rd (hM : M.Ok K) (h : (zMbT q M).at_ w W) : ZmRd q M w := ⟨fun i hi => h.1.cell (sVm_get hM hi), h.1.cell (sVm_time hM)⟩
theorem ZmRd.still (h : ZmRd q M w) (hs : Still w w') : ZmRd q M w' := ⟨fun i hi => still_cell hs (h.cell i hi) rfl, still_cell hs h.time rfl⟩

theorem zmbses_no (id : Int) (w : World) (h : ¬ (0 ≤ id ∧ id < 16)) : Calls Try.prog 33 #[.int .i64 id] w fun e w' => e = .returned (.bool false) ∧ w = w' := by
  by_cases h0 : 0 ≤ id
  · have h1 : ¬ id < 16 := fun h1 => h ⟨h0, h1⟩
    clear h
    go_enter Try.func33, Try.ntmps33
    go_wp2_with fail
    go_ret
    exact ⟨rfl, rfl⟩
  · clear h
    go_enter Try.func33, Try.ntmps33
    go_wp2_with fail
    go_ret
    exact ⟨rfl, rfl⟩
theorem zmbses_yes (k : Nat) (w : World) (h : k < 16) : Calls Try.prog 33 #[.int .i64 (k : Int)] w fun e w' => e = .returned (.bool true) ∧ w = w' := by
  have hk : (k : Int) < 16 := by omega
  clear h
  go_enter Try.func33, Try.ntmps33
  go_wp2_with fail
  go_ret
  exact ⟨rfl, rfl⟩
theorem zmbmake_any (w : World) : Calls Try.prog 9 #[] w fun e w' => ∃ q, e = .returned (.pointer (some ⟨q, 0, none⟩)) ∧ MNew zMbT w MbM.new q w' := by
  have HN := Lib.hid (show MNew zMbT w MbM.new w.heap.size (w.alloc (.cells (sVm MbM.new).toArray 40)) from ⟨(· = w.heap.size), ⟨Blk.new w _ _, fun _ => Iff.rfl⟩, (Turned.refl _ _).alloc _, fun k hk => by omega⟩)
  go_enter Try.func9, Try.ntmps9
  go_wp2_with fail
  go_ret
  exact ⟨_, rfl, HN.out⟩
theorem findE_no {id : Int} (h : ¬ (0 ≤ id ∧ id < 16)) : M.findE id = 2 := by unfold MbM.findE; rw [if_neg h]
theorem findE_nat {k : Nat} (h : k < 16) : M.findE (k : Int) = if M.at k = 0 then 150 else 0 := by unfold MbM.findE; rw [if_pos (by omega), Int.toNat_natCast]
theorem zmbfind_any (h : ZmRd q M w) (id : Int) : Calls Try.prog 35 #[.pointer (some ⟨q, 0, none⟩), .int .i64 id] w fun e w' => e = .returned (.int .i64 (M.findE id)) ∧ w = w' := by
  by_cases hs : 0 ≤ id ∧ id < 16
  · obtain ⟨k, rfl⟩ : ∃ k : Nat, id = k := ⟨id.toNat, by omega⟩
    have hk : k < 16 := by omega
    have HS := Lib.hid (zmbses_yes k w hk)
    have c0 := h.cell k hk
    rw [findE_nat hk]
    have hki : (k : Int) < 16 := by omega
    generalize M.at k = a at *
    clear h hs
    by_cases ha : a = 0
    · subst ha
      go_enter Try.func35, Try.ntmps35
      go_wp2_with (go_at_call 33; ((with_reducible refine HS.out.mono ?_)); rintro e w1 ⟨rfl, rfl⟩)
      go_ret
      exact ⟨by first | rfl | simp, rfl⟩
    · have hai : ((a : Nat) : Int) ≠ 0 := by omega
      rw [if_neg ha]
      go_enter Try.func35, Try.ntmps35
      go_wp2_with (go_at_call 33; ((with_reducible refine HS.out.mono ?_)); rintro e w1 ⟨rfl, rfl⟩)
      go_ret
      exact ⟨by first | rfl | simp, rfl⟩
  · have HS := Lib.hid (zmbses_no id w hs)
    rw [findE_no hs]
    clear h hs
    go_enter Try.func35, Try.ntmps35
    go_wp2_with (go_at_call 33; ((with_reducible refine HS.out.mono ?_)); rintro e w1 ⟨rfl, rfl⟩)
    go_ret
    exact ⟨rfl, rfl⟩
theorem zmbhas_any (h : ZmRd q M w) (id : Int) : Calls Try.prog 21 #[.pointer (some ⟨q, 0, none⟩), .int .i64 id] w fun e w' => e = .returned (.bool (decide (M.findE id = 0))) ∧ w = w' := by
  have HF := Lib.hid (zmbfind_any h id)
  clear h
  generalize M.findE id = r at *
  go_enter Try.func21, Try.ntmps21
  go_wp2_with (go_at_call 35; ((with_reducible refine HF.out.mono ?_)); rintro e w1 ⟨rfl, rfl⟩)
  go_ret
  exact ⟨by first | rfl | simp | (congr 2; rw [Bool.eq_iff_iff]; simp), rfl⟩
theorem zmbsince_any (h : ZmRd q M w) (id : Int) : Calls Try.prog 15 #[.pointer (some ⟨q, 0, none⟩), .int .i64 id] w fun e w' => e = .returned (.tuple #[.int .i64 ((M.sinceV id : Nat) : Int), .int .i64 (M.findE id)]) ∧ w = w' := by
  have HF := Lib.hid (zmbfind_any h id)
  unfold MbM.sinceV
  by_cases he : M.findE id = 0
  · obtain ⟨hs, _⟩ := findE_ok he
    obtain ⟨k, rfl⟩ : ∃ k : Nat, id = k := ⟨id.toNat, by omega⟩
    have hk : k < 16 := by omega
    have c0 := h.cell k hk
    rw [if_pos he, Int.toNat_natCast]
    rw [he] at HF ⊢
    have hki : (k : Int) < 16 := by omega
    generalize M.at k = a at *
    clear h hs he
    go_enter Try.func15, Try.ntmps15
    go_wp2_with (go_at_call 35; ((with_reducible refine HF.out.mono ?_)); rintro e w1 ⟨rfl, rfl⟩)
    go_ret2
    exact ⟨rfl, rfl⟩
  · rw [if_neg he]
    generalize M.findE id = r at *
    have hr : (r != 0) = true := by simpa using he
    clear h
    go_enter Try.func15, Try.ntmps15
    go_wp2_with (go_at_call 35; ((with_reducible refine HF.out.mono ?_)); rintro e w1 ⟨rfl, rfl⟩)
    go_ret2
    exact ⟨rfl, rfl⟩

set_option maxHeartbeats 1000000 in
theorem zmball_any (h : ZmRd q M w) (n : Nat) (hn : n = M.memb.length) : Calls Try.prog 24 #[.pointer (some ⟨q, 0, none⟩)] w (OutNums w (intsN M.memb) n) := by
  have HRd := Lib.hid (fun V (hs : Still w V) => h.still hs)
  have HN := Lib.hid hn
  obtain ⟨i0, hi, hz0, hz1, hz2⟩ := info_parts infoIntW
  have HW := Lib.hid (World.ownsRow_made (e := 3) (size := 1) w #[] 0 (Nat.le_refl _) (by simp) (by simp))
  clear hn h
  go_enter Try.func24, Try.ntmps24
  go_wp2_with fail
  go_loopw [3, 4] (fun o i wr => ∃ (k d : Nat) (ao : Option Addr) (cc : Nat), k ≤ 16 ∧ d = (membN M k).length ∧ i = .int .i64 k ∧ o = .slice ao d cc ∧ wr.ownsRow w.heap.size 3 1 (.slice ao d cc) d (ints (intsN (membN M k))) ∧ Still w wr) (fun _ i _ => 16 - (intOf i).toNat)
  case atStart => exact ⟨0, 0, _, 0, Nat.zero_le _, rfl, rfl, rfl, HW.out, (Turned.refl _ _).alloc _⟩
  case round =>
    obtain ⟨k, d, ao, cc, hk, hd, rfl, rfl, hown, hst⟩ := hrel
    have hd16 : d ≤ 16 := by rw [hd]; have := membN_len M k; omega
    have HD := Lib.hid hd
    have HO := Lib.hid hown
    have HS := Lib.hid hst
    have hlo := hst.size
    have hrd := HRd.out wr hst
    by_cases hlt : k < 16
    · have c0 := hrd.cell k hlt
      have hki : (k : Int) < 16 := by omega
      have hsn := membN_succ M k
      generalize M.at k = a at *
      clear hrd hown hst hd
      by_cases ha : 0 < a
      · have HSn := Lib.hid (show membN M (k + 1) = membN M k ++ [k] from by rw [hsn, if_pos ha])
        have hai : (0 : Int) < ((a : Nat) : Int) := by omega
        clear hsn
        go_wp2_with (at_builtin; refine wpList_append_own_at _ rfl _ _ 35 rfl w.heap.size 3 i0 (.int .i64 0) 1 8 Try.underlying35 hi hz0 hz1 hz2 rfl (by decide) (.slice ao d cc) d (ints (intsN (membN M k))) rfl (ow_still HO.out ((Turned.refl _ _).alloc _)) ⟨wr.heap.size, 0, none⟩ 1 1 [.int .i64 (k : Int)] rfl rfl (ow_cells wr _ _) (ow_ints rfl) (by unfold maxLen; omega) (by omega) (by first | (simp; done) | (simp; omega)) ?_; intro v6 w6 hown6 hg6 _ hat6; obtain ⟨a6, c6, rfl⟩ := ow_slice hown6; have HS6 := Lib.hid (ow_appended (xs := ints (intsN (membN M k))) (ys := []) (v6 := undef) HS.out HO.out hg6); have HO6 := Lib.hid hown6; clear hown6 hg6 hat6)
        go_roundw
        case rel => exact ⟨k + 1, d + 1, a6, c6, by omega, by rw [HSn.out, List.length_append, ← HD.out]; rfl, by go_num, rfl, by rw [HSn.out]; have := HO6.out; simpa [ints, intsN] using this, HS6.out⟩
        case measure => simp [intOf]; omega
      · have HSn := Lib.hid (show membN M (k + 1) = membN M k from by rw [hsn, if_neg ha])
        have hai : ¬ (0 : Int) < ((a : Nat) : Int) := by omega
        clear hsn
        go_wp2_with fail
        go_roundw
        case rel => exact ⟨k + 1, d, ao, cc, by omega, by rw [HSn.out]; exact HD.out, by go_num, rfl, by rw [HSn.out]; exact HO.out, HS.out⟩
        case measure => simp [intOf]; omega
    · obtain rfl : k = 16 := by omega
      obtain rfl : d = n := by rw [HD.out, HN.out]; rfl
      clear hown hst hrd hd
      go_wp2_with fail
      go_ret
      exact ⟨ao, cc, rfl, HO.out, HS.out⟩

set_option maxHeartbeats 1000000 in
theorem zmbrank_any (h : ZmRd q M w) (id : Int) : Calls Try.prog 17 #[.pointer (some ⟨q, 0, none⟩), .int .i64 id] w fun e w' => e = .returned (.tuple #[.int .i64 ((M.rankV id : Nat) : Int), .int .i64 (M.findE id)]) ∧ w = w' := by
  have HF := Lib.hid (zmbfind_any h id)
  unfold MbM.rankV
  by_cases he : M.findE id = 0
  · obtain ⟨hs, _⟩ := findE_ok he
    obtain ⟨m, rfl⟩ : ∃ m : Nat, id = m := ⟨id.toNat, by omega⟩
    have hm : m < 16 := by omega
    rw [if_pos he, Int.toNat_natCast]
    rw [he] at HF ⊢
    have HRd := Lib.hid h
    clear h hs he
    go_enter Try.func17, Try.ntmps17
    go_wp2_with (go_at_call 35; ((with_reducible refine HF.out.mono ?_)); rintro e w1 ⟨rfl, rfl⟩)
    go_loopw [7, 8] (fun c i wr => ∃ k : Nat, k ≤ m ∧ i = .int .i64 k ∧ c = .int .i64 ((M.below k : Nat) : Int) ∧ w = wr) (fun _ i _ => m - (intOf i).toNat)
    case atStart => exact ⟨0, Nat.zero_le _, rfl, rfl, rfl⟩
    case round =>
      obtain ⟨k, hk, rfl, rfl, hw⟩ := hrel
      subst hw
      by_cases hlt : k < m
      · have c0 := HRd.out.cell k (by omega)
        have hki : (k : Int) < (m : Int) := by omega
        have hk16 : (k : Int) < 16 := by omega
        have hsn := membN_succ M k
        have hb16 : M.below k ≤ 16 := by rw [below_membN]; have := membN_len M k; omega
        have HB := Lib.hid (show M.below (k + 1) = if 0 < M.at k then M.below k + 1 else M.below k from by
          rw [below_membN, hsn, below_membN]
          split
          · rw [List.length_append]; rfl
          · rfl)
        generalize M.at k = a at *
        clear hsn
        obtain ⟨b0, hb0⟩ : ∃ b0, b0 = M.below k := ⟨_, rfl⟩
        rw [← hb0] at HB hb16 ⊢
        clear hb0
        by_cases ha : 0 < a
        · have hai : (0 : Int) < ((a : Nat) : Int) := by omega
          have HB1 := Lib.hid (show M.below (k + 1) = b0 + 1 from by rw [HB.out, if_pos ha])
          go_wp2_with fail
          go_roundw
          case rel => exact ⟨k + 1, by omega, by go_num, by rw [HB1.out]; go_num, by first | rfl | trivial⟩
          case measure => simp [intOf]; omega
        · have hai : ¬ (0 : Int) < ((a : Nat) : Int) := by omega
          have HB1 := Lib.hid (show M.below (k + 1) = b0 from by rw [HB.out, if_neg ha])
          go_wp2_with fail
          go_roundw
          case rel => exact ⟨k + 1, by omega, by go_num, by rw [HB1.out], by first | rfl | trivial⟩
          case measure => simp [intOf]; omega
      · obtain rfl : k = m := by omega
        go_wp2_with fail
        go_ret2
        exact ⟨rfl, rfl⟩
  · rw [if_neg he]
    generalize M.findE id = r at *
    have hr : (r != 0) = true := by simpa using he
    clear h
    go_enter Try.func17, Try.ntmps17
    go_wp2_with (go_at_call 35; ((with_reducible refine HF.out.mono ?_)); rintro e w1 ⟨rfl, rfl⟩)
    go_ret2
    exact ⟨rfl, rfl⟩
end
end Go.Proofs.Ytepdnclojjeepaa
