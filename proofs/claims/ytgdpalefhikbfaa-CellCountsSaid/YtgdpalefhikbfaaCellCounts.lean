/- Many additions come to their sum, gone round within 64 bits, whatever their order: the walk of the statement CellCounts. No condition. -/
import Derived.Test.YtgdpalefhikbfaaWorks01
import Derived.Test.YtgdpalefhikbfaaReadInts
import Derived.Deep.DeepCutAuto
namespace Go.Proofs.Ytgdpalefhikbfaa
open Go.RowKit
set_option linter.unusedVariables false

theorem wrap_step (s x : Int) : wrap64 (wrap64 s + x) = wrap64 (s + x) := by unfold wrap64; omega
theorem u64_step (s x : Int) : IntKind.u64.wrap (IntKind.u64.wrap s + IntKind.u64.wrap x) = IntKind.u64.wrap (s + x) := by
  simp [IntKind.wrap, IntKind.signed, IntKind.bits]
theorem u64_idem (x : Int) : IntKind.u64.wrap (IntKind.u64.wrap x) = IntKind.u64.wrap x := by simp [IntKind.wrap, IntKind.signed, IntKind.bits]
theorem u64_zero : IntKind.u64.wrap 0 = 0 := by kernel_rfl
theorem u64_wrap64 (s : Int) : IntKind.u64.wrap (wrap64 s) = IntKind.u64.wrap s := by
  unfold wrap64; simp [IntKind.wrap, IntKind.signed, IntKind.bits]
theorem sum_take_step {A : List Int} {k : Nat} {x : Int} (h : A[k]? = some x) : (A.take (k + 1)).sum = (A.take k).sum + x := by
  rw [take_step h]; simp

theorem rot_get {A : List Int} {t k : Nat} (ht : t < A.length) (hk : k < A.length) : (A.drop t ++ A.take t)[k]? = A[(k + t) % A.length]? := by
  by_cases h : k < A.length - t
  · rw [List.getElem?_append_left (by simpa using h), List.getElem?_drop, Nat.mod_eq_of_lt (by omega), Nat.add_comm]
  · rw [List.getElem?_append_right (by simp; omega), List.length_drop, List.getElem?_take, if_pos (by omega)]
    congr 1
    rw [show k + t = (k + t - A.length) + A.length from by omega, Nat.add_mod_right, Nat.mod_eq_of_lt (by omega)]
    omega
theorem rot_sum (A : List Int) (t : Nat) : (A.drop t ++ A.take t).sum = A.sum := by
  rw [List.sum_append, Int.add_comm, ← List.sum_append, List.take_append_drop]

def cntSt (A : List Int) (k : Nat) : Cel := ⟨wrap64 (A.take k).sum, -1, k⟩

theorem cntSt_zero (A : List Int) : cntSt A 0 = ⟨0, -1, 0⟩ := by simp [cntSt, wrap64]

set_option maxRecDepth 100000 in
theorem counts_any (a : Option Addr) (len cap : Nat) (turn : Int) (A : List Int) (hl : A.length = len) (hcap : len ≤ cap) (hmx : cap ≤ maxLen) (hN : a = none → len = 0 ∧ cap = 0) (w : World) (hA : NumsAt w a A) :
    Calls Try.prog 5 #[.slice a len cap, .int .i64 turn] w fun e w' => e = .returned (.bool true) ∧ Still w w' := by
  unfold maxLen at hmx
  have H := Lib.hid hA
  clear hA
  go_enter Try.func5, Try.ntmps5
  go_wp2_with fail
  refine (works1 _).mono ?_
  rintro e w1 ⟨rfl, hT1⟩
  go_wp2_with fail
  refine (make_ok 2 _ (by omega) (by omega)).mono ?_
  rintro e w2 ⟨mb, ab, rfl, hM, hmb, hab, hT2⟩
  have hS := Lib.hid (hT1.trans hT2)
  have HM := Lib.hid hM
  have hsz := hT1.size
  clear hT1 hT2 hM
  obtain ⟨n, hn0⟩ : ∃ n, n = min len 200 := ⟨_, rfl⟩
  have hn := Lib.hid hn0
  clear hn0
  go_upto_region 6 with fail
  go_cut [0] (fun s0 wx => s0 = .slice a n cap ∧ wx = w2)
  case first =>
    clear hN hl hmb hab hsz hmx
    go_wp2_with fail
    all_goals go_meet
    all_goals exact ⟨by congr 1; have := hn.out; omega, rfl⟩
  case rest =>
    obtain ⟨rfl, rfl⟩ := hcut
    have hn := hn.out
    obtain ⟨B, hB⟩ : ∃ B, B = A.take n := ⟨_, rfl⟩
    have hBl : n = B.length := by rw [hB, List.length_take]; omega
    have HB := Lib.hid (show NumsAt w a B from hB ▸ H.out.take n)
    have hn2 : n ≤ 200 := by omega
    have hnc : n ≤ cap := by omega
    have HN := Lib.hid (show a = none → n = 0 from fun h => by have := (hN h).1; omega)
    have HBL := Lib.hid hBl
    clear hn hB hBl hN hl hcap H
    go_wp2_with fail
    go_loopw [7, 8] (fun s i wr => ∃ k : Nat, k ≤ n ∧ i = .int .i64 k ∧ s = .int .u64 (IntKind.u64.wrap (B.take k).sum) ∧ Mem wr mb ab [cntSt B k, ⟨0, -1, 0⟩] ∧ Still w wr) (fun _ i _ => n - (intOf i).toNat)
    case atStart => exact ⟨0, Nat.zero_le _, rfl, by rw [List.take_zero, List.sum_nil, u64_zero], by rw [cntSt_zero]; exact HM.out, hS.out⟩
    case round =>
      obtain ⟨k, hk, rfl, rfl, hMr, hTr⟩ := hrel
      clear HM hS
      by_cases hlt : k < n
      · obtain ⟨x, hx⟩ := get_some (l := B) (i := k) (by rw [← HBL.out]; exact hlt)
        obtain ⟨b, o, rfl, hc0⟩ := HB.out k x hx
        have hc : wr.cell? ⟨b, o + k, none⟩ = some (.int .i64 x) := by rw [hTr.cell (cell_lt hc0) (fun h => h)]; exact hc0
        have hbl := cell_lt hc0
        have hA := Lib.hid (add_ok hMr (i := 0) (c := cntSt B k) rfl x)
        have hX := Lib.hid hx
        clear hx hMr
        go_wp2_with fail
        refine hA.out.mono ?_
        rintro e w3 ⟨rfl, hM3, hT3⟩
        have hT4 := hTr.pastOne hT3 (by omega)
        have hc3 : w3.cell? ⟨b, o + k, none⟩ = some (.int .i64 x) := by rw [hT4.cell hbl (fun h => h)]; exact hc0
        have HM3 := Lib.hid hM3
        have HT4 := Lib.hid hT4
        clear hc hM3 hT3 hT4 hTr hA hc0
        go_wp2_with fail
        go_roundw
        case rel =>
          refine ⟨k + 1, by omega, by go_num, ?_, ?_, HT4.out⟩
          · rw [sum_take_step hX.out]; first | rw [u64_idem, u64_step] | rw [u64_step]
          · have := HM3.out
            simp only [cntSt, List.set_cons_zero] at this ⊢
            rw [wrap_step, IntWalk.wrap64_in ((k : Int) + 1) (by omega), ← sum_take_step hX.out] at this
            exact this
        case measure => simp [intOf]; omega
      · obtain rfl : k = n := by omega
        have HMr := Lib.hid hMr
        have HTr := Lib.hid hTr
        have hrs := hTr.size
        clear hMr hTr
        go_wp2_with fail
        refine (make_ok 1 _ (by omega) (by omega)).mono ?_
        rintro e w4 ⟨mb2, ab2, rfl, hM4, hmb2, hab2, hT4⟩
        have hm1 := HMr.out.hd.lt
        have hm2 := HMr.out.row.lt
        have HM4 := Lib.hid hM4
        have HMa := Lib.hid (HMr.out.turned hT4 (fun h => h) (fun h => h))
        have HTa := Lib.hid (HTr.out.trans hT4)
        clear hM4 hT4 HMr HTr
        go_wp2_with fail
        go_loopw [11] (fun i wr => ∃ j : Nat, j ≤ k ∧ i = .int .i64 j ∧ (0 < k → Mem wr mb2 ab2 [cntSt (B.drop (am turn k) ++ B.take (am turn k)) j]) ∧ (k = 0 → Mem wr mb2 ab2 [cntSt [] 0]) ∧ Mem wr mb ab [cntSt B k, ⟨0, -1, 0⟩] ∧ Still w wr) (fun i _ => k - (intOf i).toNat)
        case atStart => exact ⟨0, Nat.zero_le _, rfl, fun _ => by rw [cntSt_zero]; exact HM4.out, fun _ => by rw [cntSt_zero]; exact HM4.out, HMa.out, HTa.out⟩
        case round =>
          obtain ⟨j, hj, rfl, hMj, hM0, hMr, hTr⟩ := hrel
          clear HM4 HMa HTa
          by_cases hlt : j < k
          · obtain ⟨t, ht⟩ : ∃ t, t = am turn k := ⟨_, rfl⟩
            have htk : t < k := ht ▸ am_lt turn (by omega)
            have hMj := hMj (by omega)
            clear hM0
            rw [← ht] at hMj
            obtain ⟨x, hx⟩ := get_some (l := B) (i := (j + t) % k) (by rw [← HBL.out]; exact Nat.mod_lt _ (by omega))
            obtain ⟨b, o, rfl, hc0⟩ := HB.out _ x hx
            have hc : wr.cell? ⟨b, o + (j + t) % k, none⟩ = some (.int .i64 x) := by rw [hTr.cell (cell_lt hc0) (fun h => h)]; exact hc0
            have hG := Lib.hid (among_any turn k (by omega) (by omega) wr)
            rw [← ht] at hG
            have hA := Lib.hid (add_ok hMj (i := 0) (c := cntSt (B.drop t ++ B.take t) j) rfl x)
            have hml := Nat.mod_lt (j + t) (show 0 < k by omega)
            have hX := Lib.hid (show (B.drop t ++ B.take t)[j]? = some x by rw [rot_get (by rw [← HBL.out]; exact htk) (by rw [← HBL.out]; exact hlt), ← HBL.out]; exact hx)
            have HTQ := Lib.hid ht
            have HMr := Lib.hid hMr
            have hlm := hMj.row.lt
            have hlmr := hMr.row.lt
            have hlmh := hMr.hd.lt
            have hcast : ((j : Int) + (t : Int)) % (k : Int) = (((j + t) % k : Nat) : Int) := by rw [Int.natCast_emod, Int.natCast_add]
            have hi0 : 0 ≤ ((j : Int) + (t : Int)) % (k : Int) := by rw [hcast]; exact Int.natCast_nonneg _
            have hi1 : ((j : Int) + (t : Int)) % (k : Int) < (k : Int) := by rw [hcast]; exact Int.ofNat_lt.2 hml
            have hit : (((j : Int) + (t : Int)) % (k : Int)).toNat = (j + t) % k := by rw [hcast, Int.toNat_natCast]
            clear hcast
            clear hx hMj ht hMr hc0
            go_wp2_with fail
            refine hG.out.mono ?_
            rintro e w5 ⟨rfl, rfl⟩
            go_wp2_with fail
            refine hA.out.mono ?_
            rintro e w3 ⟨rfl, hM3, hT3⟩
            have HM3 := Lib.hid hM3
            have HMr3 := Lib.hid (HMr.out.turned hT3 (by omega) (by omega))
            have HT4 := Lib.hid (hTr.pastOne hT3 (by omega))
            clear hM3 hT3 hTr hA HMr hi0 hi1 hit
            go_wp2_with fail
            go_roundw
            case rel =>
              refine ⟨j + 1, by omega, by go_num, fun _ => ?_, fun h => by omega, HMr3.out, HT4.out⟩
              rw [← HTQ.out]
              have := HM3.out
              simp only [cntSt, List.set_cons_zero] at this ⊢
              rw [wrap_step, IntWalk.wrap64_in ((j : Int) + 1) (by omega), ← sum_take_step hX.out] at this
              exact this
            case measure => simp [intOf]; omega
          · obtain rfl : j = k := by omega
            have hsame : ∃ c : Cel, c.n = wrap64 (B.take j).sum ∧ Mem wr mb2 ab2 [c] := by
              by_cases h0 : 0 < j
              · refine ⟨_, ?_, hMj h0⟩
                have ht := am_lt turn h0
                have hbl := HBL.out
                show wrap64 _ = _
                rw [List.take_of_length_le (by simp; omega), rot_sum, List.take_of_length_le (by omega)]
              · obtain rfl : j = 0 := by omega
                exact ⟨_, by simp [cntSt], hM0 rfl⟩
            obtain ⟨c, hcn, hMc⟩ := hsame
            have HL1 := Lib.hid (load_ok hMr (i := 0) (c := ⟨wrap64 (B.take j).sum, -1, j⟩) rfl)
            have HL2 := Lib.hid (load_ok hMc (i := 0) (c := c) rfl)
            have HL3 := Lib.hid (writes_ok hMr (i := 0) (c := ⟨wrap64 (B.take j).sum, -1, j⟩) rfl)
            rw [hcn] at HL2
            have HTr := Lib.hid hTr
            have hb1 : (IntKind.u64.wrap (wrap64 (B.take j).sum) == IntKind.u64.wrap (B.take j).sum) = true := by rw [u64_wrap64]; simp
            clear hMj hMr hTr hcn hMc hM0
            go_wp2_with fail
            refine HL1.out.mono ?_
            rintro e w6 ⟨rfl, rfl⟩
            go_wp2_with fail
            refine HL2.out.mono ?_
            rintro e w6 ⟨rfl, rfl⟩
            go_wp2_with fail
            refine HL3.out.mono ?_
            rintro e w6 ⟨rfl, rfl⟩
            go_wp2_with fail
            go_ret
            exact ⟨rfl, HTr.out⟩

theorem walk_CellCounts (s : Sl Int) (turn : Int) (w : World) (hs : SlOk encI (okI .i64) 1 w s) (_ : (Lit.int .i64 turn).wf = true) :
    Calls Try.prog 5 #[.slice s.a s.len s.cap, .int .i64 turn] w fun e w' => e = .returned (.bool true) ∧ Still w w' :=
  counts_any s.a s.len s.cap turn s.xs hs.len hs.le hs.max hs.none w (nums_row hs.row)
end Go.Proofs.Ytgdpalefhikbfaa
