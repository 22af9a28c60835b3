/- Sessions that read, add and store under a lock lose nothing, whatever the picks ahead, and no lock is had in the end: the walk of the statement SchedLocks. No condition. -/
import Derived.Test.YtkeacdhjkhojhaaSchedSwaps
import Derived.Test.YtkeacdhjkhojhaaLocker
namespace Go.Proofs.Ytkeacdhjkhojhaa
open Go.RowKit
set_option linter.unusedVariables false
set_option linter.unusedSimpArgs false
set_option maxRecDepth 100000

theorem lock_right (l : List Int) (N : Int) : (lockFrom l).all (fun y => rightB y 2 N) = true := by
  induction l with
  | nil => rfl
  | cons x l ih =>
    rw [lockFrom_cons, List.all_append, ih]
    simp [lockSeg, rightB, inB, regB]

theorem lk_fault {ls : List (List Int)} (h10 : ∀ l ∈ ls, l.length ≤ 10) : faultFrom 2 0 (lkPrograms ls) = none := by
  refine fault_none_of (fun p hp => ?_)
  simp only [lkPrograms, List.mem_map] at hp
  obtain ⟨l, hm, rfl⟩ := hp
  have hl := h10 l hm
  exact ⟨by rw [lockFrom_len]; omega, lock_right l _⟩

theorem lkPrograms_snoc (ls : List (List Int)) (l : List Int) : lkPrograms (ls ++ [l]) = lkPrograms ls ++ [lockFrom l] := by simp [lkPrograms]

set_option maxHeartbeats 8000000 in
theorem walk_SchedLocks (s : Sl (Sl Int)) (t : Sl Int) (w : World) (hs : SlOk encSl (SlOk encI (okI .i64) 1) 1 w s) (ht : SlOk encI (okI .i64) 1 w t) :
    Calls Try.prog 8 #[.slice s.a s.len s.cap, .slice t.a t.len t.cap] w fun e w' => e = .returned (.bool true) ∧ Still w w' := by
  obtain ⟨sa, sl, sc, sx⟩ := s
  obtain ⟨ta, tl, tc, tx⟩ := t
  have HS := Lib.hid hs
  have HTX := Lib.hid ht
  have HSL := Lib.hid hs.len
  have hscap : sl ≤ sc := hs.le
  have htcap : tl ≤ tc := ht.le
  have htmax : tc ≤ maxLen := ht.max
  unfold maxLen at htmax
  obtain ⟨i0, hi, hz0, hz1, hz2⟩ := info_parts infoInstrs
  clear hs ht
  dsimp only at HSL ⊢
  go_enter Try.func8, Try.ntmps8
  go_wp2_with fail
  refine (works2 _).mono ?_
  rintro e w1 ⟨rfl, hT1⟩
  have hsz1 := hT1.size
  have HP0 := Lib.hid (show PsOwn w.heap.size (w1.alloc (.cells #[] 49)) (some ⟨w1.heap.size, 0, none⟩) 0 [] from ⟨World.ownsRow_made w1 #[] 0 hsz1 (by simp) (by simp), fun x hx => by cases hx⟩)
  have HT0 := Lib.hid (hT1.alloc (.cells #[] 49))
  clear hT1
  go_wp2_with fail
  go_loopw [5, 6, 7] (fun p su i wr => ∃ (k : Nat) (pss : List (Sl Ins)) (ao : Option Addr) (cc : Nat), k ≤ sl ∧ k ≤ 8 ∧ i = .int .i64 k ∧ p = .slice ao k cc ∧ pss.length = k ∧ PsOwn w.heap.size wr ao cc pss ∧ pss.map (·.xs) = lkPrograms ((lists sx).take k) ∧ su = .int .u64 (IntKind.u64.wrap (sumK (lists sx) k)) ∧ Still w wr) (fun _ _ i _ => sl - (intOf i).toNat)
  case atStart => exact ⟨0, [], some ⟨w1.heap.size, 0, none⟩, 0, Nat.zero_le _, Nat.zero_le _, rfl, rfl, rfl, HP0.out, by simp [lkPrograms], by rw [show sumK (lists sx) 0 = 0 from rfl, u64_nought], HT0.out⟩
  case round =>
    clear HP0 HT0 hsz1
    obtain ⟨k, pss, ao, cc, hk, hk8, rfl, rfl, hpl, hPO, hpm, rfl, hT⟩ := hrel
    have HPO := Lib.hid hPO
    have HPM := Lib.hid hpm
    have HPL := Lib.hid hpl
    have HT := Lib.hid hT
    have hwr : w.heap.size ≤ wr.heap.size := hT.size
    clear hPO hpm hpl hT
    by_cases hlt : k < sl
    · by_cases h8 : k < 8
      · obtain ⟨x, hx⟩ := get_some (l := sx) (i := k) (by rw [HSL.out]; exact hlt)
        obtain ⟨b, o, rfl, hc⟩ := HS.out.row k x hx
        have hxo := HS.out.each x (List.mem_of_getElem? hx)
        have c00 : w.cell? ⟨b, o + k, none⟩ = some (.slice x.a x.len x.cap) := by simpa using hc 0 _ rfl
        have hbw : b < w.heap.size := cell_lt c00
        have c0 : wr.cell? ⟨b, o + k, none⟩ = some (.slice x.a x.len x.cap) := still_cell HT.out c00 rfl
        have hxm : x.cap ≤ maxLen := hxo.max
        unfold maxLen at hxm
        have hxle : x.len ≤ x.cap := hxo.le
        have HXO := Lib.hid hxo
        have HX := Lib.hid hx
        have HSw := Lib.hid (locker_any x.a x.len x.cap x.xs hxo.len (by omega) wr (nums_row (hxo.row.stays HT.out)))
        clear hx hc hxo
        obtain ⟨xa, xl, xc, xx⟩ := x
        dsimp only at c00 c0 hxm hxle HSw
        have HXL : Hid (xx.length = xl) := Lib.hid HXO.out.len
        go_wp2_with fail
        refine HSw.out.mono ?_
        rintro e w2 ⟨a2, c2, rfl, hown2, hT2⟩
        have HO2 := Lib.hid (own_base hown2 hwr)
        have hl60 : (lockFrom (xx.take 10)).length ≤ 60 := by rw [lockFrom_len, List.length_take]; omega
        have HP2 := Lib.hid (HPO.out.still hT2)
        have HT2 := Lib.hid (HT.out.trans hT2)
        have hw2 : w.heap.size ≤ w2.heap.size := HT2.out.size
        have hpe := Lib.hid (show (lockFrom (xx.take 10)).length = (lockFrom (xx.take 10)).length from rfl)
        obtain ⟨P, hP⟩ : ∃ P, P = lockFrom (xx.take 10) := ⟨_, rfl⟩
        rw [← hP] at HO2 hl60 ⊢
        have HPE := Lib.hid hP
        clear hown2 hT2 HSw HPO hP hpe
        go_wp2_with (at_builtin; refine wpList_append_own_at _ rfl (.tmp 28) (.tmp 34) 22 rfl w.heap.size 49 i0 (.slice none 0 0) 1 24 Try.underlying22 hi hz0 hz1 hz2 rfl (by decide) (.slice ao k cc) k (pss.map fun x => .slice x.a x.len x.cap) rfl (by have h := own_turned HP2.out.own ((Turned.refl (fun _ => False) w2).alloc (.cells #[.slice a2 P.length c2] 49)) (fun _ _ h => h); rw [HPL.out] at h; exact h) ⟨w2.heap.size, 0, none⟩ 1 1 [.slice a2 P.length c2] rfl rfl (new_cells w2 _ _) (by intro u hu; simp at hu; subst hu; rfl) (by unfold maxLen; omega) (by omega) (by simp; omega) ?_; intro v3 w3 hown3 hg3 _ _; obtain ⟨a3, c3, rfl⟩ := own_slice hown3; have hT3 := (HT2.out.alloc (.cells #[.slice a2 P.length c2] 49)).grown hg3 (fun q e => .inr (by have := HP2.out.own.lt q (by rw [HPL.out]; exact e); exact this.1)); have HO3 := Lib.hid hown3; have HG3 := Lib.hid hg3; have HT3 := Lib.hid hT3; have c03 : w3.cell? ⟨b, o + k, none⟩ = some (.slice xa xl xc) := still_cell hT3 c00 rfl; clear hown3 hg3 hT3)
        go_loopw [6, 8] (fun su i wr' => ∃ m : Nat, m ≤ xl ∧ m ≤ 10 ∧ i = .int .i64 m ∧ su = .int .u64 (IntKind.u64.wrap (sumK (lists sx) k + (xx.take m).sum)) ∧ wr' = w3) (fun _ i _ => xl - (intOf i).toNat)
        case atStart => exact ⟨0, Nat.zero_le _, Nat.zero_le _, rfl, by simp, rfl⟩
        case round =>
          obtain ⟨m, hm, hm10, rfl, rfl, hw⟩ := hrel
          replace hw := hw.symm
          subst hw
          by_cases hml : m < xl
          · by_cases hm1 : m < 10
            · obtain ⟨y, hy⟩ := get_some (l := xx) (i := m) (by rw [HXL.out]; exact hml)
              obtain ⟨b', o', rfl, hcy⟩ := nums_row (HXO.out.row) m y hy
              have cy : w3.cell? ⟨b', o' + m, none⟩ = some (.int .i64 y) := still_cell HT3.out hcy rfl
              have HY := Lib.hid (sum_take_get hy)
              clear hy hcy
              go_wp2_with fail
              go_roundw
              case rel => exact ⟨m + 1, by omega, by omega, by go_num, by rw [HY.out]; congr 1; first | rw [u64_twice, u64_add] | rw [u64_add]; congr 1; omega, trivial⟩
              case measure => simp [intOf]; omega
            · have hEq : sumK (lists sx) k + (xx.take m).sum = sumK (lists sx) (k + 1) := by
                rw [sumK_succ]; congr 2
                show xx.take m = ((lists sx)[k]?).getD []
                rw [lists_get HX.out h8]
                show xx.take m = xx.take 10
                rw [show m = 10 by omega]
              have HEQ := Lib.hid hEq
              clear hEq
              go_wp2_with fail
              go_roundw
              case rel =>
                refine ⟨k + 1, pss ++ [⟨a2, P.length, c2, P⟩], a3, c3, by omega, by omega, by go_num, rfl, by rw [List.length_append, HPL.out]; rfl, ?_, ?_, by rw [HEQ.out], HT3.out⟩
                · refine HP2.out.snoc ⟨rfl, by dsimp only; omega, HO2.out⟩ (by rw [HPL.out]; exact HG3.out) (by rw [HPL.out]; exact HO3.out)
                · rw [List.map_append, HPM.out, List.take_add_one, lists_get HX.out h8]
                  show _ = lkPrograms ((lists sx).take k ++ [xx.take 10])
                  rw [lkPrograms_snoc]
                  congr 1
                  show [P] = _
                  rw [HPE.out]
              case measure => simp [intOf]; omega
          · have hEq : sumK (lists sx) k + (xx.take m).sum = sumK (lists sx) (k + 1) := by
              rw [sumK_succ]; congr 2
              show xx.take m = ((lists sx)[k]?).getD []
              rw [lists_get HX.out h8]
              show xx.take m = xx.take 10
              rw [List.take_of_length_le (by rw [HXL.out]; omega), List.take_of_length_le (by rw [HXL.out]; omega)]
            have HEQ := Lib.hid hEq
            clear hEq
            go_wp2_with fail
            go_roundw
            case rel =>
              refine ⟨k + 1, pss ++ [⟨a2, P.length, c2, P⟩], a3, c3, by omega, by omega, by go_num, rfl, by rw [List.length_append, HPL.out]; rfl, ?_, ?_, by rw [HEQ.out], HT3.out⟩
              · refine HP2.out.snoc ⟨rfl, by dsimp only; omega, HO2.out⟩ (by rw [HPL.out]; exact HG3.out) (by rw [HPL.out]; exact HO3.out)
              · rw [List.map_append, HPM.out, List.take_add_one, lists_get HX.out h8]
                show _ = lkPrograms ((lists sx).take k ++ [xx.take 10])
                rw [lkPrograms_snoc]
                congr 1
                show [P] = _
                rw [HPE.out]
            case measure => simp [intOf]; omega
      · by_cases hk0 : k = 0
        · subst hk0
          first
            | (exfalso; omega)
            | (go_wp2_with fail
               go_ret
               exact ⟨rfl, HT.out⟩)
        · have hk1 : 1 ≤ k := by omega
          have HMk := Lib.hid (smake_any 2 (by omega) (by omega) ao k cc hk1 (by omega) pss wr (by have h := HPO.out.ok; rw [HPL.out] at h; exact h))
          have hlsl : ((lists sx).take k).length = k := by
            rw [List.length_take, Nat.min_eq_left]
            unfold lists
            rw [List.length_map, List.length_take, HSL.out]; omega
          have hl10 : ∀ l ∈ (lists sx).take k, l.length ≤ 10 := by
            intro l hl
            have := List.mem_of_mem_take hl
            unfold lists at this
            rw [List.mem_map] at this
            obtain ⟨y, _, rfl⟩ := this
            rw [List.length_take]; omega
          have HLL := Lib.hid hlsl
          have HL10 := Lib.hid hl10
          clear hlsl hl10
          go_wp2_with fail
          refine HMk.out.mono ?_
          rintro e w4 (⟨k', er, hf, _⟩ | ⟨_, L, rfl, hSM, hT4, hlo, hhi⟩)
          · rw [HPM.out] at hf
            exact absurd ((lk_fault HL10.out).symm.trans hf) (by simp)
          rw [HPM.out] at hSM
          rw [HPL.out]
          have HSM := Lib.hid hSM
          have HT4 := Lib.hid (HT.out.trans hT4)
          have hlo2 : w.heap.size ≤ L.lo := by omega
          clear hSM hT4 HMk
          obtain ⟨n, hn⟩ : ∃ n, (tl ≤ 400 ∧ n = tl) ∨ (400 < tl ∧ n = 400) := by
            by_cases h : tl ≤ 400
            · exact ⟨tl, .inl ⟨h, rfl⟩⟩
            · exact ⟨400, .inr ⟨by omega, rfl⟩⟩
          have hnl : n ≤ tl ∧ n ≤ 400 := by omega
          have HX4 := Lib.hid (((nums_row HTX.out.row).still HT4.out).take n)
          have hxl : (tx.take n).length = n := by rw [List.length_take]; have : tx.length = tl := HTX.out.len; omega
          have HRun := Lib.hid (mrun_any HSM.out hhi ta n tc (tx.take n) hxl (by omega)
            (fun hne y hy hW => by
              obtain ⟨z, hz⟩ := get_some (l := tx.take n) (i := 0) (by cases htk : tx.take n with | nil => exact absurd htk hne | cons _ _ => simp)
              obtain ⟨b, o, e, hcz⟩ := ((nums_row HTX.out.row).take n) 0 z hz
              have e : y = ⟨b, o, none⟩ := Option.some.inj (hy.symm.trans e)
              subst e
              have h1 := cell_lt hcz
              have h2 := (HSM.out.W_in hW).1
              dsimp only at h1 h2; omega) HX4.out)
          have hk8' : ((lists sx).take k).length ≤ 8 := by rw [HLL.out]; exact hk8
          have hk1' : 0 < ((lists sx).take k).length := by rw [HLL.out]; exact hk1
          have hml : ((mach0 2 (lkPrograms ((lists sx).take k))).run (tx.take n)).ss.length = ((lists sx).take k).length := by rw [Mach.run_len]; simp [mach0, lkPrograms]
          have HE := Lib.hid (lk_end hk1' hk8' HL10.out (tx.take n) 40000 (by omega))
          have hstl : ((((mach0 2 (lkPrograms ((lists sx).take k))).run (tx.take n)).run (fairL ((lists sx).take k).length 40000))).st.length = 2 := by
            rw [Mach.run_stlen, Mach.run_stlen]; simp [mach0, newSt]
          obtain ⟨MF, hMF⟩ : ∃ MF, MF = ((mach0 2 (lkPrograms ((lists sx).take k))).run (tx.take n)).run (fairL ((lists sx).take k).length 40000) := ⟨_, rfl⟩
          rw [← hMF] at hstl HE
          have HMF := Lib.hid hMF
          clear hMF
          have HSTL := Lib.hid hstl
          have HML := Lib.hid hml
          have hSumE : sumTo ((lists sx).take k).length (fun j => (lg ((lists sx).take k) j).sum) = sumK (lists sx) k := by
            rw [HLL.out]
            unfold sumK
            refine sumTo_congr (fun j hj => ?_)
            unfold lg
            rw [List.getElem?_take, if_pos hj]
          have HSE := Lib.hid hSumE
          have HSM0 := Lib.hid HSM.out
          clear hk8' hk1' hml hstl hSumE hxl HX4
          rcases hn with ⟨hn1, hn2⟩ | ⟨hn1, hn2⟩
          all_goals subst hn2
          all_goals
            go_wp2_with fail
            refine HRun.out.mono ?_
            rintro e w5 ⟨rfl, hSM5, hT5⟩
            have HT5 := Lib.hid (turned_new HT4.out HSM0.out hlo2 hT5)
            have hhi5 : L.hi ≤ w5.heap.size := Nat.le_trans hhi hT5.size
            have HF := Lib.hid (fair_lit hSM5 hhi5 40000 40000 rfl (by omega))
            have HSM5 := Lib.hid hSM5
            rw [HML.out, ← HMF.out, HE.out.1] at HF
            clear hSM5 hT5 HRun
            go_wp2_with fail
            refine HF.out.mono ?_
            rintro e w6 ⟨rfl, hSM6, hT6⟩
            have HT6 := Lib.hid (turned_new HT5.out HSM5.out hlo2 hT6)
            have HC := Lib.hid (cells_any hSM6)
            have HSM6 := Lib.hid hSM6
            rw [HSTL.out] at HC
            clear hSM6 hT6 HF
            go_wp2_with fail
            refine HC.out.mono ?_
            rintro e w7 ⟨nb, rfl, hB, hnb, hT7⟩
            have HT7 := Lib.hid (HT6.out.trans hT7)
            obtain ⟨c, hc⟩ : ∃ c, c = (celAt MF.st 1).n := ⟨_, rfl⟩
            have hv : w7.cell? ⟨nb, 1, none⟩ = some (.int .i64 c) := hB.cell (by
              rw [hc]
              have h9 := celAt_get (st := MF.st) (j := 1) (by rw [HSTL.out]; omega)
              exact ints_get (by unfold vs; rw [List.getElem?_map, h9]; rfl))
            have hbool : (IntKind.u64.wrap c == IntKind.u64.wrap (sumK (lists sx) k)) = true := by
              rw [hc, HE.out.2.1, HSE.out, u64_of64]; simp
            have HHo := Lib.hid (holder_any (HSM6.out.still hT7) 0)
            rw [show holdOf MF 0 = -1 by unfold holdOf; rw [if_pos (by omega)]; have h9 := celAt_get (st := MF.st) (j := 0) (by rw [HSTL.out]; omega); rw [show (0 : Int).toNat = 0 from rfl, h9]; exact HE.out.2.2] at HHo
            clear hB hT7 hc HC
            go_wp2_with fail
            refine HHo.out.mono ?_
            rintro e w8 ⟨rfl, rfl⟩
            go_wp2_with fail
            go_ret
            exact ⟨rfl, HT7.out⟩
    · by_cases hk0 : k = 0
      · subst hk0
        go_wp2_with fail
        go_ret
        exact ⟨rfl, HT.out⟩
      · have hk1 : 1 ≤ k := by omega
        have HMk := Lib.hid (smake_any 2 (by omega) (by omega) ao k cc hk1 (by omega) pss wr (by have h := HPO.out.ok; rw [HPL.out] at h; exact h))
        have hlsl : ((lists sx).take k).length = k := by
          rw [List.length_take, Nat.min_eq_left]
          unfold lists
          rw [List.length_map, List.length_take, HSL.out]; omega
        have hl10 : ∀ l ∈ (lists sx).take k, l.length ≤ 10 := by
          intro l hl
          have := List.mem_of_mem_take hl
          unfold lists at this
          rw [List.mem_map] at this
          obtain ⟨y, _, rfl⟩ := this
          rw [List.length_take]; omega
        have HLL := Lib.hid hlsl
        have HL10 := Lib.hid hl10
        clear hlsl hl10
        go_wp2_with fail
        refine HMk.out.mono ?_
        rintro e w4 (⟨k', er, hf, _⟩ | ⟨_, L, rfl, hSM, hT4, hlo, hhi⟩)
        · rw [HPM.out] at hf
          exact absurd ((lk_fault HL10.out).symm.trans hf) (by simp)
        rw [HPM.out] at hSM
        rw [HPL.out]
        have HSM := Lib.hid hSM
        have HT4 := Lib.hid (HT.out.trans hT4)
        have hlo2 : w.heap.size ≤ L.lo := by omega
        clear hSM hT4 HMk
        obtain ⟨n, hn⟩ : ∃ n, (tl ≤ 400 ∧ n = tl) ∨ (400 < tl ∧ n = 400) := by
          by_cases h : tl ≤ 400
          · exact ⟨tl, .inl ⟨h, rfl⟩⟩
          · exact ⟨400, .inr ⟨by omega, rfl⟩⟩
        have hnl : n ≤ tl ∧ n ≤ 400 := by omega
        have HX4 := Lib.hid (((nums_row HTX.out.row).still HT4.out).take n)
        have hxl : (tx.take n).length = n := by rw [List.length_take]; have : tx.length = tl := HTX.out.len; omega
        have HRun := Lib.hid (mrun_any HSM.out hhi ta n tc (tx.take n) hxl (by omega)
          (fun hne y hy hW => by
            obtain ⟨z, hz⟩ := get_some (l := tx.take n) (i := 0) (by cases htk : tx.take n with | nil => exact absurd htk hne | cons _ _ => simp)
            obtain ⟨b, o, e, hcz⟩ := ((nums_row HTX.out.row).take n) 0 z hz
            have e : y = ⟨b, o, none⟩ := Option.some.inj (hy.symm.trans e)
            subst e
            have h1 := cell_lt hcz
            have h2 := (HSM.out.W_in hW).1
            dsimp only at h1 h2; omega) HX4.out)
        have hk8' : ((lists sx).take k).length ≤ 8 := by rw [HLL.out]; exact hk8
        have hk1' : 0 < ((lists sx).take k).length := by rw [HLL.out]; exact hk1
        have hml : ((mach0 2 (lkPrograms ((lists sx).take k))).run (tx.take n)).ss.length = ((lists sx).take k).length := by rw [Mach.run_len]; simp [mach0, lkPrograms]
        have HE := Lib.hid (lk_end hk1' hk8' HL10.out (tx.take n) 40000 (by omega))
        have hstl : ((((mach0 2 (lkPrograms ((lists sx).take k))).run (tx.take n)).run (fairL ((lists sx).take k).length 40000))).st.length = 2 := by
          rw [Mach.run_stlen, Mach.run_stlen]; simp [mach0, newSt]
        obtain ⟨MF, hMF⟩ : ∃ MF, MF = ((mach0 2 (lkPrograms ((lists sx).take k))).run (tx.take n)).run (fairL ((lists sx).take k).length 40000) := ⟨_, rfl⟩
        rw [← hMF] at hstl HE
        have HMF := Lib.hid hMF
        clear hMF
        have HSTL := Lib.hid hstl
        have HML := Lib.hid hml
        have hSumE : sumTo ((lists sx).take k).length (fun j => (lg ((lists sx).take k) j).sum) = sumK (lists sx) k := by
          rw [HLL.out]
          unfold sumK
          refine sumTo_congr (fun j hj => ?_)
          unfold lg
          rw [List.getElem?_take, if_pos hj]
        have HSE := Lib.hid hSumE
        have HSM0 := Lib.hid HSM.out
        clear hk8' hk1' hml hstl hSumE hxl HX4
        rcases hn with ⟨hn1, hn2⟩ | ⟨hn1, hn2⟩
        all_goals subst hn2
        all_goals
          go_wp2_with fail
          refine HRun.out.mono ?_
          rintro e w5 ⟨rfl, hSM5, hT5⟩
          have HT5 := Lib.hid (turned_new HT4.out HSM0.out hlo2 hT5)
          have hhi5 : L.hi ≤ w5.heap.size := Nat.le_trans hhi hT5.size
          have HF := Lib.hid (fair_lit hSM5 hhi5 40000 40000 rfl (by omega))
          have HSM5 := Lib.hid hSM5
          rw [HML.out, ← HMF.out, HE.out.1] at HF
          clear hSM5 hT5 HRun
          go_wp2_with fail
          refine HF.out.mono ?_
          rintro e w6 ⟨rfl, hSM6, hT6⟩
          have HT6 := Lib.hid (turned_new HT5.out HSM5.out hlo2 hT6)
          have HC := Lib.hid (cells_any hSM6)
          have HSM6 := Lib.hid hSM6
          rw [HSTL.out] at HC
          clear hSM6 hT6 HF
          go_wp2_with fail
          refine HC.out.mono ?_
          rintro e w7 ⟨nb, rfl, hB, hnb, hT7⟩
          have HT7 := Lib.hid (HT6.out.trans hT7)
          obtain ⟨c, hc⟩ : ∃ c, c = (celAt MF.st 1).n := ⟨_, rfl⟩
          have hv : w7.cell? ⟨nb, 1, none⟩ = some (.int .i64 c) := hB.cell (by
            rw [hc]
            have h9 := celAt_get (st := MF.st) (j := 1) (by rw [HSTL.out]; omega)
            exact ints_get (by unfold vs; rw [List.getElem?_map, h9]; rfl))
          have hbool : (IntKind.u64.wrap c == IntKind.u64.wrap (sumK (lists sx) k)) = true := by
            rw [hc, HE.out.2.1, HSE.out, u64_of64]; simp
          have HHo := Lib.hid (holder_any (HSM6.out.still hT7) 0)
          rw [show holdOf MF 0 = -1 by unfold holdOf; rw [if_pos (by omega)]; have h9 := celAt_get (st := MF.st) (j := 0) (by rw [HSTL.out]; omega); rw [show (0 : Int).toNat = 0 from rfl, h9]; exact HE.out.2.2] at HHo
          clear hB hT7 hc HC
          go_wp2_with fail
          refine HHo.out.mono ?_
          rintro e w8 ⟨rfl, rfl⟩
          go_wp2_with fail
          go_ret
          exact ⟨rfl, HT7.out⟩
end Go.Proofs.Ytkeacdhjkhojhaa
