/- PoolCounts: the walk. No condition but that the program's pool keeps its words. -/
import Derived.Test.YtinfckoaphgmkaaPlay5
namespace Go.Proofs.Ytinfckoaphgmkaa
open Go.RowKit
set_option linter.unusedVariables false
set_option maxRecDepth 100000

theorem nums_mem {l : List Nat} {k : Nat} : (k : Int) ∈ nums l ↔ k ∈ l := by
  unfold nums
  rw [List.mem_map]
  constructor
  · rintro ⟨a, ha, e⟩; have : a = k := by omega
    exact this ▸ ha
  · intro h; exact ⟨k, h, rfl⟩
theorem cntOf_nat (M : PM) {k : Nat} (hk : k < M.sl.length) : cntOf M (k : Int) = (M.cnt k : Nat) := by
  unfold cntOf PM.cnt
  rw [if_pos ⟨by omega, by omega⟩, Int.toNat_natCast]

set_option maxHeartbeats 4000000 in
theorem counts_walk {PT : Nat → PM → Thing} (A : PoolApi PT) (n0 : Int) (s : Sl Act5) (w : World) (h1 : SlOk encAct5 okAct5 5 w s) :
    Calls Try.prog 4 #[.int .i64 n0, .slice s.a s.len s.cap] w fun e w' => e = .returned (.bool true) ∧ Still w w' := by
  obtain ⟨N1, hN1⟩ : ∃ x, x = am n0 9 := ⟨_, rfl⟩
  have hn1 : N1 < 9 := by rw [hN1]; exact am_lt _ (by omega)
  have B1 := Lib.hid (fun W => among_lit n0 9 9 N1 rfl hN1 (by omega) (by omega) W)
  obtain ⟨n, hn⟩ : ∃ n, n = N1 + 1 := ⟨_, rfl⟩
  have en : (1 : Int) + (N1 : Int) = n := by omega
  have n1 : 1 ≤ n := by omega
  have n2 : n ≤ 128 := by omega
  have C0 := Lib.hid (fun W (hT : Still w W) => play_any A n n1 n2 s W (SlOk.stays okAct5_stays w W s hT h1))
  clear hN1 hn h1
  go_enter Try.func4, Try.ntmps4
  go_wp2_with fail
  refine (works5 A _).mono ?_
  rintro e w1 ⟨rfl, hT⟩
  have HT := Lib.hid hT
  clear hT
  go_wp2_with fail
  refine (B1.out _).mono ?_
  rintro e w' ⟨rfl, rfl⟩
  go_wp2_with fail
  refine (C0.out _ HT.out).mono ?_
  rintro e w2 ⟨q, m, ao, cc, M, had, rfl, H, _, _, hM, hMl, _, _⟩
  have HH := Lib.hid (show Held w1 w2 ((PT q M).sep (ownT 3 1 ao m cc (ints had))) from H)
  have HM := Lib.hid hM
  have HMl := Lib.hid hMl
  obtain ⟨fl, hfl⟩ : ∃ fl, fl = M.fr.length := ⟨_, rfl⟩
  have hfl2 : fl ≤ 128 := by rw [hfl]; exact hM.frlen
  have HFL := Lib.hid hfl
  have D1 := Lib.hid (show Calls Try.prog 27 #[.pointer (some ⟨q, 0, none⟩)] w2 (GotNums w2 (nums M.fr) fl) from by
    obtain ⟨_, h, _⟩ := H.fst
    exact A.free h hM (by omega) fl hfl)
  have D2 := Lib.hid (fun (W : World) (H : Held w1 W ((PT q M).sep (ownT 3 1 ao m cc (ints had)))) (k : Nat) (hk : k < n) => show Calls Try.prog 30 #[.pointer (some ⟨q, 0, none⟩), .int .i64 k] W fun e w' => e = .returned (.int .i64 (M.cnt k : Nat)) ∧ Held w1 w' ((PT q M).sep (ownT 3 1 ao m cc (ints had))) ∧ Still W w' from by
    obtain ⟨_, h, _⟩ := H.fst
    have := A.count h hM (by omega) k (i64_lit (by omega) (by omega))
    rw [cntOf_nat M (by omega)] at this
    exact this.mono fun e w' ⟨he, ht⟩ => ⟨he, H.still ht, ht⟩)
  clear H hM hMl C0 B1 en hfl hn1
  go_wp2_with fail
  refine D1.out.mono ?_
  rintro e w3 ⟨fa, fc, rfl, hO, hst⟩
  have hF : NumsAt w3 fa (nums M.fr) := NumsAt.of_own hO (by rw [nums_length, HFL.out])
  have HF := Lib.hid hF
  have HH3 := Lib.hid (HH.out.still hst)
  clear hF hO hst HH D1
  go_wp2_with fail
  go_loopw [8, 9] (fun l i wr => ∃ k : Nat, k ≤ n ∧ i = .int .i64 k ∧ l = .int .i64 (M.liveTo k : Nat) ∧ Held w1 wr ((PT q M).sep (ownT 3 1 ao m cc (ints had))) ∧ NumsAt wr fa (nums M.fr)) (fun _ i _ => n - (intOf i).toNat)
  case atStart => exact ⟨0, Nat.zero_le _, rfl, rfl, HH3.out, HF.out⟩
  case round =>
    clear HH3 HF
    obtain ⟨k, hk, rfl, rfl, H, hF⟩ := hrel
    have HH := Lib.hid H
    have HF := Lib.hid hF
    have hll := liveTo_le M k
    clear H hF
    by_cases hlt : k < n
    · have E1 := Lib.hid (show Calls Try.prog 33 #[.slice fa fl fc, .int .i64 k] wr fun e w' => e = .returned (.bool (decide (k ∈ M.fr))) ∧ wr = w' from by
        have := hasInt_any wr fa (nums M.fr) fl fc (k : Int) (by rw [nums_length, HFL.out]) (by omega) HF.out
        rwa [show decide ((k : Int) ∈ nums M.fr) = decide (k ∈ M.fr) from decide_eq_decide.2 nums_mem] at this)
      have hcf := HM.out.cnt_free (k := k) (by rw [HMl.out]; exact hlt)
      have D3 := Lib.hid (fun W H => D2.out W H k hlt)
      have HLS := Lib.hid (M.liveTo_succ k)
      obtain ⟨c, hc⟩ : ∃ c, c = M.cnt k := ⟨_, rfl⟩
      have hcN : c ≤ 101 := by
        obtain ⟨sl, hsl⟩ := get_some (l := M.sl) (i := k) (by rw [HMl.out]; exact hlt)
        have := (HM.out.low k sl hsl).2
        rw [hc]; unfold PM.cnt; rw [hsl]; exact this
      rw [← hc] at D3 hcf HLS
      by_cases h0 : 0 < c
      · rw [decide_eq_false (hcf.1 h0)] at E1
        rw [if_pos h0] at HLS
        clear D2 hcf hc
        go_wp2_with fail
        refine E1.out.mono ?_
        rintro e w' ⟨rfl, rfl⟩
        go_wp2_with fail
        refine (D3.out _ HH.out).mono ?_
        rintro e w5 ⟨rfl, H, hst⟩
        have HH5 := Lib.hid H
        have HF5 := Lib.hid (HF.out.still hst)
        clear H hst HH HF E1
        go_wp2_with fail
        refine (D3.out _ HH5.out).mono ?_
        rintro e w6 ⟨rfl, H, hst⟩
        have HH6 := Lib.hid H
        have HF6 := Lib.hid (HF5.out.still hst)
        clear H hst HH5 HF5 D3
        go_wp2_with fail
        go_roundw
        case rel => exact ⟨k + 1, by omega, by go_num, by rw [HLS.out]; go_num, HH6.out, HF6.out⟩
        case measure => simp [intOf]; omega
      · obtain rfl : c = 0 := by omega
        have hkf : k ∈ M.fr := by
          by_cases hm : k ∈ M.fr
          · exact hm
          · exact absurd (hcf.2 hm) h0
        rw [decide_eq_true hkf] at E1
        rw [if_neg h0] at HLS
        clear D2 hcf hc hkf h0
        go_wp2_with fail
        refine E1.out.mono ?_
        rintro e w' ⟨rfl, rfl⟩
        go_wp2_with fail
        refine (D3.out _ HH.out).mono ?_
        rintro e w5 ⟨rfl, H, hst⟩
        have HH5 := Lib.hid H
        have HF5 := Lib.hid (HF.out.still hst)
        clear H hst HH HF E1
        go_wp2_with fail
        refine (D3.out _ HH5.out).mono ?_
        rintro e w6 ⟨rfl, H, hst⟩
        have HH6 := Lib.hid H
        have HF6 := Lib.hid (HF5.out.still hst)
        clear H hst HH5 HF5 D3
        go_wp2_with fail
        go_roundw
        case rel => exact ⟨k + 1, by omega, by go_num, by rw [HLS.out]; rfl, HH6.out, HF6.out⟩
        case measure => simp [intOf]; omega
    · obtain rfl : k = n := by omega
      have hall := HM.out.all
      rw [HMl.out, ← HFL.out] at hall
      have heq : (((fl : Int) + (M.liveTo k : Nat)) == (k : Int)) = true := by rw [beq_iff_eq]; omega
      clear D2 hall
      generalize M.liveTo k = lv at *
      go_wp2_with fail
      go_ret
      exact ⟨by first | rfl | simp, HT.out.trans HH.out.ground⟩
end Go.Proofs.Ytinfckoaphgmkaa
