/- The walk of TrieAll. No condition but the words wanted of the program's calls. -/
import Derived.Test.YtpmkokckjieidaaGreatDoorTrieTurnsW
import Derived.Test.YtpmkokckjieidaaGreatDoorTrieAllMath
import Derived.Test.YtpmkokckjieidaaGreatDoorHasInt
namespace Go.Proofs.YtpmkokckjieidaaGreatDoor
open Go.RowKit
set_option linter.unusedVariables false
set_option linter.unusedSimpArgs false
set_option maxRecDepth 100000

set_option maxHeartbeats 8000000 in
theorem all_walk {tT : Nat → List Pr → Thing} (A : TrieApi tT) (s1 : Sl Act10) (sa : ByteArray) (w : World) (h1 : SlOk encAct10 okAct10 3 w s1) (hsa : sa.size ≤ maxLen) :
    Calls Tryz.prog 6 #[.slice s1.a s1.len s1.cap, .string sa] w fun e w' => e = .returned (.bool true) ∧ Still w w' := by
  obtain ⟨l, hl⟩ : ∃ l, l = few10 s1.xs := ⟨_, rfl⟩
  have HF1 := Lib.hid (fun V (h : Still w V) => few10_any s1 V (SlOk.stays okAct10_stays w V s1 h h1))
  unfold Few10Post at HF1
  rw [← hl] at HF1
  have hln : l.length ≤ 80 := by rw [hl]; exact few10_len _
  have HSm := Lib.hid (fun a (ha : a ∈ l) => show a.2.1.length ≤ 300 from few10_small (by rw [← hl]; exact ha))
  obtain ⟨n, hn⟩ : ∃ n, n = l.length := ⟨_, rfl⟩
  rw [← hn] at HF1
  obtain ⟨L, hLd⟩ : ∃ L, L = bldL l := ⟨_, rfl⟩
  have hL : TOk L := by rw [hLd]; exact bldL_ok _
  have HB1 := Lib.hid (fun V a c (hA : ActsAt V a l) => show Calls Tryz.prog 27 #[.slice a n c] V fun e w' => ∃ q, e = .returned (.pointer (some ⟨q, 0, none⟩)) ∧ Held V w' (tT q L) from by
    rw [hLd]; exact built10 A l V a n c hn hA (by omega) (fun y hy => HSm.out y hy))
  obtain ⟨m, hm⟩ : ∃ m, m = sa.size := ⟨_, rfl⟩
  obtain ⟨y, hy⟩ : ∃ y : Nat, y = min m 100 := ⟨_, rfl⟩
  have hif : (if (100 : Int) < (m : Int) then (100 : Int) else (m : Int)) = (y : Int) := by split <;> omega
  have hym : (y : Int) ≤ (m : Int) := by omega
  have hmi : (m : Int) ≤ 9223372036854775807 := by rw [← hm] at hsa; unfold maxLen at hsa; omega
  obtain ⟨s, hs⟩ : ∃ s, s = sa.data.toList.take 100 := ⟨_, rfl⟩
  obtain ⟨st, hst0⟩ : ∃ st : ByteArray, st = ⟨s.toArray⟩ := ⟨_, rfl⟩
  have hex : sa.extract 0 y = st := by rw [hst0, hs]; exact ext100 hm.symm hy
  have hsm : sa.size = m := hm.symm
  have hsl : s.length ≤ 300 := by rw [hs, List.length_take]; omega
  have htx : tx s = .string st := by rw [hst0]; rfl
  have HWk := Lib.hid (works10 A w)
  have HC := Lib.hid (fun V => zncheck_any s V (by omega))
  have HM1 := Lib.hid (fun V q (h : Held w V (tT q L)) => show Calls Tryz.prog 22 #[.pointer (some ⟨q, 0, none⟩), tx s] V (OutE V (ni (mtL L s)) (nmE s)) from by
    obtain ⟨W, h1, _⟩ := h.use
    exact A.mtch h1 hL s hsl)
  rw [htx] at HC HM1
  have HNo := Lib.hid (show L = bldL l from hLd)
  have HL := Lib.hid hL
  have HN := Lib.hid hn
  obtain ⟨sp, sl, sc, sx⟩ := s1
  have hn80 : n ≤ 80 := by omega
  dsimp only at HF1 ⊢
  have HTx := Lib.hid htx
  have HSl := Lib.hid hsl
  have HSt := Lib.hid hst0
  clear hl hLd hL hm hy hs hsa h1 hsl htx hst0 hn hln
  rcases nmE_or s with h0 | h0
  · rw [h0] at HC HM1
    have H0 := Lib.hid h0
    clear h0
    go_enter Tryz.func6, Tryz.ntmps6
    go_wp2_with (first
      | (go_at_call 26; ((with_reducible refine HWk.out.mono ?_)); rintro e w1 ⟨rfl, hs1⟩)
      | (go_at_call 11; ((with_reducible refine (HF1.out _ hs1).mono ?_)); rintro e w2 ⟨g, n2, c, rfl, hn2, ho2, hs2⟩; subst n2; have HO2 := Lib.hid ho2; clear ho2)
      | (go_at_call 27; ((with_reducible refine (HB1.out _ _ _ (ActsAt.of_own HO2.out HN.out)).mono ?_)); rintro e w8 ⟨q, rfl, hh8⟩; have H8 := Lib.hid (show Held w w8 (tT q L) from (Held.made (Held.start (hs1.trans hs2)) hh8).drop); have HS8 := Lib.hid (show Still w2 w8 from hh8.ground); clear hh8)
      | (go_at_call 31; ((with_reducible refine (HC.out _).mono ?_)); rintro e w9 ⟨rfl, hs9⟩; have H9 := Lib.hid (H8.out.still hs9); have HS9 := Lib.hid (HS8.out.trans hs9); clear hs9)
      | (go_at_call 22; ((with_reducible refine (HM1.out _ _ H9.out).mono ?_)); rintro e w10 ⟨a10, n10, c10, rfl, hn10, hA10, hsl10, hs10⟩; have HA10 := Lib.hid hA10; have HN10 := Lib.hid hn10; have H10 := Lib.hid (H9.out.still hs10); have HO10 := Lib.hid (ow_still HO2.out (HS9.out.trans hs10)); clear hA10 hn10 hs10))
    obtain ⟨N, hNN⟩ : ∃ N, N = n10 := ⟨_, rfl⟩
    have hN256 : n10 ≤ 256 := by rw [HN10.out]; exact mtL_len L s
    have hnc10 : n10 ≤ c10 := hsl10.le
    have HV := Lib.hid (fun i (h : i < n10) => show ∃ v, (mtL L s)[i]? = some v ∧ (ni (mtL L s))[i]? = some (v : Int) ∧ mtL (oneL l v) s = [0] from by
      obtain ⟨v, hv⟩ := get_some (l := mtL L s) (i := i) (by rw [HN10.out, ni_length] at h; exact h)
      refine ⟨v, hv, by unfold ni; rw [List.getElem?_map, hv]; rfl, ?_⟩
      rw [HNo.out] at hv
      exact one_alone (by rw [← HN.out]; omega) H0.out (List.mem_of_getElem? hv))
    clear HWk HF1 HB1 HO2 HS8 HS9 HM1 hs1 hs2 hNN H8 H9 HC hsl10
    go_loopw [8] (fun i wr => ∃ k : Nat, k ≤ n10 ∧ i = .int .i64 k ∧ Still w10 wr) (fun i _ => n10 - (intOf i).toNat)
    case atStart => exact ⟨0, Nat.zero_le _, rfl, Turned.refl _ _⟩
    case round =>
      obtain ⟨k, hk, rfl, hst⟩ := hrel
      obtain ⟨U, hU⟩ : ∃ U, U = wr := ⟨_, rfl⟩
      subst hU
      have HSr := Lib.hid hst
      by_cases hlt : k < n10
      · obtain ⟨v, hv1, hv2, hv3⟩ := HV.out k hlt
        obtain ⟨b, o, rfl, d0⟩ := HA10.out.still hst k _ hv2
        have HCell := Lib.hid (fun V (h : Still U V) => show V.cell? ⟨b, o + k, none⟩ = some (.int .i64 (v : Int)) from still_cell h d0 rfl)
        have HV3 := Lib.hid hv3
        have HMk := Lib.hid (A.make U)
        have hv256 : v < 256 := ((mem_mtL H0.out).1 (List.mem_of_getElem? hv1)).1
        have HV1 := Lib.hid hv1
        have HV2 := Lib.hid hv2
        clear hst hv1 hv2 hv3 d0
        go_wp2_with (go_at_call 9; ((with_reducible refine HMk.out.mono ?_)); rintro e w11 ⟨q1, rfl, W1, hW1, hs11, hf1⟩; have H11 := Lib.hid (show Held U w11 (tT q1 []) from ⟨W1, hW1, hf1, hs11⟩); clear hW1 hf1 hs11)
        go_loopw [10] (fun kv w2 => ∃ j : Nat, j ≤ n ∧ kv = .int .i64 j ∧ Held U w2 (tT q1 (oneL (l.take j) v))) (fun kv _ => n - (intOf kv).toNat)
        case atStart => exact ⟨0, Nat.zero_le _, rfl, H11.out⟩
        case round =>
          clear H11
          obtain ⟨j, hj, rfl, hh⟩ := hrel
          have HH := Lib.hid hh
          have hU2 : Still U wr := hh.ground
          have HGo := Lib.hid (HSr.out.trans hU2)
          have d5 := HCell.out wr hU2
          clear hh
          by_cases hjn : j < n
          · obtain ⟨a, ha⟩ := get_some (l := l) (i := j) (by rw [← HN.out]; exact hjn)
            obtain ⟨_, d1, d2⟩ := act_cells (ow_still HO10.out HGo.out) ha
            have hal := HSm.out a (List.mem_of_getElem? ha)
            have HStep := Lib.hid (oneL_step ha v)
            obtain ⟨ad, af, an⟩ := a
            dsimp only at d1 d2 hal HStep
            obtain ⟨t, ht⟩ : ∃ t, t = am an 20 := ⟨_, rfl⟩
            have HAm := Lib.hid (fun V => among_lit an 20 20 t rfl ht (by omega) (by omega) V)
            rw [← ht] at HStep
            by_cases htv : t = v
            · rw [if_pos htv] at HStep
              have HP := Lib.hid (fun V (h : Still wr V) => show Calls Tryz.prog 13 #[.pointer (some ⟨q1, 0, none⟩), tx af, .int .i64 0] V fun e w' => e = .returned (.int .i64 (ptE (oneL (l.take j) v) af 0)) ∧ Held U w' (tT q1 (oneL (l.take (j + 1)) v)) from by
                obtain ⟨W, h1, h2⟩ := (HH.out.still h).use
                rw [HStep.out]
                exact (A.put h1 (oneL_ok _ _) af 0 hal ⟨by omega, by omega⟩).mono fun e w' ⟨g1, g2⟩ => ⟨g1, h2 _ _ g2⟩)
              subst htv
              generalize ptE (oneL (l.take j) t) af 0 = x at *
              unfold tx at d1 HP
              clear ha HStep HO10 HA10 H10 HV ht
              go_wp2_with fail
              go_quiet ((go_at_call 12; ((with_reducible exact quietEq (HAm.out _)))))
              go_wp2_with (go_at_call 13; ((with_reducible refine (HP.out _ ((Turned.refl _ _).drewN _)).mono ?_)); rintro e w12 ⟨rfl, hh12⟩)
              go_roundw
              case rel => exact ⟨j + 1, by omega, by go_num, hh12⟩
              case measure => simp [intOf]; omega
            · have htb : ((t : Int) == (v : Int)) = false := by rw [beq_eq_false_iff_ne]; omega
              rw [if_neg htv] at HStep
              have HH2 := Lib.hid (fun nq => show Held U (wr.drewN nq) (tT q1 (oneL (l.take (j + 1)) v)) from by rw [HStep.out]; exact HH.out.still ((Turned.refl _ _).drewN nq))
              unfold tx at d1
              clear ha HStep HO10 HA10 H10 HV ht
              go_wp2_with fail
              go_quiet ((go_at_call 12; ((with_reducible exact quietEq (HAm.out _)))))
              go_wp2_with fail
              go_roundw
              case rel => exact ⟨j + 1, by omega, by go_num, HH2.out _⟩
              case measure => simp [intOf]; omega
          · obtain rfl : j = n := by omega
            have HMo := Lib.hid (show Calls Tryz.prog 22 #[.pointer (some ⟨q1, 0, none⟩), .string st] wr (OutE wr [0] 0) from by
              obtain ⟨W, h1, _⟩ := HH.out.use
              have := A.mtch h1 (oneL_ok _ _) s HSl.out
              rw [List.take_of_length_le (by rw [← HN.out]; exact Nat.le_refl _), HV3.out, HTx.out, H0.out] at this
              exact this)
            have HSI := Lib.hid (fun V a (nn ca : Nat) (hn : nn = 1) (hA : NumsAt V a [0]) => sameI_true (V.alloc (.cells #[.int .i64 0] 3)).drew a (some ⟨V.heap.size, 0, none⟩) [0] nn 1 ca 1 hn rfl (by decide) (hA.still (((Turned.refl _ _).alloc _).drew)) (NumsAt.of_blk (l := [0]) (Blk.new V [.int .i64 0] _).drew))
            have HGU := Lib.hid (fun V (h : Still wr V) => show Still w10 V from HGo.out.trans h)
            have HCe := Lib.hid (fun V (h : Still wr V) => HCell.out V (hU2.trans h))
            rcases Nat.eq_zero_or_pos k with hk0 | hk0
            · subst hk0
              clear HO10 HA10 H10 HV hU2 HV3 HSm HH
              go_wp2_with (go_at_call 22; ((with_reducible refine HMo.out.mono ?_)); rintro e w13 ⟨a13, n13, c13, rfl, hn13, hA13, _, hs13⟩; have d13 := HCe.out w13 hs13; have HA13 := Lib.hid hA13; have HS13 := Lib.hid hs13; obtain rfl : n13 = 1 := hn13; clear hA13)
              refine wp_region_any (by kernel_rfl) ?_
              change wpAny _ _ _ _ _ _ _ (World.drew _)
              refine wpAny_take (i := 0) (v := ?_) (List.getElem?_toArray.trans rfl) (by kernel_rfl) (by kernel_rfl) (by kernel_rfl) (fun _ _ _ h => h) (Or.inl ⟨by rfl, ?_⟩) ?_
              rotate_left
              · intro V; go_simp
                try with_reducible rfl
              try simp only [Act.put, List.setIfInBounds_toArray, List.set_cons_zero, List.set_cons_succ]
              refine wpAny_take (i := 1) (v := ?_) (List.getElem?_toArray.trans rfl) (by kernel_rfl) (by kernel_rfl) (by kernel_rfl) (fun _ _ _ h => h) (Or.inl ⟨by rfl, ?_⟩) ?_
              rotate_left
              · intro V; go_simp
                try with_reducible rfl
              try simp only [Act.put, List.setIfInBounds_toArray, List.set_cons_zero, List.set_cons_succ]
              refine wpAny_take (i := 2) (v := ?_) (List.getElem?_toArray.trans rfl) (by kernel_rfl) (by kernel_rfl) (by kernel_rfl) (fun _ _ _ h => h) (Or.inl ⟨by rfl, ?_⟩) ?_
              rotate_left
              · intro V; go_simp
                try with_reducible rfl
              try simp only [Act.put, List.setIfInBounds_toArray, List.set_cons_zero, List.set_cons_succ]
              refine wpAny_take (i := 3) (v := ?_) (List.getElem?_toArray.trans rfl) (by kernel_rfl) (by kernel_rfl) (by kernel_rfl) (fun _ _ _ h => h) (Or.inl ⟨by rfl, ?_⟩) ?_
              rotate_left
              · intro V; go_simp
                try with_reducible rfl
              try simp only [Act.put, List.setIfInBounds_toArray, List.set_cons_zero, List.set_cons_succ]
              refine wpAny_ready (rs := [4]) (by kernel_rfl) (by simp) ?_
              refine AllReady.cons (List.getElem?_toArray.trans rfl) (fun K hK => ?_) AllReady.nil
              go_simp
              refine hK _ _ ?_
              clear hK K
              try simp only [Act.put, List.setIfInBounds_toArray, List.set_cons_zero, List.set_cons_succ]
              refine wpAny_ready (rs := [5]) (by kernel_rfl) (by simp) ?_
              refine AllReady.cons (List.getElem?_toArray.trans rfl) (fun K hK => ?_) AllReady.nil
              go_simp
              ((with_reducible refine (HSI.out _ _ _ _ rfl HA13.out).mono ?_)); rintro e w14 ⟨rfl, hs14⟩; have HS14 := Lib.hid (HS13.out.trans ((((Turned.refl (fun _ => False) _).alloc _).drew).trans hs14)); clear hs14
              go_wp2_with fail
              try simp only [Act.put, List.setIfInBounds_toArray, List.set_cons_zero, List.set_cons_succ]
              refine wpAny_take (i := 6) (v := ?_) (List.getElem?_toArray.trans rfl) (by kernel_rfl) (by kernel_rfl) (by kernel_rfl) (fun _ _ _ h => h) (Or.inl ⟨by rfl, ?_⟩) ?_
              rotate_left
              · intro V; go_simp
                try with_reducible rfl
              try simp only [Act.put, List.setIfInBounds_toArray, List.set_cons_zero, List.set_cons_succ]
              refine wpAny_take (i := 7) (v := ?_) (List.getElem?_toArray.trans rfl) (by kernel_rfl) (by kernel_rfl) (by kernel_rfl) (fun _ _ _ h => h) (Or.inl ⟨by rfl, ?_⟩) ?_
              rotate_left
              · intro V; go_simp
                try with_reducible rfl
              try simp only [Act.put, List.setIfInBounds_toArray, List.set_cons_zero, List.set_cons_succ]
              refine wpAny_take (i := 8) (v := ?_) (List.getElem?_toArray.trans rfl) (by kernel_rfl) (by kernel_rfl) (by kernel_rfl) (fun _ _ _ h => h) (Or.inl ⟨by rfl, ?_⟩) ?_
              rotate_left
              · intro V; go_simp
                try with_reducible rfl
              try simp only [Act.put, List.setIfInBounds_toArray, List.set_cons_zero, List.set_cons_succ]
              refine wpAny_take (i := 9) (v := ?_) (List.getElem?_toArray.trans rfl) (by kernel_rfl) (by kernel_rfl) (by kernel_rfl) (fun _ _ _ h => h) (Or.inl ⟨by rfl, ?_⟩) ?_
              rotate_left
              · intro V; go_simp
                try with_reducible rfl
              try simp only [Act.put, List.setIfInBounds_toArray, List.set_cons_zero, List.set_cons_succ]
              refine wpAny_take (i := 10) (v := ?_) (List.getElem?_toArray.trans rfl) (by kernel_rfl) (by kernel_rfl) (by kernel_rfl) (fun _ _ _ h => h) (Or.inl ⟨by rfl, ?_⟩) ?_
              rotate_left
              · intro V; go_simp
                try with_reducible rfl
              try simp only [Act.put, List.setIfInBounds_toArray, List.set_cons_zero, List.set_cons_succ]
              refine wpAny_take (i := 11) (v := ?_) (List.getElem?_toArray.trans rfl) (by kernel_rfl) (by kernel_rfl) (by kernel_rfl) (fun _ _ _ h => h) (Or.inl ⟨by rfl, ?_⟩) ?_
              rotate_left
              · intro V; go_simp
                try with_reducible rfl
              try simp only [Act.put, List.setIfInBounds_toArray, List.set_cons_zero, List.set_cons_succ]
              refine wpAny_take (i := 12) (v := undef) (List.getElem?_toArray.trans rfl) (by kernel_rfl) (by kernel_rfl) (by kernel_rfl) (fun _ _ _ h => h) (Or.inr ⟨by rfl, rfl⟩) ?_
              try simp only [Act.put, List.setIfInBounds_toArray, List.set_cons_zero, List.set_cons_succ]
              refine wpAny_take (i := 13) (v := undef) (List.getElem?_toArray.trans rfl) (by kernel_rfl) (by kernel_rfl) (by kernel_rfl) (fun _ _ _ h => h) (Or.inr ⟨by rfl, rfl⟩) ?_
              try simp only [Act.put, List.setIfInBounds_toArray, List.set_cons_zero, List.set_cons_succ]
              refine wpAny_take (i := 14) (v := undef) (List.getElem?_toArray.trans rfl) (by kernel_rfl) (by kernel_rfl) (by kernel_rfl) (fun _ _ _ h => h) (Or.inr ⟨by rfl, rfl⟩) ?_
              try simp only [Act.put, List.setIfInBounds_toArray, List.set_cons_zero, List.set_cons_succ]
              refine wpAny_take (i := 15) (v := undef) (List.getElem?_toArray.trans rfl) (by kernel_rfl) (by kernel_rfl) (by kernel_rfl) (fun _ _ _ h => h) (Or.inr ⟨by rfl, rfl⟩) ?_
              try simp only [Act.put, List.setIfInBounds_toArray, List.set_cons_zero, List.set_cons_succ]
              refine wpAny_take (i := 16) (v := undef) (List.getElem?_toArray.trans rfl) (by kernel_rfl) (by kernel_rfl) (by kernel_rfl) (fun _ _ _ h => h) (Or.inr ⟨by rfl, rfl⟩) ?_
              try simp only [Act.put, List.setIfInBounds_toArray, List.set_cons_zero, List.set_cons_succ]
              refine wpAny_take (i := 17) (v := undef) (List.getElem?_toArray.trans rfl) (by kernel_rfl) (by kernel_rfl) (by kernel_rfl) (fun _ _ _ h => h) (Or.inr ⟨by rfl, rfl⟩) ?_
              try simp only [Act.put, List.setIfInBounds_toArray, List.set_cons_zero, List.set_cons_succ]
              refine wpAny_take (i := 18) (v := undef) (List.getElem?_toArray.trans rfl) (by kernel_rfl) (by kernel_rfl) (by kernel_rfl) (fun _ _ _ h => h) (Or.inr ⟨by rfl, rfl⟩) ?_
              try simp only [Act.put, List.setIfInBounds_toArray, List.set_cons_zero, List.set_cons_succ]
              refine wpAny_take (i := 19) (v := undef) (List.getElem?_toArray.trans rfl) (by kernel_rfl) (by kernel_rfl) (by kernel_rfl) (fun _ _ _ h => h) (Or.inr ⟨by rfl, rfl⟩) ?_
              try simp only [Act.put, List.setIfInBounds_toArray, List.set_cons_zero, List.set_cons_succ]
              refine wpAny_take (i := 20) (v := undef) (List.getElem?_toArray.trans rfl) (by kernel_rfl) (by kernel_rfl) (by kernel_rfl) (fun _ _ _ h => h) (Or.inr ⟨by rfl, rfl⟩) ?_
              try simp only [Act.put, List.setIfInBounds_toArray, List.set_cons_zero, List.set_cons_succ]
              refine wpAny_take (i := 21) (v := undef) (List.getElem?_toArray.trans rfl) (by kernel_rfl) (by kernel_rfl) (by kernel_rfl) (fun _ _ _ h => h) (Or.inr ⟨by rfl, rfl⟩) ?_
              try simp only [Act.put, List.setIfInBounds_toArray, List.set_cons_zero, List.set_cons_succ]
              refine wpAny_take (i := 22) (v := ?_) (List.getElem?_toArray.trans rfl) (by kernel_rfl) (by kernel_rfl) (by kernel_rfl) (fun _ _ _ h => h) (Or.inl ⟨by rfl, ?_⟩) ?_
              rotate_left
              · intro V; go_simp
                try with_reducible rfl
              try simp only [Act.put, List.setIfInBounds_toArray, List.set_cons_zero, List.set_cons_succ]
              refine wpAny_take (i := 23) (v := ?_) (List.getElem?_toArray.trans rfl) (by kernel_rfl) (by kernel_rfl) (by kernel_rfl) (fun _ _ _ h => h) (Or.inl ⟨by rfl, ?_⟩) ?_
              rotate_left
              · intro V; go_simp
                try with_reducible rfl
              try simp only [Act.put, List.setIfInBounds_toArray, List.set_cons_zero, List.set_cons_succ]
              refine wpAny_done (by kernel_rfl) ?_ _
              go_wp2_with fail
              exact ⟨⟨1, hlt, rfl, HGU.out _ HS14.out⟩, by simp [intOf]; omega⟩
            · obtain ⟨k', rfl⟩ : ∃ k', k = k' + 1 := ⟨k - 1, by omega⟩
              obtain ⟨v0, hv0, hv02, _⟩ := HV.out k' (by omega)
              have hlt0 := mtL_rise hv0 HV1.out
              obtain ⟨b', o', e', d7⟩ := HA10.out k' _ hv02
              cases e'
              have HCf := Lib.hid (fun V (h : Still wr V) => show V.cell? ⟨b, o + k', none⟩ = some (.int .i64 (v0 : Int)) from still_cell (HGU.out V h) d7 rfl)
              have hvv : ¬ (v : Int) ≤ (v0 : Int) := by omega
              obtain ⟨k, hkk⟩ : ∃ k, k = k' + 1 := ⟨_, rfl⟩
              rw [← hkk] at HCe HCell d5 hlt hk ⊢
              have hkm : (k : Int) - 1 = (k' : Int) := by omega
              have hkp : (0 : Int) < (k : Int) := by omega
              have hwr : IntKind.i64.wrap (k' : Int) = (k' : Int) := by simp [IntKind.wrap, IntKind.signed, IntKind.bits]; omega
              have hkd : decide (0 < k) = true := decide_eq_true (by omega)
              have hvd : decide (v ≤ v0) = false := decide_eq_false (by omega)
              have hki : (k : Int) < (n10 : Int) := by omega
              have hki2 : (k' : Int) < (n10 : Int) := by omega
              have hno : ¬ ((k' : Int) < 0) := by omega
              clear hkk hv0 hv02 hlt0 d7 hk0 HO10 HA10 H10 HV hU2 HV3 HSm HH HV1 HV2
              go_wp2_with (go_at_call 22; ((with_reducible refine HMo.out.mono ?_)); rintro e w13 ⟨a13, n13, c13, rfl, hn13, hA13, _, hs13⟩; have d13 := HCe.out w13 hs13; have d14 := HCf.out w13 hs13; have HA13 := Lib.hid hA13; have HS13 := Lib.hid hs13; obtain rfl : n13 = 1 := hn13; clear hA13)
              refine wp_region_noPanic ?_
              refine wp_region_held_drew (S := (fun V => V.cell? ⟨b, o + k, none⟩ = some (.int .i64 (v : Int)) ∧ V.cell? ⟨b, o + k', none⟩ = some (.int .i64 (v0 : Int)))) (by kernel_rfl) (by first | exact ⟨by assumption, by assumption⟩ | go_keep) (fun hHeld => ?_)
              refine wpAnyH_take (i := 0) (v := ?_) (List.getElem?_toArray.trans rfl) (by kernel_rfl) (by kernel_rfl) (by kernel_rfl) (fun _ _ _ h => h) (Or.inl ⟨by rfl, ?_⟩) hHeld ?_
              rotate_left
              · intro V hV; obtain ⟨k0, k1⟩ := hV; go_simp; all_goals with_reducible rfl
              try simp only [Act.put, List.setIfInBounds_toArray, List.set_cons_zero, List.set_cons_succ]
              refine wpAnyH_take (i := 1) (v := ?_) (List.getElem?_toArray.trans rfl) (by kernel_rfl) (by kernel_rfl) (by kernel_rfl) (fun _ _ _ h => h) (Or.inl ⟨by rfl, ?_⟩) hHeld ?_
              rotate_left
              · intro V hV; obtain ⟨k0, k1⟩ := hV; go_simp; all_goals with_reducible rfl
              try simp only [Act.put, List.setIfInBounds_toArray, List.set_cons_zero, List.set_cons_succ]
              refine wpAnyH_take (i := 2) (v := ?_) (List.getElem?_toArray.trans rfl) (by kernel_rfl) (by kernel_rfl) (by kernel_rfl) (fun _ _ _ h => h) (Or.inl ⟨by rfl, ?_⟩) hHeld ?_
              rotate_left
              · intro V hV; obtain ⟨k0, k1⟩ := hV; go_simp; all_goals with_reducible rfl
              try simp only [Act.put, List.setIfInBounds_toArray, List.set_cons_zero, List.set_cons_succ]
              refine wpAnyH_take (i := 3) (v := ?_) (List.getElem?_toArray.trans rfl) (by kernel_rfl) (by kernel_rfl) (by kernel_rfl) (fun _ _ _ h => h) (Or.inl ⟨by rfl, ?_⟩) hHeld ?_
              rotate_left
              · intro V hV; obtain ⟨k0, k1⟩ := hV; go_simp; all_goals with_reducible rfl
              try simp only [Act.put, List.setIfInBounds_toArray, List.set_cons_zero, List.set_cons_succ]
              refine wpAnyH_ready (rs := [4]) (by kernel_rfl) (by simp) ?_
              refine AllReadyH.cons (List.getElem?_toArray.trans rfl) (fun K hK => ?_) ?_
              · go_simp
                refine hK.out _ _ ?_ (fun hHeld => ?_)
                · first | exact ⟨by assumption, by assumption⟩ | go_keep
                clear hK K
                try simp only [Act.put, List.setIfInBounds_toArray, List.set_cons_zero, List.set_cons_succ]
                refine wpAnyH_ready (rs := [5]) (by kernel_rfl) (by simp) ?_
                refine AllReadyH.cons (List.getElem?_toArray.trans rfl) (fun K hK => ?_) ?_
                · go_simp
                  ((with_reducible refine (HSI.out _ _ _ _ rfl HA13.out).mono ?_)); rintro e w14 ⟨rfl, hs14⟩; have hst14 := (((Turned.refl (fun _ => False) _).alloc _).drew).trans hs14; have HS14 := Lib.hid (HS13.out.trans hst14); have y1 := HCe.out _ HS14.out; have y2 := HCf.out _ HS14.out; clear hs14 hst14
                  go_wp2_with fail
                  refine hK.out _ _ ?_ (fun hHeld => ?_)
                  · first | exact ⟨by assumption, by assumption⟩ | go_keep
                  clear hK K
                  try simp only [Act.put, List.setIfInBounds_toArray, List.set_cons_zero, List.set_cons_succ]
                  refine wpAnyH_take (i := 6) (v := ?_) (List.getElem?_toArray.trans rfl) (by kernel_rfl) (by kernel_rfl) (by kernel_rfl) (fun _ _ _ h => h) (Or.inl ⟨by rfl, ?_⟩) hHeld ?_
                  rotate_left
                  · intro V hV; obtain ⟨k0, k1⟩ := hV; go_simp; all_goals with_reducible rfl
                  try simp only [Act.put, List.setIfInBounds_toArray, List.set_cons_zero, List.set_cons_succ]
                  refine wpAnyH_take (i := 7) (v := ?_) (List.getElem?_toArray.trans rfl) (by kernel_rfl) (by kernel_rfl) (by kernel_rfl) (fun _ _ _ h => h) (Or.inl ⟨by rfl, ?_⟩) hHeld ?_
                  rotate_left
                  · intro V hV; obtain ⟨k0, k1⟩ := hV; go_simp; all_goals with_reducible rfl
                  try simp only [Act.put, List.setIfInBounds_toArray, List.set_cons_zero, List.set_cons_succ]
                  refine wpAnyH_take (i := 8) (v := ?_) (List.getElem?_toArray.trans rfl) (by kernel_rfl) (by kernel_rfl) (by kernel_rfl) (fun _ _ _ h => h) (Or.inl ⟨by rfl, ?_⟩) hHeld ?_
                  rotate_left
                  · intro V hV; obtain ⟨k0, k1⟩ := hV; go_simp; all_goals with_reducible rfl
                  try simp only [Act.put, List.setIfInBounds_toArray, List.set_cons_zero, List.set_cons_succ]
                  refine wpAnyH_take (i := 9) (v := ?_) (List.getElem?_toArray.trans rfl) (by kernel_rfl) (by kernel_rfl) (by kernel_rfl) (fun _ _ _ h => h) (Or.inl ⟨by rfl, ?_⟩) hHeld ?_
                  rotate_left
                  · intro V hV; obtain ⟨k0, k1⟩ := hV; go_simp; all_goals with_reducible rfl
                  try simp only [Act.put, List.setIfInBounds_toArray, List.set_cons_zero, List.set_cons_succ]
                  refine wpAnyH_take (i := 10) (v := ?_) (List.getElem?_toArray.trans rfl) (by kernel_rfl) (by kernel_rfl) (by kernel_rfl) (fun _ _ _ h => h) (Or.inl ⟨by rfl, ?_⟩) hHeld ?_
                  rotate_left
                  · intro V hV; obtain ⟨k0, k1⟩ := hV; go_simp; all_goals with_reducible rfl
                  try simp only [Act.put, List.setIfInBounds_toArray, List.set_cons_zero, List.set_cons_succ]
                  refine wpAnyH_take (i := 11) (v := ?_) (List.getElem?_toArray.trans rfl) (by kernel_rfl) (by kernel_rfl) (by kernel_rfl) (fun _ _ _ h => h) (Or.inl ⟨by rfl, ?_⟩) hHeld ?_
                  rotate_left
                  · intro V hV; obtain ⟨k0, k1⟩ := hV; go_simp; all_goals with_reducible rfl
                  try simp only [Act.put, List.setIfInBounds_toArray, List.set_cons_zero, List.set_cons_succ]
                  refine wpAnyH_take (i := 12) (v := ?_) (List.getElem?_toArray.trans rfl) (by kernel_rfl) (by kernel_rfl) (by kernel_rfl) (fun _ _ _ h => h) (Or.inl ⟨by rfl, ?_⟩) hHeld ?_
                  rotate_left
                  · intro V hV; obtain ⟨k0, k1⟩ := hV; go_simp; all_goals with_reducible rfl
                  try simp only [Act.put, List.setIfInBounds_toArray, List.set_cons_zero, List.set_cons_succ]
                  refine wpAnyH_take (i := 13) (v := ?_) (List.getElem?_toArray.trans rfl) (by kernel_rfl) (by kernel_rfl) (by kernel_rfl) (fun _ _ _ h => h) (Or.inl ⟨by rfl, ?_⟩) hHeld ?_
                  rotate_left
                  · intro V hV; obtain ⟨k0, k1⟩ := hV; go_simp; all_goals with_reducible rfl
                  try simp only [Act.put, List.setIfInBounds_toArray, List.set_cons_zero, List.set_cons_succ]
                  refine wpAnyH_take (i := 14) (v := ?_) (List.getElem?_toArray.trans rfl) (by kernel_rfl) (by kernel_rfl) (by kernel_rfl) (fun _ _ _ h => h) (Or.inl ⟨by rfl, ?_⟩) hHeld ?_
                  rotate_left
                  · intro V hV; obtain ⟨k0, k1⟩ := hV; go_simp; all_goals with_reducible rfl
                  try simp only [Act.put, List.setIfInBounds_toArray, List.set_cons_zero, List.set_cons_succ]
                  refine wpAnyH_take (i := 15) (v := ?_) (List.getElem?_toArray.trans rfl) (by kernel_rfl) (by kernel_rfl) (by kernel_rfl) (fun _ _ _ h => h) (Or.inl ⟨by rfl, ?_⟩) hHeld ?_
                  rotate_left
                  · intro V hV; obtain ⟨k0, k1⟩ := hV; go_simp; all_goals with_reducible rfl
                  try simp only [Act.put, List.setIfInBounds_toArray, List.set_cons_zero, List.set_cons_succ]
                  refine wpAnyH_take (i := 16) (v := ?_) (List.getElem?_toArray.trans rfl) (by kernel_rfl) (by kernel_rfl) (by kernel_rfl) (fun _ _ _ h => h) (Or.inl ⟨by rfl, ?_⟩) hHeld ?_
                  rotate_left
                  · intro V hV; obtain ⟨k0, k1⟩ := hV; go_simp; all_goals with_reducible rfl
                  try simp only [Act.put, List.setIfInBounds_toArray, List.set_cons_zero, List.set_cons_succ]
                  refine wpAnyH_take (i := 17) (v := ?_) (List.getElem?_toArray.trans rfl) (by kernel_rfl) (by kernel_rfl) (by kernel_rfl) (fun _ _ _ h => h) (Or.inl ⟨by rfl, ?_⟩) hHeld ?_
                  rotate_left
                  · intro V hV; obtain ⟨k0, k1⟩ := hV; go_simp; all_goals with_reducible rfl
                  try simp only [Act.put, List.setIfInBounds_toArray, List.set_cons_zero, List.set_cons_succ]
                  refine wpAnyH_take (i := 18) (v := ?_) (List.getElem?_toArray.trans rfl) (by kernel_rfl) (by kernel_rfl) (by kernel_rfl) (fun _ _ _ h => h) (Or.inl ⟨by rfl, ?_⟩) hHeld ?_
                  rotate_left
                  · intro V hV; obtain ⟨k0, k1⟩ := hV; go_simp; all_goals with_reducible rfl
                  try simp only [Act.put, List.setIfInBounds_toArray, List.set_cons_zero, List.set_cons_succ]
                  refine wpAnyH_take (i := 19) (v := ?_) (List.getElem?_toArray.trans rfl) (by kernel_rfl) (by kernel_rfl) (by kernel_rfl) (fun _ _ _ h => h) (Or.inl ⟨by rfl, ?_⟩) hHeld ?_
                  rotate_left
                  · intro V hV; obtain ⟨k0, k1⟩ := hV; go_simp; all_goals with_reducible rfl
                  try simp only [Act.put, List.setIfInBounds_toArray, List.set_cons_zero, List.set_cons_succ]
                  refine wpAnyH_take (i := 20) (v := ?_) (List.getElem?_toArray.trans rfl) (by kernel_rfl) (by kernel_rfl) (by kernel_rfl) (fun _ _ _ h => h) (Or.inl ⟨by rfl, ?_⟩) hHeld ?_
                  rotate_left
                  · intro V hV; obtain ⟨k0, k1⟩ := hV; go_simp; all_goals with_reducible rfl
                  try simp only [Act.put, List.setIfInBounds_toArray, List.set_cons_zero, List.set_cons_succ]
                  refine wpAnyH_take (i := 21) (v := ?_) (List.getElem?_toArray.trans rfl) (by kernel_rfl) (by kernel_rfl) (by kernel_rfl) (fun _ _ _ h => h) (Or.inl ⟨by rfl, ?_⟩) hHeld ?_
                  rotate_left
                  · intro V hV; obtain ⟨k0, k1⟩ := hV; go_simp; all_goals with_reducible rfl
                  try simp only [Act.put, List.setIfInBounds_toArray, List.set_cons_zero, List.set_cons_succ]
                  refine wpAnyH_take (i := 22) (v := ?_) (List.getElem?_toArray.trans rfl) (by kernel_rfl) (by kernel_rfl) (by kernel_rfl) (fun _ _ _ h => h) (Or.inl ⟨by rfl, ?_⟩) hHeld ?_
                  rotate_left
                  · intro V hV; obtain ⟨k0, k1⟩ := hV; go_simp; all_goals with_reducible rfl
                  try simp only [Act.put, List.setIfInBounds_toArray, List.set_cons_zero, List.set_cons_succ]
                  refine wpAnyH_take (i := 23) (v := ?_) (List.getElem?_toArray.trans rfl) (by kernel_rfl) (by kernel_rfl) (by kernel_rfl) (fun _ _ _ h => h) (Or.inl ⟨by rfl, ?_⟩) hHeld ?_
                  rotate_left
                  · intro V hV; obtain ⟨k0, k1⟩ := hV; go_simp; all_goals with_reducible rfl
                  try simp only [Act.put, List.setIfInBounds_toArray, List.set_cons_zero, List.set_cons_succ]
                  refine wpAnyH_done (by kernel_rfl) ?_ _
                  refine NoPanic.normal ?_
                  go_wp2_with fail
                  exact ⟨⟨k + 1, hlt, by go_num, HGU.out _ HS14.out⟩, by simp [intOf]; omega⟩
                exact AllReadyH.nil
              exact AllReadyH.nil
      · obtain rfl : k = n10 := by omega
        have hh10 := H10.out.still hst
        have hp20 : ∀ p ∈ L, p.2 < 20 := by
          rw [HNo.out]; intro p hp
          obtain ⟨a, _, _, e⟩ := (bldL_mem (by rw [← HN.out]; omega) p).1 hp
          rw [e]; exact am_lt _ (by omega)
        have hpl : L.length ≤ 200 := by rw [HNo.out]; have := bldL_len l; rw [← HN.out] at this; omega
        obtain ⟨e1, e2⟩ := hash_put hp20 hpl H0.out
        obtain ⟨L2, hL2⟩ : ∃ L2, L2 = putL L [35] 200 := ⟨_, rfl⟩
        have hok2 : TOk L2 := by rw [hL2]; exact HL.out.put _ _
        rw [← hL2] at e2
        have HP := Lib.hid (show Calls Tryz.prog 13 #[.pointer (some ⟨q, 0, none⟩), tx [35], .int .i64 200] U fun e w' => e = .returned (.int .i64 0) ∧ Held w w' (tT q L2) from by
          obtain ⟨W, h1, h2⟩ := hh10.use
          have := A.put h1 HL.out [35] 200 (by decide) ⟨by omega, by omega⟩
          rw [e1, ← hL2] at this
          exact this.mono fun e w' ⟨g1, g2⟩ => ⟨g1, h2 _ _ g2⟩)
        have HM2 := Lib.hid (fun V (h : Held w V (tT q L2)) => show Calls Tryz.prog 22 #[.pointer (some ⟨q, 0, none⟩), .string st] V (OutE V (ni (mtL L2 s)) 0) from by
          obtain ⟨W, h1, _⟩ := h.use
          have := A.mtch h1 hok2 s HSl.out
          rw [HTx.out, H0.out] at this
          exact this)
        obtain ⟨x0, hx0⟩ : ∃ x, s[0]? = some x := get_some (by
          rcases Nat.eq_zero_or_pos s.length with h | h
          · exact absurd (List.eq_nil_of_length_eq_zero h) (nmE_iff.1 H0.out).1
          · exact h)
        have hz : 0 < st.size := by rw [HSt.out, tx_size]; exact get_lt hx0
        have hsx : st[0]'hz = x0 := by
          have := (List.getElem?_eq_some_iff.1 hx0).2
          have h2 := HSt.out
          subst h2
          exact this
        have e3 : decide ((200 : Int) ∈ ni (mtL L2 s)) = !decide (x0 = 36) := by
          rw [show decide ((200 : Int) ∈ ni (mtL L2 s)) = decide (s[0]? ≠ some 36) from by
            rw [decide_eq_decide, ← e2]
            unfold ni
            rw [List.mem_map]
            exact ⟨fun ⟨y, h1, h2⟩ => by have : y = 200 := by omega
                                         rw [← this]; exact h1, fun h => ⟨200, h, rfl⟩⟩, hx0]
          by_cases e : x0 = 36
          · subst e; rfl
          · rw [decide_eq_false e]; exact decide_eq_true (fun h => e (Option.some.inj h))
        have HH := Lib.hid (fun V a (nn ca : Nat) (hn : nn = (ni (mtL L2 s)).length) (hA : NumsAt V a (ni (mtL L2 s))) => hasI_any V a (ni (mtL L2 s)) nn ca 200 hn (by have := mtL_len L2 s; omega) hA)
        rw [e3] at HH
        have hstl : (st.size : Int) = (st.size : Int) := rfl
        unfold tx at HP
        clear hst HV HA10 HO10 H10 hh10 hp20 hpl e1 e2 hL2 hok2 e3 hx0
        by_cases h36 : x0 = 36
        · have hv : (x0.toNat : Int) = 36 := by rw [h36]; rfl
          rw [decide_eq_true h36] at HH
          clear h36
          go_wp2_with (first
            | (go_at_call 13; ((with_reducible refine HP.out.mono ?_)); rintro e w21 ⟨rfl, hh21⟩)
            | (go_at_call 22; ((with_reducible refine (HM2.out _ hh21).mono ?_)); rintro e w22 ⟨a22, n22, c22, rfl, hn22, hA22, _, hs22⟩; have HN22 := Lib.hid hn22; have HA22 := Lib.hid hA22; clear hn22 hA22)
            | (go_at_call 32; ((with_reducible refine (HH.out _ _ _ _ HN22.out HA22.out).mono ?_)); rintro e w23 ⟨rfl, hw23⟩))
          go_ret
          exact ⟨by first | rfl | simp, by rw [← hw23]; exact hh21.ground.trans hs22⟩
        · have hv : ((x0.toNat : Int) == 36) = false := by
            have : ¬ (x0.toNat : Int) = 36 := fun e => h36 (UInt8.toNat_inj.1 (by have : (36 : UInt8).toNat = 36 := rfl; omega))
            simpa using this
          rw [decide_eq_false h36] at HH
          clear h36
          go_wp2_with (first
            | (go_at_call 13; ((with_reducible refine HP.out.mono ?_)); rintro e w21 ⟨rfl, hh21⟩)
            | (go_at_call 22; ((with_reducible refine (HM2.out _ hh21).mono ?_)); rintro e w22 ⟨a22, n22, c22, rfl, hn22, hA22, _, hs22⟩; have HN22 := Lib.hid hn22; have HA22 := Lib.hid hA22; clear hn22 hA22)
            | (go_at_call 32; ((with_reducible refine (HH.out _ _ _ _ HN22.out HA22.out).mono ?_)); rintro e w23 ⟨rfl, hw23⟩))
          go_ret
          exact ⟨by first | rfl | simp, by rw [← hw23]; exact hh21.ground.trans hs22⟩
  · have hx : (nmE s != 0) = true := by rw [bne_iff_ne]; omega
    generalize nmE s = x at *
    go_enter Tryz.func6, Tryz.ntmps6
    go_wp2_with (first
      | (go_at_call 26; ((with_reducible refine HWk.out.mono ?_)); rintro e w1 ⟨rfl, hs1⟩)
      | (go_at_call 11; ((with_reducible refine (HF1.out _ hs1).mono ?_)); rintro e w2 ⟨g, n2, c, rfl, hn2, ho2, hs2⟩; subst n2; have HO2 := Lib.hid ho2; clear ho2)
      | (go_at_call 27; ((with_reducible refine (HB1.out _ _ _ (ActsAt.of_own HO2.out HN.out)).mono ?_)); rintro e w8 ⟨q, rfl, hh8⟩; have HS8 := Lib.hid (show Still w2 w8 from hh8.ground); clear hh8)
      | (go_at_call 31; ((with_reducible refine (HC.out _).mono ?_)); rintro e w9 ⟨rfl, hs9⟩))
    go_ret
    exact ⟨by first | rfl | simp, (hs1.trans hs2).trans (HS8.out.trans hs9)⟩
end Go.Proofs.YtpmkokckjieidaaGreatDoor
