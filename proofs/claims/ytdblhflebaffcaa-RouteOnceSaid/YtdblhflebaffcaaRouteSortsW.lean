/- RouteSorts, RouteOne: the walks. No condition but that the program's routes keep their words. -/
import Derived.Test.YtdblhflebaffcaaRouteApi
namespace Go.Proofs.Ytdblhflebaffcaa
open Go.RowKit
set_option linter.unusedVariables false
set_option linter.unusedSimpArgs false
set_option maxRecDepth 100000

theorem few11_len (K : List (List UInt8)) : (few11 K).length ≤ 257 := by unfold few11; rw [List.length_map, List.length_take]; omega
theorem few11_small {K : List (List UInt8)} {k : List UInt8} (h : k ∈ few11 K) : k.length ≤ 65 := by
  unfold few11 at h
  obtain ⟨x, _, rfl⟩ := List.mem_map.1 h
  rw [List.length_take]; omega
/-- What few hands out, as the calls want it. -/
theorem few_use {w w' : World} {a : Option Addr} {n c : Nat} {ks : List (Sl UInt8)} {K : List (List UInt8)} (h : KsOwn w.heap.size w' a n c ks) (hk : kxs ks = few11 K) : KysAt w' a ks ∧ SlW a n c ∧ n ≤ 257 ∧ n = ks.length ∧ ∀ k ∈ ks, k.xs.length ≤ 65 := by
  have hl : ks.length ≤ 257 := by have := few11_len K; rw [← hk, List.length_map] at this; exact this
  refine ⟨h.kys, SlW.of_own h.own, by rw [h.len]; exact hl, h.len, fun k hkk => few11_small (K := K) ?_⟩
  rw [← hk]
  exact List.mem_map.2 ⟨k, hkk, rfl⟩
theorem sortL_small {n : Int} {K : List (List UInt8)} {r : List Int} (h : r ∈ sortL n K) : r.length ≤ K.length := by
  unfold sortL at h
  split at h
  · exact srL_small h
  · cases h
theorem sortL_len (n : Int) (K : List (List UInt8)) : (sortL n K).length ≤ 8 := by
  unfold sortL
  split
  · rename_i h
    rw [srL_length]
    have := (stE_zero.1 h).2.1; omega
  · simp

set_option maxHeartbeats 4000000 in
theorem rsorts_walk (A : RouteApi) (n : Int) (s : Sl (Sl UInt8)) (w : World) (hn : i64w n) (hs : SlOk encSl (SlOk encB okB 1) 1 w s) :
    Calls Try.prog 3 #[.int .i64 n, .slice s.a s.len s.cap] w fun e w' => e = .returned (.bool true) ∧ Still w w' := by
  have HF := Lib.hid (few11_any s w hs)
  unfold Few11Post at HF
  obtain ⟨K, hK⟩ : ∃ K, K = few11 (kxs s.xs) := ⟨_, rfl⟩
  obtain ⟨L, hL⟩ : ∃ L, L = sortL n K := ⟨_, rfl⟩
  have hL8 : L.length ≤ 8 := by rw [hL]; exact sortL_len _ _
  have hLs : ∀ r ∈ L, r.length ≤ 257 := fun r hr => Nat.le_trans (sortL_small (by rw [← hL]; exact hr)) (by rw [hK]; exact few11_len _)
  have HCs := Lib.hid (fun (w1 : World) (a : Option Addr) (m c : Nat) (ks : List (Sl UInt8)) (h : KsOwn w.heap.size w1 a m c ks) (hk : kxs ks = few11 (kxs s.xs)) =>
    show ∀ V, Still w1 V → (Calls Try.prog 8 #[.int .i64 n, .slice a m c] V (OutR V L (stE n K)) ∧ Calls Try.prog 9 #[.int .i64 n, .slice a m c] V (OutR V L (stE n K))) ∧
      ((Calls Try.prog 10 #[.int .i64 n, .slice a m c] V fun e w' => e = .returned (.tuple #[.int .i64 (spN n K), .int .i64 (stE n K)]) ∧ Still V w') ∧ (Calls Try.prog 11 #[.int .i64 n, .slice a m c] V fun e w' => e = .returned (.tuple #[.int .i64 (spN n K), .int .i64 (stE n K)]) ∧ Still V w')) from fun V hV => by
        obtain ⟨k1, k2, k3, k4, k5⟩ := few_use h hk
        rw [← hK] at hk
        rw [hL, ← hk]
        exact ⟨⟨A.sort n ks V a m c k4 (k1.still hV) k2 hn (by omega) (fun k h => Nat.le_trans (k5 k h) (by omega)), zrtsort_any n ks V a m c k4 (k1.still hV) (by omega) (fun k h => Nat.le_trans (k5 k h) (by omega))⟩,
          ⟨A.spread n ks V a m c k4 (k1.still hV) k2 hn (by omega) (fun k h => Nat.le_trans (k5 k h) (by omega)), zrtspread_any n ks V a m c k4 (k1.still hV) (by omega) (fun k h => Nat.le_trans (k5 k h) (by omega))⟩⟩)
  unfold OutR at HCs
  have HW := Lib.hid (fun V => works11 A V)
  have SI := Lib.hid (fun V (a b : Option Addr) (r : List Int) (hr : r ∈ L) (n m ca cb : Nat) (hn : n = r.length) (hm : m = r.length) (hA : NumsAt V a r) (hB : NumsAt V b r) => sameI_true11 V a b r n m ca cb hn hm (by have := hLs r hr; omega) hA hB)
  obtain ⟨sa, sl, sc, sx⟩ := s
  dsimp only at HF HCs ⊢
  generalize stE n K = er at *
  generalize spN n K = sp at *
  obtain ⟨N, hN⟩ : ∃ N, N = L.length := ⟨_, rfl⟩
  have HNl := Lib.hid hN
  have hN8 : N ≤ 8 := by omega
  clear hs hn hK hL hLs hL8 hN
  go_enter Try.func3, Try.ntmps3
  go_wp2_with (first
    | (go_at_call 7; ((with_reducible refine HF.out.mono ?_)); rintro e w1 ⟨a1, n1, c1, ks, rfl, hown, hk, hT1⟩; have HC1 := Lib.hid (HCs.out w1 a1 n1 c1 ks hown hk); have HT1 := Lib.hid hT1; clear hown hk hT1)
    | (go_at_call 8; ((with_reducible refine (HC1.out _ (Turned.refl _ _)).1.1.mono ?_)); rintro e w2 ⟨a2, n2, c2, rs, rfl, hn2, hmap2, hR2, hW2, hT2⟩; have HR2 := Lib.hid hR2; have HMap2 := Lib.hid hmap2; have HT2 := Lib.hid hT2; have hc2 : n2 ≤ c2 := hW2.le; obtain rfl : n2 = N := (by rw [hn2, HNl.out, ← hmap2, List.length_map]); have HN2 := Lib.hid hn2; clear hR2 hmap2 hT2 hn2 hW2)
    | (go_at_call 9; ((with_reducible refine (HC1.out _ HT2.out).1.2.mono ?_)); rintro e w3 ⟨a3, n3, c3, rs3, rfl, hn3, hmap3, hR3, hW3, hT3⟩; have HR3 := Lib.hid hR3; have HMap3 := Lib.hid hmap3; have HT3 := Lib.hid hT3; have hc3 : n3 ≤ c3 := hW3.le; obtain rfl : n3 = n2 := (by rw [hn3, HNl.out, ← hmap3, List.length_map]); have HN3 := Lib.hid hn3; clear hR3 hmap3 hT3 hn3 hW3)
    | (go_at_call 10; ((with_reducible refine (HC1.out _ (HT2.out.trans HT3.out)).2.1.mono ?_)); rintro e w4 ⟨rfl, hT4⟩; have HT4 := Lib.hid hT4; clear hT4)
    | (go_at_call 11; ((with_reducible refine (HC1.out _ ((HT2.out.trans HT3.out).trans HT4.out)).2.2.mono ?_)); rintro e w5 ⟨rfl, hT5⟩; have HT5 := Lib.hid hT5; clear hT5))
  have HG := Lib.hid (fun V (hV : Still w5 V) (i : Nat) (h : i < n3) => show ∃ q b o b' o' xa xc ya yc, q ∈ L ∧ a2 = some ⟨b, o, none⟩ ∧ a3 = some ⟨b', o', none⟩ ∧ V.cell? ⟨b, o + i, none⟩ = some (.slice xa q.length xc) ∧ V.cell? ⟨b', o' + i, none⟩ = some (.slice ya q.length yc) ∧ NumsAt V xa q ∧ NumsAt V ya q from by
    obtain ⟨r, hr⟩ := get_some (l := rs) (i := i) (by rw [← HN2.out]; exact h)
    obtain ⟨r', hr'⟩ := get_some (l := rs3) (i := i) (by rw [← HN3.out]; exact h)
    obtain ⟨b, o, e, hc, hA, _, hl⟩ := (HR2.out.still (((HT3.out.trans HT4.out).trans HT5.out).trans hV)).get hr
    obtain ⟨b', o', e', hc', hA', _, hl'⟩ := (HR3.out.still ((HT4.out.trans HT5.out).trans hV)).get hr'
    have q1 : L[i]? = some r.xs := by rw [← HMap2.out, List.getElem?_map, hr]; rfl
    have q2 : L[i]? = some r'.xs := by rw [← HMap3.out, List.getElem?_map, hr']; rfl
    have q3 : r'.xs = r.xs := by rw [q1] at q2; exact (Option.some.inj q2).symm
    rw [hl] at hc
    rw [hl', q3] at hc'
    rw [q3] at hA'
    exact ⟨r.xs, b, o, b', o', r.a, r.cap, r'.a, r'.cap, List.mem_of_getElem? q1, e, e', hc, hc', hA, hA'⟩)
  have HT := Lib.hid (HT1.out.trans (((HT2.out.trans HT3.out).trans HT4.out).trans HT5.out))
  clear HF HCs HC1 HR2 HR3 HMap2 HMap3 HN2 HN3 HT1 HT2 HT3 HT4 HT5 HNl
  go_loopw [13] (fun i wr => ∃ k : Nat, k ≤ n3 ∧ i = .int .i64 k ∧ Still w5 wr) (fun i _ => n3 - (intOf i).toNat)
  case atStart => exact ⟨0, Nat.zero_le _, rfl, Turned.refl _ _⟩
  case round =>
    obtain ⟨k, hk, rfl, hst⟩ := hrel
    by_cases hlt : k < n3
    · obtain ⟨q, b, o, b', o', xa, xc, ya, yc, hq, rfl, rfl, d1, d2, hA, hB⟩ := HG.out wr hst k hlt
      have HSI := Lib.hid (fun V (h : Still wr V) => SI.out V xa ya q hq q.length q.length xc yc rfl rfl (NumsAt.turned hA h (fun _ _ hs => hs)) (NumsAt.turned hB h (fun _ _ hs => hs)))
      have HCl := Lib.hid (fun V (h : Still wr V) => And.intro (still_cell h d1 rfl) (still_cell h d2 rfl))
      have HSt := Lib.hid hst
      obtain ⟨f1, f2⟩ := HCl.out wr.drew (Turned.refl _ _).drew
      have hsd : Still wr wr.drew := (Turned.refl _ _).drew
      generalize q.length = z at *
      clear hq hA hB HG hst
      go_wp2_with fail
      go_region_held3 (fun V => V.cell? ⟨b, o + k, none⟩ = some (.slice xa z xc) ∧ V.cell? ⟨b', o' + k, none⟩ = some (.slice ya z yc)) (first | exact ⟨by assumption, by assumption⟩ | go_keep) (first
        | (go_at_call 12; ((with_reducible refine (HSI.out _ (by assumption)).mono ?_)); rintro e w6 ⟨rfl, hT6⟩; have hs6 := Turned.trans hsd hT6; obtain ⟨g1, g2⟩ := HCl.out _ hs6))
      all_goals go_wp2_with fail
      all_goals go_roundw
      all_goals first
        | exact ⟨k + 1, by omega, by go_num, HSt.out.trans hs6⟩
        | (simp [intOf]; omega)
    · obtain rfl : k = n3 := by omega
      clear HG
      go_wp2_with (go_at_call 13; ((with_reducible refine (HW.out _).mono ?_)); rintro e w8 ⟨rfl, hT8⟩)
      go_ret
      exact ⟨by first | rfl | simp, (HT.out.trans hst).trans hT8⟩

theorem plG_all {p : Nat} : ∀ (K : List (List UInt8)) (i : Nat), (∀ k ∈ K, pt 1 k = p) → (plG 1 p i K).length = K.length
  | [], i, _ => rfl
  | k :: K, i, h => by
    rw [plG, if_pos (h k (by simp)), List.length_append, plG_all K (i + 1) (fun x hx => h x (by simp [hx]))]
    simp; omega

set_option maxHeartbeats 2000000 in
theorem rone_walk (A : RouteApi) (s : Sl (Sl UInt8)) (w : World) (hs : SlOk encSl (SlOk encB okB 1) 1 w s) :
    Calls Try.prog 6 #[.slice s.a s.len s.cap] w fun e w' => e = .returned (.bool true) ∧ Still w w' := by
  have HF := Lib.hid (fun V (h : Still w V) => few11_any s V (SlOk.stays (SlOk.stays okB_stays) w V s h hs))
  unfold Few11Post at HF
  obtain ⟨K, hK⟩ : ∃ K, K = few11 (kxs s.xs) := ⟨_, rfl⟩
  have HCs := Lib.hid (fun (w0 w1 : World) (a : Option Addr) (m c : Nat) (ks : List (Sl UInt8)) (h : KsOwn w0.heap.size w1 a m c ks) (hk : kxs ks = few11 (kxs s.xs)) =>
    show m = K.length ∧ ∀ V, Still w1 V → Calls Try.prog 8 #[.int .i64 1, .slice a m c] V (OutR V (sortL 1 K) (stE 1 K)) ∧ (Calls Try.prog 10 #[.int .i64 1, .slice a m c] V fun e w' => e = .returned (.tuple #[.int .i64 (spN 1 K), .int .i64 (stE 1 K)]) ∧ Still V w') from by
        obtain ⟨k1, k2, k3, k4, k5⟩ := few_use h hk
        rw [← hK] at hk
        refine ⟨by rw [k4, ← hk, List.length_map], fun V hV => ?_⟩
        rw [← hk]
        exact ⟨A.sort 1 ks V a m c k4 (k1.still hV) k2 ⟨by omega, by omega⟩ (by omega) (fun k h => Nat.le_trans (k5 k h) (by omega)), A.spread 1 ks V a m c k4 (k1.still hV) k2 ⟨by omega, by omega⟩ (by omega) (fun k h => Nat.le_trans (k5 k h) (by omega))⟩)
  unfold OutR at HCs
  have HW := Lib.hid (works11 A w)
  obtain ⟨N, hN⟩ : ∃ N, N = K.length := ⟨_, rfl⟩
  rw [← hN] at HCs
  rcases stE_or 1 K with h0 | h0 | h0
  · have e1 : sortL 1 K = [plG 1 0 0 K] := by unfold sortL; rw [if_pos h0]; rfl
    have e2 : spN 1 K = 0 := by
      unfold spN
      rw [if_pos h0, show srL ((1 : Int).toNat) K = [plG 1 0 0 K] from rfl]
      simp [hiL, loL]
    have hlen : (plG 1 0 0 K).length = N := by rw [hN]; exact plG_all K 0 (fun k _ => Nat.mod_one _)
    rw [h0, e1, e2] at HCs
    have HG := Lib.hid (fun (w2 : World) (a2 : Option Addr) (n2 : Nat) (rs : List (Sl Int)) (hn2 : n2 = rs.length) (hmap : rs.map (·.xs) = [plG 1 0 0 K]) (hR : RwsAt w2 a2 rs) => show n2 = 1 ∧ ∃ b o ra rc, a2 = some ⟨b, o, none⟩ ∧ w2.cell? ⟨b, o, none⟩ = some (.slice ra N rc) from by
      have hl : n2 = 1 := by have := congrArg List.length hmap; rw [List.length_map] at this; rw [hn2, this]; rfl
      obtain ⟨r, hr⟩ := get_some (l := rs) (i := 0) (by omega)
      obtain ⟨b, o, e, hc, hA, _, hl2⟩ := hR.get hr
      have hx : r.xs = plG 1 0 0 K := by
        have : (rs.map (·.xs))[0]? = some r.xs := by rw [List.getElem?_map, hr]; rfl
        rw [hmap] at this
        exact (Option.some.inj this).symm
      rw [hl2, hx, hlen] at hc
      exact ⟨hl, b, o, r.a, r.cap, e, hc⟩)
    obtain ⟨sa, sl, sc, sx⟩ := s
    dsimp only at HF HCs ⊢
    clear hs hK h0 e1 e2 hlen hN
    go_enter Try.func6, Try.ntmps6
    go_wp2_with (first
      | (go_at_call 13; ((with_reducible refine HW.out.mono ?_)); rintro e w0 ⟨rfl, hT0⟩; have HT0 := Lib.hid hT0; clear hT0)
      | (go_at_call 7; ((with_reducible refine (HF.out _ HT0.out).mono ?_)); rintro e w1 ⟨a1, n1, c1, ks, rfl, hown, hk, hT1⟩; obtain ⟨rfl, hC1⟩ := HCs.out w0 w1 a1 n1 c1 ks hown hk; have HC1 := Lib.hid hC1; have HT1 := Lib.hid (HT0.out.trans hT1); clear hown hk hT1 hC1)
      | (go_at_call 8; ((with_reducible refine (HC1.out _ (Turned.refl _ _)).1.mono ?_)); rintro e w2 ⟨a2, n2, c2, rs, rfl, hn2, hmap2, hR2, hW2, hT2⟩; have HT2 := Lib.hid hT2; have hc2 : n2 ≤ c2 := hW2.le; obtain ⟨rfl, b, o, ra, rc, rfl, hc⟩ := HG.out w2 a2 n2 rs hn2 hmap2 hR2; have HCl := Lib.hid (fun V (h : Still w2 V) => still_cell h hc rfl); clear hR2 hmap2 hT2 hn2 hW2)
      | (go_at_call 10; ((with_reducible refine (HC1.out _ HT2.out).2.mono ?_)); rintro e w3 ⟨rfl, hT3⟩; have HT3 := Lib.hid hT3; have hc3 := HCl.out _ hT3; clear hT3))
    go_ret
    exact ⟨by first | rfl | simp, (HT1.out.trans HT2.out).trans HT3.out⟩
  · exfalso
    unfold stE at h0
    rw [if_neg (by omega)] at h0
    split at h0 <;> omega
  · rw [h0] at HCs
    obtain ⟨sa, sl, sc, sx⟩ := s
    dsimp only at HF HCs ⊢
    clear hs hK h0 hN
    go_enter Try.func6, Try.ntmps6
    go_wp2_with (first
      | (go_at_call 13; ((with_reducible refine HW.out.mono ?_)); rintro e w0 ⟨rfl, hT0⟩; have HT0 := Lib.hid hT0; clear hT0)
      | (go_at_call 7; ((with_reducible refine (HF.out _ HT0.out).mono ?_)); rintro e w1 ⟨a1, n1, c1, ks, rfl, hown, hk, hT1⟩; obtain ⟨rfl, hC1⟩ := HCs.out w0 w1 a1 n1 c1 ks hown hk; have HC1 := Lib.hid hC1; have HT1 := Lib.hid (HT0.out.trans hT1); clear hown hk hT1 hC1)
      | (go_at_call 8; ((with_reducible refine (HC1.out _ (Turned.refl _ _)).1.mono ?_)); rintro e w2 ⟨a2, n2, c2, rs, rfl, hn2, hmap2, hR2, hW2, hT2⟩; have HT2 := Lib.hid hT2; clear hR2 hmap2 hT2 hn2 hW2)
      | (go_at_call 10; ((with_reducible refine (HC1.out _ HT2.out).2.mono ?_)); rintro e w3 ⟨rfl, hT3⟩; have HT3 := Lib.hid hT3; clear hT3))
    go_ret
    exact ⟨by first | rfl | simp, (HT1.out.trans HT2.out).trans HT3.out⟩
end Go.Proofs.Ytdblhflebaffcaa
