/- RouteOnce: the walk. No condition but that the program's routes keep their words. -/
import Derived.Test.YtdblhflebaffcaaRouteSortsW
import Derived.Test.YtdblhflebaffcaaHasInt
import Derived.Test.YtdblhflebaffcaaBase
namespace Go.Proofs.Ytdblhflebaffcaa
open Go.RowKit
set_option linter.unusedVariables false
set_option linter.unusedSimpArgs false
set_option maxRecDepth 100000

/-- What the rows hold, up to place i of row p. -/
def allL (L : List (List Int)) (p i : Nat) : List Int := (L.take p).flatten ++ ((L[p]?.getD []).take i)
theorem allL_step {L : List (List Int)} {p i : Nat} {r : List Int} {x : Int} (hr : L[p]? = some r) (hx : r[i]? = some x) : allL L p (i + 1) = allL L p i ++ [x] := by
  unfold allL
  rw [hr]
  simp only [Option.getD_some]
  rw [List.take_add_one, hx, List.append_assoc]; rfl
theorem allL_next {L : List (List Int)} {p : Nat} {r : List Int} (hr : L[p]? = some r) : allL L (p + 1) 0 = allL L p r.length := by
  unfold allL
  rw [hr, List.take_zero, List.append_nil, List.take_add_one, hr]
  simp
theorem allL_zero (L : List (List Int)) : allL L 0 0 = [] := by simp [allL]
theorem allL_end (L : List (List Int)) : allL L L.length 0 = L.flatten := by
  unfold allL
  rw [List.take_length, List.take_zero, List.append_nil]
theorem sum_two (f g : Nat → Nat) : ∀ l : List Nat, (l.map fun p => f p + g p).sum = (l.map f).sum + (l.map g).sum
  | [] => rfl
  | a :: l => by simp only [List.map_cons, List.sum_cons]; rw [sum_two f g l]; omega
theorem sum_one (a : Nat) : ∀ n : Nat, ((List.range n).map fun p => if a = p then 1 else 0).sum = if a < n then 1 else 0
  | 0 => by simp
  | n + 1 => by
    rw [List.range_succ, List.map_append, List.sum_append, sum_one a n]
    simp only [List.map_cons, List.map_nil, List.sum_cons, List.sum_nil, Nat.add_zero]
    by_cases h1 : a < n
    · rw [if_pos h1, if_neg (by omega), if_pos (by omega)]
    · by_cases h2 : a = n
      · rw [if_neg h1, if_pos h2, if_pos (by omega)]
      · rw [if_neg h1, if_neg h2, if_neg (by omega)]
theorem sum_nought : ∀ l : List Nat, (l.map fun _ => 0).sum = 0
  | [] => rfl
  | a :: l => by rw [List.map_cons, List.sum_cons, sum_nought l]
theorem plG_sum {n : Nat} (hn : 0 < n) : ∀ (K : List (List UInt8)) (i : Nat), ((List.range n).map fun p => (plG n p i K).length).sum = K.length
  | [], i => by
    have : (fun p => (plG n p i []).length) = fun _ => 0 := by funext p; rfl
    rw [this]
    exact sum_nought _
  | k :: K, i => by
    have h1 : (fun p => (plG n p i (k :: K)).length) = fun p => (if pt n k = p then 1 else 0) + (plG n p (i + 1) K).length := by
      funext p
      rw [plG, List.length_append]
      split <;> simp
    rw [h1, sum_two (fun p => if pt n k = p then 1 else 0), sum_one, if_pos (show pt n k < n from Nat.mod_lt _ hn), plG_sum hn K (i + 1)]
    simp; omega
theorem srL_flat {n : Nat} (hn : 0 < n) (K : List (List UInt8)) : (srL n K).flatten.length = K.length := by
  rw [List.length_flatten]
  unfold srL
  rw [List.map_map]
  exact plG_sum hn K 0
/-- What is told of one place of a row. -/
theorem place_of {n p i : Nat} {K : List (List UInt8)} {x : Int} (hn1 : 1 ≤ n) (hp : p < n) (hx : (plG n p 0 K)[i]? = some x) :
    ∃ (j : Nat) (k : List UInt8), x = (j : Int) ∧ K[j]? = some k ∧ pt n k = p ∧ x ∉ allL (srL n K) p i ∧ ∀ y, (0 < i → (plG n p 0 K)[i - 1]? = some y → y < x) := by
  obtain ⟨j, k, h1, h2, h3⟩ := plG_mem.1 (List.mem_of_getElem? hx)
  rw [Nat.zero_add] at h2
  have hr := plG_rise n p K 0
  rw [List.pairwise_iff_getElem] at hr
  obtain ⟨hi, ei⟩ := List.getElem?_eq_some_iff.1 hx
  refine ⟨j, k, h2, h1, h3, fun hm => ?_, fun y h0 hy => ?_⟩
  · unfold allL at hm
    rw [srL_get hp] at hm
    rcases List.mem_append.1 hm with hm | hm
    · obtain ⟨r, hr1, hr2⟩ := List.mem_flatten.1 hm
      obtain ⟨q, hq⟩ := List.getElem?_of_mem hr1
      rw [List.getElem?_take] at hq
      split at hq
      · rename_i hqp
        rw [srL_get (by omega)] at hq
        cases hq
        obtain ⟨j', k', g1, g2, g3⟩ := plG_mem.1 hr2
        rw [Nat.zero_add] at g2
        have : j' = j := by omega
        subst this
        rw [h1] at g1; cases g1
        omega
      · cases hq
    · simp only [Option.getD_some] at hm
      obtain ⟨q, hq⟩ := List.getElem?_of_mem hm
      rw [List.getElem?_take] at hq
      split at hq
      · rename_i hqi
        obtain ⟨g1, g2⟩ := List.getElem?_eq_some_iff.1 hq
        have := hr q i g1 hi hqi
        rw [g2, ei] at this
        omega
      · cases hq
  · obtain ⟨g1, g2⟩ := List.getElem?_eq_some_iff.1 hy
    have := hr (i - 1) i g1 hi (by omega)
    rw [g2, ei] at this
    exact this

set_option maxHeartbeats 8000000 in
theorem ronce_walk (A : RouteApi) (x : Int) (s : Sl (Sl UInt8)) (w : World) (hs : SlOk encSl (SlOk encB okB 1) 1 w s) :
    Calls Try.prog 5 #[.int .i64 x, .slice s.a s.len s.cap] w fun e w' => e = .returned (.bool true) ∧ Still w w' := by
  have HF := Lib.hid (fun V (h : Still w V) => few11_any s V (SlOk.stays (SlOk.stays okB_stays) w V s h hs))
  unfold Few11Post at HF
  obtain ⟨K, hK⟩ : ∃ K, K = few11 (kxs s.xs) := ⟨_, rfl⟩
  obtain ⟨v, hv⟩ : ∃ v, v = am x 8 := ⟨_, rfl⟩
  have hvl : v < 8 := by rw [hv]; exact am_lt _ (by omega)
  have HAm := Lib.hid (fun V => among_lit x 8 8 v rfl hv (by omega) (by omega) V)
  obtain ⟨n, hn⟩ : ∃ n, n = v + 1 := ⟨_, rfl⟩
  have hn1 : 1 ≤ n := by omega
  have hn8 : n ≤ 8 := by omega
  have hvn : (1 : Int) + (v : Int) = (n : Int) := by omega
  have hnw : i64w (n : Int) := ⟨by omega, by omega⟩
  have HCs := Lib.hid (fun (w0 w1 : World) (a : Option Addr) (m c : Nat) (ks : List (Sl UInt8)) (h : KsOwn w0.heap.size w1 a m c ks) (hk : kxs ks = few11 (kxs s.xs)) =>
    show m = K.length ∧ (∀ V, Still w1 V → Calls Try.prog 8 #[.int .i64 (n : Int), .slice a m c] V (OutR V (sortL n K) (stE n K))) ∧
      (∀ V (j : Nat) (k : List UInt8), Still w1 V → K[j]? = some k → ∃ b o ka kl kc, a = some ⟨b, o, none⟩ ∧ V.cell? ⟨b, o + j, none⟩ = some (.slice ka kl kc) ∧ ∀ U, Still V U → Calls Try.prog 14 #[.int .i64 (n : Int), .slice ka kl kc] U fun e w' => e = .returned (.tuple #[.int .i64 (rtP n k), .int .i64 (rtE n k)]) ∧ Still U w') from by
        obtain ⟨k1, k2, k3, k4, k5⟩ := few_use h hk
        rw [← hK] at hk
        refine ⟨by rw [k4, ← hk, List.length_map], fun V hV => ?_, fun V j k hV hj => ?_⟩
        · rw [← hk]
          exact A.sort n ks V a m c k4 (k1.still hV) k2 hnw (by omega) (fun k h => Nat.le_trans (k5 k h) (by omega))
        · rw [← hk, List.getElem?_map, Option.map_eq_some_iff] at hj
          obtain ⟨y, hy, rfl⟩ := hj
          obtain ⟨b, o, e, hc, hb, hw, hl⟩ := (k1.still hV).get hy
          exact ⟨b, o, y.a, y.len, y.cap, e, hc, fun U hU => A.of n y.xs U y.a y.len y.cap hl (hb.still hU) hw hnw (by rw [hl]; exact Nat.le_trans (k5 y (List.mem_of_getElem? hy)) (by omega))⟩)
  unfold OutR at HCs
  have HW := Lib.hid (works11 A w)
  have hKl : K.length ≤ 257 := by rw [hK]; exact few11_len _
  rcases stE_or n K with h0 | h0 | h0
  · obtain ⟨L, hL⟩ : ∃ L, L = srL n K := ⟨_, rfl⟩
    have e1 : sortL n K = L := by unfold sortL; rw [if_pos h0, Int.toNat_natCast]; exact hL.symm
    rw [h0, e1] at HCs
    have hLl : L.length = n := by rw [hL]; exact srL_length _ _
    have h64 := (stE_zero.1 h0).2.2.2
    have HFl := Lib.hid (show (allL L n 0).length = K.length by
      have := allL_end L
      rw [hLl] at this
      rw [this, hL]; exact srL_flat (by omega) K)
    have HPl := Lib.hid (fun (p i : Nat) (r : List Int) (y : Int) (hr : L[p]? = some r) (hy : r[i]? = some y) => show ∃ (j : Nat) (k : List UInt8), y = (j : Int) ∧ K[j]? = some k ∧ rtE n k = 0 ∧ rtP n k = (p : Int) ∧ decide (y ∈ allL L p i) = false ∧ (∀ z, 0 < i → r[i - 1]? = some z → z < y) ∧ allL L p (i + 1) = allL L p i ++ [y] ∧ (allL L p i).length ≤ 300 from by
      have hp : p < n := by rw [← hLl]; exact get_lt hr
      have er : r = plG n p 0 K := by rw [hL, srL_get hp] at hr; exact (Option.some.inj hr).symm
      have hstep := allL_step hr hy
      rw [er] at hy
      obtain ⟨j, k, q1, q2, q3, q4, q5⟩ := place_of hn1 hp hy
      have e0 : rtE n k = 0 := rtE_zero.2 ⟨by omega, by omega, h64 k (List.mem_of_getElem? q2)⟩
      refine ⟨j, k, q1, q2, e0, ?_, decide_eq_false (by rw [hL]; exact q4), fun z h1 h2 => q5 z h1 (by rw [← er]; exact h2), hstep, ?_⟩
      · unfold rtP; rw [if_pos e0]; unfold partOf; rw [if_neg (by omega), Int.toNat_natCast]
        show ((pt n k : Nat) : Int) = _
        rw [q3]
      · have h1 : (allL L p i).length ≤ L.flatten.length := by
          unfold allL
          have hsp : L.flatten = (L.take p).flatten ++ (L.drop p).flatten := by rw [← List.flatten_append, List.take_append_drop]
          rw [hsp, List.length_append, List.length_append]
          have h2 : L.drop p = r :: L.drop (p + 1) := by
            obtain ⟨g1, g2⟩ := List.getElem?_eq_some_iff.1 hr
            rw [List.drop_eq_getElem_cons g1, g2]
          rw [h2, hr, List.flatten_cons, List.length_append]
          simp only [Option.getD_some, List.length_take]
          omega
        have h2 : L.flatten.length = K.length := by rw [hL]; exact srL_flat (by omega) K
        omega)
    have HNx := Lib.hid (fun (p : Nat) (r : List Int) (hr : L[p]? = some r) => allL_next hr)
    have HLl := Lib.hid hLl
    have HLs := Lib.hid (show ∀ r ∈ L, r.length ≤ 300 from fun r hr => by rw [hL] at hr; exact Nat.le_trans (srL_small hr) (by omega))
    obtain ⟨M, hM⟩ : ∃ M, M = K.length := ⟨_, rfl⟩
    rw [← hM] at HCs HFl hKl
    have HKM := Lib.hid hM
    obtain ⟨i0, hii, hz0, hz1, hz2⟩ := info_parts infoIntW
    obtain ⟨sa, sl, sc, sx⟩ := s
    dsimp only at HF HCs ⊢
    clear hs hK h0 hL e1 hLl h64 hM hn hv hnw
    go_enter Try.func5, Try.ntmps5
    go_wp2_with (first
      | (go_at_call 13; ((with_reducible refine HW.out.mono ?_)); rintro e w0 ⟨rfl, hT0⟩; have HT0 := Lib.hid hT0; clear hT0)
      | (go_at_call 7; ((with_reducible refine (HF.out _ HT0.out).mono ?_)); rintro e w1 ⟨a1, n1, c1, ks, rfl, hown, hk, hT1⟩; obtain ⟨rfl, hC1, hC2⟩ := HCs.out w0 w1 a1 n1 c1 ks hown hk; have HC1 := Lib.hid hC1; have HC2 := Lib.hid hC2; have HT1 := Lib.hid (HT0.out.trans hT1); clear hown hk hT1 hC1 hC2)
      | (go_at_call 18; ((with_reducible refine (HAm.out _).mono ?_)); rintro e w2 ⟨rfl, rfl⟩)
      | (go_at_call 8; ((with_reducible refine (HC1.out _ (Turned.refl _ _)).mono ?_)); rintro e w3 ⟨a3, n3, c3, rs, rfl, hn3, hmap3, hR3, hW3, hT3⟩; have HT3 := Lib.hid hT3; have hc3 : n3 ≤ c3 := hW3.le; obtain rfl : n3 = n := (by rw [hn3, ← HLl.out, ← hmap3, List.length_map]); have HR3 := Lib.hid hR3; have HMap := Lib.hid hmap3; have HN3 := Lib.hid hn3; clear hR3 hmap3 hT3 hn3 hW3))
    have HC3 := Lib.hid (fun V (hV : Still w3 V) (j : Nat) (k : List UInt8) (hj : K[j]? = some k) => HC2.out V j k (HT3.out.trans hV) hj)
    have HRw := Lib.hid (fun V (hV : Still w3 V) (p : Nat) (hp : p < n3) => show ∃ r b o ra rc, L[p]? = some r ∧ a3 = some ⟨b, o, none⟩ ∧ V.cell? ⟨b, o + p, none⟩ = some (.slice ra r.length rc) ∧ r.length ≤ rc ∧ ∀ i y, r[i]? = some y → ∃ b' o', ra = some ⟨b', o', none⟩ ∧ V.cell? ⟨b', o' + i, none⟩ = some (.int .i64 y) from by
      obtain ⟨r, hr⟩ := get_some (l := rs) (i := p) (by rw [← HN3.out]; exact hp)
      obtain ⟨b, o, e, hc, hA, hW, hl⟩ := (HR3.out.still hV).get hr
      have q1 : L[p]? = some r.xs := by rw [← HMap.out, List.getElem?_map, hr]; rfl
      rw [hl] at hc
      exact ⟨r.xs, b, o, r.a, r.cap, q1, e, hc, by rw [← hl]; exact hW.le, hA⟩)
    have HO3 := Lib.hid (show (w3.alloc (.cells #[] 3)).ownsRow w3.heap.size 3 1 (.slice (some ⟨w3.heap.size, 0, none⟩) 0 0) 0 (ints (allL L 0 0)) from by rw [allL_zero]; exact World.ownsRow_made w3 #[] 0 (Nat.le_refl _) (by simp) (by simp))
    have hst3 : Still w3 (w3.alloc (.cells #[] 3)) := (Turned.refl _ _).alloc _
    have HZ := Lib.hid (show (allL L 0 0).length = 0 by rw [allL_zero]; rfl)
    have HT := Lib.hid (HT1.out.trans HT3.out)
    clear HF HCs HC1 HC2 HT0 HT1 HT3 HR3 HMap HN3 HAm
    go_loopw [7, 8] (fun hd pp wr => ∃ (p : Nat) (ao : Option Addr) (cc m : Nat), p ≤ n3 ∧ pp = .int .i64 p ∧ hd = .slice ao m cc ∧ (allL L p 0).length = m ∧ wr.ownsRow w3.heap.size 3 1 (.slice ao m cc) m (ints (allL L p 0)) ∧ Still w3 wr) (fun _ pp _ => n3 - (intOf pp).toNat)
    case atStart => exact ⟨0, _, 0, 0, Nat.zero_le _, rfl, rfl, HZ.out, HO3.out, hst3⟩
    case round =>
      clear HZ HO3 hst3
      obtain ⟨p, ao, cc, m, hp, rfl, rfl, hml, hown, hst⟩ := hrel
      obtain ⟨U, hU⟩ : ∃ U, U = wr := ⟨_, rfl⟩
      subst hU
      have HOw := Lib.hid hown
      have HSt := Lib.hid hst
      have HMl := Lib.hid hml
      clear hown hml
      by_cases hlt : p < n3
      · obtain ⟨r, b, o, ra, rc, hr, rfl, _⟩ := HRw.out U hst p hlt
        obtain ⟨q, hq⟩ : ∃ q, q = r.length := ⟨_, rfl⟩
        have HR := Lib.hid (fun V (hV : Still w3 V) => show ∃ ra rc, V.cell? ⟨b, o + p, none⟩ = some (.slice ra q rc) ∧ q ≤ rc ∧ ∀ i y, r[i]? = some y → ∃ b' o', ra = some ⟨b', o', none⟩ ∧ V.cell? ⟨b', o' + i, none⟩ = some (.int .i64 y) from by
          obtain ⟨r', b2, o2, ra', rc', hr', e', h1, h2, h3⟩ := HRw.out V hV p hlt
          rw [hr] at hr'; cases hr'
          cases e'
          rw [hq]
          exact ⟨ra', rc', h1, h2, h3⟩)
        have HPl2 := Lib.hid (fun (i : Nat) (hi : i < q) => show ∃ y, r[i]? = some y from get_some (by rw [← hq]; exact hi))
        have HRr := Lib.hid hr
        have HQ := Lib.hid hq
        have hq300 : q ≤ 300 := by rw [hq]; exact HLs.out r (List.mem_of_getElem? hr)
        clear hr hst HRw hq
        go_wp2_with fail
        go_loopw [7, 9] (fun hd ii w2 => ∃ (i : Nat) (ao : Option Addr) (cc m : Nat), i ≤ q ∧ ii = .int .i64 i ∧ hd = .slice ao m cc ∧ (allL L p i).length = m ∧ w2.ownsRow w3.heap.size 3 1 (.slice ao m cc) m (ints (allL L p i)) ∧ Still w3 w2) (fun _ ii _ => q - (intOf ii).toNat)
        case atStart => exact ⟨0, ao, cc, m, Nat.zero_le _, rfl, rfl, HMl.out, HOw.out, HSt.out⟩
        case round =>
          clear HOw HSt HMl
          obtain ⟨i, ao, cc, m, hi, rfl, rfl, hml, hown, hst⟩ := hrel
          obtain ⟨ra, rc, hc, hqc, hcells⟩ := HR.out wr hst
          have HMl := Lib.hid hml
          have HOw := Lib.hid hown
          have HSt := Lib.hid hst
          clear hml hown
          by_cases hiq : i < q
          · obtain ⟨y, hy⟩ := HPl2.out i hiq
            obtain ⟨j, k, rfl, hj, e0, eP, hno, hris, hstep, h300⟩ := HPl.out p i r y HRr.out hy
            obtain ⟨b', o', rfl, d1⟩ := hcells i _ hy
            obtain ⟨kb, ko, ka, kl, kc, hka, hkc, hOf⟩ := HC3.out wr hst j k hj
            subst hka
            have hjM : j < n1 := by rw [HKM.out]; exact get_lt hj
            have HOf := Lib.hid (hOf)
            rw [e0, eP] at HOf
            have HHas := Lib.hid (fun V (hV : Still wr V) => hasI_any V ao (allL L p i) m cc (j : Int) HMl.out.symm (by have := HMl.out; omega) (NumsAt.turned (NumsAt.of_own HOw.out HMl.out.symm) hV (fun _ _ hs => hs)))
            rw [hno] at HHas
            have HStep := Lib.hid hstep
            have hm300 : m ≤ 300 := by rw [← HMl.out]; exact h300
            have hpi : (p : Int) < (n3 : Int) := by omega
            have hiqi : (i : Int) < (q : Int) := by omega
            have hji : (j : Int) < (n1 : Int) := by omega
            have hji2 : ¬ (n1 : Int) ≤ (j : Int) := by omega
            have hj0 : ¬ (j : Int) < 0 := by omega
            clear hj e0 eP hno hstep h300 hst hOf HC3 HNx HPl
            rcases Nat.eq_zero_or_pos i with hi0' | hi0'
            · subst hi0'
              rw [Nat.add_zero] at d1
              clear hy hris hcells
              go_wp2_with (first
                | (go_at_call 19; ((with_reducible refine (HHas.out _ (Turned.refl _ _)).mono ?_)); rintro e w5 ⟨rfl, rfl⟩)
                | (go_at_call 14; ((with_reducible refine (HOf.out _ (Turned.refl _ _)).mono ?_)); rintro e w6 ⟨rfl, hT6⟩; have HT6 := Lib.hid (HSt.out.trans hT6); have HO6 := Lib.hid (ow_still HOw.out hT6); clear hT6)
                | (at_builtin; refine wpList_append_own_at _ rfl (.tmp 103) (.tmp 105) 33 rfl w3.heap.size 3 i0 (.int .i64 0) 1 8 Try.underlying33 hii hz0 hz1 hz2 rfl (by decide) (.slice ao m cc) m (ints (allL L p 0)) rfl (ow_still HO6.out ((Turned.refl _ _).alloc _)) ⟨w6.heap.size, 0, none⟩ 1 1 [.int .i64 (j : Int)] rfl rfl (ow_cells w6 _ _) (ow_ints rfl) (by unfold maxLen; omega) (by omega) (by have := HT6.out.size; simp; omega) ?_; intro v7 w7 hown7 hg7 _ hat7; obtain ⟨a7, c7, rfl⟩ := ow_slice hown7; have HS7 := Lib.hid (ow_put11 HT6.out HO6.out hg7); have HO7 := Lib.hid hown7; clear hown7 hg7 hat7))
              go_roundw
              case rel => exact ⟨0 + 1, a7, c7, m + 1, by omega, by go_num, by go_num, by rw [HStep.out, List.length_append, HMl.out]; rfl, by rw [HStep.out]; simpa [ints] using HO7.out, HS7.out⟩
              case measure => simp [intOf]; omega
            · obtain ⟨i', rfl⟩ : ∃ i', i = i' + 1 := ⟨i - 1, by omega⟩
              obtain ⟨z, hz⟩ := HPl2.out i' (by omega)
              have hzy := hris z (by omega) (by rw [Nat.add_sub_cancel]; exact hz)
              obtain ⟨b2, o2, e2, d2⟩ := hcells i' _ hz
              cases e2
              obtain ⟨i, hii'⟩ : ∃ i, i = i' + 1 := ⟨_, rfl⟩
              rw [← hii'] at hi hiq hiqi d1 HMl HOw HStep ⊢
              have hkm : (i : Int) - 1 = (i' : Int) := by omega
              have hwr : IntKind.i64.wrap (i' : Int) = (i' : Int) := by simp [IntKind.wrap, IntKind.signed, IntKind.bits]; omega
              have hkp : (0 : Int) < (i : Int) := by omega
              have hi2 : (i' : Int) < (q : Int) := by omega
              have hno' : ¬ ((i' : Int) < 0) := by omega
              have hzz : ¬ (j : Int) ≤ z := by omega
              have HIe := Lib.hid hii'
              clear hy hris hcells hz hzy hii' hi0'
              go_wp2_with (first
                | (go_at_call 19; ((with_reducible refine (HHas.out _ (Turned.refl _ _)).mono ?_)); rintro e w5 ⟨rfl, rfl⟩)
                | (go_at_call 14; ((with_reducible refine (HOf.out _ (Turned.refl _ _)).mono ?_)); rintro e w6 ⟨rfl, hT6⟩; have HT6 := Lib.hid (HSt.out.trans hT6); have HO6 := Lib.hid (ow_still HOw.out hT6); clear hT6)
                | (at_builtin; refine wpList_append_own_at _ rfl (.tmp 103) (.tmp 105) 33 rfl w3.heap.size 3 i0 (.int .i64 0) 1 8 Try.underlying33 hii hz0 hz1 hz2 rfl (by decide) (.slice ao m cc) m (ints (allL L p i)) rfl (ow_still HO6.out ((Turned.refl _ _).alloc _)) ⟨w6.heap.size, 0, none⟩ 1 1 [.int .i64 (j : Int)] rfl rfl (ow_cells w6 _ _) (ow_ints rfl) (by unfold maxLen; omega) (by omega) (by have := HT6.out.size; simp; omega) ?_; intro v7 w7 hown7 hg7 _ hat7; obtain ⟨a7, c7, rfl⟩ := ow_slice hown7; have HS7 := Lib.hid (ow_put11 HT6.out HO6.out hg7); have HO7 := Lib.hid hown7; clear hown7 hg7 hat7))
              go_roundw
              case rel => exact ⟨i + 1, a7, c7, m + 1, by have := HIe.out; omega, by go_num, by go_num, by rw [HStep.out, List.length_append, HMl.out]; rfl, by rw [HStep.out]; simpa [ints] using HO7.out, HS7.out⟩
              case measure => have := HIe.out; simp [intOf]; omega
          · obtain rfl : i = q := by omega
            have HN := Lib.hid (HNx.out p r HRr.out)
            rw [← HQ.out] at HN
            clear hcells hst
            go_wp2_with fail
            go_roundw
            case rel => exact ⟨p + 1, ao, cc, m, by omega, by go_num, rfl, by rw [HN.out]; exact HMl.out, by rw [HN.out]; exact HOw.out, HSt.out⟩
            case measure => simp [intOf]; omega
      · obtain rfl : p = n3 := by omega
        have hm : m = n1 := by rw [← HMl.out]; exact HFl.out
        subst hm
        clear hst HRw
        go_wp2_with fail
        go_ret
        exact ⟨by first | rfl | simp, HT.out.trans HSt.out⟩
  · exfalso
    unfold stE at h0
    rw [if_neg (by omega)] at h0
    split at h0 <;> omega
  · have e1 : sortL n K = [] := if_neg (by omega)
    rw [h0, e1] at HCs
    obtain ⟨sa, sl, sc, sx⟩ := s
    dsimp only at HF HCs ⊢
    clear hs hK h0 e1 hn hv hnw
    go_enter Try.func5, Try.ntmps5
    go_wp2_with (first
      | (go_at_call 13; ((with_reducible refine HW.out.mono ?_)); rintro e w0 ⟨rfl, hT0⟩; have HT0 := Lib.hid hT0; clear hT0)
      | (go_at_call 7; ((with_reducible refine (HF.out _ HT0.out).mono ?_)); rintro e w1 ⟨a1, n1, c1, ks, rfl, hown, hk, hT1⟩; obtain ⟨rfl, hC1, hC2⟩ := HCs.out w0 w1 a1 n1 c1 ks hown hk; have HC1 := Lib.hid hC1; have HT1 := Lib.hid (HT0.out.trans hT1); clear hown hk hT1 hC1 hC2)
      | (go_at_call 18; ((with_reducible refine (HAm.out _).mono ?_)); rintro e w2 ⟨rfl, rfl⟩)
      | (go_at_call 8; ((with_reducible refine (HC1.out _ (Turned.refl _ _)).mono ?_)); rintro e w3 ⟨a3, n3, c3, rs, rfl, hn3, hmap3, hR3, hW3, hT3⟩; have HT3 := Lib.hid hT3; obtain rfl : n3 = 0 := (by have := congrArg List.length hmap3; rw [List.length_map] at this; rw [hn3, this]; rfl); clear hR3 hmap3 hT3 hn3 hW3))
    go_ret
    exact ⟨by first | rfl | simp, HT1.out.trans HT3.out⟩
end Go.Proofs.Ytdblhflebaffcaa
