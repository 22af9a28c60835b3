/- LedgerOnce: the walk. No condition but the words. -/
import Derived.Test.YtpkodmclbobkpaaLgHeld
import Derived.Test.YtpkodmclbobkpaaLgMath
namespace Go.Proofs.Ytpkodmclbobkpaa
open Go.RowKit
set_option linter.unusedVariables false
set_option linter.unusedSimpArgs false
set_option maxRecDepth 100000

def kdN : Option Bool → Int
  | none => 0
  | some true => 1
  | some false => 2
/-- So many spans have been gone through. -/
structure OnceAt (M : LgM) (k i j : Nat) (x kk : Int) : Prop where
  hi : i = (spOf (M.L.take k) true).length
  hj : j = (spOf (M.L.take k) false).length
  hx : x = endF M.b (M.L.take k)
  hk : kk = kdN (lastK none (M.L.take k))
theorem OnceAt.sum {M : LgM} {k i j : Nat} {x kk : Int} (h : OnceAt M k i j x kk) (hk : k ≤ M.L.length) : i + j = k := by
  rw [h.hi, h.hj, sp_both, List.length_take]; omega
theorem OnceAt.start (M : LgM) : OnceAt M 0 0 0 M.b 0 := ⟨rfl, rfl, rfl, rfl⟩
theorem sp_split (l : List Pc) (k : Nat) (kd : Bool) : spOf l kd = spOf (l.take k) kd ++ spOf (l.drop k) kd := by
  conv => lhs; rw [← List.take_append_drop k l]
  unfold spOf; rw [List.filter_append, List.map_append]
theorem sp_here {l : List Pc} {k : Nat} {x : Pc} (hx : l[k]? = some x) : (spOf l x.2.2)[(spOf (l.take k) x.2.2).length]? = some (x.1, x.2.1) ∧ (spOf (l.take (k + 1)) x.2.2).length = (spOf (l.take k) x.2.2).length + 1 ∧ ∀ kd, kd ≠ x.2.2 → (spOf (l.take (k + 1)) kd).length = (spOf (l.take k) kd).length := by
  have h1 := spOf_snoc x.2.2 hx
  rw [if_pos rfl] at h1
  refine ⟨by rw [sp_split l (k + 1) x.2.2, h1]; simp, by rw [h1]; simp, fun kd hkd => ?_⟩
  have h2 := spOf_snoc kd hx
  rw [if_neg (fun e => hkd e.symm)] at h2
  rw [h2]
theorem OnceAt.yes {M : LgM} {k i j : Nat} {a kk : Int} {x : Pc} (h : OnceAt M k i j a kk) (hM : M.Ok) (hx : M.L[k]? = some x) (ht : x.2.2 = true) :
    (spOf M.L true)[i]? = some (a, x.2.1) ∧ kk ≠ 1 ∧ a < x.2.1 ∧ OnceAt M (k + 1) (i + 1) j x.2.1 1 := by
  obtain ⟨c1, c2, c3, c4, c5⟩ := chn_at hM.ch hx
  obtain ⟨s1, s2, s3⟩ := sp_here hx
  rw [ht] at s1 s2 s3 c3 c5
  rw [← h.hx] at c1
  refine ⟨by rw [h.hi, s1, c1], ?_, by omega, ⟨by rw [s2, h.hi], by rw [s3 false (by simp), h.hj], c4.symm, by rw [c5]; rfl⟩⟩
  rw [h.hk]
  intro e
  apply c3
  cases hl : lastK none (M.L.take k) with
  | none => rw [hl] at e; simp [kdN] at e
  | some v => cases v with
    | true => rfl
    | false => rw [hl] at e; simp [kdN] at e
theorem OnceAt.no {M : LgM} {k i j : Nat} {a kk : Int} {x : Pc} (h : OnceAt M k i j a kk) (hM : M.Ok) (hx : M.L[k]? = some x) (ht : x.2.2 = false) :
    (spOf M.L false)[j]? = some (a, x.2.1) ∧ kk ≠ 2 ∧ a < x.2.1 ∧ (∀ p, (spOf M.L true)[i]? = some p → p.1 ≠ a) ∧ OnceAt M (k + 1) i (j + 1) x.2.1 2 := by
  obtain ⟨c1, c2, c3, c4, c5⟩ := chn_at hM.ch hx
  obtain ⟨s1, s2, s3⟩ := sp_here hx
  rw [ht] at s1 s2 s3 c3 c5
  rw [← h.hx] at c1
  refine ⟨by rw [h.hj, s1, c1], ?_, by omega, fun p hp => ?_, ⟨by rw [s3 true (by simp), h.hi], by rw [s2, h.hj], c4.symm, by rw [c5]; rfl⟩⟩
  · rw [h.hk]
    intro e
    apply c3
    cases hl : lastK none (M.L.take k) with
    | none => rw [hl] at e; simp [kdN] at e
    | some v => cases v with
      | false => rfl
      | true => rw [hl] at e; simp [kdN] at e
  · rw [sp_split M.L (k + 1) true, List.getElem?_append_right (by rw [s3 true (by simp), h.hi]; exact Nat.le_refl _)] at hp
    obtain ⟨z, hz, _, rfl⟩ := spOf_mem (List.mem_of_getElem? hp)
    have := (endF_le (chn_drop hM.ch (k + 1))).2 z hz
    rw [c4] at this
    show z.1 ≠ a
    omega

set_option maxHeartbeats 8000000 in
theorem lonce_walk {LT : Nat → LgM → Thing} (A : LedgerApi LT) (n0 : Int) (t : Sl Act14) (w : World) (h1 : SlOk encAct14 okAct14 3 w t) :
    Calls Try.prog 4 #[.int .i64 n0, .slice t.a t.len t.cap] w fun e w' => e = .returned (.bool true) ∧ Still w w' := by
  have HWk := Lib.hid (works14 A w)
  have HBt := Lib.hid (fun V (hs : Still w V) => built14_at A n0 t w V h1 hs)
  obtain ⟨ta, tl, tc, tx⟩ := t
  dsimp only at *
  clear h1
  go_enter Try.func4, Try.ntmps4
  go_wp2_with (first
    | (go_at_call 11; ((with_reducible refine HWk.out.mono ?_)); rintro e w1 ⟨rfl, hs⟩; have S1 := Lib.hid hs; clear hs)
    | (go_at_call 28; ((with_reducible refine (HBt.out _ S1.out).mono ?_)); rintro e w2 ⟨q, rfl, M, m1, m2, m3⟩; have K2 := Lib.hid m3; have HM := Lib.hid m1; clear m3))
  obtain ⟨f, hf⟩ : ∃ f, f = M.fin := ⟨_, rfl⟩
  obtain ⟨b, hb⟩ : ∃ b, b = M.b := ⟨_, rfl⟩
  obtain ⟨b0, b1, b2⟩ := m1.bnd
  rw [← hf] at b1 b2
  rw [← hb] at b0 b1
  have b3 : b < 1000 := by omega
  obtain ⟨n, hn⟩ : ∃ n, n = M.L.length := ⟨_, rfl⟩
  obtain ⟨na, hna⟩ : ∃ na, na = (spOf M.L true).length := ⟨_, rfl⟩
  obtain ⟨nb, hnb⟩ : ∃ nb, nb = (spOf M.L false).length := ⟨_, rfl⟩
  have hsum : na + nb = n := by rw [hna, hnb, hn]; exact sp_both _
  have hn256 : n ≤ 256 := by have := m1.len; omega
  have HAc := Lib.hid (fun V (hs : Still w2 V) => show Calls Try.prog 25 #[.pointer (some ⟨q, 0, none⟩)] V fun e w' => ∃ a c, e = .returned (.slice a na c) ∧ SpAt w' a (spOf M.L true) ∧ Still w2 w' from
    (Held.acdL A (K2.out.still hs) m1 rfl hna).mono fun e w' ⟨a, c, he, h, ht⟩ => ⟨a, c, he, h, hs.trans ht⟩)
  have HSk := Lib.hid (fun V (hs : Still w2 V) => show Calls Try.prog 27 #[.pointer (some ⟨q, 0, none⟩)] V fun e w' => ∃ a c, e = .returned (.slice a nb c) ∧ SpAt w' a (spOf M.L false) ∧ Still V w' from
    Held.skdL A (K2.out.still hs) m1 rfl hnb)
  have HFr := Lib.hid (fun V (hs : Still w2 V) => Held.fromL A (K2.out.still hs) m1 hb.symm)
  have HEn := Lib.hid (fun V (hs : Still w2 V) => Held.endL A (K2.out.still hs) m1 hf.symm)
  have g1 : lgiE M.L (b - 1) = 5 := lgiE_low m1.ch (by omega)
  have g2 : lgiE M.L f = 5 := lgiE_out m1.ch (by show M.fin ≤ f; omega)
  have HI1 := Lib.hid (fun V (hs : Still w2 V) => Held.isL A (K2.out.still hs) m1 (x := b - 1) (by omega) (by omega) (lgiV_no g1) g1)
  have HI2 := Lib.hid (fun V (hs : Still w2 V) => Held.isL A (K2.out.still hs) m1 (x := f) (by omega) (by omega) (lgiV_no g2) g2)
  have HIk := Lib.hid (fun (k : Int) (hk1 : b ≤ k) (hk2 : k < f) => show (∀ V, Still w2 V → Calls Try.prog 20 #[.pointer (some ⟨q, 0, none⟩), .int .i64 k] V fun e w' => e = .returned (.tuple #[.bool (lgiV M.L k), .int .i64 0]) ∧ Still V w') ∧ (spOf M.L true).any (inP k) = lgiV M.L k from by
    have hE : lgiE M.L k = 0 := lgiE_in m1.ch (by omega) (by show k < M.fin; omega)
    refine ⟨fun V hs => Held.isL A (K2.out.still hs) m1 (x := k) (by omega) (by omega) rfl hE, ?_⟩
    rw [sp_any k true m1.ch, hE]; simp)
  have HSt := Lib.hid (show OnceAt M 0 0 0 b 0 from by rw [hb]; exact OnceAt.start M)
  have HSm := Lib.hid (fun (k i j : Nat) (x kk : Int) (h : OnceAt M k i j x kk) (hk : k ≤ n) => show i + j = k from h.sum (by omega))
  have HFin := Lib.hid (fun (i j : Nat) (x kk : Int) (h : OnceAt M n i j x kk) => show i = na ∧ j = nb ∧ x = f from by
    have e : M.L.take n = M.L := by rw [hn, List.take_length]
    refine ⟨by rw [h.hi, e, hna], by rw [h.hj, e, hnb], by rw [h.hx, e, hf]; rfl⟩)
  have HN := Lib.hid hn
  have HNa := Lib.hid hna
  have HNb := Lib.hid hnb
  have HG := Lib.hid (fun V (hs : Still w2 V) => show Still w V from K2.out.ground.trans hs)
  obtain ⟨SA, hSA⟩ : ∃ SA, SA = spOf M.L true := ⟨_, rfl⟩
  obtain ⟨SB, hSB⟩ : ∃ SB, SB = spOf M.L false := ⟨_, rfl⟩
  have HY := Lib.hid (fun (k i j : Nat) (a kk : Int) (x : Pc) (h : OnceAt M k i j a kk) (hx : M.L[k]? = some x) (ht : x.2.2 = true) => show SA[i]? = some (a, x.2.1) ∧ kk ≠ 1 ∧ a < x.2.1 ∧ OnceAt M (k + 1) (i + 1) j x.2.1 1 from by rw [hSA]; exact h.yes m1 hx ht)
  have HNo := Lib.hid (fun (k i j : Nat) (a kk : Int) (x : Pc) (h : OnceAt M k i j a kk) (hx : M.L[k]? = some x) (ht : x.2.2 = false) => show SB[j]? = some (a, x.2.1) ∧ kk ≠ 2 ∧ a < x.2.1 ∧ (∀ p, SA[i]? = some p → p.1 ≠ a) ∧ OnceAt M (k + 1) i (j + 1) x.2.1 2 from by rw [hSA, hSB]; exact h.no m1 hx ht)
  rw [← hSA] at HAc HIk HNa
  rw [← hSB] at HSk HNb
  have hT0 : Still w2 w2 := Turned.refl _ _
  clear hn hna hnb hf hb g1 g2 m1 m2 HM K2 hSA hSB
  have S2 := Lib.hid hT0
  clear hT0
  go_wp2_with (first
    | (go_at_call 25; ((with_reducible refine (HAc.out _ S2.out).mono ?_)); rintro e w3 ⟨aa, ca, rfl, ha, hs⟩; have HA := Lib.hid ha; have S3 := Lib.hid hs; clear ha hs)
    | (go_at_call 27; ((with_reducible refine (HSk.out _ S3.out).mono ?_)); rintro e w4 ⟨ab, cb, rfl, hbb, hs⟩; have HA4 := Lib.hid (HA.out.still hs); have HB4 := Lib.hid hbb; have S4 := Lib.hid (S3.out.trans hs); clear hbb hs HA)
    | (go_at_call 22; ((with_reducible refine (HFr.out _ S4.out).mono ?_)); rintro e w5 ⟨rfl, hs⟩; have HA5 := Lib.hid (HA4.out.still hs); have HB5 := Lib.hid (HB4.out.still hs); have S5 := Lib.hid (S4.out.trans hs); clear hs HA4 HB4))
  go_loopw [8, 9, 10, 11] (fun a i j kd wr => ∃ (k i0 j0 : Nat) (a0 kk : Int), k ≤ n ∧ OnceAt M k i0 j0 a0 kk ∧ a = .int .i64 a0 ∧ i = .int .i64 i0 ∧ j = .int .i64 j0 ∧ kd = .int .i64 kk ∧ w5 = wr) (fun _ i j _ _ => (na + nb) - ((intOf i).toNat + (intOf j).toNat))
  case atStart => exact ⟨0, 0, 0, b, 0, Nat.zero_le _, HSt.out, rfl, rfl, rfl, rfl, rfl⟩
  case round =>
    obtain ⟨k, i, j, a0, kk, hk, hO, rfl, rfl, rfl, rfl, hw⟩ := hrel
    subst hw
    have hij := HSm.out _ _ _ _ _ hO hk
    by_cases hlt : k < n
    · obtain ⟨x, hx⟩ := get_some (l := M.L) (i := k) (by rw [← HN.out]; exact hlt)
      cases hxk : x.2.2 with
      | true =>
        obtain ⟨y1, y2, y3, y4⟩ := HY.out _ _ _ _ _ _ hO hx hxk
        obtain ⟨ba, oa, rfl, hc⟩ := HA5.out i _ y1
        have p0 : w5.cell? ⟨ba, oa + i * 2, none⟩ = some (.int .i64 a0) := hc 0 _ rfl
        have p1 : w5.cell? ⟨ba, oa + i * 2 + 1, none⟩ = some (.int .i64 x.2.1) := hc 1 _ rfl
        have hin : i < na := by rw [HNa.out]; exact (List.getElem?_eq_some_iff.1 y1).1
        have hini : (i : Int) < (na : Int) := by omega
        have HO := Lib.hid y4
        generalize x.2.1 = xt at *
        clear hO hx hc y1 y4
        go_wp2_with fail
        go_roundw
        case rel => exact ⟨k + 1, i + 1, j, xt, 1, by omega, HO.out, rfl, by go_num, rfl, rfl, by first | rfl | trivial⟩
        case measure => simp [intOf]; omega
      | false =>
        obtain ⟨y1, y2, y3, y5, y4⟩ := HNo.out _ _ _ _ _ _ hO hx hxk
        obtain ⟨bb, ob, rfl, hc⟩ := HB5.out j _ y1
        have p0 : w5.cell? ⟨bb, ob + j * 2, none⟩ = some (.int .i64 a0) := hc 0 _ rfl
        have p1 : w5.cell? ⟨bb, ob + j * 2 + 1, none⟩ = some (.int .i64 x.2.1) := hc 1 _ rfl
        have hin : j < nb := by rw [HNb.out]; exact (List.getElem?_eq_some_iff.1 y1).1
        have hini : (j : Int) < (nb : Int) := by omega
        have HO := Lib.hid y4
        by_cases hi : i < na
        · obtain ⟨p, hp⟩ := get_some (l := SA) (i := i) (by rw [← HNa.out]; exact hi)
          have hne := y5 p hp
          obtain ⟨ba, oa, rfl, hc'⟩ := HA5.out i _ hp
          have q0 : w5.cell? ⟨ba, oa + i * 2, none⟩ = some (.int .i64 p.1) := hc' 0 _ rfl
          have hii : (i : Int) < (na : Int) := by omega
          generalize p.1 = pf at *
          have hneb : (pf == a0) = false := by rw [beq_eq_false_iff_ne]; exact hne
          generalize x.2.1 = xt at *
          clear hO hx hc hc' hp y1 y4 y5
          go_wp2_with fail
          go_roundw
          case rel => exact ⟨k + 1, i, j + 1, xt, 2, by omega, HO.out, rfl, rfl, by go_num, rfl, by first | rfl | trivial⟩
          case measure => simp [intOf]; omega
        · have hii : ¬ (i : Int) < (na : Int) := by omega
          generalize x.2.1 = xt at *
          clear hO hx hc y1 y4 y5
          go_wp2_with fail
          go_roundw
          case rel => exact ⟨k + 1, i, j + 1, xt, 2, by omega, HO.out, rfl, rfl, by go_num, rfl, by first | rfl | trivial⟩
          case measure => simp [intOf]; omega
    · obtain rfl : k = n := by omega
      obtain ⟨rfl, rfl, rfl⟩ := HFin.out _ _ _ _ hO
      clear hO hij hlt HY HNo HSm HFin HN HSt
      go_wp2_with (first
        | (go_at_call 22; ((with_reducible refine (HFr.out _ S5.out).mono ?_)); rintro e w6 ⟨rfl, hs⟩; have HA6 := Lib.hid (HA5.out.still hs); have S6 := Lib.hid (S5.out.trans hs); clear hs)
        | (go_at_call 20; ((with_reducible refine (HI1.out _ S6.out).mono ?_)); rintro e w7 ⟨rfl, hs⟩; have HA7 := Lib.hid (HA6.out.still hs); have S7 := Lib.hid (S6.out.trans hs); clear hs HA6)
        | (go_at_call 20; ((with_reducible refine (HI2.out _ S7.out).mono ?_)); rintro e w8 ⟨rfl, hs⟩; have HA8 := Lib.hid (HA7.out.still hs); have S8 := Lib.hid (S7.out.trans hs); clear hs HA7)
        | (go_at_call 22; ((with_reducible refine (HFr.out _ S8.out).mono ?_)); rintro e w9 ⟨rfl, hs⟩; have HA9 := Lib.hid (HA8.out.still hs); have S9 := Lib.hid (S8.out.trans hs); clear hs HA8))
      go_loopw [16] (fun i wr => ∃ k : Int, b ≤ k ∧ k ≤ a0 ∧ k ≤ b + 1000 ∧ i = .int .i64 k ∧ Still w9 wr) (fun i _ => (a0 - intOf i).toNat)
      case atStart => exact ⟨b, Int.le_refl _, b1, by omega, rfl, Turned.refl _ _⟩
      case round =>
        obtain ⟨k, hk1, hk2, hk3, rfl, hst⟩ := hrel
        have HS9 := Lib.hid hst
        clear hst
        by_cases hlt : k < a0
        · by_cases hlt2 : k < b + 1000
          · obtain ⟨i1, i2⟩ := HIk.out k hk1 hlt
            have HI := Lib.hid i1
            have HAny := Lib.hid i2
            generalize lgiV M.L k = v at *
            clear i1 i2
            go_wp2_with (first
              | (go_at_call 22; ((with_reducible refine (HFr.out _ (S9.out.trans HS9.out)).mono ?_)); rintro e wa ⟨rfl, hs⟩; have Sa := Lib.hid (HS9.out.trans hs); clear hs)
              | (go_at_call 20; ((with_reducible refine (HI.out _ (S9.out.trans Sa.out)).mono ?_)); rintro e wb ⟨rfl, hs⟩; have Sb := Lib.hid (Sa.out.trans hs); clear hs))
            have HAb := Lib.hid (HA9.out.still Sb.out)
            go_loopw [19, 20] (fun vv ix wr => ∃ m : Nat, m ≤ i ∧ vv = .bool ((SA.take m).any (inP k)) ∧ ix = .int .i64 m ∧ wb = wr) (fun _ ix _ => i - (intOf ix).toNat)
            case atStart => exact ⟨0, Nat.zero_le _, rfl, rfl, rfl⟩
            case round =>
              obtain ⟨m, hm, rfl, rfl, hw⟩ := hrel
              subst hw
              by_cases hlm : m < i
              · obtain ⟨p, hp⟩ := get_some (l := SA) (i := m) (by rw [← HNa.out]; exact hlm)
                obtain ⟨ba, oa, rfl, hc⟩ := HAb.out m _ hp
                have p0 : wb.cell? ⟨ba, oa + m * 2, none⟩ = some (.int .i64 p.1) := hc 0 _ rfl
                have p1 : wb.cell? ⟨ba, oa + m * 2 + 1, none⟩ = some (.int .i64 p.2) := hc 1 _ rfl
                have HStep := Lib.hid (show (SA.take (m + 1)).any (inP k) = ((SA.take m).any (inP k) || (decide (p.1 ≤ k) && decide (k < p.2))) from by
                  rw [sp_take hp, List.any_append]; simp [inP])
                have hmi : (m : Int) < (i : Int) := by omega
                generalize (SA.take m).any (inP k) = u at *
                obtain ⟨u1, hu1⟩ : ∃ u1, u1 = (SA.take (m + 1)).any (inP k) := ⟨_, rfl⟩
                rw [← hu1] at HStep
                have HU1 := Lib.hid hu1
                clear hu1
                generalize p.1 = pf at *
                generalize p.2 = pt at *
                clear hp hc
                cases u with
                | true =>
                  have HU := Lib.hid (show u1 = true from by rw [HStep.out]; rfl)
                  clear HStep
                  go_wp2_with fail
                  go_roundw
                  case rel => exact ⟨m + 1, by omega, by rw [← HU1.out, HU.out], by go_num, by first | rfl | trivial⟩
                  case measure => simp [intOf]; omega
                | false =>
                  by_cases h1 : pf ≤ k
                  · by_cases h2 : k < pt
                    · have HU := Lib.hid (show u1 = true from by rw [HStep.out]; simp [h1, h2])
                      clear HStep
                      go_wp2_with fail
                      go_roundw
                      case rel => exact ⟨m + 1, by omega, by rw [← HU1.out, HU.out], by go_num, by first | rfl | trivial⟩
                      case measure => simp [intOf]; omega
                    · have HU := Lib.hid (show u1 = false from by rw [HStep.out]; simp [h2])
                      clear HStep
                      go_wp2_with fail
                      go_roundw
                      case rel => exact ⟨m + 1, by omega, by rw [← HU1.out, HU.out], by go_num, by first | rfl | trivial⟩
                      case measure => simp [intOf]; omega
                  · have HU := Lib.hid (show u1 = false from by rw [HStep.out]; simp [h1])
                    clear HStep
                    go_wp2_with fail
                    go_roundw
                    case rel => exact ⟨m + 1, by omega, by rw [← HU1.out, HU.out], by go_num, by first | rfl | trivial⟩
                    case measure => simp [intOf]; omega
              · obtain rfl : m = i := by omega
                have hall : (SA.take m).any (inP k) = v := by rw [show SA.take m = SA from by rw [HNa.out, List.take_length]]; exact HAny.out
                rw [hall]
                clear hall
                go_wp2_with fail
                go_roundw
                case rel => exact ⟨k + 1, by omega, by omega, by omega, rfl, Sb.out⟩
                case measure => simp [intOf]; omega
          · go_wp2_with (first
              | (go_at_call 22; ((with_reducible refine (HFr.out _ (S9.out.trans HS9.out)).mono ?_)); rintro e wa ⟨rfl, hs⟩; have Sa := Lib.hid (HS9.out.trans hs); clear hs)
              | (go_at_call 23; ((with_reducible refine (HEn.out _ (S9.out.trans Sa.out)).mono ?_)); rintro e wb ⟨rfl, hs⟩; have Sb := Lib.hid (Sa.out.trans hs); clear hs))
            go_ret
            exact ⟨by first | rfl | simp, HG.out _ (S9.out.trans Sb.out)⟩
        · go_wp2_with (first
            | (go_at_call 22; ((with_reducible refine (HFr.out _ (S9.out.trans HS9.out)).mono ?_)); rintro e wa ⟨rfl, hs⟩; have Sa := Lib.hid (HS9.out.trans hs); clear hs)
            | (go_at_call 23; ((with_reducible refine (HEn.out _ (S9.out.trans HS9.out)).mono ?_)); rintro e wb ⟨rfl, hs⟩; have Sb := Lib.hid (HS9.out.trans hs); clear hs))
          go_ret
          exact ⟨by first | rfl | simp, HG.out _ (S9.out.trans Sb.out)⟩
end Go.Proofs.Ytpkodmclbobkpaa
