/- What Assign of the document's share answers. No condition. -/
import Derived.Test.YtplnbphbccflfaaShZR
import Derived.Test.YtplnbphbccflfaaShZMath
import Derived.Test.YtplnbphbccflfaaRbLem
import Derived.Test.YtplnbphbccflfaaHeldPut
namespace Go.Proofs.Ytplnbphbccflfaa
open Go.RowKit
set_option linter.unusedVariables false
set_option linter.unusedSimpArgs false
set_option maxRecDepth 100000

/-- Without members, or with them: what lies ahead of it. -/
theorem zshassign_long (w : World) (ao bo co : Option Addr) (m n k c1 c2 c3 : Nat) (h : 256 < n ∨ 256 < k) : Calls Try.prog 35 #[.slice ao m c1, .slice bo n c2, .slice co k c3] w (OutAsg w [] 0 3) := by
  by_cases hn : 256 < n
  · have hni : (256 : Int) < (n : Int) := by omega
    clear h
    go_enter Try.func35, Try.ntmps35
    go_wp2_with fail
    go_ret2
    exact ⟨none, 0, rfl, World.ownsRow_nil _ _ _ _, Turned.refl _ _⟩
  · have hni : ¬ (256 : Int) < (n : Int) := by omega
    have hki : (256 : Int) < (k : Int) := by omega
    clear h
    go_enter Try.func35, Try.ntmps35
    go_wp2_with fail
    go_ret2
    exact ⟨none, 0, rfl, World.ownsRow_nil _ _ _ _, Turned.refl _ _⟩
theorem zshassign_arg (w : World) (ao bo co : Option Addr) (ms : List Int) (ps : List Plc) (m n k c1 c2 c3 : Nat) (hm : m = ms.length) (hn : n = ps.length) (h1 : m ≤ 1000) (h2 : n ≤ 256) (h3 : k ≤ 256) (hA : NumsAt w ao ms) (hB : PlAt w bo ps) (hr : rightB ms ps = false) :
    Calls Try.prog 35 #[.slice ao m c1, .slice bo n c2, .slice co k c3] w (OutAsg w [] 0 2) := by
  have HR := Lib.hid (zshright_any w ao bo ms ps m n c1 c2 hm hn h1 (by omega) hA hB)
  rw [hr] at HR
  have hni : ¬ (256 : Int) < (n : Int) := by omega
  have hki : ¬ (256 : Int) < (k : Int) := by omega
  clear hA hB hr hm hn
  go_enter Try.func35, Try.ntmps35
  go_wp2_with (go_at_call 58; ((with_reducible refine HR.out.mono ?_)); rintro e w1 ⟨rfl, hs⟩; have S1 := Lib.hid hs; clear hs)
  go_ret2
  exact ⟨none, 0, rfl, World.ownsRow_nil _ _ _ _, S1.out⟩
theorem rep_take {ps : List Plc} {i : Nat} {p : Plc} (hp : ps[i]? = some p) : oL (ps.take (i + 1)) (List.replicate (i + 1) (-1)) = oL (ps.take i) (List.replicate i (-1)) ++ [(p, -1)] := by
  have hi := (List.getElem?_eq_some_iff.1 hp).1
  have ht : ps.take (i + 1) = ps.take i ++ [p] := by rw [List.take_add_one, hp]; rfl
  unfold oL
  rw [ht, List.replicate_succ', List.zipWith_append (by rw [List.length_take, List.length_replicate]; omega)]
  rfl

set_option maxHeartbeats 32000000 in
theorem zshassign_ok (w : World) (ao bo co : Option Addr) (ms : List Int) (ps : List Plc) (os : List Own) (m n k c1 c2 c3 : Nat) (hm : m = ms.length) (hn : n = ps.length) (hk : k = os.length) (h1 : m ≤ 1000) (h2 : n ≤ 256) (h3 : k ≤ 256)
    (hA : NumsAt w ao ms) (hB : PlAt w bo ps) (hC : OwAt w co os) (hrt : rightB ms ps = true) :
    Calls Try.prog 35 #[.slice ao m c1, .slice bo n c2, .slice co k c3] w (OutAsg w (asgI ms ps os) n 0) := by
  have HR := Lib.hid (zshright_any w ao bo ms ps m n c1 c2 hm hn h1 (by omega) hA hB)
  rw [hrt] at HR
  have hri : risI ms ∧ disI ps := of_decide_eq_true hrt
  have HA := Lib.hid hA
  have HB := Lib.hid hB
  have HM := Lib.hid hm
  have HN := Lib.hid hn
  have HHad := Lib.hid (fun V (hs : Still w V) (p : Plc) => hadR_any V co os k c3 p hk (by omega) (row_still hC hs))
  have hm8 : m ≤ 8 := by rw [hm]; exact hri.1.1
  have HRi := Lib.hid hri.1
  have hni : ¬ (256 : Int) < (n : Int) := by omega
  have hki : ¬ (256 : Int) < (k : Int) := by omega
  obtain ⟨pi, qi, pz0, pz1, pz2⟩ := info_parts infoOw17
  have HW := Lib.hid (fun V : World => World.ownsRow_made (e := 51) (size := 3) V #[] 0 (Nat.le_refl _) (by simp) (by simp))
  clear hA hB hC hm hn hk hri hrt
  go_enter Try.func35, Try.ntmps35
  go_wp2_with (go_at_call 58; ((with_reducible refine HR.out.mono ?_)); rintro e w1 ⟨rfl, hs⟩; have S1 := Lib.hid hs; clear hs)
  have hlo1 := S1.out.size
  go_loopw [9, 10] (fun ll ix wq => ∃ (i : Nat) (a2 : Option Addr) (c4 : Nat), i ≤ n ∧ ix = .int .i64 i ∧ ll = .slice a2 i c4 ∧ wq.ownsRow w.heap.size 51 3 (.slice a2 i c4) i (rowOf encOw (oL (ps.take i) (List.replicate i (-1)))) ∧ Still w wq) (fun _ ix _ => n - (intOf ix).toNat)
  case atStart => exact ⟨0, _, 0, Nat.zero_le _, rfl, rfl, ow_base (HW.out w1) hlo1, S1.out.alloc _⟩
  case round =>
    clear S1 hlo1
    obtain ⟨i, a2, c4, hi, rfl, rfl, hown, hst⟩ := hrel
    have HO := Lib.hid hown
    have HS := Lib.hid hst
    have hlo := hst.size
    by_cases hlt : i < n
    · obtain ⟨⟨pf, pt⟩, hp⟩ := get_some (l := ps) (i := i) (by rw [← HN.out]; exact hlt)
      obtain ⟨bp, op, rfl, hc⟩ := row_still HB.out hst i _ hp
      have c0 : wr.cell? ⟨bp, op + i * 2, none⟩ = some (.int .i64 pf) := hc 0 _ rfl
      have c1' : wr.cell? ⟨bp, op + i * 2 + 1, none⟩ = some (.int .i64 pt) := by rw [Nat.add_assoc]; exact hc 1 _ rfl
      have HSn := Lib.hid (rep_take hp)
      have hii : (i : Int) < (n : Int) := by omega
      clear hown hst hp hc
      go_wp2_with (at_builtin; refine wpList_append_own_at _ rfl _ _ 38 rfl w.heap.size 51 pi (.agg #[.int .i64 0, .int .i64 0, .int .i64 0]) 3 24 Try.underlying38 qi pz0 pz1 pz2 rfl (by decide) (.slice a2 i c4) i (rowOf encOw (oL (ps.take i) (List.replicate i (-1)))) rfl (ow_still HO.out ((Turned.refl _ _).alloc _)) ⟨wr.heap.size, 0, none⟩ 1 1 [.int .i64 pf, .int .i64 pt, .int .i64 (-1)] rfl rfl (ow_cells wr _ _) (ow_ints rfl) (by unfold maxLen; omega) (by omega) (by simp; omega) ?_; intro v6 w6 hown6 hg6 _ hat6; obtain ⟨a6, c6, rfl⟩ := ow_slice hown6; have HS6 := Lib.hid (row_appended HS.out HO.out hg6); have HO6 := Lib.hid hown6; clear hown6 hg6 hat6)
      go_roundw
      case rel => exact ⟨i + 1, a6, c6, by omega, by go_num, rfl, by rw [HSn.out, rowOf_append, rowOf_cons, rowOf_nil, List.append_nil]; exact HO6.out, HS6.out⟩
      case measure => simp [intOf]; omega
    · obtain rfl : i = n := by omega
      have hps : ps.take i = ps := List.take_of_length_le (by rw [HN.out]; exact Nat.le_refl _)
      rw [hps] at HO
      by_cases hm0 : m = 0
      · have hmi : (m : Int) = 0 := by omega
        have HF := Lib.hid (show asgI ms ps os = oL ps (List.replicate i (-1)) from by rw [HN.out]; exact asg_none (by rw [← HM.out]; exact hm0))
        clear hown hst hlt hps hm0
        go_wp2_with fail
        go_ret2
        exact ⟨a2, c4, rfl, by rw [HF.out]; exact HO.out, HS.out⟩
      · have hmp : (0 : Int) < (m : Int) := by omega
        have hmz : ¬ (m : Int) = 0 := by omega
        have hmb : ((m : Int) == 0) = false := by simpa using hmz
        have K0 := Lib.hid ((Held.start (Turned.refl _ w)).got HO.out HS.out).snd
        obtain ⟨ti, fi, hz0, hz1, hz2⟩ := info_parts infoIntW
        have hmk := fun W : World => run_make (P := Try.prog) W 28 3 ti _ Try.underlying28 fi hz0 .i64 .i64 (m : Int) (m : Int) (Int.natCast_nonneg m) (Int.le_refl _) (by rw [hz2]; omega) (by omega)
        simp only [hz1, Int.toNat_natCast, Nat.mul_one, show Value.cells (.int .i64 0) = #[.int .i64 0] from rfl, madeN] at hmk
        clear hown hst hlt hps HO HS fi hz0 hz1 hz2 qi pz0 pz1 pz2 HW HR
        obtain ⟨who, hwho⟩ : ∃ who, who = whoI ms ps os := ⟨_, rfl⟩
        have HWl := Lib.hid (show who.length = i from by rw [hwho, who_len]; exact HN.out.symm)
        have HWh := Lib.hid (fun (j : Nat) (p : Plc) (hp : ps[j]? = some p) => show who[j]? = some (idxI ms (hadI os p)) from by rw [hwho]; unfold whoI; rw [List.getElem?_map, hp]; rfl)
        have HIx := Lib.hid (fun (x : Int) (j : Nat) (y : Int) (hy : ms[j]? = some y) => show idxI ms x = some j ↔ x = y from by
          obtain ⟨hj, e⟩ := List.getElem?_eq_some_iff.1 hy
          rw [idx_iff HRi.out.2.2 hj, e])
        have K1 := Lib.hid (lit_held K0.out (l := List.replicate m 0) (n := m) (by simp) (by omega)).swap
        obtain ⟨gh, hgh⟩ : ∃ gh, gh = wr.heap.size := ⟨_, rfl⟩
        have K1 := Lib.hid (show Held w (wr.alloc (.cells (ints (List.replicate m 0)).toArray 3)) ((intsT (some ⟨gh, 0, none⟩) m m (cL m (hadC who 0 0))).sep (ownsT a2 i c4 (oL ps (List.replicate i (-1))))) from by
          rw [hadC_zero, cL_zero, hgh]; exact K1.out)
        go_wp2_with fail
        rw [← hgh]
        clear hgh K0
        go_loopw [12] (fun kx wq => ∃ kk : Nat, kk ≤ m ∧ kx = .int .i64 kk ∧ Held w wq ((intsT (some ⟨gh, 0, none⟩) m m (cL m (hadC who kk 0))).sep (ownsT a2 i c4 (oL ps (List.replicate i (-1)))))) (fun kx _ => m - (intOf kx).toNat)
        case atStart => exact ⟨0, Nat.zero_le _, rfl, K1.out⟩
        case round =>
          clear K1
          obtain ⟨kk, hkk, rfl, hH⟩ := hrel
          by_cases hkm : kk < m
          · obtain ⟨mk, hmk2⟩ := get_some (l := ms) (i := kk) (by rw [← HM.out]; exact hkm)
            have KH := Lib.hid hH
            have hki2 : (kk : Int) < (m : Int) := by omega
            clear hH
            go_wp2_with fail
            go_loopw [13] (fun jx wq => ∃ j : Nat, j ≤ i ∧ jx = .int .i64 j ∧ Held w wq ((intsT (some ⟨gh, 0, none⟩) m m (cL m (hadC who kk j))).sep (ownsT a2 i c4 (oL ps (List.replicate i (-1)))))) (fun jx _ => i - (intOf jx).toNat)
            case atStart => exact ⟨0, Nat.zero_le _, rfl, KH.out⟩
            case round =>
              clear KH
              obtain ⟨j, hj, rfl, hH⟩ := hrel
              by_cases hji : j < i
              · obtain ⟨⟨pf, pt⟩, hp⟩ := get_some (l := ps) (i := j) (by rw [← HN.out]; exact hji)
                obtain ⟨bp, op, rfl, hc⟩ := row_still HB.out hH.ground j _ hp
                obtain ⟨bm, om, rfl, cm⟩ := (HA.out.still hH.ground) kk mk hmk2
                have HC := Lib.hid (fun V (hs : Still w V) => show V.cell? ⟨bp, op + j * 2, none⟩ = some (.int .i64 pf) ∧ V.cell? ⟨bp, op + j * 2 + 1, none⟩ = some (.int .i64 pt) ∧ V.cell? ⟨bm, om + kk, none⟩ = some (.int .i64 mk) from by
                  obtain ⟨b', o', e, hd⟩ := row_still HB.out hs j _ hp
                  obtain ⟨rfl, rfl⟩ : bp = b' ∧ op = o' := by simpa using e
                  obtain ⟨b'', o'', e2, hd2⟩ := (HA.out.still hs) kk mk hmk2
                  obtain ⟨rfl, rfl⟩ : bm = b'' ∧ om = o'' := by simpa using e2
                  exact ⟨hd 0 _ rfl, by rw [Nat.add_assoc]; exact hd 1 _ rfl, hd2⟩)
                have KD := Lib.hid (hH.still (Turned.refl _ _).drew)
                obtain ⟨y0, y1, y2⟩ := HC.out _ hH.ground
                obtain ⟨x0, x1, x2⟩ := HC.out _ KD.out.ground
                have HHp := Lib.hid (fun V (hs : Still w V) => HHad.out V hs (pf, pt))
                dsimp only at HHp
                obtain ⟨hd, hhd⟩ : ∃ hd, hd = hadI os (pf, pt) := ⟨_, rfl⟩
                have hix := HIx.out hd kk mk hmk2
                have hwj := HWh.out j _ hp
                rw [← hhd] at HHp hwj
                have hji2 : (j : Int) < (i : Int) := by omega
                have hc1 : cntO (who.take j) kk ≤ 256 := by
                  refine Nat.le_trans (cntO_le _ _) ?_
                  rw [List.length_take]; omega
                by_cases heq : hd = mk
                · have HNx := Lib.hid (show (cL m (hadC who kk j)).set kk ((cntO (who.take j) kk : Nat) + 1 : Int) = cL m (hadC who kk (j + 1)) from by
                    have := cL_set (m := m) (k := kk) (c := hadC who kk j) (d := hadC who kk (j + 1)) hkm (fun x _ hx => hadC_other hx)
                    rw [hadC_at, cnt_take hwj, if_pos (hix.2 heq)] at this
                    exact this)
                  have HGt := Lib.hid (show (cL m (hadC who kk j))[kk]? = some ((cntO (who.take j) kk : Nat) : Int) from by rw [cL_get _ hkm, hadC_at])
                  have heqb : (hd == mk) = true := by rw [beq_iff_eq]; exact heq
                  subst heq
                  generalize cntO (who.take j) kk = cc at *
                  clear hH hp hc hmk2 hhd hix hwj
                  go_wp2_with fail
                  go_region_held3 (fun V => V.cell? ⟨bp, op + j * 2, none⟩ = some (.int .i64 pf) ∧ V.cell? ⟨bp, op + j * 2 + 1, none⟩ = some (.int .i64 pt) ∧ V.cell? ⟨bm, om + kk, none⟩ = some (.int .i64 hd)) (first | assumption | exact ⟨by assumption, by assumption, by assumption⟩ | go_keep)
                    (first | (go_at_call 33; ((with_reducible refine (HHp.out _ KD.out.ground).mono ?_)); rintro e w5 ⟨rfl, hs⟩; have K5 := Lib.hid (KD.out.still hs); obtain ⟨z0, z1, z2⟩ := HC.out _ K5.out.ground; obtain ⟨s1, s2, s3⟩ := held_put K5.out HGt.out; have HP := Lib.hid (s3 ((cc : Int) + 1)); clear hs s3 KD))
                  go_wp2_with fail
                  go_roundw
                  case rel => exact ⟨j + 1, by omega, by go_num, by have := HP.out; rw [HNx.out] at this; exact this⟩
                  case measure => simp [intOf]; omega
                · have HNx := Lib.hid (show cL m (hadC who kk (j + 1)) = cL m (hadC who kk j) from cL_congr fun x _ => by
                    by_cases hx : x = kk
                    · subst hx; rw [hadC_at, hadC_at, cnt_take hwj, if_neg (fun e => heq (hix.1 e))]; rfl
                    · exact hadC_other hx)
                  have heqb : (hd == mk) = false := by rw [beq_eq_false_iff_ne]; exact heq
                  clear hH hp hc hmk2 hhd hix hwj
                  go_wp2_with fail
                  go_region_held3 (fun V => V.cell? ⟨bp, op + j * 2, none⟩ = some (.int .i64 pf) ∧ V.cell? ⟨bp, op + j * 2 + 1, none⟩ = some (.int .i64 pt) ∧ V.cell? ⟨bm, om + kk, none⟩ = some (.int .i64 mk)) (first | assumption | exact ⟨by assumption, by assumption, by assumption⟩ | go_keep)
                    (first | (go_at_call 33; ((with_reducible refine (HHp.out _ KD.out.ground).mono ?_)); rintro e w5 ⟨rfl, hs⟩; have K5 := Lib.hid (KD.out.still hs); obtain ⟨z0, z1, z2⟩ := HC.out _ K5.out.ground; clear hs KD))
                  go_wp2_with fail
                  go_roundw
                  case rel => exact ⟨j + 1, by omega, by go_num, by rw [HNx.out]; exact K5.out⟩
                  case measure => simp [intOf]; omega
              · obtain rfl : j = i := by omega
                have KH := Lib.hid (show Held w wr ((intsT (some ⟨gh, 0, none⟩) m m (cL m (hadC who (kk + 1) 0))).sep (ownsT a2 j c4 (oL ps (List.replicate j (-1))))) from by
                  rw [← hadC_next, HWl.out]; exact hH)
                clear hH
                go_wp2_with fail
                go_roundw
                case rel => exact ⟨kk + 1, by omega, by go_num, KH.out⟩
                case measure => simp [intOf]; omega
          · obtain rfl : kk = m := by omega
            have K2 := Lib.hid hH
            rw [hadC_all] at K2
            clear hH
            obtain ⟨h, hh⟩ : ∃ h : Nat → Nat, h = cntO who := ⟨_, rfl⟩
            rw [← hh] at K2
            have HHb := Lib.hid (show ∀ j, h j ≤ 256 from fun j => by rw [hh]; have := cntO_le who j; have := HWl.out; omega)
            obtain ⟨gq, hgq⟩ : ∃ gq, gq = wr.heap.size := ⟨_, rfl⟩
            have K3 := Lib.hid (show Held w (wr.alloc (.cells (ints (List.replicate kk 0)).toArray 3)) ((intsT (some ⟨gq, 0, none⟩) kk kk (cL kk (quoC i kk h 0))).sep ((intsT (some ⟨gh, 0, none⟩) kk kk (cL kk h)).sep (ownsT a2 i c4 (oL ps (List.replicate i (-1)))))) from by
              rw [show quoC i kk h 0 = fun _ => 0 from by funext j; unfold quoC; rw [if_neg (by omega)], cL_zero, hgq]
              exact (lit_held K2.out (l := List.replicate kk 0) (n := kk) (by simp) (by omega)).swap)
            go_wp2_with fail
            rw [← hgq]
            clear hgq K2
            obtain ⟨nq, hnq⟩ : ∃ nq, nq = i / kk := ⟨_, rfl⟩
            obtain ⟨nr, hnr⟩ : ∃ nr, nr = i % kk := ⟨_, rfl⟩
            have hnq2 : nq ≤ 256 := by rw [hnq]; have := Nat.div_le_self i kk; omega
            have hnr2 : nr < kk := by rw [hnr]; exact Nat.mod_lt _ (by omega)
            have hwq : (i : Int) / (kk : Int) = (nq : Int) := by rw [hnq]; rfl
            have hwr : (i : Int) % (kk : Int) = (nr : Int) := by rw [hnr]; rfl
            have HQn := Lib.hid (fun x => show quotaN i kk h x = nq + if aheadN kk h x < nr then 1 else 0 from by unfold quotaN; rw [hnq, hnr])
            have HQ1 := Lib.hid (fun x => show quoC1 i kk h x x = nq from by unfold quoC1; rw [if_neg (Nat.lt_irrefl _), if_pos rfl, hnq])
            clear hnq hnr
            go_loopw [15] (fun kx wq => ∃ x : Nat, x ≤ kk ∧ kx = .int .i64 x ∧ Held w wq ((intsT (some ⟨gq, 0, none⟩) kk kk (cL kk (quoC i kk h x))).sep ((intsT (some ⟨gh, 0, none⟩) kk kk (cL kk h)).sep (ownsT a2 i c4 (oL ps (List.replicate i (-1))))))) (fun kx _ => kk - (intOf kx).toNat)
            case atStart => exact ⟨0, Nat.zero_le _, rfl, K3.out⟩
            case round =>
              clear K3
              obtain ⟨x, hx, rfl, hH⟩ := hrel
              by_cases hxm : x < kk
              · have hxi : (x : Int) < (kk : Int) := by omega
                obtain ⟨s1, s2, s3⟩ := held_put hH (cL_get _ hxm)
                have K4 := Lib.hid (show Held w (wr.setCell ⟨gq, x, none⟩ (.int .i64 (nq : Int))) ((intsT (some ⟨gq, 0, none⟩) kk kk (cL kk (quoC1 i kk h x))).sep ((intsT (some ⟨gh, 0, none⟩) kk kk (cL kk h)).sep (ownsT a2 i c4 (oL ps (List.replicate i (-1)))))) from by
                  have := s3 (nq : Int)
                  rw [show ((nq : Nat) : Int) = ((quoC1 i kk h x x : Nat) : Int) from by rw [HQ1.out], cL_set hxm (d := quoC1 i kk h x) (fun j _ hj => by unfold quoC quoC1; by_cases h1 : j < x <;> simp [h1, hj])] at this
                  rw [HQ1.out] at this
                  exact this)
                clear hH s3
                go_wp2_with fail
                clear s1 s2
                go_loopw [16, 17] (fun ax jx wq => ∃ j : Nat, j ≤ kk ∧ jx = .int .i64 j ∧ ax = .int .i64 (aheadTo h x j) ∧ Held w wq ((intsT (some ⟨gq, 0, none⟩) kk kk (cL kk (quoC1 i kk h x))).sep ((intsT (some ⟨gh, 0, none⟩) kk kk (cL kk h)).sep (ownsT a2 i c4 (oL ps (List.replicate i (-1))))))) (fun _ jx _ => kk - (intOf jx).toNat)
                case atStart => exact ⟨0, Nat.zero_le _, rfl, rfl, K4.out⟩
                case round =>
                  clear K4
                  obtain ⟨j, hj, rfl, rfl, hH⟩ := hrel
                  by_cases hjm : j < kk
                  · have hji : (j : Int) < (kk : Int) := by omega
                    have nh := ints_at hH.snd.drop (cL_len kk h).symm
                    obtain ⟨b1, o1, e1, r1⟩ := nh j _ (cL_get h hjm)
                    obtain ⟨b2, o2, e2, r2⟩ := nh x _ (cL_get h hxm)
                    obtain ⟨rfl, rfl⟩ : gh = b1 ∧ 0 = o1 := by simpa using e1
                    obtain ⟨rfl, rfl⟩ : gh = b2 ∧ 0 = o2 := by simpa using e2
                    rw [Nat.zero_add] at r1 r2
                    have HSt := Lib.hid (aheadTo_step h x j)
                    have ha8 : aheadTo h x j ≤ j := aheadTo_le h x j
                    have KH := Lib.hid hH
                    have hj1 := HHb.out j
                    have hj2 := HHb.out x
                    have hjx1 : ((h j : Nat) : Int) < ((h x : Nat) : Int) ∨ h j = h x ∨ h x < h j := by omega
                    obtain ⟨vj, hvj⟩ : ∃ vj, vj = h j := ⟨_, rfl⟩
                    obtain ⟨vx, hvx⟩ : ∃ vx, vx = h x := ⟨_, rfl⟩
                    have HBf := Lib.hid (show bef h j x = (decide (vx < vj) || (decide (vj = vx) && decide (j < x))) from by unfold bef; rw [hvj, hvx])
                    rw [← hvj] at r1
                    rw [← hvx] at r2
                    generalize aheadTo h x j = ah at *
                    clear hH nh e1 e2 hvj hvx hj1 hj2 hjx1
                    by_cases g1 : vx < vj
                    · have g1b : decide (vx < vj) = true := decide_eq_true g1
                      have HS2 := Lib.hid (show aheadTo h x (j + 1) = ah + 1 from by rw [HSt.out, HBf.out, g1b]; rfl)
                      clear HSt HBf
                      go_wp2_with fail
                      go_quiet (fail)
                      go_wp2_with fail
                      go_roundw
                      case rel => exact ⟨j + 1, by omega, by go_num, by rw [HS2.out]; rfl, KH.out.still ((Turned.refl _ _).drewN _)⟩
                      case measure => simp [intOf]; omega
                    · have g1b : decide (vx < vj) = false := decide_eq_false g1
                      by_cases g2 : vj = vx ∧ j < x
                      · obtain ⟨rfl, g3⟩ := g2
                        have g3b : decide (j < x) = true := decide_eq_true g3
                        have HS2 := Lib.hid (show aheadTo h x (j + 1) = ah + 1 from by rw [HSt.out, HBf.out, g1b, g3b]; simp)
                        clear HSt HBf
                        go_wp2_with fail
                        go_quiet (fail)
                        go_wp2_with fail
                        go_roundw
                        case rel => exact ⟨j + 1, by omega, by go_num, by rw [HS2.out]; rfl, KH.out.still ((Turned.refl _ _).drewN _)⟩
                        case measure => simp [intOf]; omega
                      · have HS2 := Lib.hid (show aheadTo h x (j + 1) = ah from by
                          rw [HSt.out, HBf.out, g1b, Bool.false_or, if_neg (by simpa using fun a b => g2 ⟨a, b⟩)]; rfl)
                        have g2' : vj ≠ vx ∨ (vj = vx ∧ ¬ j < x) := by
                          by_cases h1 : vj = vx
                          · exact .inr ⟨h1, fun h2 => g2 ⟨h1, h2⟩⟩
                          · exact .inl h1
                        clear HSt HBf g2
                        rcases g2' with g4 | ⟨rfl, g4⟩
                        case' inl => have g4b : (vj == vx) = false := by rw [beq_eq_false_iff_ne]; exact g4
                        case' inl => have g4c : ((vj : Int) == (vx : Int)) = false := by rw [beq_eq_false_iff_ne]; omega
                        case' inl => have g4d : decide (vj = vx) = false := decide_eq_false g4
                        case' inr => have g4b : decide (j < x) = false := decide_eq_false g4
                        case' inr => have g4c : decide ((j : Int) < (x : Int)) = false := decide_eq_false (by omega)
                        all_goals (
                          go_wp2_with fail
                          go_quiet (fail)
                          go_wp2_with fail
                          go_roundw
                          case rel => exact ⟨j + 1, by omega, by go_num, by rw [HS2.out], KH.out.still ((Turned.refl _ _).drewN _)⟩
                          case measure => simp [intOf]; omega)
                  · obtain rfl : j = kk := by omega
                    have KH := Lib.hid hH
                    have hal : aheadTo h x j ≤ j := aheadTo_le h x j
                    have HQx := Lib.hid (show quoC i j h (x + 1) x = nq + if aheadTo h x j < nr then 1 else 0 from by
                      unfold quoC; rw [if_pos (Nat.lt_succ_self x)]; exact HQn.out x)
                    obtain ⟨s1, s2, s3⟩ := held_put hH (cL_get _ hxm)
                    rw [HQ1.out] at s1
                    by_cases hlr : aheadTo h x j < nr
                    · have K5 := Lib.hid (show Held w (wr.setCell ⟨gq, x, none⟩ (.int .i64 ((nq : Int) + 1))) ((intsT (some ⟨gq, 0, none⟩) j j (cL j (quoC i j h (x + 1)))).sep ((intsT (some ⟨gh, 0, none⟩) j j (cL j h)).sep (ownsT a2 i c4 (oL ps (List.replicate i (-1)))))) from by
                        have := s3 ((nq : Int) + 1)
                        have e1 := HQx.out
                        rw [if_pos hlr] at e1
                        have e2 := cL_set (c := quoC1 i j h x) (d := quoC i j h (x + 1)) hxm (fun y _ hy => by
                          unfold quoC quoC1
                          by_cases h1 : y < x
                          · rw [if_pos h1, if_pos (by omega)]
                          · rw [if_neg h1, if_neg hy, if_neg (by omega)])
                        rw [e1] at e2
                        rw [show ((nq : Int) + 1) = ((nq + 1 : Nat) : Int) from rfl] at this
                        rw [e2] at this
                        exact this)
                      generalize aheadTo h x j = ah at *
                      clear hH s3 KH
                      go_wp2_with fail
                      go_roundw
                      case rel => exact ⟨x + 1, by omega, by go_num, K5.out⟩
                      case measure => simp [intOf]; omega
                    · have K5 := Lib.hid (show Held w wr ((intsT (some ⟨gq, 0, none⟩) j j (cL j (quoC i j h (x + 1)))).sep ((intsT (some ⟨gh, 0, none⟩) j j (cL j h)).sep (ownsT a2 i c4 (oL ps (List.replicate i (-1)))))) from by
                        have e1 := HQx.out
                        rw [if_neg hlr] at e1
                        rw [show cL j (quoC i j h (x + 1)) = cL j (quoC1 i j h x) from cL_congr (fun y _ => by
                          by_cases hy : y = x
                          · subst hy; rw [e1, HQ1.out]; rfl
                          · unfold quoC quoC1
                            by_cases h1 : y < x
                            · rw [if_pos h1, if_pos (by omega)]
                            · rw [if_neg h1, if_neg hy, if_neg (by omega)])]
                        exact hH)
                      generalize aheadTo h x j = ah at *
                      clear hH s3 KH s1 s2
                      go_wp2_with fail
                      go_roundw
                      case rel => exact ⟨x + 1, by omega, by go_num, K5.out⟩
                      case measure => simp [intOf]; omega
              · obtain rfl : x = kk := by omega
                obtain ⟨q, hq⟩ : ∃ q, q = quoO x who := ⟨_, rfl⟩
                have hqn : cL x (quoC i x h x) = cL x q := cL_congr fun y hy => by
                  unfold quoC; rw [if_pos hy, hq]; unfold quoO; rw [HWl.out, hh]
                have HQb := Lib.hid (show ∀ y, q y ≤ 257 from fun y => by
                  rw [hq]; unfold quoO quotaN; rw [HWl.out]
                  have := Nat.div_le_self i x
                  split <;> omega)
                obtain ⟨kept, hkept⟩ : ∃ kept, kept = keptO x who := ⟨_, rfl⟩
                have hkl : kept.length = i := by rw [hkept]; unfold keptO; rw [keep_len]; exact HWl.out
                obtain ⟨ks, hks⟩ : ∃ ks, ks = kept.map (idI ms) := ⟨_, rfl⟩
                obtain ⟨neg, hneg⟩ : ∃ neg : List Int, neg = List.replicate i (-1) := ⟨_, rfl⟩
                have hkn : ks.length = neg.length := by rw [hks, hneg, List.length_map, List.length_replicate]; exact hkl
                have hnl : neg.length = i := by rw [hneg, List.length_replicate]
                obtain ⟨gc, hgc⟩ : ∃ gc, gc = wr.heap.size := ⟨_, rfl⟩
                obtain ⟨St, hSt⟩ : ∃ St : Nat → Thing, St = fun y => (intsT (some ⟨gc, 0, none⟩) x x (cL x (stK q (fun _ => 0) who y))).sep ((ownsT a2 i c4 (oL ps (mix ks neg y))).sep ((intsT (some ⟨gq, 0, none⟩) x x (cL x q)).sep (intsT (some ⟨gh, 0, none⟩) x x (cL x h)))) := ⟨_, rfl⟩
                have K6 := Lib.hid (show Held w (wr.alloc (.cells (ints (List.replicate x 0)).toArray 3)) (St 0) from by
                  rw [hqn] at hH
                  have h1 := (lit_held hH (l := List.replicate x 0) (n := x) (by simp) (by omega)).swap
                  rw [hSt]
                  show Held w _ ((intsT (some ⟨gc, 0, none⟩) x x (cL x (stK q (fun _ => 0) who 0))).sep ((ownsT a2 i c4 (oL ps (mix ks neg 0))).sep _))
                  rw [stK_zero, cL_zero, mix_zero, hneg, hgc]
                  exact h1.imp2 (fun h => sep_imp2 (fun h => h) (fun h => sep_swap (sep_assoc' h)) h))
                clear hH
                go_wp2_with fail
                rw [← hgc]
                clear hgc
                go_loopw [19] (fun yx wq => ∃ y : Nat, y ≤ i ∧ yx = .int .i64 y ∧ Held w wq (St y)) (fun yx _ => i - (intOf yx).toNat)
                case atStart => exact ⟨0, Nat.zero_le _, rfl, K6.out⟩
                case round =>
                  clear K6
                  obtain ⟨y, hy, rfl, hH⟩ := hrel
                  by_cases hyi : y < i
                  · obtain ⟨⟨pf, pt⟩, hp⟩ := get_some (l := ps) (i := y) (by rw [← HN.out]; exact hyi)
                    obtain ⟨hd, hhd⟩ : ∃ hd, hd = hadI os (pf, pt) := ⟨_, rfl⟩
                    have hwy := HWh.out y _ hp
                    rw [← hhd] at hwy
                    obtain ⟨kz, hkz⟩ : ∃ kz, kz = (idxI ms hd).getD x := ⟨_, rfl⟩
                    have hyI : (y : Int) < (i : Int) := by omega
                    have KH := Lib.hid (show Held w wr (St (if kz < 0 then y + 1 else y)) from by rw [if_neg (Nat.not_lt_zero _)]; exact hH)
                    have HHp := Lib.hid (fun V (hs : Still w V) => HHad.out V hs (pf, pt))
                    dsimp only at HHp
                    rw [← hhd] at HHp
                    obtain ⟨bp, op, rfl, hc⟩ := row_still HB.out hH.ground y _ hp
                    have HCp := Lib.hid (fun V (hs : Still w V) => show V.cell? ⟨bp, op + y * 2, none⟩ = some (.int .i64 pf) ∧ V.cell? ⟨bp, op + y * 2 + 1, none⟩ = some (.int .i64 pt) from by
                      obtain ⟨b', o', e, hd⟩ := row_still HB.out hs y _ hp
                      obtain ⟨rfl, rfl⟩ : bp = b' ∧ op = o' := by simpa using e
                      exact ⟨hd 0 _ rfl, by rw [Nat.add_assoc]; exact hd 1 _ rfl⟩)
                    clear hH hc
                    go_wp2_with fail
                    go_loopw [20] (fun zx wq => ∃ z : Nat, z ≤ x ∧ zx = .int .i64 z ∧ Held w wq (St (if kz < z then y + 1 else y))) (fun zx _ => x - (intOf zx).toNat)
                    case atStart => exact ⟨0, Nat.zero_le _, rfl, KH.out⟩
                    case round =>
                      clear KH
                      obtain ⟨z, hz, rfl, hH⟩ := hrel
                      by_cases hzx : z < x
                      · obtain ⟨mk, hmk2⟩ := get_some (l := ms) (i := z) (by rw [← HM.out]; exact hzx)
                        obtain ⟨bm, om, rfl, cm⟩ := (HA.out.still hH.ground) z mk hmk2
                        have HC := Lib.hid (fun V (hs : Still w V) => show V.cell? ⟨bp, op + y * 2, none⟩ = some (.int .i64 pf) ∧ V.cell? ⟨bp, op + y * 2 + 1, none⟩ = some (.int .i64 pt) ∧ V.cell? ⟨bm, om + z, none⟩ = some (.int .i64 mk) from by
                          obtain ⟨p1, p2⟩ := HCp.out V hs
                          obtain ⟨b'', o'', e2, hd2⟩ := (HA.out.still hs) z mk hmk2
                          obtain ⟨rfl, rfl⟩ : bm = b'' ∧ om = o'' := by simpa using e2
                          exact ⟨p1, p2, hd2⟩)
                        have hix := HIx.out hd z mk hmk2
                        have hzi : (z : Int) < (x : Int) := by omega
                        have KD := Lib.hid (hH.still (Turned.refl _ _).drew)
                        obtain ⟨y0, y1, y2⟩ := HC.out _ hH.ground
                        obtain ⟨x0, x1, x2⟩ := HC.out _ KD.out.ground
                        by_cases heq : hd = mk
                        · have hzk : kz = z := by rw [hkz, hix.2 heq]; rfl
                          subst heq
                          have hwz : who[y]? = some (some z) := by rw [hwy, hix.2 rfl]
                          obtain ⟨cc, hcc⟩ : ∃ cc, cc = stK q (fun _ => 0) who y z := ⟨_, rfl⟩
                          obtain ⟨qz, hqz⟩ : ∃ qz, qz = q z := ⟨_, rfl⟩
                          have hkp := keep_some (q := q) (c := fun _ => 0) hwz
                          have hst := stK_some (q := q) (c := fun _ => 0) hwz
                          rw [← hcc, ← hqz] at hkp hst
                          have hkq : kept[y]? = (keepL q (fun _ => 0) who)[y]? := by rw [hkept, hq]; rfl
                          have hqb := HQb.out z
                          rw [← hqz] at hqb
                          rw [if_neg (show ¬ kz < z by omega)] at hH KD
                          have HD := Lib.hid (fun V (H : Held w V (St y)) => show V.cell? ⟨gc, z, none⟩ = some (.int .i64 (cc : Int)) ∧ V.cell? ⟨gq, z, none⟩ = some (.int .i64 (qz : Int)) from by
                            rw [hSt] at H
                            obtain ⟨p1, _, _⟩ := held_put H (cL_get _ hzx)
                            rw [← hcc] at p1
                            obtain ⟨b2, o2, e2, p2⟩ := ints_at H.snd.snd.drop (cL_len x q).symm z _ (cL_get q hzx)
                            obtain ⟨rfl, rfl⟩ : gq = b2 ∧ 0 = o2 := by simpa using e2
                            rw [Nat.zero_add, ← hqz] at p2
                            exact ⟨p1, p2⟩)
                          obtain ⟨y3, y4⟩ := HD.out _ hH
                          obtain ⟨x3, x4⟩ := HD.out _ KD.out
                          have heqb : (hd == hd) = true := by simp
                          by_cases hroom : cc < qz
                          · rw [if_pos hroom] at hkp hst
                            have hksy : ks[y]? = some hd := by
                              rw [hks, List.getElem?_map, hkq, hkp]
                              show some (idI ms (some z)) = _
                              obtain ⟨hj1, hj2⟩ := List.getElem?_eq_some_iff.1 hmk2
                              rw [idI_at hj1, hj2]
                            obtain ⟨g0, hg0⟩ : ∃ g0, a2 = some ⟨g0, 0, none⟩ := by
                              have := hH; rw [hSt] at this
                              obtain ⟨_, h, _⟩ := this.snd.drop
                              exact owm_addr h.1 (by omega)
                            have hmy : (mix ks neg y)[y]? = some (-1) := by
                              rw [mix_get hkn (by omega), if_neg (Nat.lt_irrefl _), hneg, List.getElem?_replicate, if_pos hyi]
                            have HPo := Lib.hid (fun V (H : Held w V (St y)) => show V.cell? ⟨g0, y * 3 + 2, none⟩ = some (.int .i64 (-1)) ∧ V.frozen? ⟨g0, y * 3 + 2, none⟩ = false ∧ ∀ v : Int, Held w (V.setCell ⟨g0, y * 3 + 2, none⟩ (.int .i64 v)) ((intsT (some ⟨gc, 0, none⟩) x x (cL x (stK q (fun _ => 0) who y))).sep ((ownsT a2 i c4 (oL ps ((mix ks neg y).set y v))).sep ((intsT (some ⟨gq, 0, none⟩) x x (cL x q)).sep (intsT (some ⟨gh, 0, none⟩) x x (cL x h))))) from by
                              rw [hSt] at H
                              have H' := H.turn
                              rw [hg0] at H'
                              obtain ⟨p1, p2, p3⟩ := held_putO H' hp hmy
                              refine ⟨p1, p2, fun v => ?_⟩
                              rw [hg0]
                              exact (p3 v).turn)
                            have HPc := Lib.hid (fun V (H : Held w V ((intsT (some ⟨gc, 0, none⟩) x x (cL x (stK q (fun _ => 0) who y))).sep ((ownsT a2 i c4 (oL ps ((mix ks neg y).set y hd))).sep ((intsT (some ⟨gq, 0, none⟩) x x (cL x q)).sep (intsT (some ⟨gh, 0, none⟩) x x (cL x h)))))) => show V.cell? ⟨gc, z, none⟩ = some (.int .i64 (cc : Int)) ∧ V.frozen? ⟨gc, z, none⟩ = false ∧ ∀ v : Int, Held w (V.setCell ⟨gc, z, none⟩ (.int .i64 v)) ((intsT (some ⟨gc, 0, none⟩) x x ((cL x (stK q (fun _ => 0) who y)).set z v)).sep ((ownsT a2 i c4 (oL ps ((mix ks neg y).set y hd))).sep ((intsT (some ⟨gq, 0, none⟩) x x (cL x q)).sep (intsT (some ⟨gh, 0, none⟩) x x (cL x h))))) from by
                              have := held_put H (cL_get _ hzx)
                              rw [← hcc] at this
                              exact this)
                            have HNx := Lib.hid (fun V (H : Held w V ((intsT (some ⟨gc, 0, none⟩) x x ((cL x (stK q (fun _ => 0) who y)).set z ((cc : Int) + 1))).sep ((ownsT a2 i c4 (oL ps ((mix ks neg y).set y hd))).sep ((intsT (some ⟨gq, 0, none⟩) x x (cL x q)).sep (intsT (some ⟨gh, 0, none⟩) x x (cL x h)))))) => show Held w V (St (if kz < z + 1 then y + 1 else y)) from by
                              rw [if_pos (by omega), hSt]
                              have e1 := cL_set (c := stK q (fun _ => 0) who y) (d := stK q (fun _ => 0) who (y + 1)) hzx (fun j _ hj => by rw [hst]; unfold upd; rw [if_neg hj])
                              rw [show stK q (fun _ => 0) who (y + 1) z = cc + 1 from by rw [hst]; unfold upd; rw [if_pos rfl, hcc]] at e1
                              rw [show ((cc : Int) + 1) = ((cc + 1 : Nat) : Int) from rfl, e1, mix_set hkn hksy] at H
                              exact H)
                            have hri2 : (cc : Int) < (qz : Int) := by omega
                            have hrb : decide ((cc : Int) < (qz : Int)) = true := decide_eq_true hri2
                            have hrb2 : decide (cc < qz) = true := decide_eq_true hroom
                            have hqi : (qz : Int) ≤ 257 := by omega
                            rw [hg0] at HPc HNx HPo
                            clear hH hp hmk2 hhd hix hwy hkz hcc hqz hkp hst hkq hwz hksy hmy hqb hzk
                            subst hg0
                            go_wp2_with fail
                            refine wp_region_noPanic ?_
                            refine wp_region_held_drew (S := (fun V => V.cell? ⟨bp, op + y * 2, none⟩ = some (.int .i64 pf) ∧ V.cell? ⟨bp, op + y * 2 + 1, none⟩ = some (.int .i64 pt) ∧ V.cell? ⟨bm, om + z, none⟩ = some (.int .i64 hd) ∧ V.cell? ⟨gc, z, none⟩ = some (.int .i64 (cc : Int)) ∧ V.cell? ⟨gq, z, none⟩ = some (.int .i64 (qz : Int)))) (by kernel_rfl) (by exact ⟨by assumption, by assumption, by assumption, by assumption, by assumption⟩) (fun hHeld => ?_)
                            refine wpAnyH_take (i := 0) (v := ?_) (List.getElem?_toArray.trans rfl) (by kernel_rfl) (by kernel_rfl) (by kernel_rfl) (fun _ _ _ h => h) (Or.inl ⟨by rfl, ?_⟩) hHeld ?_
                            rotate_left
                            · intro V hV; obtain ⟨k0, k1, k2, k3, k4⟩ := hV; go_simp; all_goals with_reducible rfl
                            try simp only [Act.put, List.setIfInBounds_toArray, List.set_cons_zero, List.set_cons_succ]
                            refine wpAnyH_take (i := 1) (v := ?_) (List.getElem?_toArray.trans rfl) (by kernel_rfl) (by kernel_rfl) (by kernel_rfl) (fun _ _ _ h => h) (Or.inl ⟨by rfl, ?_⟩) hHeld ?_
                            rotate_left
                            · intro V hV; obtain ⟨k0, k1, k2, k3, k4⟩ := hV; go_simp; all_goals with_reducible rfl
                            try simp only [Act.put, List.setIfInBounds_toArray, List.set_cons_zero, List.set_cons_succ]
                            refine wpAnyH_take (i := 2) (v := ?_) (List.getElem?_toArray.trans rfl) (by kernel_rfl) (by kernel_rfl) (by kernel_rfl) (fun _ _ _ h => h) (Or.inl ⟨by rfl, ?_⟩) hHeld ?_
                            rotate_left
                            · intro V hV; obtain ⟨k0, k1, k2, k3, k4⟩ := hV; go_simp; all_goals with_reducible rfl
                            try simp only [Act.put, List.setIfInBounds_toArray, List.set_cons_zero, List.set_cons_succ]
                            refine wpAnyH_take (i := 3) (v := ?_) (List.getElem?_toArray.trans rfl) (by kernel_rfl) (by kernel_rfl) (by kernel_rfl) (fun _ _ _ h => h) (Or.inl ⟨by rfl, ?_⟩) hHeld ?_
                            rotate_left
                            · intro V hV; obtain ⟨k0, k1, k2, k3, k4⟩ := hV; go_simp; all_goals with_reducible rfl
                            try simp only [Act.put, List.setIfInBounds_toArray, List.set_cons_zero, List.set_cons_succ]
                            refine wpAnyH_take (i := 4) (v := ?_) (List.getElem?_toArray.trans rfl) (by kernel_rfl) (by kernel_rfl) (by kernel_rfl) (fun _ _ _ h => h) (Or.inl ⟨by rfl, ?_⟩) hHeld ?_
                            rotate_left
                            · intro V hV; obtain ⟨k0, k1, k2, k3, k4⟩ := hV; go_simp; all_goals with_reducible rfl
                            try simp only [Act.put, List.setIfInBounds_toArray, List.set_cons_zero, List.set_cons_succ]
                            refine wpAnyH_take (i := 6) (v := ?_) (List.getElem?_toArray.trans rfl) (by kernel_rfl) (by kernel_rfl) (by kernel_rfl) (fun _ _ _ h => h) (Or.inl ⟨by rfl, ?_⟩) hHeld ?_
                            rotate_left
                            · intro V hV; obtain ⟨k0, k1, k2, k3, k4⟩ := hV; go_simp; all_goals with_reducible rfl
                            try simp only [Act.put, List.setIfInBounds_toArray, List.set_cons_zero, List.set_cons_succ]
                            refine wpAnyH_take (i := 7) (v := ?_) (List.getElem?_toArray.trans rfl) (by kernel_rfl) (by kernel_rfl) (by kernel_rfl) (fun _ _ _ h => h) (Or.inl ⟨by rfl, ?_⟩) hHeld ?_
                            rotate_left
                            · intro V hV; obtain ⟨k0, k1, k2, k3, k4⟩ := hV; go_simp; all_goals with_reducible rfl
                            try simp only [Act.put, List.setIfInBounds_toArray, List.set_cons_zero, List.set_cons_succ]
                            refine wpAnyH_take (i := 8) (v := ?_) (List.getElem?_toArray.trans rfl) (by kernel_rfl) (by kernel_rfl) (by kernel_rfl) (fun _ _ _ h => h) (Or.inl ⟨by rfl, ?_⟩) hHeld ?_
                            rotate_left
                            · intro V hV; obtain ⟨k0, k1, k2, k3, k4⟩ := hV; go_simp; all_goals with_reducible rfl
                            try simp only [Act.put, List.setIfInBounds_toArray, List.set_cons_zero, List.set_cons_succ]
                            refine wpAnyH_take (i := 9) (v := ?_) (List.getElem?_toArray.trans rfl) (by kernel_rfl) (by kernel_rfl) (by kernel_rfl) (fun _ _ _ h => h) (Or.inl ⟨by rfl, ?_⟩) hHeld ?_
                            rotate_left
                            · intro V hV; obtain ⟨k0, k1, k2, k3, k4⟩ := hV; go_simp; all_goals with_reducible rfl
                            try simp only [Act.put, List.setIfInBounds_toArray, List.set_cons_zero, List.set_cons_succ]
                            refine wpAnyH_ready (rs := [5]) (by kernel_rfl) (by simp) ?_
                            refine AllReadyH.cons (List.getElem?_toArray.trans rfl) (fun K hK => ?_) ?_
                            · go_simp
                              (with_reducible refine (HHp.out _ KD.out.ground).mono ?_); rintro e w5 ⟨rfl, hs⟩; have K5 := Lib.hid (KD.out.still hs); obtain ⟨z0, z1, z2⟩ := HC.out _ K5.out.ground; obtain ⟨z3, z4⟩ := HD.out _ K5.out; clear hs KD
                              go_wp2_with fail
                              refine hK.out _ _ ?_ (fun hHeld => ?_)
                              · exact ⟨by assumption, by assumption, by assumption, by assumption, by assumption⟩
                              clear hK K
                              try simp only [Act.put, List.setIfInBounds_toArray, List.set_cons_zero, List.set_cons_succ]
                              refine wpAnyH_take (i := 10) (v := ?_) (List.getElem?_toArray.trans rfl) (by kernel_rfl) (by kernel_rfl) (by kernel_rfl) (fun _ _ _ h => h) (Or.inl ⟨by rfl, ?_⟩) hHeld ?_
                              rotate_left
                              · intro V hV; obtain ⟨k0, k1, k2, k3, k4⟩ := hV; go_simp; all_goals with_reducible rfl
                              try simp only [Act.put, List.setIfInBounds_toArray, List.set_cons_zero, List.set_cons_succ]
                              refine wpAnyH_take (i := 11) (v := ?_) (List.getElem?_toArray.trans rfl) (by kernel_rfl) (by kernel_rfl) (by kernel_rfl) (fun _ _ _ h => h) (Or.inl ⟨by rfl, ?_⟩) hHeld ?_
                              rotate_left
                              · intro V hV; obtain ⟨k0, k1, k2, k3, k4⟩ := hV; go_simp; all_goals with_reducible rfl
                              try simp only [Act.put, List.setIfInBounds_toArray, List.set_cons_zero, List.set_cons_succ]
                              refine wpAnyH_take (i := 12) (v := ?_) (List.getElem?_toArray.trans rfl) (by kernel_rfl) (by kernel_rfl) (by kernel_rfl) (fun _ _ _ h => h) (Or.inl ⟨by rfl, ?_⟩) hHeld ?_
                              rotate_left
                              · intro V hV; obtain ⟨k0, k1, k2, k3, k4⟩ := hV; go_simp; all_goals with_reducible rfl
                              try simp only [Act.put, List.setIfInBounds_toArray, List.set_cons_zero, List.set_cons_succ]
                              refine wpAnyH_take (i := 13) (v := ?_) (List.getElem?_toArray.trans rfl) (by kernel_rfl) (by kernel_rfl) (by kernel_rfl) (fun _ _ _ h => h) (Or.inl ⟨by rfl, ?_⟩) hHeld ?_
                              rotate_left
                              · intro V hV; obtain ⟨k0, k1, k2, k3, k4⟩ := hV; go_simp; all_goals with_reducible rfl
                              try simp only [Act.put, List.setIfInBounds_toArray, List.set_cons_zero, List.set_cons_succ]
                              refine wpAnyH_take (i := 14) (v := ?_) (List.getElem?_toArray.trans rfl) (by kernel_rfl) (by kernel_rfl) (by kernel_rfl) (fun _ _ _ h => h) (Or.inl ⟨by rfl, ?_⟩) hHeld ?_
                              rotate_left
                              · intro V hV; obtain ⟨k0, k1, k2, k3, k4⟩ := hV; go_simp; all_goals with_reducible rfl
                              try simp only [Act.put, List.setIfInBounds_toArray, List.set_cons_zero, List.set_cons_succ]
                              refine wpAnyH_take (i := 15) (v := ?_) (List.getElem?_toArray.trans rfl) (by kernel_rfl) (by kernel_rfl) (by kernel_rfl) (fun _ _ _ h => h) (Or.inl ⟨by rfl, ?_⟩) hHeld ?_
                              rotate_left
                              · intro V hV; obtain ⟨k0, k1, k2, k3, k4⟩ := hV; go_simp; all_goals with_reducible rfl
                              try simp only [Act.put, List.setIfInBounds_toArray, List.set_cons_zero, List.set_cons_succ]
                              refine wpAnyH_take (i := 16) (v := ?_) (List.getElem?_toArray.trans rfl) (by kernel_rfl) (by kernel_rfl) (by kernel_rfl) (fun _ _ _ h => h) (Or.inl ⟨by rfl, ?_⟩) hHeld ?_
                              rotate_left
                              · intro V hV; obtain ⟨k0, k1, k2, k3, k4⟩ := hV; go_simp; all_goals with_reducible rfl
                              try simp only [Act.put, List.setIfInBounds_toArray, List.set_cons_zero, List.set_cons_succ]
                              refine wpAnyH_take (i := 17) (v := ?_) (List.getElem?_toArray.trans rfl) (by kernel_rfl) (by kernel_rfl) (by kernel_rfl) (fun _ _ _ h => h) (Or.inl ⟨by rfl, ?_⟩) hHeld ?_
                              rotate_left
                              · intro V hV; obtain ⟨k0, k1, k2, k3, k4⟩ := hV; go_simp; all_goals with_reducible rfl
                              try simp only [Act.put, List.setIfInBounds_toArray, List.set_cons_zero, List.set_cons_succ]
                              refine wpAnyH_take (i := 18) (v := ?_) (List.getElem?_toArray.trans rfl) (by kernel_rfl) (by kernel_rfl) (by kernel_rfl) (fun _ _ _ h => h) (Or.inl ⟨by rfl, ?_⟩) hHeld ?_
                              rotate_left
                              · intro V hV; obtain ⟨k0, k1, k2, k3, k4⟩ := hV; go_simp; all_goals with_reducible rfl
                              try simp only [Act.put, List.setIfInBounds_toArray, List.set_cons_zero, List.set_cons_succ]
                              refine wpAnyH_take (i := 19) (v := ?_) (List.getElem?_toArray.trans rfl) (by kernel_rfl) (by kernel_rfl) (by kernel_rfl) (fun _ _ _ h => h) (Or.inl ⟨by rfl, ?_⟩) hHeld ?_
                              rotate_left
                              · intro V hV; obtain ⟨k0, k1, k2, k3, k4⟩ := hV; go_simp; all_goals with_reducible rfl
                              try simp only [Act.put, List.setIfInBounds_toArray, List.set_cons_zero, List.set_cons_succ]
                              refine wpAnyH_take (i := 20) (v := ?_) (List.getElem?_toArray.trans rfl) (by kernel_rfl) (by kernel_rfl) (by kernel_rfl) (fun _ _ _ h => h) (Or.inl ⟨by rfl, ?_⟩) hHeld ?_
                              rotate_left
                              · intro V hV; obtain ⟨k0, k1, k2, k3, k4⟩ := hV; go_simp; all_goals with_reducible rfl
                              try simp only [Act.put, List.setIfInBounds_toArray, List.set_cons_zero, List.set_cons_succ]
                              refine wpAnyH_take (i := 21) (v := ?_) (List.getElem?_toArray.trans rfl) (by kernel_rfl) (by kernel_rfl) (by kernel_rfl) (fun _ _ _ h => h) (Or.inl ⟨by rfl, ?_⟩) hHeld ?_
                              rotate_left
                              · intro V hV; obtain ⟨k0, k1, k2, k3, k4⟩ := hV; go_simp; all_goals with_reducible rfl
                              try simp only [Act.put, List.setIfInBounds_toArray, List.set_cons_zero, List.set_cons_succ]
                              refine wpAnyH_done (by kernel_rfl) ?_ _
                              refine NoPanic.normal ?_
                              obtain ⟨a0, a1, a2⟩ := HPo.out _ K5.out
                              obtain ⟨b0, b1, b2⟩ := HPc.out _ (a2 hd)
                              have K8 := Lib.hid (b2 ((cc : Int) + 1))
                              clear a2 b2
                              go_wp2_with fail
                              go_roundw
                              case rel => exact ⟨z + 1, by omega, by go_num, HNx.out _ K8.out⟩
                              case measure => simp [intOf]; omega
                            exact AllReadyH.nil
                          · rw [if_neg hroom] at hkp hst
                            have HNx := Lib.hid (show St (if kz < z + 1 then y + 1 else y) = St y from by
                              rw [if_pos (by omega), hSt]
                              show (intsT (some ⟨gc, 0, none⟩) x x (cL x (stK q (fun _ => 0) who (y + 1)))).sep ((ownsT a2 i c4 (oL ps (mix ks neg (y + 1)))).sep _) = _
                              rw [hst, mix_same hkn (by rw [hks, List.getElem?_map, hkq, hkp, hneg, List.getElem?_replicate, if_pos hyi]; rfl)])
                            have hri2 : ¬ (cc : Int) < (qz : Int) := by omega
                            have hrb : decide ((cc : Int) < (qz : Int)) = false := decide_eq_false hri2
                            have hrb2 : decide (cc < qz) = false := decide_eq_false hroom
                            clear hH hp hmk2 hhd hix hwy hkz hcc hqz hkp hst hkq hwz hqb hzk
                            go_wp2_with fail
                            refine wp_region_noPanic ?_
                            refine wp_region_held_drew (S := (fun V => V.cell? ⟨bp, op + y * 2, none⟩ = some (.int .i64 pf) ∧ V.cell? ⟨bp, op + y * 2 + 1, none⟩ = some (.int .i64 pt) ∧ V.cell? ⟨bm, om + z, none⟩ = some (.int .i64 hd) ∧ V.cell? ⟨gc, z, none⟩ = some (.int .i64 (cc : Int)) ∧ V.cell? ⟨gq, z, none⟩ = some (.int .i64 (qz : Int)))) (by kernel_rfl) (by exact ⟨by assumption, by assumption, by assumption, by assumption, by assumption⟩) (fun hHeld => ?_)
                            refine wpAnyH_take (i := 0) (v := ?_) (List.getElem?_toArray.trans rfl) (by kernel_rfl) (by kernel_rfl) (by kernel_rfl) (fun _ _ _ h => h) (Or.inl ⟨by rfl, ?_⟩) hHeld ?_
                            rotate_left
                            · intro V hV; obtain ⟨k0, k1, k2, k3, k4⟩ := hV; go_simp; all_goals with_reducible rfl
                            try simp only [Act.put, List.setIfInBounds_toArray, List.set_cons_zero, List.set_cons_succ]
                            refine wpAnyH_take (i := 1) (v := ?_) (List.getElem?_toArray.trans rfl) (by kernel_rfl) (by kernel_rfl) (by kernel_rfl) (fun _ _ _ h => h) (Or.inl ⟨by rfl, ?_⟩) hHeld ?_
                            rotate_left
                            · intro V hV; obtain ⟨k0, k1, k2, k3, k4⟩ := hV; go_simp; all_goals with_reducible rfl
                            try simp only [Act.put, List.setIfInBounds_toArray, List.set_cons_zero, List.set_cons_succ]
                            refine wpAnyH_take (i := 2) (v := ?_) (List.getElem?_toArray.trans rfl) (by kernel_rfl) (by kernel_rfl) (by kernel_rfl) (fun _ _ _ h => h) (Or.inl ⟨by rfl, ?_⟩) hHeld ?_
                            rotate_left
                            · intro V hV; obtain ⟨k0, k1, k2, k3, k4⟩ := hV; go_simp; all_goals with_reducible rfl
                            try simp only [Act.put, List.setIfInBounds_toArray, List.set_cons_zero, List.set_cons_succ]
                            refine wpAnyH_take (i := 3) (v := ?_) (List.getElem?_toArray.trans rfl) (by kernel_rfl) (by kernel_rfl) (by kernel_rfl) (fun _ _ _ h => h) (Or.inl ⟨by rfl, ?_⟩) hHeld ?_
                            rotate_left
                            · intro V hV; obtain ⟨k0, k1, k2, k3, k4⟩ := hV; go_simp; all_goals with_reducible rfl
                            try simp only [Act.put, List.setIfInBounds_toArray, List.set_cons_zero, List.set_cons_succ]
                            refine wpAnyH_take (i := 4) (v := ?_) (List.getElem?_toArray.trans rfl) (by kernel_rfl) (by kernel_rfl) (by kernel_rfl) (fun _ _ _ h => h) (Or.inl ⟨by rfl, ?_⟩) hHeld ?_
                            rotate_left
                            · intro V hV; obtain ⟨k0, k1, k2, k3, k4⟩ := hV; go_simp; all_goals with_reducible rfl
                            try simp only [Act.put, List.setIfInBounds_toArray, List.set_cons_zero, List.set_cons_succ]
                            refine wpAnyH_take (i := 6) (v := ?_) (List.getElem?_toArray.trans rfl) (by kernel_rfl) (by kernel_rfl) (by kernel_rfl) (fun _ _ _ h => h) (Or.inl ⟨by rfl, ?_⟩) hHeld ?_
                            rotate_left
                            · intro V hV; obtain ⟨k0, k1, k2, k3, k4⟩ := hV; go_simp; all_goals with_reducible rfl
                            try simp only [Act.put, List.setIfInBounds_toArray, List.set_cons_zero, List.set_cons_succ]
                            refine wpAnyH_take (i := 7) (v := ?_) (List.getElem?_toArray.trans rfl) (by kernel_rfl) (by kernel_rfl) (by kernel_rfl) (fun _ _ _ h => h) (Or.inl ⟨by rfl, ?_⟩) hHeld ?_
                            rotate_left
                            · intro V hV; obtain ⟨k0, k1, k2, k3, k4⟩ := hV; go_simp; all_goals with_reducible rfl
                            try simp only [Act.put, List.setIfInBounds_toArray, List.set_cons_zero, List.set_cons_succ]
                            refine wpAnyH_take (i := 8) (v := ?_) (List.getElem?_toArray.trans rfl) (by kernel_rfl) (by kernel_rfl) (by kernel_rfl) (fun _ _ _ h => h) (Or.inl ⟨by rfl, ?_⟩) hHeld ?_
                            rotate_left
                            · intro V hV; obtain ⟨k0, k1, k2, k3, k4⟩ := hV; go_simp; all_goals with_reducible rfl
                            try simp only [Act.put, List.setIfInBounds_toArray, List.set_cons_zero, List.set_cons_succ]
                            refine wpAnyH_take (i := 9) (v := ?_) (List.getElem?_toArray.trans rfl) (by kernel_rfl) (by kernel_rfl) (by kernel_rfl) (fun _ _ _ h => h) (Or.inl ⟨by rfl, ?_⟩) hHeld ?_
                            rotate_left
                            · intro V hV; obtain ⟨k0, k1, k2, k3, k4⟩ := hV; go_simp; all_goals with_reducible rfl
                            try simp only [Act.put, List.setIfInBounds_toArray, List.set_cons_zero, List.set_cons_succ]
                            refine wpAnyH_ready (rs := [5]) (by kernel_rfl) (by simp) ?_
                            refine AllReadyH.cons (List.getElem?_toArray.trans rfl) (fun K hK => ?_) ?_
                            · go_simp
                              (with_reducible refine (HHp.out _ KD.out.ground).mono ?_); rintro e w5 ⟨rfl, hs⟩; have K5 := Lib.hid (KD.out.still hs); obtain ⟨z0, z1, z2⟩ := HC.out _ K5.out.ground; obtain ⟨z3, z4⟩ := HD.out _ K5.out; clear hs KD
                              go_wp2_with fail
                              refine hK.out _ _ ?_ (fun hHeld => ?_)
                              · exact ⟨by assumption, by assumption, by assumption, by assumption, by assumption⟩
                              clear hK K
                              try simp only [Act.put, List.setIfInBounds_toArray, List.set_cons_zero, List.set_cons_succ]
                              refine wpAnyH_take (i := 10) (v := ?_) (List.getElem?_toArray.trans rfl) (by kernel_rfl) (by kernel_rfl) (by kernel_rfl) (fun _ _ _ h => h) (Or.inl ⟨by rfl, ?_⟩) hHeld ?_
                              rotate_left
                              · intro V hV; obtain ⟨k0, k1, k2, k3, k4⟩ := hV; go_simp; all_goals with_reducible rfl
                              try simp only [Act.put, List.setIfInBounds_toArray, List.set_cons_zero, List.set_cons_succ]
                              refine wpAnyH_take (i := 11) (v := ?_) (List.getElem?_toArray.trans rfl) (by kernel_rfl) (by kernel_rfl) (by kernel_rfl) (fun _ _ _ h => h) (Or.inl ⟨by rfl, ?_⟩) hHeld ?_
                              rotate_left
                              · intro V hV; obtain ⟨k0, k1, k2, k3, k4⟩ := hV; go_simp; all_goals with_reducible rfl
                              try simp only [Act.put, List.setIfInBounds_toArray, List.set_cons_zero, List.set_cons_succ]
                              refine wpAnyH_take (i := 12) (v := ?_) (List.getElem?_toArray.trans rfl) (by kernel_rfl) (by kernel_rfl) (by kernel_rfl) (fun _ _ _ h => h) (Or.inl ⟨by rfl, ?_⟩) hHeld ?_
                              rotate_left
                              · intro V hV; obtain ⟨k0, k1, k2, k3, k4⟩ := hV; go_simp; all_goals with_reducible rfl
                              try simp only [Act.put, List.setIfInBounds_toArray, List.set_cons_zero, List.set_cons_succ]
                              refine wpAnyH_take (i := 13) (v := ?_) (List.getElem?_toArray.trans rfl) (by kernel_rfl) (by kernel_rfl) (by kernel_rfl) (fun _ _ _ h => h) (Or.inl ⟨by rfl, ?_⟩) hHeld ?_
                              rotate_left
                              · intro V hV; obtain ⟨k0, k1, k2, k3, k4⟩ := hV; go_simp; all_goals with_reducible rfl
                              try simp only [Act.put, List.setIfInBounds_toArray, List.set_cons_zero, List.set_cons_succ]
                              refine wpAnyH_take (i := 14) (v := ?_) (List.getElem?_toArray.trans rfl) (by kernel_rfl) (by kernel_rfl) (by kernel_rfl) (fun _ _ _ h => h) (Or.inl ⟨by rfl, ?_⟩) hHeld ?_
                              rotate_left
                              · intro V hV; obtain ⟨k0, k1, k2, k3, k4⟩ := hV; go_simp; all_goals with_reducible rfl
                              try simp only [Act.put, List.setIfInBounds_toArray, List.set_cons_zero, List.set_cons_succ]
                              refine wpAnyH_take (i := 15) (v := ?_) (List.getElem?_toArray.trans rfl) (by kernel_rfl) (by kernel_rfl) (by kernel_rfl) (fun _ _ _ h => h) (Or.inl ⟨by rfl, ?_⟩) hHeld ?_
                              rotate_left
                              · intro V hV; obtain ⟨k0, k1, k2, k3, k4⟩ := hV; go_simp; all_goals with_reducible rfl
                              try simp only [Act.put, List.setIfInBounds_toArray, List.set_cons_zero, List.set_cons_succ]
                              refine wpAnyH_take (i := 16) (v := ?_) (List.getElem?_toArray.trans rfl) (by kernel_rfl) (by kernel_rfl) (by kernel_rfl) (fun _ _ _ h => h) (Or.inl ⟨by rfl, ?_⟩) hHeld ?_
                              rotate_left
                              · intro V hV; obtain ⟨k0, k1, k2, k3, k4⟩ := hV; go_simp; all_goals with_reducible rfl
                              try simp only [Act.put, List.setIfInBounds_toArray, List.set_cons_zero, List.set_cons_succ]
                              refine wpAnyH_take (i := 17) (v := ?_) (List.getElem?_toArray.trans rfl) (by kernel_rfl) (by kernel_rfl) (by kernel_rfl) (fun _ _ _ h => h) (Or.inl ⟨by rfl, ?_⟩) hHeld ?_
                              rotate_left
                              · intro V hV; obtain ⟨k0, k1, k2, k3, k4⟩ := hV; go_simp; all_goals with_reducible rfl
                              try simp only [Act.put, List.setIfInBounds_toArray, List.set_cons_zero, List.set_cons_succ]
                              refine wpAnyH_take (i := 18) (v := ?_) (List.getElem?_toArray.trans rfl) (by kernel_rfl) (by kernel_rfl) (by kernel_rfl) (fun _ _ _ h => h) (Or.inl ⟨by rfl, ?_⟩) hHeld ?_
                              rotate_left
                              · intro V hV; obtain ⟨k0, k1, k2, k3, k4⟩ := hV; go_simp; all_goals with_reducible rfl
                              try simp only [Act.put, List.setIfInBounds_toArray, List.set_cons_zero, List.set_cons_succ]
                              refine wpAnyH_take (i := 19) (v := ?_) (List.getElem?_toArray.trans rfl) (by kernel_rfl) (by kernel_rfl) (by kernel_rfl) (fun _ _ _ h => h) (Or.inl ⟨by rfl, ?_⟩) hHeld ?_
                              rotate_left
                              · intro V hV; obtain ⟨k0, k1, k2, k3, k4⟩ := hV; go_simp; all_goals with_reducible rfl
                              try simp only [Act.put, List.setIfInBounds_toArray, List.set_cons_zero, List.set_cons_succ]
                              refine wpAnyH_take (i := 20) (v := ?_) (List.getElem?_toArray.trans rfl) (by kernel_rfl) (by kernel_rfl) (by kernel_rfl) (fun _ _ _ h => h) (Or.inl ⟨by rfl, ?_⟩) hHeld ?_
                              rotate_left
                              · intro V hV; obtain ⟨k0, k1, k2, k3, k4⟩ := hV; go_simp; all_goals with_reducible rfl
                              try simp only [Act.put, List.setIfInBounds_toArray, List.set_cons_zero, List.set_cons_succ]
                              refine wpAnyH_take (i := 21) (v := ?_) (List.getElem?_toArray.trans rfl) (by kernel_rfl) (by kernel_rfl) (by kernel_rfl) (fun _ _ _ h => h) (Or.inl ⟨by rfl, ?_⟩) hHeld ?_
                              rotate_left
                              · intro V hV; obtain ⟨k0, k1, k2, k3, k4⟩ := hV; go_simp; all_goals with_reducible rfl
                              try simp only [Act.put, List.setIfInBounds_toArray, List.set_cons_zero, List.set_cons_succ]
                              refine wpAnyH_done (by kernel_rfl) ?_ _
                              refine NoPanic.normal ?_
                              go_wp2_with fail
                              go_roundw
                              case rel => exact ⟨z + 1, by omega, by go_num, by rw [HNx.out]; exact K5.out⟩
                              case measure => simp [intOf]; omega
                            exact AllReadyH.nil
                        · have HNx := Lib.hid (show St (if kz < z + 1 then y + 1 else y) = St (if kz < z then y + 1 else y) from by
                            have : kz ≠ z := by
                              rw [hkz]
                              cases hi : idxI ms hd with
                              | none => show x ≠ z; omega
                              | some k0 => show k0 ≠ z; rintro rfl; exact heq (hix.1 hi)
                            by_cases h1 : kz < z
                            · rw [if_pos h1, if_pos (by omega)]
                            · rw [if_neg h1, if_neg (by omega)])
                          have heqb : (hd == mk) = false := by rw [beq_eq_false_iff_ne]; exact heq
                          clear hH hp hmk2 hhd hix hwy hkz
                          go_wp2_with fail
                          refine wp_region_noPanic ?_
                          refine wp_region_held_drew (S := (fun V => V.cell? ⟨bp, op + y * 2, none⟩ = some (.int .i64 pf) ∧ V.cell? ⟨bp, op + y * 2 + 1, none⟩ = some (.int .i64 pt) ∧ V.cell? ⟨bm, om + z, none⟩ = some (.int .i64 mk))) (by kernel_rfl) (by exact ⟨by assumption, by assumption, by assumption⟩) (fun hHeld => ?_)
                          refine wpAnyH_take (i := 0) (v := ?_) (List.getElem?_toArray.trans rfl) (by kernel_rfl) (by kernel_rfl) (by kernel_rfl) (fun _ _ _ h => h) (Or.inl ⟨by rfl, ?_⟩) hHeld ?_
                          rotate_left
                          · intro V hV; obtain ⟨k0, k1, k2⟩ := hV; go_simp; all_goals with_reducible rfl
                          try simp only [Act.put, List.setIfInBounds_toArray, List.set_cons_zero, List.set_cons_succ]
                          refine wpAnyH_take (i := 1) (v := ?_) (List.getElem?_toArray.trans rfl) (by kernel_rfl) (by kernel_rfl) (by kernel_rfl) (fun _ _ _ h => h) (Or.inl ⟨by rfl, ?_⟩) hHeld ?_
                          rotate_left
                          · intro V hV; obtain ⟨k0, k1, k2⟩ := hV; go_simp; all_goals with_reducible rfl
                          try simp only [Act.put, List.setIfInBounds_toArray, List.set_cons_zero, List.set_cons_succ]
                          refine wpAnyH_take (i := 2) (v := ?_) (List.getElem?_toArray.trans rfl) (by kernel_rfl) (by kernel_rfl) (by kernel_rfl) (fun _ _ _ h => h) (Or.inl ⟨by rfl, ?_⟩) hHeld ?_
                          rotate_left
                          · intro V hV; obtain ⟨k0, k1, k2⟩ := hV; go_simp; all_goals with_reducible rfl
                          try simp only [Act.put, List.setIfInBounds_toArray, List.set_cons_zero, List.set_cons_succ]
                          refine wpAnyH_take (i := 3) (v := ?_) (List.getElem?_toArray.trans rfl) (by kernel_rfl) (by kernel_rfl) (by kernel_rfl) (fun _ _ _ h => h) (Or.inl ⟨by rfl, ?_⟩) hHeld ?_
                          rotate_left
                          · intro V hV; obtain ⟨k0, k1, k2⟩ := hV; go_simp; all_goals with_reducible rfl
                          try simp only [Act.put, List.setIfInBounds_toArray, List.set_cons_zero, List.set_cons_succ]
                          refine wpAnyH_take (i := 4) (v := ?_) (List.getElem?_toArray.trans rfl) (by kernel_rfl) (by kernel_rfl) (by kernel_rfl) (fun _ _ _ h => h) (Or.inl ⟨by rfl, ?_⟩) hHeld ?_
                          rotate_left
                          · intro V hV; obtain ⟨k0, k1, k2⟩ := hV; go_simp; all_goals with_reducible rfl
                          try simp only [Act.put, List.setIfInBounds_toArray, List.set_cons_zero, List.set_cons_succ]
                          refine wpAnyH_take (i := 6) (v := ?_) (List.getElem?_toArray.trans rfl) (by kernel_rfl) (by kernel_rfl) (by kernel_rfl) (fun _ _ _ h => h) (Or.inl ⟨by rfl, ?_⟩) hHeld ?_
                          rotate_left
                          · intro V hV; obtain ⟨k0, k1, k2⟩ := hV; go_simp; all_goals with_reducible rfl
                          try simp only [Act.put, List.setIfInBounds_toArray, List.set_cons_zero, List.set_cons_succ]
                          refine wpAnyH_take (i := 7) (v := ?_) (List.getElem?_toArray.trans rfl) (by kernel_rfl) (by kernel_rfl) (by kernel_rfl) (fun _ _ _ h => h) (Or.inl ⟨by rfl, ?_⟩) hHeld ?_
                          rotate_left
                          · intro V hV; obtain ⟨k0, k1, k2⟩ := hV; go_simp; all_goals with_reducible rfl
                          try simp only [Act.put, List.setIfInBounds_toArray, List.set_cons_zero, List.set_cons_succ]
                          refine wpAnyH_take (i := 8) (v := ?_) (List.getElem?_toArray.trans rfl) (by kernel_rfl) (by kernel_rfl) (by kernel_rfl) (fun _ _ _ h => h) (Or.inl ⟨by rfl, ?_⟩) hHeld ?_
                          rotate_left
                          · intro V hV; obtain ⟨k0, k1, k2⟩ := hV; go_simp; all_goals with_reducible rfl
                          try simp only [Act.put, List.setIfInBounds_toArray, List.set_cons_zero, List.set_cons_succ]
                          refine wpAnyH_take (i := 9) (v := ?_) (List.getElem?_toArray.trans rfl) (by kernel_rfl) (by kernel_rfl) (by kernel_rfl) (fun _ _ _ h => h) (Or.inl ⟨by rfl, ?_⟩) hHeld ?_
                          rotate_left
                          · intro V hV; obtain ⟨k0, k1, k2⟩ := hV; go_simp; all_goals with_reducible rfl
                          try simp only [Act.put, List.setIfInBounds_toArray, List.set_cons_zero, List.set_cons_succ]
                          refine wpAnyH_ready (rs := [5]) (by kernel_rfl) (by simp) ?_
                          refine AllReadyH.cons (List.getElem?_toArray.trans rfl) (fun K hK => ?_) ?_
                          · go_simp
                            (with_reducible refine (HHp.out _ KD.out.ground).mono ?_); rintro e w5 ⟨rfl, hs⟩; have K5 := Lib.hid (KD.out.still hs); obtain ⟨z0, z1, z2⟩ := HC.out _ K5.out.ground; clear hs KD
                            go_wp2_with fail
                            refine hK.out _ _ ?_ (fun hHeld => ?_)
                            · exact ⟨by assumption, by assumption, by assumption⟩
                            clear hK K
                            try simp only [Act.put, List.setIfInBounds_toArray, List.set_cons_zero, List.set_cons_succ]
                            refine wpAnyH_take (i := 10) (v := ?_) (List.getElem?_toArray.trans rfl) (by kernel_rfl) (by kernel_rfl) (by kernel_rfl) (fun _ _ _ h => h) (Or.inl ⟨by rfl, ?_⟩) hHeld ?_
                            rotate_left
                            · intro V hV; obtain ⟨k0, k1, k2⟩ := hV; go_simp; all_goals with_reducible rfl
                            try simp only [Act.put, List.setIfInBounds_toArray, List.set_cons_zero, List.set_cons_succ]
                            refine wpAnyH_take (i := 11) (v := ?_) (List.getElem?_toArray.trans rfl) (by kernel_rfl) (by kernel_rfl) (by kernel_rfl) (fun _ _ _ h => h) (Or.inl ⟨by rfl, ?_⟩) hHeld ?_
                            rotate_left
                            · intro V hV; obtain ⟨k0, k1, k2⟩ := hV; go_simp; all_goals with_reducible rfl
                            try simp only [Act.put, List.setIfInBounds_toArray, List.set_cons_zero, List.set_cons_succ]
                            refine wpAnyH_take (i := 12) (v := undef) (List.getElem?_toArray.trans rfl) (by kernel_rfl) (by kernel_rfl) (by kernel_rfl) (fun _ _ _ h => h) (Or.inr ⟨by rfl, rfl⟩) hHeld ?_
                            try simp only [Act.put, List.setIfInBounds_toArray, List.set_cons_zero, List.set_cons_succ]
                            refine wpAnyH_take (i := 13) (v := undef) (List.getElem?_toArray.trans rfl) (by kernel_rfl) (by kernel_rfl) (by kernel_rfl) (fun _ _ _ h => h) (Or.inr ⟨by rfl, rfl⟩) hHeld ?_
                            try simp only [Act.put, List.setIfInBounds_toArray, List.set_cons_zero, List.set_cons_succ]
                            refine wpAnyH_take (i := 14) (v := undef) (List.getElem?_toArray.trans rfl) (by kernel_rfl) (by kernel_rfl) (by kernel_rfl) (fun _ _ _ h => h) (Or.inr ⟨by rfl, rfl⟩) hHeld ?_
                            try simp only [Act.put, List.setIfInBounds_toArray, List.set_cons_zero, List.set_cons_succ]
                            refine wpAnyH_take (i := 15) (v := undef) (List.getElem?_toArray.trans rfl) (by kernel_rfl) (by kernel_rfl) (by kernel_rfl) (fun _ _ _ h => h) (Or.inr ⟨by rfl, rfl⟩) hHeld ?_
                            try simp only [Act.put, List.setIfInBounds_toArray, List.set_cons_zero, List.set_cons_succ]
                            refine wpAnyH_take (i := 16) (v := undef) (List.getElem?_toArray.trans rfl) (by kernel_rfl) (by kernel_rfl) (by kernel_rfl) (fun _ _ _ h => h) (Or.inr ⟨by rfl, rfl⟩) hHeld ?_
                            try simp only [Act.put, List.setIfInBounds_toArray, List.set_cons_zero, List.set_cons_succ]
                            refine wpAnyH_take (i := 17) (v := undef) (List.getElem?_toArray.trans rfl) (by kernel_rfl) (by kernel_rfl) (by kernel_rfl) (fun _ _ _ h => h) (Or.inr ⟨by rfl, rfl⟩) hHeld ?_
                            try simp only [Act.put, List.setIfInBounds_toArray, List.set_cons_zero, List.set_cons_succ]
                            refine wpAnyH_take (i := 18) (v := undef) (List.getElem?_toArray.trans rfl) (by kernel_rfl) (by kernel_rfl) (by kernel_rfl) (fun _ _ _ h => h) (Or.inr ⟨by rfl, rfl⟩) hHeld ?_
                            try simp only [Act.put, List.setIfInBounds_toArray, List.set_cons_zero, List.set_cons_succ]
                            refine wpAnyH_take (i := 19) (v := undef) (List.getElem?_toArray.trans rfl) (by kernel_rfl) (by kernel_rfl) (by kernel_rfl) (fun _ _ _ h => h) (Or.inr ⟨by rfl, rfl⟩) hHeld ?_
                            try simp only [Act.put, List.setIfInBounds_toArray, List.set_cons_zero, List.set_cons_succ]
                            refine wpAnyH_take (i := 20) (v := undef) (List.getElem?_toArray.trans rfl) (by kernel_rfl) (by kernel_rfl) (by kernel_rfl) (fun _ _ _ h => h) (Or.inr ⟨by rfl, rfl⟩) hHeld ?_
                            try simp only [Act.put, List.setIfInBounds_toArray, List.set_cons_zero, List.set_cons_succ]
                            refine wpAnyH_take (i := 21) (v := ?_) (List.getElem?_toArray.trans rfl) (by kernel_rfl) (by kernel_rfl) (by kernel_rfl) (fun _ _ _ h => h) (Or.inl ⟨by rfl, ?_⟩) hHeld ?_
                            rotate_left
                            · intro V hV; obtain ⟨k0, k1, k2⟩ := hV; go_simp; all_goals with_reducible rfl
                            try simp only [Act.put, List.setIfInBounds_toArray, List.set_cons_zero, List.set_cons_succ]
                            refine wpAnyH_done (by kernel_rfl) ?_ _
                            refine NoPanic.normal ?_
                            go_wp2_with fail
                            go_roundw
                            case rel => exact ⟨z + 1, by omega, by go_num, by rw [HNx.out]; exact K5.out⟩
                            case measure => simp [intOf]; omega
                          exact AllReadyH.nil
                      · obtain rfl : z = x := by omega
                        have K7 := Lib.hid (show Held w wr (St (y + 1)) from by
                          cases hi : idxI ms hd with
                          | some k0 =>
                            rw [hi] at hkz
                            have : kz < z := by
                              rw [hkz]
                              have := idx_lt hi
                              rw [← HM.out] at this
                              exact this
                            rw [if_pos this] at hH
                            exact hH
                          | none =>
                            rw [hi] at hkz hwy
                            rw [if_neg (show ¬ kz < z by rw [hkz]; exact Nat.lt_irrefl _)] at hH
                            have hkp := keep_none (q := q) (c := fun _ => 0) hwy
                            have hkq : kept[y]? = (keepL q (fun _ => 0) who)[y]? := by rw [hkept, hq]; rfl
                            have : St (y + 1) = St y := by
                              rw [hSt]
                              show (intsT (some ⟨gc, 0, none⟩) z z (cL z (stK q (fun _ => 0) who (y + 1)))).sep ((ownsT a2 i c4 (oL ps (mix ks neg (y + 1)))).sep _) = _
                              rw [stK_none hwy, mix_same hkn (by rw [hks, List.getElem?_map, hkq, hkp, hneg, List.getElem?_replicate, if_pos hyi]; rfl)]
                            rw [this]; exact hH)
                        clear hH hkz hwy hhd hp
                        go_wp2_with fail
                        go_roundw
                        case rel => exact ⟨y + 1, by omega, by go_num, K7.out⟩
                        case measure => simp [intOf]; omega
                  · obtain rfl : y = i := by omega
                    obtain ⟨outs, houts⟩ : ∃ outs, outs = asgO x who := ⟨_, rfl⟩
                    obtain ⟨zs, hzs⟩ : ∃ zs, zs = outs.map (idI ms) := ⟨_, rfl⟩
                    have hol : outs.length = y := by rw [houts]; unfold asgO; rw [fill_len]; rw [← hkept]; exact hkl
                    have hzk : zs.length = ks.length := by rw [hzs, hks, List.length_map, List.length_map, hol, hkl]
                    have hkl' : ks.length = y := by rw [hks, List.length_map]; exact hkl
                    obtain ⟨cF, hcF⟩ : ∃ cF : Nat → Nat → Nat, cF = stF x q (cntO kept) kept := ⟨_, rfl⟩
                    obtain ⟨Su, hSu⟩ : ∃ Su : Nat → Thing, Su = fun v => (intsT (some ⟨gc, 0, none⟩) x x (cL x (cF v))).sep ((ownsT a2 y c4 (oL ps (mix zs ks v))).sep ((intsT (some ⟨gq, 0, none⟩) x x (cL x q)).sep (intsT (some ⟨gh, 0, none⟩) x x (cL x h)))) := ⟨_, rfl⟩
                    have K8 := Lib.hid (show Held w wr (Su 0) from by
                      rw [hSt] at hH
                      rw [hSu]
                      show Held w wr ((intsT (some ⟨gc, 0, none⟩) x x (cL x (cF 0))).sep ((ownsT a2 y c4 (oL ps (mix zs ks 0))).sep _))
                      have e1 : cL x (cF 0) = cL x (stK q (fun _ => 0) who y) := cL_congr fun j _ => by
                        rw [hcF, stF_zero, ← HWl.out, stK_all, Nat.zero_add, hkept, hq]; rfl
                      rw [e1, mix_zero]
                      have e2 : mix ks neg y = ks := by rw [← hnl]; exact mix_all hkn
                      have hH' : Held w wr ((intsT (some ⟨gc, 0, none⟩) x x (cL x (stK q (fun _ => 0) who y))).sep ((ownsT a2 y c4 (oL ps (mix ks neg y))).sep ((intsT (some ⟨gq, 0, none⟩) x x (cL x q)).sep (intsT (some ⟨gh, 0, none⟩) x x (cL x h))))) := hH
                      rw [e2] at hH'
                      exact hH')
                    have HFin := Lib.hid (show oL ps (mix zs ks y) = asgI ms ps os from by
                      have e : mix zs ks y = zs := by rw [← hkl']; exact mix_all hzk
                      rw [e, hzs, houts, hwho]
                      unfold oL asgI outI
                      rw [List.zipWith_map_right, HM.out])
                    have HKo := Lib.hid (fun (j : Nat) (o : Option Nat) (ho : kept[j]? = some o) => show o = none ∨ ∃ k0, k0 < x ∧ o = some k0 from by
                      have := keep_ok (m := x) (q := quoO x who) (c := fun _ => 0) (l := who) (by rw [hwho, HM.out]; exact who_ok ms ps os)
                      exact this o (by rw [hkept] at ho; exact List.mem_of_getElem? ho))
                    have HOs := Lib.hid (fun (j k0 : Nat) (ho : kept[j]? = some (some k0)) => show outs[j]? = some (some k0) from by
                      rw [houts]; unfold asgO; rw [hkept] at ho; exact fill_keep _ _ _ _ _ _ ho)
                    have HOn := Lib.hid (fun (j : Nat) (ho : kept[j]? = some none) => show outs[j]? = some (roomK x q (cF j)) from by
                      rw [houts, hcF, hq, hkept]; unfold asgO; rw [hkept] at ho; exact fill_none ho)
                    have HFs := Lib.hid (fun (j k0 : Nat) (ho : kept[j]? = some (some k0)) => show cF (j + 1) = cF j from by rw [hcF]; exact stF_some ho)
                    have HFn := Lib.hid (fun (j : Nat) (ho : kept[j]? = some none) => show cF (j + 1) = (match roomK x q (cF j) with | some k => upd (cF j) k | none => cF j) from by rw [hcF]; exact stF_none ho)
                    clear hH hSt houts hcF hkept hkn hnl hneg hq hwho
                    go_wp2_with fail
                    go_loopw [21] (fun vx wq => ∃ v : Nat, v ≤ y ∧ vx = .int .i64 v ∧ Held w wq (Su v)) (fun vx _ => y - (intOf vx).toNat)
                    case atStart => exact ⟨0, Nat.zero_le _, rfl, K8.out⟩
                    case round =>
                      clear K8
                      obtain ⟨v, hv, rfl, hH⟩ := hrel
                      by_cases hvy : v < y
                      · obtain ⟨o, ho⟩ := get_some (l := kept) (i := v) (by omega)
                        obtain ⟨⟨pf, pt⟩, hp⟩ := get_some (l := ps) (i := v) (by rw [← HN.out]; exact hvy)
                        obtain ⟨g0, hg0⟩ : ∃ g0, a2 = some ⟨g0, 0, none⟩ := by
                          have := hH; rw [hSu] at this
                          obtain ⟨_, h, _⟩ := this.snd.drop
                          exact owm_addr h.1 (by omega)
                        have hvi : (v : Int) < (y : Int) := by omega
                        have hksv : ks[v]? = some (idI ms o) := by rw [hks, List.getElem?_map, ho]; rfl
                        have hmv : (mix zs ks v)[v]? = some (idI ms o) := by rw [mix_get hzk (by omega), if_neg (Nat.lt_irrefl _)]; exact hksv
                        -- who a place was given to, told of any world
                        have HId := Lib.hid (fun (u : Nat) (e : Int) (he : (mix zs ks u)[v]? = some e) V (H : Held w V (Su u)) => show V.cell? ⟨g0, v * 3 + 2, none⟩ = some (.int .i64 e) from by
                          rw [hSu] at H
                          have H' := H.turn
                          rw [hg0] at H'
                          exact (held_putO H' hp he).1)
                        rcases HKo.out v o ho with rfl | ⟨k0, hk0, rfl⟩
                        · -- nobody's yet
                          have hon := HOn.out v ho
                          have hfn := HFn.out v ho
                          obtain ⟨c, hc⟩ : ∃ c, c = cF v := ⟨_, rfl⟩
                          rw [← hc] at hon hfn
                          have hz1 : zs[v]? = some (idI ms (roomK x q c)) := by rw [hzs, List.getElem?_map, hon]; rfl
                          have hks1 : ks[v]? = some (-1) := hksv
                          have HM1 := Lib.hid (show (mix zs ks v)[v]? = some (-1) from hmv)
                          have HM2 := Lib.hid (fun (k0 : Nat) (hr : roomK x q c = some k0) (hk0 : k0 < x) => show ∃ e, ms[k0]? = some e ∧ 0 ≤ e ∧ (mix zs ks (v + 1))[v]? = some e from by
                            obtain ⟨e, he⟩ := get_some (l := ms) (i := k0) (by rw [← HM.out]; exact hk0)
                            refine ⟨e, he, (HRi.out.2.1 e (List.mem_of_getElem? he)).1, ?_⟩
                            rw [mix_get hzk (by omega), if_pos (Nat.lt_succ_self v), hz1, hr]
                            obtain ⟨h1, h2⟩ := List.getElem?_eq_some_iff.1 he
                            rw [idI_at h1, h2])
                          have HNo := Lib.hid (fun (hr : roomK x q c = none) => show Su (v + 1) = Su v from by
                            rw [hSu]
                            show (intsT (some ⟨gc, 0, none⟩) x x (cL x (cF (v + 1)))).sep ((ownsT a2 y c4 (oL ps (mix zs ks (v + 1)))).sep _) = _
                            rw [hr] at hfn hz1
                            rw [hfn, mix_same hzk (by rw [hz1, hks1]; rfl), hc])
                          have HGo := Lib.hid (fun (k0 : Nat) (e : Int) (hk0 : k0 < x) (hr : roomK x q c = some k0) (he : ms[k0]? = some e) V (H : Held w V (Su v)) =>
                            show (V.cell? ⟨g0, v * 3 + 2, none⟩ = some (.int .i64 (-1)) ∧ V.frozen? ⟨g0, v * 3 + 2, none⟩ = false) ∧ ((V.setCell ⟨g0, v * 3 + 2, none⟩ (.int .i64 e)).cell? ⟨gc, k0, none⟩ = some (.int .i64 ((c k0 : Nat) : Int)) ∧ (V.setCell ⟨g0, v * 3 + 2, none⟩ (.int .i64 e)).frozen? ⟨gc, k0, none⟩ = false) ∧
                              Held w ((V.setCell ⟨g0, v * 3 + 2, none⟩ (.int .i64 e)).setCell ⟨gc, k0, none⟩ (.int .i64 (((c k0 : Nat) : Int) + 1))) (Su (v + 1)) from by
                            rw [hSu] at H
                            have H' := H.turn
                            rw [hg0] at H'
                            obtain ⟨p1, p2, p3⟩ := held_putO H' hp HM1.out
                            have H2 := (p3 e).turn
                            rw [← hc] at H2
                            obtain ⟨q1, q2, q3⟩ := held_put H2 (cL_get _ hk0)
                            refine ⟨⟨p1, p2⟩, ⟨q1, q2⟩, ?_⟩
                            have H3 := q3 (((c k0 : Nat) : Int) + 1)
                            rw [hr] at hfn hz1
                            have hze : zs[v]? = some e := by
                              rw [hz1]
                              obtain ⟨h1, h2⟩ := List.getElem?_eq_some_iff.1 he
                              rw [idI_at h1, h2]
                            have e1 := cL_set (c := c) (d := cF (v + 1)) hk0 (fun j _ hj => by rw [hfn]; show c j = upd c k0 j; unfold upd; rw [if_neg hj])
                            rw [show cF (v + 1) k0 = c k0 + 1 from by rw [hfn]; show upd c k0 k0 = _; unfold upd; rw [if_pos rfl]] at e1
                            rw [show (((c k0 : Nat) : Int) + 1) = ((c k0 + 1 : Nat) : Int) from rfl, e1, mix_set hzk hze] at H3
                            rw [hSu, hg0]
                            exact H3)
                          have HRd := Lib.hid (fun (z : Nat) (hz : z < x) V (H : Held w V (Su v)) => show V.cell? ⟨gc, z, none⟩ = some (.int .i64 ((c z : Nat) : Int)) ∧ V.cell? ⟨gq, z, none⟩ = some (.int .i64 ((q z : Nat) : Int)) from by
                            rw [hSu] at H
                            obtain ⟨p1, _, _⟩ := held_put H (cL_get _ hz)
                            rw [← hc] at p1
                            obtain ⟨b2, o2, e2, p2⟩ := ints_at H.snd.snd.drop (cL_len x q).symm z _ (cL_get q hz)
                            obtain ⟨rfl, rfl⟩ : gq = b2 ∧ 0 = o2 := by simpa using e2
                            rw [Nat.zero_add] at p2
                            exact ⟨p1, p2⟩)
                          have KH := Lib.hid hH
                          clear hH ho hp hksv hmv hon hfn hz1 hks1
                          clear hc
                          subst hg0
                          go_wp2_with fail
                          go_loopw [22] (fun zx wq => ∃ z : Nat, z ≤ x ∧ zx = .int .i64 z ∧ ((Held w wq (Su v) ∧ ∀ j, j < z → ¬ c j < q j) ∨ ∃ k0, z = k0 + 1 ∧ roomK x q c = some k0 ∧ Held w wq (Su (v + 1)))) (fun zx _ => x - (intOf zx).toNat)
                          case atStart => exact ⟨0, Nat.zero_le _, rfl, .inl ⟨KH.out, fun j hj => by omega⟩⟩
                          case round =>
                           as_aux_lemma =>
                            clear KH
                            obtain ⟨z, hz, rfl, ⟨hH, hno⟩ | ⟨k0, rfl, hr, hH⟩⟩ := hrel
                            · have i0 := HId.out v (-1) HM1.out _ hH
                              by_cases hzx : z < x
                              · have hzi : (z : Int) < (x : Int) := by omega
                                obtain ⟨r1, r2⟩ := HRd.out z hzx _ hH
                                have hqb := HQb.out z
                                by_cases hroom : c z < q z
                                · have HRm := Lib.hid (room_is hzx hroom hno)
                                  obtain ⟨e, he, he0, _⟩ := HM2.out z HRm.out hzx
                                  have hcz : decide (c z < q z) = true := decide_eq_true hroom
                                  have hczi : ((c z : Nat) : Int) < ((q z : Nat) : Int) := by omega
                                  have hc257 : ((c z : Nat) : Int) < 257 := by omega
                                  have KH := Lib.hid hH
                                  have HGz := Lib.hid (HGo.out z e hzx HRm.out he)
                                  have HMe := Lib.hid (fun V (hs : Still w V) => (HA.out.still hs) z e he)
                                  generalize c z = cz at *
                                  generalize q z = qz at *
                                  obtain ⟨bm, om, rfl, cm⟩ := HMe.out wr hH.ground
                                  clear hH hno he hroom hqb
                                  go_wp2_with fail
                                  go_quiet (fail)
                                  obtain ⟨V, hV⟩ : ∃ V, V = wr.drewN nq := ⟨_, rfl⟩
                                  have KV := Lib.hid (show Held w V (Su v) from by rw [hV]; exact KH.out.still ((Turned.refl _ _).drewN _))
                                  have cv : V.cell? ⟨bm, om + z, none⟩ = some (.int .i64 e) := by rw [hV]; exact cm
                                  rw [← hV]
                                  clear hV cm i0 r1 r2
                                  obtain ⟨⟨p1, p2⟩, ⟨q1, q2⟩, p3⟩ := HGz.out V KV.out
                                  have K9 := Lib.hid p3
                                  clear p3
                                  go_wp2_with fail
                                  go_roundw
                                  case rel => exact ⟨z + 1, by omega, by go_num, .inr ⟨z, rfl, HRm.out, K9.out⟩⟩
                                  case measure => simp [intOf]; omega
                                · have hno2 : ∀ j, j < z + 1 → ¬ c j < q j := fun j hj => by
                                    rcases Nat.lt_succ_iff_lt_or_eq.1 hj with h | rfl
                                    · exact hno j h
                                    · exact hroom
                                  have HN2 := Lib.hid hno2
                                  have hcz : decide (c z < q z) = false := decide_eq_false hroom
                                  have hczi : ¬ ((c z : Nat) : Int) < ((q z : Nat) : Int) := by omega
                                  have KH := Lib.hid hH
                                  obtain ⟨cz, hcz2⟩ : ∃ cz, cz = c z := ⟨_, rfl⟩
                                  obtain ⟨qz, hqz2⟩ : ∃ qz, qz = q z := ⟨_, rfl⟩
                                  rw [← hcz2] at r1 hcz hczi
                                  rw [← hqz2] at r2 hcz hczi
                                  clear hH hno hno2 hroom hqb hcz2 hqz2
                                  go_wp2_with fail
                                  go_quiet (fail)
                                  go_wp2_with fail
                                  go_roundw
                                  case rel => exact ⟨z + 1, by omega, by go_num, .inl ⟨KH.out.still ((Turned.refl _ _).drewN _), HN2.out⟩⟩
                                  case measure => simp [intOf]; omega
                              · obtain rfl : z = x := by omega
                                have K9 := Lib.hid (show Held w wr (Su (v + 1)) from by rw [HNo.out (room_no hno)]; exact hH)
                                clear hH hno hzx
                                go_wp2_with fail
                                go_roundw
                                case rel => exact ⟨v + 1, by omega, by go_num, K9.out⟩
                                case measure => simp [intOf]; omega
                            · obtain ⟨e, he, he0, hmz⟩ := HM2.out k0 hr (by omega)
                              have i0 := HId.out (v + 1) e hmz _ hH
                              have hei : ¬ e < 0 := by omega
                              have K9 := Lib.hid hH
                              clear hH hr he hmz
                              by_cases hzx : k0 + 1 < x
                              · have hzi : (k0 : Int) + 1 < (x : Int) := by omega
                                go_wp2_with fail
                                go_roundw
                                case rel => exact ⟨v + 1, by omega, by go_num, K9.out⟩
                                case measure => simp [intOf]; omega
                              · have hzi : ¬ (k0 : Int) + 1 < (x : Int) := by omega
                                go_wp2_with fail
                                go_roundw
                                case rel => exact ⟨v + 1, by omega, by go_num, K9.out⟩
                                case measure => simp [intOf]; omega
                        · -- kept
                          obtain ⟨e, he⟩ := get_some (l := ms) (i := k0) (by rw [← HM.out]; exact hk0)
                          have he0 : ¬ e < 0 := by have := (HRi.out.2.1 e (List.mem_of_getElem? he)).1; omega
                          have hide : idI ms (some k0) = e := by
                            obtain ⟨h1, h2⟩ := List.getElem?_eq_some_iff.1 he
                            rw [idI_at h1, h2]
                          rw [hide] at hksv hmv
                          have i0 := HId.out v e hmv _ hH
                          have K9 := Lib.hid (show Held w wr (Su (v + 1)) from by
                            have hos := HOs.out v k0 ho
                            have : Su (v + 1) = Su v := by
                              rw [hSu]
                              show (intsT (some ⟨gc, 0, none⟩) x x (cL x (cF (v + 1)))).sep ((ownsT a2 y c4 (oL ps (mix zs ks (v + 1)))).sep _) = _
                              rw [HFs.out v k0 ho, mix_same hzk (by rw [hksv, hzs, List.getElem?_map, hos]; show some (idI ms (some k0)) = _; rw [hide])]
                            rw [this]; exact hH)
                          clear hH ho hp hksv hmv he hide
                          subst hg0
                          go_wp2_with fail
                          go_loopw [22] (fun zx wq => zx = .int .i64 0 ∧ wq = wr) (fun zx _ => 0)
                          case atStart => exact ⟨rfl, rfl⟩
                          case round =>
                            obtain ⟨rfl, rfl⟩ := hrel
                            go_wp2_with fail
                            go_roundw
                            case rel => exact ⟨v + 1, by omega, by go_num, K9.out⟩
                            case measure => simp [intOf]; omega
                      · obtain rfl : v = y := by omega
                        have KF := Lib.hid hH
                        rw [hSu] at KF
                        have KG := Lib.hid (show Held w wr (ownsT a2 v c4 (asgI ms ps os)) from by
                          have h := KF.out.snd.drop
                          rw [HFin.out] at h
                          exact h)
                        clear hH KF hvy
                        go_wp2_with fail
                        go_ret2
                        exact ⟨a2, c4, rfl, (ow_raise KG.out).1, (ow_raise KG.out).2⟩
theorem rightB_iff {ms : List Int} {ps : List Plc} : rightB ms ps = true ↔ risI ms ∧ disI ps := decide_eq_true_iff
theorem zshassign_any (w : World) (ao bo co : Option Addr) (ms : List Int) (ps : List Plc) (os : List Own) (m n k c1 c2 c3 r : Nat) (hm : m = ms.length) (hn : n = ps.length) (hk : k = os.length) (h1 : m ≤ 1000) (h2 : n ≤ 1000) (h3 : k ≤ 1000)
    (hA : NumsAt w ao ms) (hB : PlAt w bo ps) (hC : OwAt w co os) (hr : r = (asgV ms ps os).length) :
    Calls Try.prog 35 #[.slice ao m c1, .slice bo n c2, .slice co k c3] w (OutAsg w (asgV ms ps os) r (asgE ms ps os)) := by
  by_cases hl : 256 < n ∨ 256 < k
  · have e : asgE ms ps os = 3 := by unfold asgE; rw [if_pos (by rw [← hn, ← hk]; exact hl)]
    have ev : asgV ms ps os = [] := asgV_no (by rw [e]; decide)
    rw [ev] at hr ⊢
    rw [e]
    subst hr
    exact zshassign_long w ao bo co m n k c1 c2 c3 hl
  · cases hrt : rightB ms ps with
    | false =>
      have hno : ¬ (risI ms ∧ disI ps) := of_decide_eq_false hrt
      have e : asgE ms ps os = 2 := by unfold asgE; rw [if_neg (by rw [← hn, ← hk]; exact hl), if_neg hno]
      have ev : asgV ms ps os = [] := asgV_no (by rw [e]; decide)
      rw [ev] at hr ⊢
      rw [e]
      subst hr
      exact zshassign_arg w ao bo co ms ps m n k c1 c2 c3 hm hn h1 (by omega) (by omega) hA hB hrt
    | true =>
      have hyes := rightB_iff.1 hrt
      have e : asgE ms ps os = 0 := asgE_of (by omega) (by omega) hyes.1 hyes.2
      have ev : asgV ms ps os = asgI ms ps os := asgV_ok e
      rw [ev] at hr ⊢
      rw [e]
      rw [asgI_len, ← hn] at hr
      subst hr
      exact zshassign_ok w ao bo co ms ps os m _ k c1 c2 c3 hm hn hk h1 (by omega) (by omega) hA hB hC hrt
end Go.Proofs.Ytplnbphbccflfaa
