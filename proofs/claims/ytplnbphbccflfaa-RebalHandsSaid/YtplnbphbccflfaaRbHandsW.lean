/- RebalHands: the walk. No condition but that the program's table keeps its words. -/
import Derived.Test.YtplnbphbccflfaaRbLem
import Derived.Test.YtplnbphbccflfaaHasInt
namespace Go.Proofs.Ytplnbphbccflfaa
open Go.RowKit
set_option linter.unusedVariables false
set_option linter.unusedSimpArgs false
set_option maxRecDepth 100000

/-- What an act leaves: none has another owner but as it may. -/
def HandsP (O O' : List Own) (ms : List Int) (acked : Int) : Prop := ∀ (j k : Nat) (a b : Own), O[j]? = some a → O'[k]? = some b → a.1 = b.1 → 0 ≤ a.2 → a.2 ∈ ms → a.2 ≠ acked → a.2 = b.2
theorem own_len {w : World} {B n c : Nat} {a : Option Addr} {l : List Int} (h : w.ownsRow B 3 1 (.slice a n c) n (ints l)) : n = l.length ∧ n ≤ 9223372036854775807 := by
  have h1 := h.1
  rw [ints_length] at h1
  have h2 := ow_le h
  unfold maxLen at h2
  omega
theorem owns_at {w0 w : World} {a : Option Addr} {n c : Nat} {l : List Own} (h : Held w0 w (ownsT a n c l)) (hn : n = l.length) : OwAt w a l := by
  obtain ⟨_, h, _⟩ := h
  exact RowAt.of_own encOw_len h.1 hn
theorem held_mix {w0 w : World} {A o v p n : Thing} (h : Held w0 w (A.sep ((o.sep v).sep (p.sep n)))) : Held w0 w (A.sep (n.sep v)) := by
  have h1 := h.turn.assoc.snd.turn
  have h2 : Held w0 w (A.sep (p.sep (v.sep n))) := h1.imp2 (fun h => sep_imp2 (fun h => h) (fun h => sep_turn h) h)
  exact h2.turn.snd.imp2 (fun h => sep_imp2 (fun h => h) (fun h => sep_swap h) h)

set_option maxHeartbeats 32000000 in
theorem rbhands_walk {BT : Nat → TbM → Thing} (A : RebalApi BT) (t : Sl Act17) (w : World) (h1 : SlOk encAct17 okAct17 3 w t) :
    Calls Try.prog 4 #[.slice t.a t.len t.cap] w fun e w' => e = .returned (.bool true) ∧ Still w w' := by
  have HWk := Lib.hid (works17 A w)
  have HMk := Lib.hid (fun (V : World) (R : Thing) (H : Held w V R) => show Calls Try.prog 8 #[] V fun e w' => ∃ q, e = .returned (.pointer (some ⟨q, 0, none⟩)) ∧ Held w w' ((BT q TbM.new).sep R) from
    (A.make_ V).mono fun e w' ⟨q, he, hn⟩ => ⟨q, he, H.new hn⟩)
  obtain ⟨ta, tl, tc, tx⟩ := t
  have HTX := Lib.hid h1
  have HTL : Hid (tx.length = tl) := Lib.hid h1.len
  clear h1
  go_enter Try.func4, Try.ntmps4
  go_wp2_with (first
    | (go_at_call 18; ((with_reducible refine HWk.out.mono ?_)); rintro e w1 ⟨rfl, hs⟩; have S1 := Lib.hid hs; clear hs))
  go_wp2_with (go_at_call 8; ((with_reducible refine (HMk.out _ _ (Held.start S1.out)).mono ?_)); rintro e w2 ⟨x, rfl, h⟩; have K1 := Lib.hid (h.drop.new2 3 1); clear h)
  go_loopw [4, 5] (fun ml i wr => ∃ (k dm cm : Nat) (am_ : Option Addr) (ms : List Int) (M : TbM), k ≤ tl ∧ k ≤ 60 ∧ i = .int .i64 k ∧ ml = .slice am_ dm cm ∧ M.Ok k ∧ Held w wr ((BT x M).sep (intsT am_ dm cm ms))) (fun _ i _ => tl - (intOf i).toNat)
  case atStart => exact ⟨0, 0, 0, _, [], TbM.new, Nat.zero_le _, Nat.zero_le _, rfl, rfl, TbM.new_ok, K1.out⟩
  case round =>
    clear K1 S1
    obtain ⟨k, dm, cm, am_, ms, M, hk, hk60, rfl, rfl, hMo, hH⟩ := hrel
    by_cases hin : k < tl ∧ k < 60
    · obtain ⟨hlt, h60⟩ := hin
      obtain ⟨z, hz⟩ := get_some (l := tx) (i := k) (by rw [HTL.out]; exact hlt)
      obtain ⟨ba, o, rfl, hc⟩ := HTX.out.row k z hz
      have hzk := HTX.out.each z (List.mem_of_getElem? hz)
      obtain ⟨za, zn, zm⟩ := z
      have hT := hH.ground
      have y0 : wr.cell? ⟨ba, o + k * 3, none⟩ = some (.int .i64 za) := still_cell hT (hc 0 _ rfl) rfl
      have y1 : wr.cell? ⟨ba, o + k * 3 + 1, none⟩ = some (.int .i64 zn) := still_cell hT (hc 1 _ rfl) (Nat.add_assoc _ _ _)
      have y2 : wr.cell? ⟨ba, o + k * 3 + 2, none⟩ = some (.slice zm.a zm.len zm.cap) := still_cell hT (hc 2 _ rfl) (Nat.add_assoc _ _ _)
      obtain ⟨b, hb⟩ : ∃ b, b = wr.heap.size := ⟨_, rfl⟩
      obtain ⟨Wb, hWb⟩ : ∃ Wb, Wb = wr.alloc (.cells #[.int .i64 za, .int .i64 zn, .slice zm.a zm.len zm.cap] 30) := ⟨_, rfl⟩
      have hbx : Blk Wb b [.int .i64 za, .int .i64 zn, .slice zm.a zm.len zm.cap] 30 := by rw [hb, hWb]; exact Blk.new wr _ _
      have HX := Lib.hid (fun V (hs : Still Wb V) => show V.cell? ⟨b, 0, none⟩ = some (.int .i64 za) ∧ V.cell? ⟨b, 1, none⟩ = some (.int .i64 zn) ∧ V.cell? ⟨b, 2, none⟩ = some (.slice zm.a zm.len zm.cap) from
        ⟨(hbx.turned hs (fun h => h)).cell rfl, (hbx.turned hs (fun h => h)).cell rfl, (hbx.turned hs (fun h => h)).cell rfl⟩)
      have KIb := Lib.hid (hH.still (show Still wr Wb from by rw [hWb]; exact (Turned.refl _ _).alloc _))
      have hWb2 : wr.alloc (.cells #[.int .i64 za, .int .i64 zn, .slice zm.a zm.len zm.cap] 30) = Wb := hWb.symm
      have b1 : (wr.alloc (.cells #[.int .i64 0, .int .i64 0, .slice none 0 0] 30)).cell? ⟨wr.heap.size, 0, none⟩ = some (.int .i64 0) := (Blk.new wr [.int .i64 0, .int .i64 0, .slice none 0 0] 30).cell rfl
      -- the calls
      obtain ⟨O0, hO0⟩ : ∃ O0, O0 = M.O := ⟨_, rfl⟩
      obtain ⟨nl, hnl⟩ : ∃ nl, nl = O0.length := ⟨_, rfl⟩
      have GOw := Lib.hid (fun V (R : Thing) (H : Held w V ((BT x M).sep R)) => show Calls Try.prog 19 #[.pointer (some ⟨x, 0, none⟩)] V fun e w' => ∃ a c, e = .returned (.slice a nl c) ∧ Held w w' (((BT x M).sep R).sep (ownsT a nl c O0)) ∧ Still V w' from by
        obtain ⟨_, h, _⟩ := H.fst
        rw [hO0]
        exact (A.owners h hMo (by omega) nl (by rw [hnl, hO0])).mono fun e w' ⟨a, c, he, ho, hs⟩ => ⟨a, c, he, H.got ho hs, hs⟩)
      have HNL := Lib.hid hnl
      obtain ⟨gg, hgg⟩ : ∃ gg, gg = M.G := ⟨_, rfl⟩
      have hg60 : gg ≤ 60 := by rw [hgg]; have := hMo.low; omega
      have GGn := Lib.hid (fun V (R : Thing) (H : Held w V ((BT x M).sep R)) => Held.genB A hMo (by omega) hgg.symm H)
      obtain ⟨bd, hbd⟩ : ∃ bd, bd = am za 8 := ⟨_, rfl⟩
      have GA8 := Lib.hid (fun W => among_lit za 8 8 bd rfl hbd (by omega) (by omega) W)
      have hki : (k : Int) < (tl : Int) := by omega
      have hki2 : (k : Int) < 60 := by omega
      by_cases hb3 : bd < 3
      · have hb3i : (bd : Int) < 3 := by omega
        obtain ⟨mn, hmn⟩ : ∃ mn, mn = am zn 9 := ⟨_, rfl⟩
        have hml : mn ≤ 100 := by have := am_lt zn (n := 9) (by omega); omega
        have GAm := Lib.hid (fun W => among_lit zn 9 9 mn rfl hmn (by omega) (by omega) W)
        have GPl := Lib.hid (fun V => places_any mn V (by omega))
        obtain ⟨d, hd⟩ : ∃ d, d = (risN zm.xs 8).length := ⟨_, rfl⟩
        have hzm := hzk.2.2
        have GRi := Lib.hid (fun V (hs : Still w V) => rising_any V zm.a zm.xs zm.len zm.cap d hzm.len.symm (Nat.le_trans hzm.le hzm.max) ((nums_of_sl hzm).still hs) hd)
        obtain ⟨ma, mlen, mc, mx⟩ := zm
        dsimp only at GRi hd hWb2 y2 HX
        obtain ⟨P', hP⟩ : ∃ P', P' = plN mn := ⟨_, rfl⟩
        obtain ⟨Mr, hMr⟩ : ∃ Mr, Mr = risN mx 8 := ⟨_, rfl⟩
        have hbe : begE P' Mr = 0 := by rw [hP, hMr]; exact beg_pl mn (by omega) mx
        obtain ⟨M', hM'⟩ : ∃ M', M' = M.begin_ P' Mr := ⟨_, rfl⟩
        obtain ⟨bv, hbv⟩ : ∃ bv, bv = M.beginV P' Mr := ⟨_, rfl⟩
        have hgr := begin_grows (M := M) hbe
        rw [← hM', ← hbv, ← hgg] at hgr
        have HGr := Lib.hid hgr
        have hO : M'.Ok (k + 1) := by rw [hM']; exact hMo.begin_ _ _
        have HHp := Lib.hid (show HandsP O0 M'.O Mr (-1) from fun j2 k2 a2 b2 ha hb e h0 hm _ => hands_begin hMo hbe (by rw [← hO0]; exact ha) (by rw [← hM']; exact hb) e h0 hm)
        have GBg := Lib.hid (fun V (R : Thing) (bo ao : Option Addr) (c1 c2 : Nat) (H : Held w V ((BT x M).sep (R.sep ((plsT bo mn c1 P').sep (intsT ao d c2 Mr))))) => Held.beginC A hMo (by omega) (by rw [hP, plN_len]) (by rw [hMr]; exact hd) (by omega) (by rw [hd]; have := risN_len mx 8; omega) hbv.symm hbe hM'.symm H)
        rw [← hP] at GPl
        rw [← hMr] at GRi
        have HD' := Lib.hid (show d = Mr.length from by rw [hMr]; exact hd)
        have HD8 := Lib.hid (show d ≤ 8 from by rw [hd]; exact risN_len mx 8)
        have HO' := Lib.hid hO
        obtain ⟨n2, hn2⟩ : ∃ n2, n2 = M'.O.length := ⟨_, rfl⟩
        have HN2 := Lib.hid hn2
        have GO2 := Lib.hid (fun V (R : Thing) (H : Held w V ((BT x M').sep R)) => Held.ownersR A hO (by omega) rfl hn2 H)
        have GSt := Lib.hid (fun V (R : Thing) (H : Held w V ((BT x M').sep R)) => Held.settledB A hO (by omega) (v := bv) (by rw [Bool.eq_iff_iff, decide_eq_true_iff]; exact hgr.2.symm) H)
        have h200 : n2 ≤ 256 ∧ nl ≤ 256 := ⟨by rw [hn2]; exact hO.len, by rw [hnl, hO0]; exact hMo.len⟩
        obtain ⟨h201, h202⟩ := h200
        clear hz hc hzk hzm hmn hml hd hM' hH hP hMr hbe hbv hbd hWb hbx hT hn2 hnl hgg hO0 hgr hO hMo
        cases bv
        case' true => have GG2 := Lib.hid (fun V (R : Thing) (H : Held w V ((BT x M').sep R)) => show Calls Try.prog 20 #[.pointer (some ⟨x, 0, none⟩)] V fun e w' => e = .returned (.int .i64 ((gg : Int) + 1)) ∧ Still V w' from Held.genB A HO'.out (by omega) (v := gg + 1) (by rw [HGr.out.1, if_pos rfl]) H)
        case' false => have GG2 := Lib.hid (fun V (R : Thing) (H : Held w V ((BT x M').sep R)) => show Calls Try.prog 20 #[.pointer (some ⟨x, 0, none⟩)] V fun e w' => e = .returned (.int .i64 (gg : Int)) ∧ Still V w' from Held.genB A HO'.out (by omega) (v := gg) (by rw [HGr.out.1, if_neg (by simp)]; rfl) H)
        all_goals (as_aux_lemma =>
          go_upto_region 11 with fail
          rw [← hb]
          clear hWb2 hb b1 y0 y1 y2
          go_wp2_with (first
            | (go_at_call 19; ((with_reducible refine (GOw.out _ _ KIb.out).mono ?_)); rintro e wA ⟨p0, q0, rfl, h, hs⟩; have K2 := Lib.hid h.assoc; have SA := Lib.hid hs; obtain ⟨x0, x1, x2⟩ := HX.out _ hs; clear h hs KIb)
            | (go_at_call 20; ((with_reducible refine (GGn.out _ _ K2.out).mono ?_)); rintro e wB ⟨rfl, hs⟩; have K3 := Lib.hid (K2.out.still hs); have SB := Lib.hid (SA.out.trans hs); obtain ⟨u0, u1, u2⟩ := HX.out _ SB.out; clear hs K2 SA)
            | (go_at_call 10; ((with_reducible refine (GA8.out _).mono ?_)); rintro e wC ⟨rfl, rfl⟩)
            | (go_at_call 21; ((with_reducible refine (GRi.out _ K3.out.ground).mono ?_)); rintro e wD ho; obtain ⟨a5, c5, rfl, ho1, hs5⟩ := ho; have K5 := Lib.hid (K3.out.got ho1 hs5); have SD := Lib.hid (SB.out.trans hs5); obtain ⟨v0, v1, v2⟩ := HX.out _ SD.out; clear ho1 hs5 K3 SB)
            | (go_at_call 10; ((with_reducible refine (GAm.out _).mono ?_)); rintro e wE ⟨rfl, rfl⟩)
            | (go_at_call 11; ((with_reducible refine (GPl.out _).mono ?_)); rintro e wF ho; obtain ⟨a4, c4, rfl, k4⟩ := K5.out.row ho; have K4 := Lib.hid (k4.assoc.assoc.imp2 (fun h => sep_imp2 (fun h => h) (fun h => sep_imp2 (fun h => h) (fun h => sep_swap h) h) h)); clear ho k4 K5)
            | (go_at_call 12; ((with_reducible refine (GBg.out _ _ _ _ _ _ K4.out).mono ?_)); rintro e w6 ⟨rfl, k6⟩; have K6 := Lib.hid (held_mix k6); clear k6 K4))
          go_wp2_with (first
            | (go_at_call 20; ((with_reducible refine (GG2.out _ _ K6.out).mono ?_)); rintro e v1 ⟨rfl, hs⟩; have K7 := Lib.hid (K6.out.still hs); clear hs K6)
            | (go_at_call 23; ((with_reducible refine (GSt.out _ _ K7.out).mono ?_)); rintro e v2 ⟨rfl, hs⟩; have K8 := Lib.hid (K7.out.still hs); clear hs K7)
            | (go_at_call 19; ((with_reducible refine (GO2.out _ _ K8.out).mono ?_)); rintro e wn ⟨p9, q9, rfl, h, hs⟩; have O9 := Lib.hid h; have K9 := Lib.hid (K8.out.still hs); clear h hs K8))
          have WO := Lib.hid (owns_at K9.out.snd.snd HNL.out)
          have MO := Lib.hid (ints_at K9.out.snd.drop HD'.out)
          have KN := Lib.hid (fun V (hs : Still wn V) => show Held w V ((BT x M').sep (intsT a5 d c5 Mr)) from (K9.out.still hs).assoc'.drop)
          clear K9
          go_loopw [19] (fun kx wr2 => ∃ k2 : Nat, k2 ≤ n2 ∧ kx = .int .i64 k2 ∧ Still wn wr2) (fun kx _ => n2 - (intOf kx).toNat)
          case atStart => exact ⟨0, Nat.zero_le _, rfl, Turned.refl _ _⟩
          case round =>
            obtain ⟨k2, hk2, rfl, hst⟩ := hrel
            by_cases hl2 : k2 < n2
            · obtain ⟨yb, hyb⟩ := get_some (l := M'.O) (i := k2) (by rw [← HN2.out]; exact hl2)
              have HS2 := Lib.hid hst
              have hk2i : (k2 : Int) < (n2 : Int) := by omega
              clear hst
              go_wp2_with fail
              go_loopw [20] (fun jx wr3 => ∃ j2 : Nat, j2 ≤ nl ∧ jx = .int .i64 j2 ∧ Still wn wr3) (fun jx _ => nl - (intOf jx).toNat)
              case atStart => exact ⟨0, Nat.zero_le _, rfl, HS2.out⟩
              case round =>
               as_aux_lemma =>
                obtain ⟨j2, hj2, rfl, hst3⟩ := hrel
                by_cases hl3 : j2 < nl
                · obtain ⟨xa, hxa⟩ := get_some (l := O0) (i := j2) (by rw [← HNL.out]; exact hl3)
                  obtain ⟨bA, oA, rfl, cA⟩ := row_still WO.out hst3 j2 xa hxa
                  obtain ⟨bB, oB, rfl, cB⟩ := row_still O9.out hst3 k2 yb hyb
                  have HHp' := HHp.out j2 k2 xa yb hxa hyb
                  obtain ⟨⟨pf, pt⟩, xi⟩ := xa
                  obtain ⟨⟨qf, qt⟩, yi⟩ := yb
                  have a0 : wr.cell? ⟨bA, oA + j2 * 3, none⟩ = some (.int .i64 pf) := cA 0 _ rfl
                  have a1 : wr.cell? ⟨bA, oA + j2 * 3 + 1, none⟩ = some (.int .i64 pt) := by rw [Nat.add_assoc]; exact cA 1 _ rfl
                  have a2 : wr.cell? ⟨bA, oA + j2 * 3 + 2, none⟩ = some (.int .i64 xi) := by rw [Nat.add_assoc]; exact cA 2 _ rfl
                  have b0 : wr.cell? ⟨bB, oB + k2 * 3, none⟩ = some (.int .i64 qf) := cB 0 _ rfl
                  have b1 : wr.cell? ⟨bB, oB + k2 * 3 + 1, none⟩ = some (.int .i64 qt) := by rw [Nat.add_assoc]; exact cB 1 _ rfl
                  have b2 : wr.cell? ⟨bB, oB + k2 * 3 + 2, none⟩ = some (.int .i64 yi) := by rw [Nat.add_assoc]; exact cB 2 _ rfl
                  have HHs := Lib.hid (fun V (hs : Still wn V) => hasI_any V a5 Mr d c5 xi HD'.out (by have := HD8.out; omega) (MO.out.still hs))
                  have HS3 := Lib.hid hst3
                  have hj2i : (j2 : Int) < (nl : Int) := by omega
                  dsimp only at HHp'
                  clear hst3 cA cB hxa hyb
                  by_cases hp : pf = qf ∧ pt = qt
                  · obtain ⟨rfl, rfl⟩ := hp
                    by_cases hxy : xi = yi
                    · obtain rfl := hxy
                      clear HHp'
                      go_wp2_with fail
                      go_quiet (fail)
                      go_wp2_with fail
                      obtain ⟨V, hV⟩ : ∃ V, V = wr.drewN nq := ⟨_, rfl⟩
                      have f0 : V.cell? ⟨bA, oA + j2 * 3, none⟩ = some (.int .i64 pf) := by rw [hV]; exact a0
                      have f1 : V.cell? ⟨bA, oA + j2 * 3 + 1, none⟩ = some (.int .i64 pt) := by rw [hV]; exact a1
                      have g0 : V.cell? ⟨bB, oB + k2 * 3, none⟩ = some (.int .i64 pf) := by rw [hV]; exact b0
                      have g1 : V.cell? ⟨bB, oB + k2 * 3 + 1, none⟩ = some (.int .i64 pt) := by rw [hV]; exact b1
                      have HH := Lib.hid (fun n => HHs.out (V.drewN n) ((show Still wn V from by rw [hV]; exact HS3.out.drewN nq).drewN n))
                      have HSV := Lib.hid (show Still wn V from by rw [hV]; exact HS3.out.drewN nq)
                      rw [← hV]
                      clear hV a0 a1 a2 b0 b1 b2
                      go_quiet (fail)
                      go_wp2_with fail
                      go_roundw
                      case rel => exact ⟨j2 + 1, by omega, by go_num, HSV.out.drewN _⟩
                      case measure => simp [intOf]; omega
                    · by_cases h0 : 0 ≤ xi
                      · by_cases hm : xi ∈ Mr
                        · by_cases hac : xi = (-1)
                          · exfalso; omega
                          · exact absurd (HHp' rfl h0 hm hac) hxy
                        · rw [decide_eq_false hm] at HHs
                          clear HHp' hm
                          go_wp2_with fail
                          go_quiet (fail)
                          go_wp2_with fail
                          obtain ⟨V, hV⟩ : ∃ V, V = wr.drewN nq := ⟨_, rfl⟩
                          have f0 : V.cell? ⟨bA, oA + j2 * 3, none⟩ = some (.int .i64 pf) := by rw [hV]; exact a0
                          have f1 : V.cell? ⟨bA, oA + j2 * 3 + 1, none⟩ = some (.int .i64 pt) := by rw [hV]; exact a1
                          have g0 : V.cell? ⟨bB, oB + k2 * 3, none⟩ = some (.int .i64 pf) := by rw [hV]; exact b0
                          have g1 : V.cell? ⟨bB, oB + k2 * 3 + 1, none⟩ = some (.int .i64 pt) := by rw [hV]; exact b1
                          have HH := Lib.hid (fun n => HHs.out (V.drewN n) ((show Still wn V from by rw [hV]; exact HS3.out.drewN nq).drewN n))
                          have HSV := Lib.hid (show Still wn V from by rw [hV]; exact HS3.out.drewN nq)
                          rw [← hV]
                          clear hV a0 a1 a2 b0 b1 b2
                          go_quiet ((go_at_call 24; ((with_reducible exact quietEq (HH.out _)))))
                          go_wp2_with fail
                          go_roundw
                          case rel => exact ⟨j2 + 1, by omega, by go_num, HSV.out.drewN _⟩
                          case measure => simp [intOf]; omega
                      · have h0b : decide (0 ≤ xi) = false := decide_eq_false h0
                        clear HHp'
                        go_wp2_with fail
                        go_quiet (fail)
                        go_wp2_with fail
                        obtain ⟨V, hV⟩ : ∃ V, V = wr.drewN nq := ⟨_, rfl⟩
                        have f0 : V.cell? ⟨bA, oA + j2 * 3, none⟩ = some (.int .i64 pf) := by rw [hV]; exact a0
                        have f1 : V.cell? ⟨bA, oA + j2 * 3 + 1, none⟩ = some (.int .i64 pt) := by rw [hV]; exact a1
                        have g0 : V.cell? ⟨bB, oB + k2 * 3, none⟩ = some (.int .i64 pf) := by rw [hV]; exact b0
                        have g1 : V.cell? ⟨bB, oB + k2 * 3 + 1, none⟩ = some (.int .i64 pt) := by rw [hV]; exact b1
                        have HH := Lib.hid (fun n => HHs.out (V.drewN n) ((show Still wn V from by rw [hV]; exact HS3.out.drewN nq).drewN n))
                        have HSV := Lib.hid (show Still wn V from by rw [hV]; exact HS3.out.drewN nq)
                        rw [← hV]
                        clear hV a0 a1 a2 b0 b1 b2
                        go_quiet (fail)
                        go_wp2_with fail
                        go_roundw
                        case rel => exact ⟨j2 + 1, by omega, by go_num, HSV.out.drewN _⟩
                        case measure => simp [intOf]; omega
                  · have hp' : pf ≠ qf ∨ (pf = qf ∧ pt ≠ qt) := by
                      by_cases h1 : pf = qf
                      · exact .inr ⟨h1, fun h2 => hp ⟨h1, h2⟩⟩
                      · exact .inl h1
                    clear hp HHp'
                    rcases hp' with h1 | ⟨rfl, h1⟩
                    · skip
                      go_wp2_with fail
                      go_quiet (fail)
                      go_wp2_with fail
                      obtain ⟨V, hV⟩ : ∃ V, V = wr.drewN nq := ⟨_, rfl⟩
                      have f0 : V.cell? ⟨bA, oA + j2 * 3, none⟩ = some (.int .i64 pf) := by rw [hV]; exact a0
                      have f1 : V.cell? ⟨bA, oA + j2 * 3 + 1, none⟩ = some (.int .i64 pt) := by rw [hV]; exact a1
                      have g0 : V.cell? ⟨bB, oB + k2 * 3, none⟩ = some (.int .i64 qf) := by rw [hV]; exact b0
                      have g1 : V.cell? ⟨bB, oB + k2 * 3 + 1, none⟩ = some (.int .i64 qt) := by rw [hV]; exact b1
                      have HH := Lib.hid (fun n => HHs.out (V.drewN n) ((show Still wn V from by rw [hV]; exact HS3.out.drewN nq).drewN n))
                      have HSV := Lib.hid (show Still wn V from by rw [hV]; exact HS3.out.drewN nq)
                      rw [← hV]
                      clear hV a0 a1 a2 b0 b1 b2
                      go_quiet (fail)
                      go_wp2_with fail
                      go_roundw
                      case rel => exact ⟨j2 + 1, by omega, by go_num, HSV.out.drewN _⟩
                      case measure => simp [intOf]; omega
                    · skip
                      go_wp2_with fail
                      go_quiet (fail)
                      go_wp2_with fail
                      obtain ⟨V, hV⟩ : ∃ V, V = wr.drewN nq := ⟨_, rfl⟩
                      have f0 : V.cell? ⟨bA, oA + j2 * 3, none⟩ = some (.int .i64 pf) := by rw [hV]; exact a0
                      have f1 : V.cell? ⟨bA, oA + j2 * 3 + 1, none⟩ = some (.int .i64 pt) := by rw [hV]; exact a1
                      have g0 : V.cell? ⟨bB, oB + k2 * 3, none⟩ = some (.int .i64 pf) := by rw [hV]; exact b0
                      have g1 : V.cell? ⟨bB, oB + k2 * 3 + 1, none⟩ = some (.int .i64 qt) := by rw [hV]; exact b1
                      have HH := Lib.hid (fun n => HHs.out (V.drewN n) ((show Still wn V from by rw [hV]; exact HS3.out.drewN nq).drewN n))
                      have HSV := Lib.hid (show Still wn V from by rw [hV]; exact HS3.out.drewN nq)
                      rw [← hV]
                      clear hV a0 a1 a2 b0 b1 b2
                      go_quiet (fail)
                      go_wp2_with fail
                      go_roundw
                      case rel => exact ⟨j2 + 1, by omega, by go_num, HSV.out.drewN _⟩
                      case measure => simp [intOf]; omega
                · obtain rfl : j2 = nl := by omega
                  have HS4 := Lib.hid hst3
                  clear hst3 hl3
                  go_wp2_with fail
                  go_roundw
                  case rel => exact ⟨k2 + 1, by omega, by go_num, HS4.out⟩
                  case measure => simp [intOf]; omega
            · obtain rfl : k2 = n2 := by omega
              have HS5 := Lib.hid (KN.out _ hst)
              clear hst hl2
              go_wp2_with fail
              go_roundw
              case rel => exact ⟨k + 1, d, c5, a5, Mr, M', by omega, by omega, by go_num, rfl, HO'.out, HS5.out⟩
              case measure => simp [intOf]; omega
        )
      · have hb3i : ¬ (bd : Int) < 3 := by omega
        obtain ⟨d1, hd1⟩ : ∃ d1, d1 = M.W.length := ⟨_, rfl⟩
        have hd18 : d1 ≤ 8 := by rw [hd1]; exact hMo.wl
        have HD1 := Lib.hid hd1
        have GWt := Lib.hid (fun V (R : Thing) (H : Held w V ((BT x M).sep R)) => show Calls Try.prog 22 #[.pointer (some ⟨x, 0, none⟩)] V fun e w' => ∃ a c, e = .returned (.slice a d1 c) ∧ Held w w' (((BT x M).sep R).sep (intsT a d1 c M.W)) ∧ Still V w' from by
          obtain ⟨_, h, _⟩ := H.fst
          exact (A.waits h hMo (by omega) d1 hd1).mono fun e w' ⟨a, c, he, ho, hs⟩ => ⟨a, c, he, H.got ho hs, hs⟩)
        by_cases hd0 : d1 = 0
        · have hdb : ((d1 : Int) == 0) = true := by rw [beq_iff_eq]; omega
          have hdz : (d1 : Int) = 0 := by omega
          have HO' := Lib.hid (hMo.mono (Nat.le_succ k))
          clear hz hc hzk hH hbd hWb hbx hT hnl hgg hO0 hMo hd1 hdz
          go_upto_region 11 with fail
          rw [← hb]
          clear hWb2 hb b1 y0 y1 y2
          go_wp2_with (first
            | (go_at_call 19; ((with_reducible refine (GOw.out _ _ KIb.out).mono ?_)); rintro e wA ⟨p0, q0, rfl, h, hs⟩; have K2 := Lib.hid h.assoc; have SA := Lib.hid hs; obtain ⟨x0, x1, x2⟩ := HX.out _ hs; clear h hs KIb)
            | (go_at_call 20; ((with_reducible refine (GGn.out _ _ K2.out).mono ?_)); rintro e wB ⟨rfl, hs⟩; have K3 := Lib.hid (K2.out.still hs); have SB := Lib.hid (SA.out.trans hs); obtain ⟨u0, u1, u2⟩ := HX.out _ SB.out; clear hs K2 SA)
            | (go_at_call 10; ((with_reducible refine (GA8.out _).mono ?_)); rintro e wC ⟨rfl, rfl⟩)
            | (go_at_call 22; ((with_reducible refine (GWt.out _ _ K3.out).mono ?_)); rintro e wD ⟨a7, c7, rfl, h, hs⟩; have K5 := Lib.hid h.drop.assoc'.drop; clear h hs K3 SB))
          go_roundw
          case rel => exact ⟨k + 1, dm, cm, am_, ms, M, by omega, by omega, by go_num, rfl, HO'.out, K5.out⟩
          case measure => simp [intOf]; omega
        · have hdb : ((d1 : Int) == 0) = false := by rw [beq_eq_false_iff_ne]; omega
          have hdn : ¬ (d1 : Int) = 0 := by omega
          obtain ⟨jj, hjj⟩ : ∃ jj, jj = am zn d1 := ⟨_, rfl⟩
          have hjl : jj < d1 := by rw [hjj]; exact am_lt zn (by omega)
          have GAm := Lib.hid (fun W => among_lit zn (d1 : Int) d1 jj rfl hjj (by omega) (by omega) W)
          obtain ⟨id, hid⟩ := get_some (l := M.W) (i := jj) (by rw [← hd1]; exact hjl)
          have him := List.mem_of_getElem? hid
          have hbd2 := hMo.wp id him
          have HId := Lib.hid hid
          obtain ⟨M', hM'⟩ : ∃ M', M' = M.ack id := ⟨_, rfl⟩
          obtain ⟨bv, hbv⟩ : ∃ bv, bv = M.ackV id := ⟨_, rfl⟩
          have hgr := ack_grows him
          rw [← hM', ← hbv, ← hgg] at hgr
          have HGr := Lib.hid hgr
          have hO : M'.Ok (k + 1) := by rw [hM']; exact hMo.ack id
          have hae : M.ackE id = 0 := by unfold TbM.ackE; rw [if_pos him]
          have HHp := Lib.hid (show HandsP O0 M'.O ms id from fun j2 k2 a2 b2 ha hb e h0 hm hne => hands_ack hMo him (by rw [← hO0]; exact ha) (by rw [← hM']; exact hb) e h0 hne)
          have GAc := Lib.hid (fun V (R : Thing) (H : Held w V ((BT x M).sep R)) => Held.ackB A hMo (by omega) (x := id) (by omega) (by omega) hbv.symm hae hM'.symm H)
          have HDm := Lib.hid (show dm = ms.length from by
            obtain ⟨_, h, _⟩ := hH.snd
            exact (own_len h.1).1)
          have HD8 := Lib.hid (show dm ≤ 9223372036854775807 from by
            obtain ⟨_, h, _⟩ := hH.snd
            exact (own_len h.1).2)
          have HO' := Lib.hid hO
          obtain ⟨n2, hn2⟩ : ∃ n2, n2 = M'.O.length := ⟨_, rfl⟩
          have HN2 := Lib.hid hn2
          have GO2 := Lib.hid (fun V (R : Thing) (H : Held w V ((BT x M').sep R)) => Held.ownersR A hO (by omega) rfl hn2 H)
          have GSt := Lib.hid (fun V (R : Thing) (H : Held w V ((BT x M').sep R)) => Held.settledB A hO (by omega) (v := bv) (by rw [Bool.eq_iff_iff, decide_eq_true_iff]; exact hgr.2.symm) H)
          have h200 : n2 ≤ 256 ∧ nl ≤ 256 := ⟨by rw [hn2]; exact hO.len, by rw [hnl, hO0]; exact hMo.len⟩
          obtain ⟨h201, h202⟩ := h200
          have hjji : (jj : Int) < (d1 : Int) := by omega
          clear hz hc hzk hH hbd hWb hbx hT hnl hgg hO0 hMo hd1 hjj hjl hid him hbd2 hM' hbv hgr hO hae hn2
          cases bv
          case' true => have GG2 := Lib.hid (fun V (R : Thing) (H : Held w V ((BT x M').sep R)) => show Calls Try.prog 20 #[.pointer (some ⟨x, 0, none⟩)] V fun e w' => e = .returned (.int .i64 ((gg : Int) + 1)) ∧ Still V w' from Held.genB A HO'.out (by omega) (v := gg + 1) (by rw [HGr.out.1, if_pos rfl]) H)
          case' false => have GG2 := Lib.hid (fun V (R : Thing) (H : Held w V ((BT x M').sep R)) => show Calls Try.prog 20 #[.pointer (some ⟨x, 0, none⟩)] V fun e w' => e = .returned (.int .i64 (gg : Int)) ∧ Still V w' from Held.genB A HO'.out (by omega) (v := gg) (by rw [HGr.out.1, if_neg (by simp)]; rfl) H)
          all_goals (as_aux_lemma =>
            go_upto_region 11 with fail
            rw [← hb]
            clear hWb2 hb b1 y0 y1 y2
            go_wp2_with (first
              | (go_at_call 19; ((with_reducible refine (GOw.out _ _ KIb.out).mono ?_)); rintro e wA ⟨p0, q0, rfl, h, hs⟩; have K2 := Lib.hid h.assoc; have SA := Lib.hid hs; obtain ⟨x0, x1, x2⟩ := HX.out _ hs; clear h hs KIb)
              | (go_at_call 20; ((with_reducible refine (GGn.out _ _ K2.out).mono ?_)); rintro e wB ⟨rfl, hs⟩; have K3 := Lib.hid (K2.out.still hs); have SB := Lib.hid (SA.out.trans hs); obtain ⟨u0, u1, u2⟩ := HX.out _ SB.out; clear hs K2 SA)
              | (go_at_call 10; ((with_reducible refine (GA8.out _).mono ?_)); rintro e wC ⟨rfl, rfl⟩)
              | (go_at_call 22; ((with_reducible refine (GWt.out _ _ K3.out).mono ?_)); rintro e wD ⟨a7, c7, rfl, h, hs⟩; have K5 := Lib.hid h.assoc; have SD := Lib.hid (SB.out.trans hs); obtain ⟨v0, v1, v2⟩ := HX.out _ SD.out; obtain ⟨gb, go_, rfl, cx⟩ := (ints_at h.snd HD1.out) jj id HId.out; clear h hs K3 SB)
              | (go_at_call 10; ((with_reducible refine (GAm.out _).mono ?_)); rintro e wE ⟨rfl, rfl⟩)
              | (go_at_call 15; ((with_reducible refine (GAc.out _ _ K5.out).mono ?_)); rintro e w6 ⟨rfl, k6⟩; have K6 := Lib.hid k6.assoc'.drop; clear k6 K5))
            go_wp2_with (first
              | (go_at_call 20; ((with_reducible refine (GG2.out _ _ K6.out).mono ?_)); rintro e v1 ⟨rfl, hs⟩; have K7 := Lib.hid (K6.out.still hs); clear hs K6)
              | (go_at_call 23; ((with_reducible refine (GSt.out _ _ K7.out).mono ?_)); rintro e v2 ⟨rfl, hs⟩; have K8 := Lib.hid (K7.out.still hs); clear hs K7)
              | (go_at_call 19; ((with_reducible refine (GO2.out _ _ K8.out).mono ?_)); rintro e wn ⟨p9, q9, rfl, h, hs⟩; have O9 := Lib.hid h; have K9 := Lib.hid (K8.out.still hs); clear h hs K8))
            have WO := Lib.hid (owns_at K9.out.snd.snd HNL.out)
            have MO := Lib.hid (ints_at K9.out.snd.drop HDm.out)
            have KN := Lib.hid (fun V (hs : Still wn V) => show Held w V ((BT x M').sep (intsT am_ dm cm ms)) from (K9.out.still hs).assoc'.drop)
            clear K9
            go_loopw [19] (fun kx wr2 => ∃ k2 : Nat, k2 ≤ n2 ∧ kx = .int .i64 k2 ∧ Still wn wr2) (fun kx _ => n2 - (intOf kx).toNat)
            case atStart => exact ⟨0, Nat.zero_le _, rfl, Turned.refl _ _⟩
            case round =>
              obtain ⟨k2, hk2, rfl, hst⟩ := hrel
              by_cases hl2 : k2 < n2
              · obtain ⟨yb, hyb⟩ := get_some (l := M'.O) (i := k2) (by rw [← HN2.out]; exact hl2)
                have HS2 := Lib.hid hst
                have hk2i : (k2 : Int) < (n2 : Int) := by omega
                clear hst
                go_wp2_with fail
                go_loopw [20] (fun jx wr3 => ∃ j2 : Nat, j2 ≤ nl ∧ jx = .int .i64 j2 ∧ Still wn wr3) (fun jx _ => nl - (intOf jx).toNat)
                case atStart => exact ⟨0, Nat.zero_le _, rfl, HS2.out⟩
                case round =>
                 as_aux_lemma =>
                  obtain ⟨j2, hj2, rfl, hst3⟩ := hrel
                  by_cases hl3 : j2 < nl
                  · obtain ⟨xa, hxa⟩ := get_some (l := O0) (i := j2) (by rw [← HNL.out]; exact hl3)
                    obtain ⟨bA, oA, rfl, cA⟩ := row_still WO.out hst3 j2 xa hxa
                    obtain ⟨bB, oB, rfl, cB⟩ := row_still O9.out hst3 k2 yb hyb
                    have HHp' := HHp.out j2 k2 xa yb hxa hyb
                    obtain ⟨⟨pf, pt⟩, xi⟩ := xa
                    obtain ⟨⟨qf, qt⟩, yi⟩ := yb
                    have a0 : wr.cell? ⟨bA, oA + j2 * 3, none⟩ = some (.int .i64 pf) := cA 0 _ rfl
                    have a1 : wr.cell? ⟨bA, oA + j2 * 3 + 1, none⟩ = some (.int .i64 pt) := by rw [Nat.add_assoc]; exact cA 1 _ rfl
                    have a2 : wr.cell? ⟨bA, oA + j2 * 3 + 2, none⟩ = some (.int .i64 xi) := by rw [Nat.add_assoc]; exact cA 2 _ rfl
                    have b0 : wr.cell? ⟨bB, oB + k2 * 3, none⟩ = some (.int .i64 qf) := cB 0 _ rfl
                    have b1 : wr.cell? ⟨bB, oB + k2 * 3 + 1, none⟩ = some (.int .i64 qt) := by rw [Nat.add_assoc]; exact cB 1 _ rfl
                    have b2 : wr.cell? ⟨bB, oB + k2 * 3 + 2, none⟩ = some (.int .i64 yi) := by rw [Nat.add_assoc]; exact cB 2 _ rfl
                    have HHs := Lib.hid (fun V (hs : Still wn V) => hasI_any V am_ ms dm cm xi HDm.out (by have := HD8.out; omega) (MO.out.still hs))
                    have HS3 := Lib.hid hst3
                    have hj2i : (j2 : Int) < (nl : Int) := by omega
                    dsimp only at HHp'
                    clear hst3 cA cB hxa hyb
                    by_cases hp : pf = qf ∧ pt = qt
                    · obtain ⟨rfl, rfl⟩ := hp
                      by_cases hxy : xi = yi
                      · obtain rfl := hxy
                        clear HHp'
                        go_wp2_with fail
                        go_quiet (fail)
                        go_wp2_with fail
                        obtain ⟨V, hV⟩ : ∃ V, V = wr.drewN nq := ⟨_, rfl⟩
                        have f0 : V.cell? ⟨bA, oA + j2 * 3, none⟩ = some (.int .i64 pf) := by rw [hV]; exact a0
                        have f1 : V.cell? ⟨bA, oA + j2 * 3 + 1, none⟩ = some (.int .i64 pt) := by rw [hV]; exact a1
                        have g0 : V.cell? ⟨bB, oB + k2 * 3, none⟩ = some (.int .i64 pf) := by rw [hV]; exact b0
                        have g1 : V.cell? ⟨bB, oB + k2 * 3 + 1, none⟩ = some (.int .i64 pt) := by rw [hV]; exact b1
                        have HH := Lib.hid (fun n => HHs.out (V.drewN n) ((show Still wn V from by rw [hV]; exact HS3.out.drewN nq).drewN n))
                        have HSV := Lib.hid (show Still wn V from by rw [hV]; exact HS3.out.drewN nq)
                        rw [← hV]
                        clear hV a0 a1 a2 b0 b1 b2
                        go_quiet (fail)
                        go_wp2_with fail
                        go_roundw
                        case rel => exact ⟨j2 + 1, by omega, by go_num, HSV.out.drewN _⟩
                        case measure => simp [intOf]; omega
                      · by_cases h0 : 0 ≤ xi
                        · by_cases hm : xi ∈ ms
                          · by_cases hac : xi = id
                            · obtain rfl := hac
                              rw [decide_eq_true hm] at HHs
                              clear HHp' hm
                              go_wp2_with fail
                              go_quiet (fail)
                              go_wp2_with fail
                              obtain ⟨V, hV⟩ : ∃ V, V = wr.drewN nq := ⟨_, rfl⟩
                              have f0 : V.cell? ⟨bA, oA + j2 * 3, none⟩ = some (.int .i64 pf) := by rw [hV]; exact a0
                              have f1 : V.cell? ⟨bA, oA + j2 * 3 + 1, none⟩ = some (.int .i64 pt) := by rw [hV]; exact a1
                              have g0 : V.cell? ⟨bB, oB + k2 * 3, none⟩ = some (.int .i64 pf) := by rw [hV]; exact b0
                              have g1 : V.cell? ⟨bB, oB + k2 * 3 + 1, none⟩ = some (.int .i64 pt) := by rw [hV]; exact b1
                              have HH := Lib.hid (fun n => HHs.out (V.drewN n) ((show Still wn V from by rw [hV]; exact HS3.out.drewN nq).drewN n))
                              have HSV := Lib.hid (show Still wn V from by rw [hV]; exact HS3.out.drewN nq)
                              rw [← hV]
                              clear hV a0 a1 a2 b0 b1 b2
                              go_quiet ((go_at_call 24; ((with_reducible exact quietEq (HH.out _)))))
                              go_wp2_with fail
                              go_roundw
                              case rel => exact ⟨j2 + 1, by omega, by go_num, HSV.out.drewN _⟩
                              case measure => simp [intOf]; omega
                            · exact absurd (HHp' rfl h0 hm hac) hxy
                          · rw [decide_eq_false hm] at HHs
                            clear HHp' hm
                            go_wp2_with fail
                            go_quiet (fail)
                            go_wp2_with fail
                            obtain ⟨V, hV⟩ : ∃ V, V = wr.drewN nq := ⟨_, rfl⟩
                            have f0 : V.cell? ⟨bA, oA + j2 * 3, none⟩ = some (.int .i64 pf) := by rw [hV]; exact a0
                            have f1 : V.cell? ⟨bA, oA + j2 * 3 + 1, none⟩ = some (.int .i64 pt) := by rw [hV]; exact a1
                            have g0 : V.cell? ⟨bB, oB + k2 * 3, none⟩ = some (.int .i64 pf) := by rw [hV]; exact b0
                            have g1 : V.cell? ⟨bB, oB + k2 * 3 + 1, none⟩ = some (.int .i64 pt) := by rw [hV]; exact b1
                            have HH := Lib.hid (fun n => HHs.out (V.drewN n) ((show Still wn V from by rw [hV]; exact HS3.out.drewN nq).drewN n))
                            have HSV := Lib.hid (show Still wn V from by rw [hV]; exact HS3.out.drewN nq)
                            rw [← hV]
                            clear hV a0 a1 a2 b0 b1 b2
                            go_quiet ((go_at_call 24; ((with_reducible exact quietEq (HH.out _)))))
                            go_wp2_with fail
                            go_roundw
                            case rel => exact ⟨j2 + 1, by omega, by go_num, HSV.out.drewN _⟩
                            case measure => simp [intOf]; omega
                        · have h0b : decide (0 ≤ xi) = false := decide_eq_false h0
                          clear HHp'
                          go_wp2_with fail
                          go_quiet (fail)
                          go_wp2_with fail
                          obtain ⟨V, hV⟩ : ∃ V, V = wr.drewN nq := ⟨_, rfl⟩
                          have f0 : V.cell? ⟨bA, oA + j2 * 3, none⟩ = some (.int .i64 pf) := by rw [hV]; exact a0
                          have f1 : V.cell? ⟨bA, oA + j2 * 3 + 1, none⟩ = some (.int .i64 pt) := by rw [hV]; exact a1
                          have g0 : V.cell? ⟨bB, oB + k2 * 3, none⟩ = some (.int .i64 pf) := by rw [hV]; exact b0
                          have g1 : V.cell? ⟨bB, oB + k2 * 3 + 1, none⟩ = some (.int .i64 pt) := by rw [hV]; exact b1
                          have HH := Lib.hid (fun n => HHs.out (V.drewN n) ((show Still wn V from by rw [hV]; exact HS3.out.drewN nq).drewN n))
                          have HSV := Lib.hid (show Still wn V from by rw [hV]; exact HS3.out.drewN nq)
                          rw [← hV]
                          clear hV a0 a1 a2 b0 b1 b2
                          go_quiet (fail)
                          go_wp2_with fail
                          go_roundw
                          case rel => exact ⟨j2 + 1, by omega, by go_num, HSV.out.drewN _⟩
                          case measure => simp [intOf]; omega
                    · have hp' : pf ≠ qf ∨ (pf = qf ∧ pt ≠ qt) := by
                        by_cases h1 : pf = qf
                        · exact .inr ⟨h1, fun h2 => hp ⟨h1, h2⟩⟩
                        · exact .inl h1
                      clear hp HHp'
                      rcases hp' with h1 | ⟨rfl, h1⟩
                      · skip
                        go_wp2_with fail
                        go_quiet (fail)
                        go_wp2_with fail
                        obtain ⟨V, hV⟩ : ∃ V, V = wr.drewN nq := ⟨_, rfl⟩
                        have f0 : V.cell? ⟨bA, oA + j2 * 3, none⟩ = some (.int .i64 pf) := by rw [hV]; exact a0
                        have f1 : V.cell? ⟨bA, oA + j2 * 3 + 1, none⟩ = some (.int .i64 pt) := by rw [hV]; exact a1
                        have g0 : V.cell? ⟨bB, oB + k2 * 3, none⟩ = some (.int .i64 qf) := by rw [hV]; exact b0
                        have g1 : V.cell? ⟨bB, oB + k2 * 3 + 1, none⟩ = some (.int .i64 qt) := by rw [hV]; exact b1
                        have HH := Lib.hid (fun n => HHs.out (V.drewN n) ((show Still wn V from by rw [hV]; exact HS3.out.drewN nq).drewN n))
                        have HSV := Lib.hid (show Still wn V from by rw [hV]; exact HS3.out.drewN nq)
                        rw [← hV]
                        clear hV a0 a1 a2 b0 b1 b2
                        go_quiet (fail)
                        go_wp2_with fail
                        go_roundw
                        case rel => exact ⟨j2 + 1, by omega, by go_num, HSV.out.drewN _⟩
                        case measure => simp [intOf]; omega
                      · skip
                        go_wp2_with fail
                        go_quiet (fail)
                        go_wp2_with fail
                        obtain ⟨V, hV⟩ : ∃ V, V = wr.drewN nq := ⟨_, rfl⟩
                        have f0 : V.cell? ⟨bA, oA + j2 * 3, none⟩ = some (.int .i64 pf) := by rw [hV]; exact a0
                        have f1 : V.cell? ⟨bA, oA + j2 * 3 + 1, none⟩ = some (.int .i64 pt) := by rw [hV]; exact a1
                        have g0 : V.cell? ⟨bB, oB + k2 * 3, none⟩ = some (.int .i64 pf) := by rw [hV]; exact b0
                        have g1 : V.cell? ⟨bB, oB + k2 * 3 + 1, none⟩ = some (.int .i64 qt) := by rw [hV]; exact b1
                        have HH := Lib.hid (fun n => HHs.out (V.drewN n) ((show Still wn V from by rw [hV]; exact HS3.out.drewN nq).drewN n))
                        have HSV := Lib.hid (show Still wn V from by rw [hV]; exact HS3.out.drewN nq)
                        rw [← hV]
                        clear hV a0 a1 a2 b0 b1 b2
                        go_quiet (fail)
                        go_wp2_with fail
                        go_roundw
                        case rel => exact ⟨j2 + 1, by omega, by go_num, HSV.out.drewN _⟩
                        case measure => simp [intOf]; omega
                  · obtain rfl : j2 = nl := by omega
                    have HS4 := Lib.hid hst3
                    clear hst3 hl3
                    go_wp2_with fail
                    go_roundw
                    case rel => exact ⟨k2 + 1, by omega, by go_num, HS4.out⟩
                    case measure => simp [intOf]; omega
              · obtain rfl : k2 = n2 := by omega
                have HS5 := Lib.hid (KN.out _ hst)
                clear hst hl2
                go_wp2_with fail
                go_roundw
                case rel => exact ⟨k + 1, dm, cm, am_, ms, M', by omega, by omega, by go_num, rfl, HO'.out, HS5.out⟩
                case measure => simp [intOf]; omega
          )
    · have hex : (k < tl ∧ 60 ≤ k) ∨ tl ≤ k := by omega
      have HS := Lib.hid hH.ground
      clear hH hMo
      rcases hex with ⟨e1, e2⟩ | e1
      case' inl => have e1i : (k : Int) < (tl : Int) := by omega
      case' inl => have e2i : ¬ (k : Int) < 60 := by omega
      case' inr => have e1i : ¬ (k : Int) < (tl : Int) := by omega
      all_goals (
        clear hin
        go_wp2_with fail
        go_ret
        exact ⟨rfl, HS.out⟩)
end Go.Proofs.Ytplnbphbccflfaa
