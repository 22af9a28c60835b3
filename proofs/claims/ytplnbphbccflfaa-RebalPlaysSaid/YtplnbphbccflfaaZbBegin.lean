/- What Begin of the document's table does. No condition but that it is one. -/
import Derived.Test.YtplnbphbccflfaaZbAck
import Derived.Test.YtplnbphbccflfaaShZ
import Derived.Test.YtplnbphbccflfaaStepApp
namespace Go.Proofs.Ytplnbphbccflfaa
open Go.RowKit
set_option linter.unusedVariables false
set_option linter.unusedSimpArgs false
set_option maxRecDepth 100000

theorem now_step {ms : List Int} {ps : List Plc} {O : List Own} {k : Nat} {p : Plc} (h : ps[k]? = some p) : nowI ms (ps.take (k + 1)) O = nowI ms (ps.take k) O ++ [(p, if hadI O p ∈ ms then hadI O p else -1)] := by
  unfold nowI
  rw [List.take_add_one, h, List.map_append]; rfl
theorem begE_take (ms : List Int) (ps : List Plc) (O : List Own) : asgE ms ps ((nowI ms ps O).take 256) = begE ps ms := by
  unfold begE asgE
  have : ¬ 256 < ((nowI ms ps O).take 256).length := by rw [List.length_take]; omega
  simp only [this, or_false]
  simp
def waitTo (ms : List Int) (O T : List Own) (k : Nat) : List Int := (ms.take k).filter fun m => decide (0 < (revI O T m).length)
theorem waitTo_step {ms : List Int} {O T : List Own} {k : Nat} {y : Int} (h : ms[k]? = some y) : waitTo ms O T (k + 1) = if 0 < (revI O T y).length then waitTo ms O T k ++ [y] else waitTo ms O T k := by
  unfold waitTo
  rw [List.take_add_one, h, List.filter_append]
  show _ ++ List.filter _ [y] = _
  rw [List.filter_cons, List.filter_nil]
  by_cases e : 0 < (revI O T y).length
  · rw [if_pos (by simpa using e), if_pos e]
  · rw [if_neg (by simpa using e), if_neg e, List.append_nil]
theorem waitTo_len (ms : List Int) (O T : List Own) (k : Nat) : (waitTo ms O T k).length ≤ k := by
  unfold waitTo
  refine Nat.le_trans (List.length_filter_le _ _) ?_
  rw [List.length_take]; omega
section
variable {q K n n2 k d : Nat} {M : TbM} {w V w2 w3 w' : World} {W Q0 : Nat → Prop} {ao at_ aw a2 a3 : Option Addr} {co ct cw c4 c5 : Nat} {O T : List Own} {Wl : List Int} {o t v gv : Value} {R : Thing}
theorem row_fresh {V w' : World} {a : Option Addr} {n c : Nat} {l : List Own} (hown : w'.ownsRow V.heap.size 51 3 (.slice a n c) n (rowOf encOw l)) (hs : Still V w') : ∃ W, (ownsT a n c l).at_ w' W ∧ Still V w' ∧ ∀ k, W k → V.heap.size ≤ k := by
  refine ⟨fun k => (Value.slice a n c).ownBlock = some k, ⟨ow_base hown (Nat.zero_le _), fun k => Iff.rfl⟩, hs, fun k hk => ?_⟩
  cases a with
  | none => cases hk
  | some z =>
    have h1 := (ow_lt hown z rfl).1
    have h2 : z.block = k := by simpa [Value.ownBlock] using hk
    omega
/-- The table's parts while those who must acknowledge are told. -/
abbrev zbY (q : Nat) (a2 : Option Addr) (n c4 : Nat) (a3 : Option Addr) (c5 : Nat) (aw : Option Addr) (d cw : Nat) (O T : List Own) (Wl : List Int) (g : Nat) : Thing :=
  (blkT q [.slice a2 n c4, .slice a3 n c5, .slice aw d cw, .int .i64 ((g : Nat) : Int)] 40).sep ((intsT aw d cw Wl).sep ((ownsT a2 n c4 O).sep (ownsT a3 n c5 T)))
theorem zb_three {g : Nat} (H : Sit Q0 w V ((blkT q [o, t, v, .int .i64 ((g : Nat) : Int)] 40).sep R))
    (h2 : w2.ownsRow V.heap.size 51 3 (.slice a2 n c4) n (rowOf encOw O)) (s2 : Still V w2)
    (h3 : w3.ownsRow w2.heap.size 51 3 (.slice a3 n c5) n (rowOf encOw T)) (s3 : Still w2 w3) :
    (w3.cell? ⟨q, 0, none⟩ = some o ∧ w3.frozen? ⟨q, 0, none⟩ = false) ∧ ((w3.setCell ⟨q, 0, none⟩ (.slice a2 n c4)).cell? ⟨q, 1, none⟩ = some t ∧ (w3.setCell ⟨q, 0, none⟩ (.slice a2 n c4)).frozen? ⟨q, 1, none⟩ = false) ∧
      (((w3.setCell ⟨q, 0, none⟩ (.slice a2 n c4)).setCell ⟨q, 1, none⟩ (.slice a3 n c5)).cell? ⟨q, 2, none⟩ = some v ∧ ((w3.setCell ⟨q, 0, none⟩ (.slice a2 n c4)).setCell ⟨q, 1, none⟩ (.slice a3 n c5)).frozen? ⟨q, 2, none⟩ = false) ∧
      Hid (Sit Q0 w (((w3.setCell ⟨q, 0, none⟩ (.slice a2 n c4)).setCell ⟨q, 1, none⟩ (.slice a3 n c5)).setCell ⟨q, 2, none⟩ (.slice none 0 0)) (zbY q a2 n c4 a3 c5 none 0 0 O T [] g)) := by
  have H1 := ((H.new (row_fresh h2 s2)).new (row_fresh h3 s3))
  have H2 := H1.new (B := intsT none 0 0 []) (w' := w3) ⟨fun _ => False, ⟨World.ownsRow_nil _ _ _ _, fun k => ⟨fun h => h.elim, fun h => by cases h⟩⟩, Turned.refl _ _, fun k h => h.elim⟩
  have H3 := H2.assoc.assoc.assoc
  obtain ⟨x1, x2, x3⟩ := sit_row (o := 0) H3 rfl (.slice a2 n c4)
  obtain ⟨x4, x5, x6⟩ := sit_row (o := 1) x3.out rfl (.slice a3 n c5)
  obtain ⟨x7, x8, x9⟩ := sit_row (o := 2) x6.out rfl (.slice none 0 0)
  refine ⟨⟨x1, x2⟩, ⟨x4, x5⟩, ⟨x7, x8⟩, Lib.hid ?_⟩
  have H4 := x9.out.turn.snd
  exact H4.imp (fun h => sep_imp2 (fun h => h) (fun h => sep_swap (sep_assoc' h)) h)
theorem zbY_rd {g : Nat} (hn : n = O.length) (hn' : n = T.length) (hd : d = Wl.length) (H : Sit Q0 w V (zbY q a2 n c4 a3 c5 aw d cw O T Wl g)) : ZbRd q a2 c4 a3 c5 aw cw ⟨O, T, Wl, g⟩ V := by
  obtain ⟨U, ⟨W1, W2, ⟨h1, _⟩, ⟨W5, W6, ⟨h4, _⟩, ⟨W3, W4, ⟨h2, _⟩, ⟨h3, _⟩, _⟩, _⟩, _⟩, _⟩ := H
  exact ⟨by rw [← hn]; exact h1.cell rfl, by show V.cell? _ = some (.slice a3 T.length c5); rw [← hn']; exact h1.cell rfl, by show V.cell? _ = some (.slice aw Wl.length cw); rw [← hd]; exact h1.cell rfl, h1.cell rfl, RowAt.of_own encOw_len h2 hn, RowAt.of_own encOw_len h3 hn', NumsAt.of_own h4 hd⟩
set_option maxHeartbeats 8000000 in
theorem zrbbegin_any (h : (zbT q M).at_ w W) (hM : M.Ok K) (hK : K < 1000000) {bo ai : Option Addr} {ps : List Plc} {ms : List Int} {n m c1 c2 : Nat} (hn : n = ps.length) (hm : m = ms.length) (h1 : n ≤ 1000) (h2 : m ≤ 1000)
    (hB : PlAt w bo ps) (hA : NumsAt w ai ms) (ha : ms ≠ [] → ∀ a, ai = some a → ¬ W a.block) :
    Calls Try.prog 14 #[.pointer (some ⟨q, 0, none⟩), .slice bo n c1, .slice ai m c2] w fun e w' => e = .returned (.tuple #[.bool (M.beginV ps ms), .int .i64 (begE ps ms)]) ∧ Goes (zbT q (M.begin_ ps ms)) W w w' := by
  obtain ⟨ao, co, at_, ct, aw, cw, hX⟩ := h
  have hrd := zbX_rd hX
  have HG0 := Lib.hid (fun V (hs : Still w V) => show Goes (zbT q M) W w V from Goes.still (Q := zbT q M) ⟨ao, co, at_, ct, aw, cw, hX⟩ hs)
  have HSit := Lib.hid (show Sit W w w (zbX q ao co at_ ct aw cw M) from Sit.start hX)
  obtain ⟨no, hno⟩ : ∃ no, no = M.O.length := ⟨_, rfl⟩
  have ho256 : no ≤ 256 := by rw [hno]; exact hM.len
  have HC := Lib.hid (fun V (hs : Still w V) => show V.cell? ⟨q, 0, none⟩ = some (.slice ao no co) from by rw [hno]; exact (hrd.still hs).c0)
  have HHad := Lib.hid (fun V (hs : Still w V) (pf pt : Int) => show Calls Try.prog 33 #[.slice ao no co, .agg #[.int .i64 pf, .int .i64 pt]] V fun e w' => e = .returned (.int .i64 (hadI M.O (pf, pt))) ∧ Still V w' from hadR_any V ao M.O no co (pf, pt) hno (by omega) (hrd.still hs).ro)
  have HIn := Lib.hid (fun V (hs : Still w V) (x : Int) => zrbin_any V ai ms m c2 x hm (by omega) (hA.still hs))
  have HPl := Lib.hid (fun V (hs : Still w V) => show PlAt V bo ps from row_still hB hs)
  have HNu := Lib.hid (fun V (hs : Still w V) => hA.still hs)
  have HAt := Lib.hid (fun V (hs : Turned W w V) => show NumsAt V ai ms from fun i x hx => hA.turned hs (ha (fun e => by rw [e] at hx; cases hx)) i x hx)
  have HMk := Lib.hid hM
  have HN := Lib.hid hn
  have HM := Lib.hid hm
  obtain ⟨E, hE⟩ : ∃ E, E = begE ps ms := ⟨_, rfl⟩
  obtain ⟨BV, hBV⟩ : ∃ b, b = M.beginV ps ms := ⟨_, rfl⟩
  obtain ⟨M9, hM9⟩ : ∃ x, x = M.begin_ ps ms := ⟨_, rfl⟩
  rw [← hE, ← hBV, ← hM9]
  have HE := Lib.hid hE
  have HBV := Lib.hid hBV
  have HM9 := Lib.hid hM9
  obtain ⟨i0, fi, hz0, hz1, hz2⟩ := info_parts infoIntW
  obtain ⟨pi, qi, pz0, pz1, pz2⟩ := info_parts infoOwZ
  have HW0 := Lib.hid (World.ownsRow_made (e := 51) (size := 3) w #[] 0 (Nat.le_refl _) (by simp) (by simp))
  clear hrd hX hM hn hm hB hA ha hno hE hBV hM9
  go_enter Try.func14, Try.ntmps14
  go_wp2_with fail
  go_loopw [8, 9] (fun ll ix wq => ∃ (i : Nat) (a2 : Option Addr) (c4 : Nat), i ≤ n ∧ ix = .int .i64 i ∧ ll = .slice a2 i c4 ∧ wq.ownsRow w.heap.size 51 3 (.slice a2 i c4) i (rowOf encOw (nowI ms (ps.take i) M.O)) ∧ Still w wq) (fun _ ix _ => n - (intOf ix).toNat)
  case atStart => exact ⟨0, _, 0, Nat.zero_le _, rfl, rfl, HW0.out, (Turned.refl _ _).alloc _⟩
  case round =>
    obtain ⟨i, a2, c4, hi, rfl, rfl, hown, hst⟩ := hrel
    have HO := Lib.hid hown
    have HS := Lib.hid hst
    have hlo := hst.size
    by_cases hlt : i < n
    · obtain ⟨⟨pf, pt⟩, hp⟩ := get_some (l := ps) (i := i) (by rw [← HN.out]; exact hlt)
      have HSd := Lib.hid (show Still w wr.drew from hst.drew)
      obtain ⟨bp, op, rfl, hc⟩ := HPl.out _ hst i _ hp
      have x0 : wr.cell? ⟨bp, op + i * 2, none⟩ = some (.int .i64 pf) := hc 0 _ rfl
      have x1 : wr.cell? ⟨bp, op + i * 2 + 1, none⟩ = some (.int .i64 pt) := by rw [Nat.add_assoc]; exact hc 1 _ rfl
      have HX0 := Lib.hid (fun V (hs : Still wr V) => show V.cell? ⟨bp, op + i * 2, none⟩ = some (.int .i64 pf) ∧ V.cell? ⟨bp, op + i * 2 + 1, none⟩ = some (.int .i64 pt) from ⟨still_cell hs x0 rfl, still_cell hs x1 rfl⟩)
      have c0 := HC.out _ hst
      have HSt := Lib.hid (now_step (ms := ms) (O := M.O) hp)
      have HHd := Lib.hid (fun V (hs : Still w V) => HHad.out V hs pf pt)
      obtain ⟨hd, hhd⟩ : ∃ hd, hd = hadI M.O (pf, pt) := ⟨_, rfl⟩
      rw [← hhd] at HSt HHd
      have hii : (i : Int) < (n : Int) := by omega
      have HR := Lib.hid (fun (z : Int) (w5 w6 : World) (a6 : Option Addr) (c6 : Nat) (hz : (if hd ∈ ms then hd else -1) = z) (hs5 : Still wr w5) (hown : w6.ownsRow w.heap.size 51 3 (.slice a6 (i + 1) c6) (i + 1) (rowOf encOw (nowI ms (ps.take i) M.O) ++ [.int .i64 pf, .int .i64 pt, .int .i64 z])) (hg : (w5.alloc (.cells #[.int .i64 pf, .int .i64 pt, .int .i64 z] 51)).grownBy w6 (Value.slice a2 i c4).ownBlock) =>
        show w6.ownsRow w.heap.size 51 3 (.slice a6 (i + 1) c6) (i + 1) (rowOf encOw (nowI ms (ps.take (i + 1)) M.O)) ∧ Still w w6 from
        ⟨by rw [HSt.out, rowOf_append, rowOf_cons, rowOf_nil, List.append_nil, hz]; exact hown, row_appended (HS.out.trans hs5) (ow_still HO.out hs5) hg⟩)
      clear hc hp hown hst hhd HSt
      by_cases hin : hd ∈ ms
      · rw [if_pos hin] at HR
        have HInk := Lib.hid (fun V (hs : Still w V) => HIn.out V hs hd)
        rw [decide_eq_true hin] at HInk
        clear hin
        go_wp2_with fail
        go_region_held3 (fun V => V.cell? ⟨q, 0, none⟩ = some (.slice ao no co) ∧ V.cell? ⟨bp, op + i * 2, none⟩ = some (.int .i64 pf) ∧ V.cell? ⟨bp, op + i * 2 + 1, none⟩ = some (.int .i64 pt)) (first | assumption | exact ⟨by assumption, by assumption, by assumption⟩ | go_keep)
          (first | (go_at_call 33; ((with_reducible refine (HHd.out _ HSd.out).mono ?_)); rintro e w5 ⟨rfl, hs⟩; have c05 := HC.out _ (HSd.out.trans hs); have hs5 : Still wr w5 := ((Turned.refl _ wr).drew).trans hs; obtain ⟨z0, z1⟩ := HX0.out _ hs5; have HS5 := Lib.hid hs5; clear hs hs5))
        go_wp2_with (first
          | (go_at_call 34; ((with_reducible refine (HInk.out _ (HS.out.trans HS5.out)).mono ?_)); rintro e w6 ⟨rfl, rfl⟩)
          | (at_builtin; refine wpList_append_own_at _ rfl _ _ 38 rfl w.heap.size 51 pi (.agg #[.int .i64 0, .int .i64 0, .int .i64 0]) 3 24 Try.underlying38 qi pz0 pz1 pz2 rfl (by decide) (.slice a2 i c4) i (rowOf encOw (nowI ms (ps.take i) M.O)) rfl (ow_still (ow_still HO.out HS5.out) ((Turned.refl _ _).alloc _)) ⟨w5.heap.size, 0, none⟩ 1 1 [.int .i64 pf, .int .i64 pt, .int .i64 hd] rfl rfl (ow_cells w5 _ _) (ow_ints rfl) (by unfold maxLen; omega) (by omega) (by have := HS5.out.size; simp; omega) ?_; intro v6 w6 hown6 hg6 _ hat6; obtain ⟨a6, c6, rfl⟩ := ow_slice hown6; obtain ⟨ho6, hs6⟩ := HR.out hd w5 w6 a6 c6 rfl HS5.out hown6 hg6; have HO6 := Lib.hid ho6; have HS6 := Lib.hid hs6; clear hown6 hg6 hat6 ho6 hs6))
        go_roundw
        case rel => exact ⟨i + 1, a6, c6, by omega, by go_num, rfl, HO6.out, HS6.out⟩
        case measure => simp [intOf]; omega
      · rw [if_neg hin] at HR
        have HInk := Lib.hid (fun V (hs : Still w V) => HIn.out V hs hd)
        rw [decide_eq_false hin] at HInk
        clear hin
        go_wp2_with fail
        go_region_held3 (fun V => V.cell? ⟨q, 0, none⟩ = some (.slice ao no co) ∧ V.cell? ⟨bp, op + i * 2, none⟩ = some (.int .i64 pf) ∧ V.cell? ⟨bp, op + i * 2 + 1, none⟩ = some (.int .i64 pt)) (first | assumption | exact ⟨by assumption, by assumption, by assumption⟩ | go_keep)
          (first | (go_at_call 33; ((with_reducible refine (HHd.out _ HSd.out).mono ?_)); rintro e w5 ⟨rfl, hs⟩; have c05 := HC.out _ (HSd.out.trans hs); have hs5 : Still wr w5 := ((Turned.refl _ wr).drew).trans hs; obtain ⟨z0, z1⟩ := HX0.out _ hs5; have HS5 := Lib.hid hs5; clear hs hs5))
        go_wp2_with (first
          | (go_at_call 34; ((with_reducible refine (HInk.out _ (HS.out.trans HS5.out)).mono ?_)); rintro e w6 ⟨rfl, rfl⟩)
          | (at_builtin; refine wpList_append_own_at _ rfl _ _ 38 rfl w.heap.size 51 pi (.agg #[.int .i64 0, .int .i64 0, .int .i64 0]) 3 24 Try.underlying38 qi pz0 pz1 pz2 rfl (by decide) (.slice a2 i c4) i (rowOf encOw (nowI ms (ps.take i) M.O)) rfl (ow_still (ow_still HO.out HS5.out) ((Turned.refl _ _).alloc _)) ⟨w5.heap.size, 0, none⟩ 1 1 [.int .i64 pf, .int .i64 pt, .int .i64 (-1)] rfl rfl (ow_cells w5 _ _) (ow_ints rfl) (by unfold maxLen; omega) (by omega) (by have := HS5.out.size; simp; omega) ?_; intro v6 w6 hown6 hg6 _ hat6; obtain ⟨a6, c6, rfl⟩ := ow_slice hown6; obtain ⟨ho6, hs6⟩ := HR.out (-1) w5 w6 a6 c6 rfl HS5.out hown6 hg6; have HO6 := Lib.hid ho6; have HS6 := Lib.hid hs6; clear hown6 hg6 hat6 ho6 hs6))
        go_roundw
        case rel => exact ⟨i + 1, a6, c6, by omega, by go_num, rfl, HO6.out, HS6.out⟩
        case measure => simp [intOf]; omega
    · obtain rfl : i = n := by omega
      obtain ⟨L, hL⟩ : ∃ L, L = nowI ms ps M.O := ⟨_, rfl⟩
      have hps : nowI ms (ps.take i) M.O = L := by rw [hL, List.take_of_length_le (by rw [HN.out]; exact Nat.le_refl _)]
      rw [hps] at HO hown
      have hLl : i = L.length := by rw [hL, now_len, HN.out]
      have hcc := (ow_le hown).1
      have hcm := (ow_le hown).2.1
      obtain ⟨r, hr⟩ : ∃ r, r = (asgV ms ps (L.take 256)).length := ⟨_, rfl⟩
      obtain ⟨u, hu⟩ : ∃ u, u = min i 256 := ⟨_, rfl⟩
      have hAs := zshassign_any wr ai bo a2 ms ps (L.take 256) m i u c2 c1 c4 r HM.out HN.out (by rw [List.length_take, ← hLl, hu]; omega) h2 h1 (by omega) (HNu.out _ hst) (HPl.out _ hst) (row_take (RowAt.of_own encOw_len hown hLl) 256) hr
      have hE1 : asgE ms ps (L.take 256) = E := by rw [HE.out, hL]; exact begE_take ms ps M.O
      rw [hE1] at hAs
      have hif : (if (256 : Int) < (i : Int) then (256 : Int) else (i : Int)) = (u : Int) := by split <;> omega
      have huc : u ≤ c4 := by omega
      have HLL := Lib.hid hLl
      have HLd := Lib.hid hL
      by_cases hE0 : E = 0
      · subst hE0
        have hb0 : begE ps ms = 0 := HE.out.symm
        obtain ⟨b1, b2, b3⟩ := begE_ok hb0
        have hi256 : i ≤ 256 := by rw [HN.out]; exact b1
        have hm8 : m ≤ 8 := by rw [HM.out]; exact b2.1
        obtain rfl : i = u := by omega
        have hL256 : L.take 256 = L := List.take_of_length_le (by omega)
        rw [asgV_ok hE1, hL256] at hAs hr
        obtain rfl : i = r := by rw [hr, asgI_len, HN.out]
        obtain ⟨T, hT⟩ : ∃ T, T = asgI ms ps L := ⟨_, rfl⟩
        have hTl : i = T.length := by rw [hT, asgI_len, HN.out]
        rw [← hT] at hAs
        have HAs := Lib.hid hAs
        have HTl := Lib.hid hTl
        obtain ⟨M', hM'⟩ : ∃ M', M' = M.begun ps ms := ⟨_, rfl⟩
        have hP' : M'.Pre K := by rw [hM']; exact TbM.begun_pre HMk.out hb0
        have e1 : BV = decide (M'.W = []) := by rw [HBV.out, hM']; unfold TbM.beginV; rw [Bool.eq_iff_iff]; simp [hb0]
        have e2 : M9 = M'.settle := by rw [HM9.out, hM']; unfold TbM.begin_; rw [if_pos hb0]
        have HSt := Lib.hid (fun V (H : Sit W w V (zbT q M')) => show Calls Try.prog 37 #[.pointer (some ⟨q, 0, none⟩)] V fun e w' => e = .returned (.bool BV) ∧ Goes (zbT q M9) W w w' from by
          rw [e1, e2]; exact zrbsettle_sit hP' hK H)
        have hMO : M'.O = L ∧ M'.T = T ∧ M'.W = waitTo ms L T m ∧ M'.G = M.G := by
          rw [hM', hT, hL]
          refine ⟨rfl, rfl, ?_, rfl⟩
          unfold waitTo
          rw [List.take_of_length_le (by rw [HM.out]; exact Nat.le_refl _)]; rfl
        obtain ⟨g, hg⟩ : ∃ g, g = M.G := ⟨_, rfl⟩
        have HEnd := Lib.hid (fun (V : World) (a3 aw' : Option Addr) (c5 d cw' : Nat) (hd : d = (waitTo ms L T m).length) (H : Sit W w V (zbY q a2 i c4 a3 c5 aw' d cw' L T (waitTo ms L T m) g)) => show Sit W w V (zbT q M') from by
          refine H.imp (fun h => ⟨a2, c4, a3, c5, aw', cw', ?_⟩)
          unfold zbX
          rw [hMO.1, hMO.2.1, hMO.2.2.1, hMO.2.2.2, ← HLL.out, ← hTl, ← hd, ← hg]
          exact sep_imp2 (fun h => h) (fun h => sep_assoc (sep_swap h)) h)
        have HSit2 := Lib.hid (fun (w3 : World) (a3 : Option Addr) (c5 : Nat) (hown3 : w3.ownsRow wr.heap.size 51 3 (.slice a3 i c5) i (rowOf encOw T)) (hs3 : Still wr w3) => zb_three (a3 := a3) (c5 := c5) HSit.out HO.out HS.out hown3 hs3)
        rw [← hg] at HSit2
        clear hu hAs hE1 hps hown hL hLl hr hst hlt hb0 b1 b2 b3 hL256 hT hTl hM' hP' e1 e2 hMO hg hcc
        clear HG0 HSit HHad HIn HPl HNu HBV HM9 HE HLd HO
        go_wp2_with (go_at_call 35; ((with_reducible refine HAs.out.mono ?_)); rintro e w3 ⟨a3, c5, rfl, hown3, hs3⟩; obtain ⟨⟨s1, s2⟩, ⟨s3, s4⟩, ⟨s5, s6⟩, s7⟩ := HSit2.out w3 a3 c5 hown3 hs3; clear hown3 hs3)
        clear s1 s2 s3 s4 s5 s6
        go_loopw [13] (fun kx wq => ∃ (k d : Nat) (aw' : Option Addr) (cw' : Nat), k ≤ m ∧ kx = .int .i64 k ∧ d = (waitTo ms L T k).length ∧ Sit W w wq (zbY q a2 i c4 a3 c5 aw' d cw' L T (waitTo ms L T k) g)) (fun kx _ => m - (intOf kx).toNat)
        case atStart => exact ⟨0, 0, none, 0, Nat.zero_le _, rfl, rfl, s7.out⟩
        case round =>
          clear s7
          obtain ⟨k, d, aw', cw', hk, rfl, hd, hS⟩ := hrel
          have HD := Lib.hid hd
          have HY := Lib.hid hS
          have hd8 : d ≤ 8 := by have := waitTo_len ms L T k; omega
          by_cases hlt : k < m
          · obtain ⟨y, hy⟩ := get_some (l := ms) (i := k) (by rw [← HM.out]; exact hlt)
            obtain ⟨b, o, rfl, cy⟩ := HAt.out _ hS.turned k y hy
            have HSt2 := Lib.hid (waitTo_step (O := L) (T := T) hy)
            obtain ⟨rl, hrl⟩ : ∃ rl, rl = (revI L T y).length := ⟨_, rfl⟩
            have HRv := Lib.hid (show Calls Try.prog 36 #[.pointer (some ⟨q, 0, none⟩), .int .i64 y] wr (OutRow encPl 2 49 wr (revI L T y) rl) from zrbrev_len (zbY_rd HLL.out HTl.out hd hS) (HLL.out.symm.trans HTl.out) (by show L.length ≤ 256; rw [← HLL.out]; exact hi256) y rl hrl)
            rw [← hrl] at HSt2
            have c2 : wr.cell? ⟨q, 2, none⟩ = some (.slice aw' d cw') := by
              obtain ⟨_, ⟨_, _, ⟨hb, _⟩, _⟩, _⟩ := hS
              exact hb.cell rfl
            have hki : (k : Int) < (m : Int) := by omega
            by_cases hr0 : 0 < rl
            · rw [if_pos hr0] at HSt2
              have hri : (0 : Int) < (rl : Int) := by omega
              clear hd hS hy hrl
              go_wp2_with (go_at_call 36; ((with_reducible refine HRv.out.mono ?_)); rintro e w5 ⟨a5, c5', rfl, _, hs5⟩; have c25 := still_cell hs5 c2 rfl; have cy5 := still_cell hs5 cy rfl; have HY5 := Lib.hid (HY.out.still hs5); clear hs5)
              have hql : q < w5.heap.size := cell_lt c25
              have hbl : b < w5.heap.size := cell_lt cy5
              have HRo := Lib.hid (show w5.ownsRow 0 3 1 (.slice aw' d cw') d (ints (waitTo ms L T k)) from by
                obtain ⟨_, ⟨_, _, _, ⟨_, _, ⟨h, _⟩, _⟩, _⟩, _⟩ := HY5.out
                exact h)
              have HRA := Lib.hid (ow_still HRo.out ((Turned.refl _ w5).alloc (.cells #[.int .i64 y] 3)).drew)
              have HCl := Lib.hid (show ∀ (j : Nat) (u : Value), [Value.int .i64 y][j]? = some u → (w5.alloc (.cells #[.int .i64 y] 3)).drew.cell? ((⟨w5.heap.size, 0, none⟩ : Addr).add j) = some u from ow_cells w5 [.int .i64 y] 3)
              have HNw := Lib.hid (fun (w6 : World) (a6 : Option Addr) (c6 : Nat) (hown : w6.ownsRow 0 3 1 (.slice a6 (d + 1) c6) (d + 1) (ints (waitTo ms L T k) ++ [.int .i64 y])) (hg : (w5.alloc (.cells #[.int .i64 y] 3)).drew.grownBy w6 (Value.slice aw' d cw').ownBlock) (hat : (Value.slice a6 (d + 1) c6).ownBlock = (Value.slice aw' d cw').ownBlock ∨ (Value.slice a6 (d + 1) c6).ownBlock = some (w5.alloc (.cells #[.int .i64 y] 3)).drew.heap.size) =>
                show w6.cell? ⟨q, 2, none⟩ = some (.slice aw' d cw') ∧ w6.frozen? ⟨q, 2, none⟩ = false ∧ Hid (Sit W w (w6.setCell ⟨q, 2, none⟩ (.slice a6 (d + 1) c6)) (zbY q a2 i c4 a3 c5 a6 (d + 1) c6 L T (waitTo ms L T (k + 1)) g)) from by
                have h := sit_app (o := .cells #[.int .i64 y] 3) HY5.out (i := 2) rfl hown ⟨hg.os, hg.tape, hg.output, hg.size, hg.block⟩ hat
                rw [HSt2.out]
                unfold zbY intsT
                rw [show ints (waitTo ms L T k ++ [y]) = ints (waitTo ms L T k) ++ [.int .i64 y] from by simp [ints]]
                exact h)
              go_region_law (refine step_app_own rfl (.tmp 86) (.tmp 91) 28 rfl 0 3 i0 (.int .i64 0) 1 8 Try.underlying28 fi hz0 hz1 hz2 rfl (by decide) (.slice aw' d cw') d (ints (waitTo ms L T k)) rfl HRA.out ⟨w5.heap.size, 0, none⟩ 1 1 [.int .i64 y] rfl rfl HCl.out (ow_ints rfl) (by unfold maxLen; omega) (by omega) (by simp) ?_; intro v6 w6 hown6 hg6 hat6; obtain ⟨a6, c6, rfl⟩ := ow_slice hown6; obtain ⟨hc6, hf6, HG6⟩ := HNw.out w6 a6 c6 hown6 hg6 hat6; clear hown6 hg6 hat6)
              all_goals (
                go_wp2_with fail
                go_roundw
                case rel => exact ⟨k + 1, d + 1, a6, c6, by omega, by go_num, by rw [HSt2.out, List.length_append, ← HD.out]; rfl, HG6.out⟩
                case measure => simp [intOf]; omega)
            · rw [if_neg hr0] at HSt2
              have hr1 : rl = 0 := by omega
              rw [hr1] at HRv
              clear hd hS hy hrl hr0 hr1
              go_wp2_with (go_at_call 36; ((with_reducible refine HRv.out.mono ?_)); rintro e w5 ⟨a5, c5', rfl, _, hs5⟩; have HY5 := Lib.hid (HY.out.still hs5); clear hs5)
              go_roundw
              case rel => exact ⟨k + 1, d, aw', cw', by omega, by go_num, by rw [HSt2.out]; exact HD.out, by rw [HSt2.out]; exact HY5.out⟩
              case measure => simp [intOf]; omega
          · obtain rfl : k = m := by omega
            have HSc := Lib.hid (HSt.out _ (HEnd.out _ _ _ _ _ _ hd hS))
            clear hS hd hlt
            go_wp2_with (go_at_call 37; ((with_reducible refine HSc.out.mono ?_)); rintro e w9 ⟨rfl, hg⟩; have HG9 := Lib.hid hg; clear hg)
            go_ret2
            exact ⟨rfl, HG9.out⟩
      · have HAs := Lib.hid hAs
        have hEb : (E != 0) = true := by rw [bne_iff_ne]; exact hE0
        have HEnd := Lib.hid (fun V (hs : Still w V) => show (BV = false ∧ Goes (zbT q M9) W w V) from
          ⟨by rw [HBV.out]; unfold TbM.beginV; exact decide_eq_false (fun e => hE0 (by rw [HE.out]; exact e.1)), by rw [HM9.out]; unfold TbM.begin_; rw [if_neg (by rw [← HE.out]; exact hE0)]; exact HG0.out V hs⟩)
        clear hAs hE1 hps hown hL hLl hr hu hst hlt hE0
        go_wp2_with (go_at_call 35; ((with_reducible refine HAs.out.mono ?_)); rintro e w3 ⟨a3, c5, rfl, hown3, hs3⟩; have HS3 := Lib.hid (HS.out.trans hs3); clear hown3 hs3)
        go_ret2
        obtain ⟨e1, e2⟩ := HEnd.out _ HS3.out
        exact ⟨by rw [e1]; rfl, e2⟩
end
end Go.Proofs.Ytplnbphbccflfaa
