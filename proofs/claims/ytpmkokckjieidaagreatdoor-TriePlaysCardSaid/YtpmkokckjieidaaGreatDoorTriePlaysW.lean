/- The walk of TriePlays. No condition but the words wanted of the program's calls. -/
import Derived.Test.YtpmkokckjieidaaGreatDoorTrieTurnsW
import Derived.Deep.CutBlock
namespace Go.Proofs.YtpmkokckjieidaaGreatDoor
open Go.RowKit
set_option linter.unusedVariables false
set_option linter.unusedSimpArgs false
set_option maxRecDepth 100000

/-- Both trees, and the acts. -/
abbrev tyT (tT : Nat → List Pr → Thing) (x y : Nat) (L : List Pr) (O : Thing) : Thing := (tT x L).sep ((zgT y L).sep O)
def TPlMid (tT : Nat → List Pr → Thing) (w : World) (x y : Nat) (O : Thing) (ov : Value) (wx : World) : Prop :=
  ov = .bool true ∧ ∃ L : List Pr, TOk L ∧ Held w wx (tyT tT x y L O)
theorem takeL_ok {L : List Pr} (h : TOk L) (f : Txt) (n : Int) : TOk (takeL L f n) := by
  unfold takeL; split
  · exact ⟨h.nodup.erase _, fun p hp => h.ok p (List.mem_of_mem_erase hp), Nat.le_trans (List.length_erase_le ..) h.len⟩
  · exact h
theorem dropL_ok {L : List Pr} (h : TOk L) (n : Int) : TOk (dropL L n) :=
  ⟨h.nodup.filter _, fun p hp => h.ok p (List.mem_filter.1 hp).1, Nat.le_trans (List.length_filter_le ..) h.len⟩

theorem few10_num {w : World} {s : Sl Act10} (h : SlOk encAct10 okAct10 3 w s) {a : A10} (ha : a ∈ few10 s.xs) : i64w a.2.2 := by
  unfold few10 at ha
  obtain ⟨b, hb, rfl⟩ := List.mem_map.1 ha
  exact i64w_of (h.each b (List.mem_of_mem_take hb)).2.2

set_option maxHeartbeats 16000000 in
theorem tplays_walk {tT : Nat → List Pr → Thing} (A : TrieApi tT) (s1 : Sl Act10) (s2 : Sl ByteArray) (w : World) (h1 : SlOk encAct10 okAct10 3 w s1) (h2 : SlOk encT okS 1 w s2) :
    Calls Tryz.prog 3 #[.slice s1.a s1.len s1.cap, .slice s2.a s2.len s2.cap] w fun e w' => e = .returned (.bool true) ∧ Still w w' := by
  obtain ⟨l, hl⟩ : ∃ l, l = few10 s1.xs := ⟨_, rfl⟩
  have HF1 := Lib.hid (fun V (h : Still w V) => few10_any s1 V (SlOk.stays okAct10_stays w V s1 h h1))
  unfold Few10Post at HF1
  rw [← hl] at HF1
  have hln : l.length ≤ 80 := by rw [hl]; exact few10_len _
  have HSm := Lib.hid (fun a (ha : a ∈ l) => show a.2.1.length ≤ 300 from few10_small (by rw [← hl]; exact ha))
  have HI3 := Lib.hid (fun a (ha : a ∈ l) => show i64w a.2.2 from few10_num h1 (by rw [← hl]; exact ha))
  obtain ⟨n, hn⟩ : ∃ n, n = l.length := ⟨_, rfl⟩
  rw [← hn] at HF1
  have HN := Lib.hid hn
  have hn80 : n ≤ 80 := by omega
  obtain ⟨sp, sl, sc, sx⟩ := s1
  obtain ⟨ta, tl, tc, ts⟩ := s2
  have htcap : tl ≤ tc := h2.le
  have htmax : tc ≤ maxLen := h2.max
  unfold maxLen at htmax
  have HTX := Lib.hid h2
  have HTL : Hid (ts.length = tl) := Lib.hid h2.len
  have C0 := Lib.hid (A.make w)
  have C1 := Lib.hid (fun V => ztmake_any V)
  dsimp only at HF1 ⊢
  clear hl h1 h2 hn hln
  go_enter Tryz.func3, Tryz.ntmps3
  go_wp2_with (first
    | (go_at_call 9; ((with_reducible refine C0.out.mono ?_)); rintro e w1 ⟨x, rfl, hN1⟩; have H1 := Lib.hid ((Held.start (Turned.refl _ _)).new hN1).only; have HS1 := Lib.hid H1.out.ground; clear hN1)
    | (go_at_call 10; ((with_reducible refine (C1.out _).mono ?_)); rintro e w2 ⟨y, rfl, hN2⟩; have H2 := Lib.hid (H1.out.new hN2).swap; have HS2 := Lib.hid H2.out.ground; clear hN2)
    | (go_at_call 11; ((with_reducible refine (HF1.out _ HS2.out).mono ?_)); rintro e w3 ⟨g, n2, c, rfl, hn2, ho2, hs2⟩; subst n2; have H3 := Lib.hid (show Held w w3 (tyT tT x y [] (ownT 30 3 (some ⟨g, 0, none⟩) n c (rowOf encA10 l))) from (H2.out.got ho2 hs2).assoc); clear ho2 hs2))
  clear C0 C1 HF1 H1 H2 HS1 HS2
  obtain ⟨O, hO⟩ : ∃ O, O = ownT 30 3 (some ⟨g, 0, none⟩) n c (rowOf encA10 l) := ⟨_, rfl⟩
  have HOd := Lib.hid hO
  rw [← hO] at H3
  clear hO
  go_loopw [7] (fun i wr => ∃ (k : Nat) (L : List Pr), k ≤ n ∧ i = .int .i64 k ∧ TOk L ∧ Held w wr (tyT tT x y L O)) (fun i _ => n - (intOf i).toNat)
  case atStart => exact ⟨0, [], Nat.zero_le _, rfl, TOk.nil, H3.out⟩
  case round =>
    clear H3
    obtain ⟨k, L, hk, rfl, hL, hI⟩ := hrel
    have HL := Lib.hid hL
    have HT := Lib.hid hI.ground
    by_cases hlt : k < n
    · obtain ⟨a, ha⟩ := get_some (l := l) (i := k) (by rw [← HN.out]; exact hlt)
      have hal := HSm.out a (List.mem_of_getElem? ha)
      have hin := HI3.out a (List.mem_of_getElem? ha)
      have hown : wr.ownsRow 0 30 3 (.slice (some ⟨g, 0, none⟩) n c) n (rowOf encA10 l) := by
        have := hI.snd
        rw [HOd.out] at this
        exact this.own
      obtain ⟨d0, d1, d2⟩ := act_cells hown ha
      obtain ⟨ad, af, an⟩ := a
      dsimp only at d0 d1 d2 hal hin
      obtain ⟨v, hv⟩ : ∃ v, v = am ad 8 := ⟨_, rfl⟩
      have hvl : v < 8 := by rw [hv]; exact am_lt _ (by omega)
      have B1 := Lib.hid (fun W => among_lit ad 8 8 v rfl hv (by omega) (by omega) W)
      have HH := Lib.hid (show Held w (wr.alloc (.cells #[.int .i64 ad, tx af, .int .i64 an] 30)) ((tT x L).sep ((zgT y L).sep (O.sep (blkT wr.heap.size [.int .i64 ad, tx af, .int .i64 an] 30)))) from (hI.box [.int .i64 ad, tx af, .int .i64 an] 30).push)
      have HNN := Lib.hid hin
      have HAl := Lib.hid hal
      obtain ⟨Bx, hBx⟩ : ∃ Bx, Bx = wr.heap.size := ⟨_, rfl⟩
      unfold tx at d1
      clear ha hown hv hI hin hL hal
      go_upto_block 2 with (go_at_call 12; ((with_reducible refine (B1.out _).mono ?_)); rintro e w' ⟨rfl, rfl⟩)
      obtain ⟨wa, hwc⟩ : ∃ wa, wa = wr.alloc (.cells #[.int .i64 ad, .string ⟨af.toArray⟩, .int .i64 an] 30) := ⟨_, rfl⟩
      rw [← hBx] at HH ⊢
      rw [show wr.alloc (.cells #[.int .i64 ad, tx af, .int .i64 an] 30) = wa from hwc.symm] at HH
      rw [← hwc]
      have b0 := HH.out.last.blk.cell (o := 0) (v := .int .i64 ad) rfl
      have b1 := HH.out.last.blk.cell (o := 1) (v := tx af) rfl
      have b2 := HH.out.last.blk.cell (o := 2) (v := .int .i64 an) rfl
      unfold tx at b1
      clear hwc d0 d1 d2 B1 hBx b0
      go_cut [9] (fun ov wx => TPlMid tT w x y O ov wx)
      case first =>
        rcases (show v = 0 ∨ v = 1 ∨ v = 2 ∨ v = 3 ∨ v = 4 ∨ v = 5 ∨ v = 6 ∨ v = 7 by omega) with rfl | rfl | rfl | rfl | rfl | rfl | rfl | rfl
        · as_aux_lemma =>
            have X1 := Lib.hid (fun (W : World) (R : Thing) (H : Held w W ((tT x L).sep R)) => show Calls Tryz.prog 13 #[.pointer (some ⟨x, 0, none⟩), tx af, .int .i64 an] W fun e w' => e = .returned (.int .i64 (ptE L af an)) ∧ Held w w' ((tT x (putL L af an)).sep R) from A.hput H HL.out af an HAl.out HNN.out)
            have Y1 := Lib.hid (fun (W : World) (B R : Thing) (H : Held w W (B.sep ((zgT y L).sep R))) => show Calls Tryz.prog 14 #[.pointer (some ⟨y, 0, none⟩), tx af, .int .i64 an] W fun e w' => e = .returned (.int .i64 (ptE L af an)) ∧ Held w w' (B.sep ((zgT y (putL L af an)).sep R)) from
              (H.turn.call (fun _ h' => ztput_any h' HL.out af an HAl.out)).mono fun e w' ⟨he, hh⟩ => ⟨he, hh.turn⟩)
            have R1 := Lib.hid (show TOk (putL L af an) from HL.out.put _ _)
            obtain ⟨L', hL'⟩ : ∃ L', L' = putL L af an := ⟨_, rfl⟩
            rw [← hL'] at X1 Y1 R1
            obtain ⟨qe, hqe⟩ : ∃ qe : Int, qe = ptE L af an := ⟨_, rfl⟩
            rw [← hqe] at X1 Y1
            unfold tx at X1 Y1
            clear hL' hqe
            go_wp2_with fail
            have H0 := HH.out.still (Turned.refl _ _).drew
            go_region_held3 (fun V => V.cell? ⟨Bx, 1, none⟩ = some (.string ⟨af.toArray⟩) ∧ V.cell? ⟨Bx, 2, none⟩ = some (.int .i64 an)) (first | exact ⟨by assumption, by assumption⟩ | go_keep) (first
              | (go_at_call 13; ((with_reducible refine (X1.out _ _ H0).mono ?_)); rintro e w5 ⟨rfl, H5⟩; have g51 := H5.last.blk.cell (o := 1) (v := .string ⟨af.toArray⟩) rfl; have g52 := H5.last.blk.cell (o := 2) (v := .int .i64 an) rfl)
              | (go_at_call 14; ((with_reducible refine (Y1.out _ _ _ H5).mono ?_)); rintro e w6 ⟨rfl, H6⟩; have g61 := H6.last.blk.cell (o := 1) (v := .string ⟨af.toArray⟩) rfl; have g62 := H6.last.blk.cell (o := 2) (v := .int .i64 an) rfl))
            all_goals
              have HH7 := Lib.hid H6.pop
              clear H5 H6 H0 X1 Y1
              go_wp2_with fail
              go_meet
              exact ⟨by first | rfl | simp, L', R1.out, HH7.out⟩
        · as_aux_lemma =>
            have X1 := Lib.hid (fun (W : World) (R : Thing) (H : Held w W ((tT x L).sep R)) => show Calls Tryz.prog 13 #[.pointer (some ⟨x, 0, none⟩), tx af, .int .i64 an] W fun e w' => e = .returned (.int .i64 (ptE L af an)) ∧ Held w w' ((tT x (putL L af an)).sep R) from A.hput H HL.out af an HAl.out HNN.out)
            have Y1 := Lib.hid (fun (W : World) (B R : Thing) (H : Held w W (B.sep ((zgT y L).sep R))) => show Calls Tryz.prog 14 #[.pointer (some ⟨y, 0, none⟩), tx af, .int .i64 an] W fun e w' => e = .returned (.int .i64 (ptE L af an)) ∧ Held w w' (B.sep ((zgT y (putL L af an)).sep R)) from
              (H.turn.call (fun _ h' => ztput_any h' HL.out af an HAl.out)).mono fun e w' ⟨he, hh⟩ => ⟨he, hh.turn⟩)
            have R1 := Lib.hid (show TOk (putL L af an) from HL.out.put _ _)
            obtain ⟨L', hL'⟩ : ∃ L', L' = putL L af an := ⟨_, rfl⟩
            rw [← hL'] at X1 Y1 R1
            obtain ⟨qe, hqe⟩ : ∃ qe : Int, qe = ptE L af an := ⟨_, rfl⟩
            rw [← hqe] at X1 Y1
            unfold tx at X1 Y1
            clear hL' hqe
            go_wp2_with fail
            have H0 := HH.out.still (Turned.refl _ _).drew
            go_region_held3 (fun V => V.cell? ⟨Bx, 1, none⟩ = some (.string ⟨af.toArray⟩) ∧ V.cell? ⟨Bx, 2, none⟩ = some (.int .i64 an)) (first | exact ⟨by assumption, by assumption⟩ | go_keep) (first
              | (go_at_call 13; ((with_reducible refine (X1.out _ _ H0).mono ?_)); rintro e w5 ⟨rfl, H5⟩; have g51 := H5.last.blk.cell (o := 1) (v := .string ⟨af.toArray⟩) rfl; have g52 := H5.last.blk.cell (o := 2) (v := .int .i64 an) rfl)
              | (go_at_call 14; ((with_reducible refine (Y1.out _ _ _ H5).mono ?_)); rintro e w6 ⟨rfl, H6⟩; have g61 := H6.last.blk.cell (o := 1) (v := .string ⟨af.toArray⟩) rfl; have g62 := H6.last.blk.cell (o := 2) (v := .int .i64 an) rfl))
            all_goals
              have HH7 := Lib.hid H6.pop
              clear H5 H6 H0 X1 Y1
              go_wp2_with fail
              go_meet
              exact ⟨by first | rfl | simp, L', R1.out, HH7.out⟩
        · as_aux_lemma =>
            have X1 := Lib.hid (fun (W : World) (R : Thing) (H : Held w W ((tT x L).sep R)) => show Calls Tryz.prog 13 #[.pointer (some ⟨x, 0, none⟩), tx af, .int .i64 an] W fun e w' => e = .returned (.int .i64 (ptE L af an)) ∧ Held w w' ((tT x (putL L af an)).sep R) from A.hput H HL.out af an HAl.out HNN.out)
            have Y1 := Lib.hid (fun (W : World) (B R : Thing) (H : Held w W (B.sep ((zgT y L).sep R))) => show Calls Tryz.prog 14 #[.pointer (some ⟨y, 0, none⟩), tx af, .int .i64 an] W fun e w' => e = .returned (.int .i64 (ptE L af an)) ∧ Held w w' (B.sep ((zgT y (putL L af an)).sep R)) from
              (H.turn.call (fun _ h' => ztput_any h' HL.out af an HAl.out)).mono fun e w' ⟨he, hh⟩ => ⟨he, hh.turn⟩)
            have R1 := Lib.hid (show TOk (putL L af an) from HL.out.put _ _)
            obtain ⟨L', hL'⟩ : ∃ L', L' = putL L af an := ⟨_, rfl⟩
            rw [← hL'] at X1 Y1 R1
            obtain ⟨qe, hqe⟩ : ∃ qe : Int, qe = ptE L af an := ⟨_, rfl⟩
            rw [← hqe] at X1 Y1
            unfold tx at X1 Y1
            clear hL' hqe
            go_wp2_with fail
            have H0 := HH.out.still (Turned.refl _ _).drew
            go_region_held3 (fun V => V.cell? ⟨Bx, 1, none⟩ = some (.string ⟨af.toArray⟩) ∧ V.cell? ⟨Bx, 2, none⟩ = some (.int .i64 an)) (first | exact ⟨by assumption, by assumption⟩ | go_keep) (first
              | (go_at_call 13; ((with_reducible refine (X1.out _ _ H0).mono ?_)); rintro e w5 ⟨rfl, H5⟩; have g51 := H5.last.blk.cell (o := 1) (v := .string ⟨af.toArray⟩) rfl; have g52 := H5.last.blk.cell (o := 2) (v := .int .i64 an) rfl)
              | (go_at_call 14; ((with_reducible refine (Y1.out _ _ _ H5).mono ?_)); rintro e w6 ⟨rfl, H6⟩; have g61 := H6.last.blk.cell (o := 1) (v := .string ⟨af.toArray⟩) rfl; have g62 := H6.last.blk.cell (o := 2) (v := .int .i64 an) rfl))
            all_goals
              have HH7 := Lib.hid H6.pop
              clear H5 H6 H0 X1 Y1
              go_wp2_with fail
              go_meet
              exact ⟨by first | rfl | simp, L', R1.out, HH7.out⟩
        · as_aux_lemma =>
            have X1 := Lib.hid (fun (W : World) (R : Thing) (H : Held w W ((tT x L).sep R)) => show Calls Tryz.prog 13 #[.pointer (some ⟨x, 0, none⟩), tx af, .int .i64 an] W fun e w' => e = .returned (.int .i64 (ptE L af an)) ∧ Held w w' ((tT x (putL L af an)).sep R) from A.hput H HL.out af an HAl.out HNN.out)
            have Y1 := Lib.hid (fun (W : World) (B R : Thing) (H : Held w W (B.sep ((zgT y L).sep R))) => show Calls Tryz.prog 14 #[.pointer (some ⟨y, 0, none⟩), tx af, .int .i64 an] W fun e w' => e = .returned (.int .i64 (ptE L af an)) ∧ Held w w' (B.sep ((zgT y (putL L af an)).sep R)) from
              (H.turn.call (fun _ h' => ztput_any h' HL.out af an HAl.out)).mono fun e w' ⟨he, hh⟩ => ⟨he, hh.turn⟩)
            have R1 := Lib.hid (show TOk (putL L af an) from HL.out.put _ _)
            obtain ⟨L', hL'⟩ : ∃ L', L' = putL L af an := ⟨_, rfl⟩
            rw [← hL'] at X1 Y1 R1
            obtain ⟨qe, hqe⟩ : ∃ qe : Int, qe = ptE L af an := ⟨_, rfl⟩
            rw [← hqe] at X1 Y1
            unfold tx at X1 Y1
            clear hL' hqe
            go_wp2_with fail
            have H0 := HH.out.still (Turned.refl _ _).drew
            go_region_held3 (fun V => V.cell? ⟨Bx, 1, none⟩ = some (.string ⟨af.toArray⟩) ∧ V.cell? ⟨Bx, 2, none⟩ = some (.int .i64 an)) (first | exact ⟨by assumption, by assumption⟩ | go_keep) (first
              | (go_at_call 13; ((with_reducible refine (X1.out _ _ H0).mono ?_)); rintro e w5 ⟨rfl, H5⟩; have g51 := H5.last.blk.cell (o := 1) (v := .string ⟨af.toArray⟩) rfl; have g52 := H5.last.blk.cell (o := 2) (v := .int .i64 an) rfl)
              | (go_at_call 14; ((with_reducible refine (Y1.out _ _ _ H5).mono ?_)); rintro e w6 ⟨rfl, H6⟩; have g61 := H6.last.blk.cell (o := 1) (v := .string ⟨af.toArray⟩) rfl; have g62 := H6.last.blk.cell (o := 2) (v := .int .i64 an) rfl))
            all_goals
              have HH7 := Lib.hid H6.pop
              clear H5 H6 H0 X1 Y1
              go_wp2_with fail
              go_meet
              exact ⟨by first | rfl | simp, L', R1.out, HH7.out⟩
        · as_aux_lemma =>
            have X1 := Lib.hid (fun (W : World) (R : Thing) (H : Held w W ((tT x L).sep R)) => show Calls Tryz.prog 15 #[.pointer (some ⟨x, 0, none⟩), tx af, .int .i64 an] W fun e w' => e = .returned (.int .i64 (tkE L af an)) ∧ Held w w' ((tT x (takeL L af an)).sep R) from A.htake H HL.out af an HAl.out HNN.out)
            have Y1 := Lib.hid (fun (W : World) (B R : Thing) (H : Held w W (B.sep ((zgT y L).sep R))) => show Calls Tryz.prog 16 #[.pointer (some ⟨y, 0, none⟩), tx af, .int .i64 an] W fun e w' => e = .returned (.int .i64 (tkE L af an)) ∧ Held w w' (B.sep ((zgT y (takeL L af an)).sep R)) from
              (H.turn.call (fun _ h' => zttake_any h' HL.out af an HAl.out)).mono fun e w' ⟨he, hh⟩ => ⟨he, hh.turn⟩)
            have R1 := Lib.hid (show TOk (takeL L af an) from takeL_ok HL.out _ _)
            obtain ⟨L', hL'⟩ : ∃ L', L' = takeL L af an := ⟨_, rfl⟩
            rw [← hL'] at X1 Y1 R1
            obtain ⟨qe, hqe⟩ : ∃ qe : Int, qe = tkE L af an := ⟨_, rfl⟩
            rw [← hqe] at X1 Y1
            unfold tx at X1 Y1
            clear hL' hqe
            go_wp2_with fail
            have H0 := HH.out.still (Turned.refl _ _).drew
            go_region_held3 (fun V => V.cell? ⟨Bx, 1, none⟩ = some (.string ⟨af.toArray⟩) ∧ V.cell? ⟨Bx, 2, none⟩ = some (.int .i64 an)) (first | exact ⟨by assumption, by assumption⟩ | go_keep) (first
              | (go_at_call 15; ((with_reducible refine (X1.out _ _ H0).mono ?_)); rintro e w5 ⟨rfl, H5⟩; have g51 := H5.last.blk.cell (o := 1) (v := .string ⟨af.toArray⟩) rfl; have g52 := H5.last.blk.cell (o := 2) (v := .int .i64 an) rfl)
              | (go_at_call 16; ((with_reducible refine (Y1.out _ _ _ H5).mono ?_)); rintro e w6 ⟨rfl, H6⟩; have g61 := H6.last.blk.cell (o := 1) (v := .string ⟨af.toArray⟩) rfl; have g62 := H6.last.blk.cell (o := 2) (v := .int .i64 an) rfl))
            all_goals
              have HH7 := Lib.hid H6.pop
              clear H5 H6 H0 X1 Y1
              go_wp2_with fail
              go_meet
              exact ⟨by first | rfl | simp, L', R1.out, HH7.out⟩
        · as_aux_lemma =>
            have X1 := Lib.hid (fun (W : World) (R : Thing) (H : Held w W ((tT x L).sep R)) => show Calls Tryz.prog 17 #[.pointer (some ⟨x, 0, none⟩), .int .i64 an] W fun e w' => e = .returned (.int .i64 ((dropN L an : Nat))) ∧ Held w w' ((tT x (dropL L an)).sep R) from A.hdrop H HL.out an HNN.out)
            have Y1 := Lib.hid (fun (W : World) (B R : Thing) (H : Held w W (B.sep ((zgT y L).sep R))) => show Calls Tryz.prog 18 #[.pointer (some ⟨y, 0, none⟩), .int .i64 an] W fun e w' => e = .returned (.int .i64 ((dropN L an : Nat))) ∧ Held w w' (B.sep ((zgT y (dropL L an)).sep R)) from
              (H.turn.call (fun _ h' => ztdrop_any h' HL.out an)).mono fun e w' ⟨he, hh⟩ => ⟨he, hh.turn⟩)
            have R1 := Lib.hid (show TOk (dropL L an) from dropL_ok HL.out _)
            obtain ⟨L', hL'⟩ : ∃ L', L' = dropL L an := ⟨_, rfl⟩
            rw [← hL'] at X1 Y1 R1
            obtain ⟨qe, hqe⟩ : ∃ qe : Int, qe = (dropN L an : Nat) := ⟨_, rfl⟩
            rw [← hqe] at X1 Y1
            clear hL' hqe
            go_wp2_with fail
            have H0 := HH.out.still (Turned.refl _ _).drew
            go_region_held3 (fun V => V.cell? ⟨Bx, 2, none⟩ = some (.int .i64 an)) (first | assumption | go_keep) (first
              | (go_at_call 17; ((with_reducible refine (X1.out _ _ H0).mono ?_)); rintro e w5 ⟨rfl, H5⟩; have g52 := H5.last.blk.cell (o := 2) (v := .int .i64 an) rfl)
              | (go_at_call 18; ((with_reducible refine (Y1.out _ _ _ H5).mono ?_)); rintro e w6 ⟨rfl, H6⟩; have g62 := H6.last.blk.cell (o := 2) (v := .int .i64 an) rfl))
            all_goals
              have HH7 := Lib.hid H6.pop
              clear H5 H6 H0 X1 Y1
              go_wp2_with fail
              go_meet
              exact ⟨by first | rfl | simp, L', R1.out, HH7.out⟩
        · as_aux_lemma =>
            have X1 := Lib.hid (fun (W : World) (R : Thing) (H : Held w W ((tT x L).sep R)) => show Calls Tryz.prog 19 #[.pointer (some ⟨x, 0, none⟩), tx af] W (OutE W (ni (ofL L af)) (fcE af)) from A.hof H HL.out af HAl.out)
            have Y1 := Lib.hid (fun (W : World) (B R : Thing) (H : Held w W (B.sep ((zgT y L).sep R))) => show Calls Tryz.prog 20 #[.pointer (some ⟨y, 0, none⟩), tx af] W (OutE W (ni (ofL L af)) (fcE af)) from by
              obtain ⟨_, h', _⟩ := H.turn.fst
              exact (ztof_any h' HL.out af HAl.out).mono fun e w' hh => NumE.out hh (by rw [ni_length]))
            have hlen := ofL_len L af
            have SI := Lib.hid (fun V (a b : Option Addr) (p q ca cb : Nat) (h1 : p = (ni (ofL L af)).length) (h2 : q = (ni (ofL L af)).length) (hA : NumsAt V a (ni (ofL L af))) (hB : NumsAt V b (ni (ofL L af))) => sameI_true V a b (ni (ofL L af)) p q ca cb h1 h2 (by omega) hA hB)
            unfold tx OutE at X1 Y1
            generalize ni (ofL L af) = Q at *
            generalize fcE af = qe at *
            clear hlen
            go_wp2_with (first
              | (go_at_call 19; ((with_reducible refine (X1.out _ _ HH.out).mono ?_)); rintro e w6 ⟨a6, n6, c6, rfl, hn6, hA6, _, hst6⟩; have HH6 := Lib.hid (HH.out.still hst6); have f1 := HH6.out.last.blk.cell (o := 1) (v := .string ⟨af.toArray⟩) rfl; have HN6 := Lib.hid hn6; have HA6 := Lib.hid hA6; clear hn6 hA6 hst6)
              | (go_at_call 20; ((with_reducible refine (Y1.out _ _ _ HH6.out).mono ?_)); rintro e w7 ⟨a7, n7, c7, rfl, hn7, hA7, _, hst7⟩; have HH7 := Lib.hid (HH6.out.still hst7); have HN7 := Lib.hid hn7; have HA7 := Lib.hid hA7; have HA67 := Lib.hid (HA6.out.still hst7); clear hn7 hA7 hst7)
              | (go_at_call 21; ((with_reducible refine (SI.out _ _ _ _ _ _ _ HN6.out HN7.out HA67.out HA7.out).mono ?_)); rintro e w8 ⟨rfl, hst8⟩; have HH8 := Lib.hid (HH7.out.still hst8).pop; clear hst8))
            go_meet
            exact ⟨by first | rfl | simp, L, HL.out, HH8.out⟩
        · as_aux_lemma =>
            have X1 := Lib.hid (fun (W : World) (R : Thing) (H : Held w W ((tT x L).sep R)) => show Calls Tryz.prog 22 #[.pointer (some ⟨x, 0, none⟩), tx af] W (OutE W (ni (mtL L af)) (nmE af)) from A.hmtch H HL.out af HAl.out)
            have Y1 := Lib.hid (fun (W : World) (B R : Thing) (H : Held w W (B.sep ((zgT y L).sep R))) => show Calls Tryz.prog 23 #[.pointer (some ⟨y, 0, none⟩), tx af] W (OutE W (ni (mtL L af)) (nmE af)) from by
              obtain ⟨_, h', _⟩ := H.turn.fst
              exact (ztmatch_any h' HL.out af HAl.out).mono fun e w' hh => NumE.out hh (by rw [ni_length]))
            have hlen := mtL_len L af
            have SI := Lib.hid (fun V (a b : Option Addr) (p q ca cb : Nat) (h1 : p = (ni (mtL L af)).length) (h2 : q = (ni (mtL L af)).length) (hA : NumsAt V a (ni (mtL L af))) (hB : NumsAt V b (ni (mtL L af))) => sameI_true V a b (ni (mtL L af)) p q ca cb h1 h2 (by omega) hA hB)
            unfold tx OutE at X1 Y1
            generalize ni (mtL L af) = Q at *
            generalize nmE af = qe at *
            clear hlen
            go_wp2_with (first
              | (go_at_call 22; ((with_reducible refine (X1.out _ _ HH.out).mono ?_)); rintro e w6 ⟨a6, n6, c6, rfl, hn6, hA6, _, hst6⟩; have HH6 := Lib.hid (HH.out.still hst6); have f1 := HH6.out.last.blk.cell (o := 1) (v := .string ⟨af.toArray⟩) rfl; have HN6 := Lib.hid hn6; have HA6 := Lib.hid hA6; clear hn6 hA6 hst6)
              | (go_at_call 23; ((with_reducible refine (Y1.out _ _ _ HH6.out).mono ?_)); rintro e w7 ⟨a7, n7, c7, rfl, hn7, hA7, _, hst7⟩; have HH7 := Lib.hid (HH6.out.still hst7); have HN7 := Lib.hid hn7; have HA7 := Lib.hid hA7; have HA67 := Lib.hid (HA6.out.still hst7); clear hn7 hA7 hst7)
              | (go_at_call 21; ((with_reducible refine (SI.out _ _ _ _ _ _ _ HN6.out HN7.out HA67.out HA7.out).mono ?_)); rintro e w8 ⟨rfl, hst8⟩; have HH8 := Lib.hid (HH7.out.still hst8).pop; clear hst8))
            go_meet
            exact ⟨by first | rfl | simp, L, HL.out, HH8.out⟩
      case rest =>
        clear HH b1 b2 HNN HAl HL
        obtain ⟨rfl, L', hL', hI'⟩ := hcut
        have HI := Lib.hid hI'
        have HL' := Lib.hid hL'
        obtain ⟨Wy, ⟨la, lc, hZ⟩, _⟩ := hI'.turn.fst
        obtain ⟨m, hm⟩ : ∃ m, m = L'.length := ⟨_, rfl⟩
        have z0 : wc.cell? ⟨y, 0, none⟩ = some (.slice la m lc) := hm ▸ hZ.cell
        have HY := Lib.hid (fun V (hT : Still wc V) => still_cell hT z0 rfl)
        have hm6 : m ≤ 256 := by rw [hm]; exact hL'.len
        have F1 := Lib.hid (fun V (hT : Still wc V) => show Calls Tryz.prog 24 #[.pointer (some ⟨x, 0, none⟩)] V fun e w' => e = .returned (.int .i64 (m : Nat)) ∧ Still wc w' from by
          obtain ⟨Wx, hP, _⟩ := (HI.out.still hT).fst
          rw [hm]
          exact (A.pairs hP HL'.out).mono fun e w' ⟨he, hs⟩ => ⟨he, hT.trans hs⟩)
        have F2 := Lib.hid (fun V (hT : Still wc V) => show Calls Tryz.prog 25 #[.pointer (some ⟨x, 0, none⟩), .pointer (some ⟨y, 0, none⟩)] V fun e w' => e = .returned (.bool true) ∧ Still wc w' from by
          obtain ⟨Wx, hP, _⟩ := (HI.out.still hT).fst
          obtain ⟨Wz, hQ, _⟩ := (HI.out.still hT).turn.fst
          exact (same10 A hP hQ HL'.out).mono fun e w' ⟨he, hs⟩ => ⟨he, hT.trans hs⟩)
        have hk8 : (k : Int) < 9223372036854775807 := by omega
        have hki : (k : Int) < (n : Int) := by omega
        obtain ⟨km, hkm⟩ : ∃ km : Nat, km = k % 8 := ⟨_, rfl⟩
        have HWc := Lib.hid (show IntKind.i64.wrap ((n : Int) - 1) = ((n - 1 : Nat) : Int) by simp [IntKind.wrap, IntKind.signed, IntKind.bits]; omega)
        clear hm hZ hI' hL'
        rcases (show (k % 8 = 7) ∨ (¬ k % 8 = 7 ∧ k = n - 1) ∨ (¬ k % 8 = 7 ∧ ¬ k = n - 1) by omega) with hq | ⟨hq, hq2⟩ | ⟨hq, hq2⟩
        · as_aux_lemma =>
            have hr0 : (k : Int) % 8 = 7 := by omega
            have hr1 : (k : Int).tmod 8 = 7 := by rw [Int.tmod_eq_emod_of_nonneg (by omega)]; omega
            have hTd : Still wc wc.drew := (Turned.refl _ _).drew
            go_wp2_with fail
            refine wp_region_noPanic ?_
            refine wp_region_held_drew (S := (fun V => V.cell? ⟨y, 0, none⟩ = some (.slice la m lc))) (by kernel_rfl) (by first | assumption | go_keep) (fun hHeld => ?_)
            refine wpAnyH_take (i := 0) (v := ?_) (List.getElem?_toArray.trans rfl) (by kernel_rfl) (by kernel_rfl) (by kernel_rfl) (fun _ _ _ h => h) (Or.inl ⟨by rfl, ?_⟩) hHeld ?_
            rotate_left
            · intro V hV; have k0 := hV; go_simp; all_goals with_reducible rfl
            try simp only [Act.put, List.setIfInBounds_toArray, List.set_cons_zero, List.set_cons_succ]
            refine wpAnyH_take (i := 1) (v := ?_) (List.getElem?_toArray.trans rfl) (by kernel_rfl) (by kernel_rfl) (by kernel_rfl) (fun _ _ _ h => h) (Or.inl ⟨by rfl, ?_⟩) hHeld ?_
            rotate_left
            · intro V hV; have k0 := hV; go_simp; all_goals with_reducible rfl
            try simp only [Act.put, List.setIfInBounds_toArray, List.set_cons_zero, List.set_cons_succ]
            refine wpAnyH_take (i := 2) (v := ?_) (List.getElem?_toArray.trans rfl) (by kernel_rfl) (by kernel_rfl) (by kernel_rfl) (fun _ _ _ h => h) (Or.inl ⟨by rfl, ?_⟩) hHeld ?_
            rotate_left
            · intro V hV; have k0 := hV; go_simp; all_goals with_reducible rfl
            try simp only [Act.put, List.setIfInBounds_toArray, List.set_cons_zero, List.set_cons_succ]
            refine wpAnyH_take (i := 3) (v := ?_) (List.getElem?_toArray.trans rfl) (by kernel_rfl) (by kernel_rfl) (by kernel_rfl) (fun _ _ _ h => h) (Or.inl ⟨by rfl, ?_⟩) hHeld ?_
            rotate_left
            · intro V hV; have k0 := hV; go_simp; all_goals with_reducible rfl
            try simp only [Act.put, List.setIfInBounds_toArray, List.set_cons_zero, List.set_cons_succ]
            refine wpAnyH_take (i := 5) (v := ?_) (List.getElem?_toArray.trans rfl) (by kernel_rfl) (by kernel_rfl) (by kernel_rfl) (fun _ _ _ h => h) (Or.inl ⟨by rfl, ?_⟩) hHeld ?_
            rotate_left
            · intro V hV; have k0 := hV; go_simp; all_goals with_reducible rfl
            try simp only [Act.put, List.setIfInBounds_toArray, List.set_cons_zero, List.set_cons_succ]
            refine wpAnyH_take (i := 6) (v := ?_) (List.getElem?_toArray.trans rfl) (by kernel_rfl) (by kernel_rfl) (by kernel_rfl) (fun _ _ _ h => h) (Or.inl ⟨by rfl, ?_⟩) hHeld ?_
            rotate_left
            · intro V hV; have k0 := hV; go_simp; all_goals with_reducible rfl
            try simp only [Act.put, List.setIfInBounds_toArray, List.set_cons_zero, List.set_cons_succ]
            refine wpAnyH_take (i := 7) (v := ?_) (List.getElem?_toArray.trans rfl) (by kernel_rfl) (by kernel_rfl) (by kernel_rfl) (fun _ _ _ h => h) (Or.inl ⟨by rfl, ?_⟩) hHeld ?_
            rotate_left
            · intro V hV; have k0 := hV; go_simp; all_goals with_reducible rfl
            try simp only [Act.put, List.setIfInBounds_toArray, List.set_cons_zero, List.set_cons_succ]
            refine wpAnyH_take (i := 8) (v := ?_) (List.getElem?_toArray.trans rfl) (by kernel_rfl) (by kernel_rfl) (by kernel_rfl) (fun _ _ _ h => h) (Or.inl ⟨by rfl, ?_⟩) hHeld ?_
            rotate_left
            · intro V hV; have k0 := hV; go_simp; all_goals with_reducible rfl
            try simp only [Act.put, List.setIfInBounds_toArray, List.set_cons_zero, List.set_cons_succ]
            refine wpAnyH_take (i := 9) (v := ?_) (List.getElem?_toArray.trans rfl) (by kernel_rfl) (by kernel_rfl) (by kernel_rfl) (fun _ _ _ h => h) (Or.inl ⟨by rfl, ?_⟩) hHeld ?_
            rotate_left
            · intro V hV; have k0 := hV; go_simp; all_goals with_reducible rfl
            try simp only [Act.put, List.setIfInBounds_toArray, List.set_cons_zero, List.set_cons_succ]
            refine wpAnyH_ready (rs := [4]) (by kernel_rfl) (by simp) ?_
            refine AllReadyH.cons (List.getElem?_toArray.trans rfl) (fun K hK => ?_) ?_
            · go_simp
              ((with_reducible refine (F1.out _ (by assumption)).mono ?_)); rintro e w3 ⟨rfl, hT3⟩; have g3 := HY.out w3 hT3
              go_wp2_with fail
              refine hK.out _ _ ?_ (fun hHeld => ?_)
              · first | assumption | go_keep
              clear hK K
              try simp only [Act.put, List.setIfInBounds_toArray, List.set_cons_zero, List.set_cons_succ]
              refine wpAnyH_take (i := 10) (v := ?_) (List.getElem?_toArray.trans rfl) (by kernel_rfl) (by kernel_rfl) (by kernel_rfl) (fun _ _ _ h => h) (Or.inl ⟨by rfl, ?_⟩) hHeld ?_
              rotate_left
              · intro V hV; have k0 := hV; go_simp; all_goals with_reducible rfl
              try simp only [Act.put, List.setIfInBounds_toArray, List.set_cons_zero, List.set_cons_succ]
              refine wpAnyH_take (i := 11) (v := ?_) (List.getElem?_toArray.trans rfl) (by kernel_rfl) (by kernel_rfl) (by kernel_rfl) (fun _ _ _ h => h) (Or.inl ⟨by rfl, ?_⟩) hHeld ?_
              rotate_left
              · intro V hV; have k0 := hV; go_simp; all_goals with_reducible rfl
              try simp only [Act.put, List.setIfInBounds_toArray, List.set_cons_zero, List.set_cons_succ]
              refine wpAnyH_take (i := 12) (v := ?_) (List.getElem?_toArray.trans rfl) (by kernel_rfl) (by kernel_rfl) (by kernel_rfl) (fun _ _ _ h => h) (Or.inl ⟨by rfl, ?_⟩) hHeld ?_
              rotate_left
              · intro V hV; have k0 := hV; go_simp; all_goals with_reducible rfl
              try simp only [Act.put, List.setIfInBounds_toArray, List.set_cons_zero, List.set_cons_succ]
              refine wpAnyH_take (i := 13) (v := ?_) (List.getElem?_toArray.trans rfl) (by kernel_rfl) (by kernel_rfl) (by kernel_rfl) (fun _ _ _ h => h) (Or.inl ⟨by rfl, ?_⟩) hHeld ?_
              rotate_left
              · intro V hV; have k0 := hV; go_simp; all_goals with_reducible rfl
              try simp only [Act.put, List.setIfInBounds_toArray, List.set_cons_zero, List.set_cons_succ]
              refine wpAnyH_take (i := 14) (v := ?_) (List.getElem?_toArray.trans rfl) (by kernel_rfl) (by kernel_rfl) (by kernel_rfl) (fun _ _ _ h => h) (Or.inl ⟨by rfl, ?_⟩) hHeld ?_
              rotate_left
              · intro V hV; have k0 := hV; go_simp; all_goals with_reducible rfl
              try simp only [Act.put, List.setIfInBounds_toArray, List.set_cons_zero, List.set_cons_succ]
              refine wpAnyH_take (i := 15) (v := ?_) (List.getElem?_toArray.trans rfl) (by kernel_rfl) (by kernel_rfl) (by kernel_rfl) (fun _ _ _ h => h) (Or.inl ⟨by rfl, ?_⟩) hHeld ?_
              rotate_left
              · intro V hV; have k0 := hV; go_simp; all_goals with_reducible rfl
              try simp only [Act.put, List.setIfInBounds_toArray, List.set_cons_zero, List.set_cons_succ]
              refine wpAnyH_take (i := 16) (v := ?_) (List.getElem?_toArray.trans rfl) (by kernel_rfl) (by kernel_rfl) (by kernel_rfl) (fun _ _ _ h => h) (Or.inl ⟨by rfl, ?_⟩) hHeld ?_
              rotate_left
              · intro V hV; have k0 := hV; go_simp; all_goals with_reducible rfl
              try simp only [Act.put, List.setIfInBounds_toArray, List.set_cons_zero, List.set_cons_succ]
              refine wpAnyH_take (i := 17) (v := undef) (List.getElem?_toArray.trans rfl) (by kernel_rfl) (by kernel_rfl) (by kernel_rfl) (fun _ _ _ h => h) (Or.inr ⟨by rfl, rfl⟩) hHeld ?_
              try simp only [Act.put, List.setIfInBounds_toArray, List.set_cons_zero, List.set_cons_succ]
              refine wpAnyH_take (i := 18) (v := undef) (List.getElem?_toArray.trans rfl) (by kernel_rfl) (by kernel_rfl) (by kernel_rfl) (fun _ _ _ h => h) (Or.inr ⟨by rfl, rfl⟩) hHeld ?_
              try simp only [Act.put, List.setIfInBounds_toArray, List.set_cons_zero, List.set_cons_succ]
              refine wpAnyH_take (i := 19) (v := undef) (List.getElem?_toArray.trans rfl) (by kernel_rfl) (by kernel_rfl) (by kernel_rfl) (fun _ _ _ h => h) (Or.inr ⟨by rfl, rfl⟩) hHeld ?_
              try simp only [Act.put, List.setIfInBounds_toArray, List.set_cons_zero, List.set_cons_succ]
              refine wpAnyH_take (i := 20) (v := undef) (List.getElem?_toArray.trans rfl) (by kernel_rfl) (by kernel_rfl) (by kernel_rfl) (fun _ _ _ h => h) (Or.inr ⟨by rfl, rfl⟩) hHeld ?_
              try simp only [Act.put, List.setIfInBounds_toArray, List.set_cons_zero, List.set_cons_succ]
              refine wpAnyH_take (i := 21) (v := undef) (List.getElem?_toArray.trans rfl) (by kernel_rfl) (by kernel_rfl) (by kernel_rfl) (fun _ _ _ h => h) (Or.inr ⟨by rfl, rfl⟩) hHeld ?_
              try simp only [Act.put, List.setIfInBounds_toArray, List.set_cons_zero, List.set_cons_succ]
              refine wpAnyH_take (i := 22) (v := ?_) (List.getElem?_toArray.trans rfl) (by kernel_rfl) (by kernel_rfl) (by kernel_rfl) (fun _ _ _ h => h) (Or.inl ⟨by rfl, ?_⟩) hHeld ?_
              rotate_left
              · intro V hV; have k0 := hV; go_simp; all_goals with_reducible rfl
              try simp only [Act.put, List.setIfInBounds_toArray, List.set_cons_zero, List.set_cons_succ]
              refine wpAnyH_take (i := 23) (v := ?_) (List.getElem?_toArray.trans rfl) (by kernel_rfl) (by kernel_rfl) (by kernel_rfl) (fun _ _ _ h => h) (Or.inl ⟨by rfl, ?_⟩) hHeld ?_
              rotate_left
              · intro V hV; have k0 := hV; go_simp; all_goals with_reducible rfl
              try simp only [Act.put, List.setIfInBounds_toArray, List.set_cons_zero, List.set_cons_succ]
              refine wpAnyH_take (i := 24) (v := ?_) (List.getElem?_toArray.trans rfl) (by kernel_rfl) (by kernel_rfl) (by kernel_rfl) (fun _ _ _ h => h) (Or.inl ⟨by rfl, ?_⟩) hHeld ?_
              rotate_left
              · intro V hV; have k0 := hV; go_simp; all_goals with_reducible rfl
              try simp only [Act.put, List.setIfInBounds_toArray, List.set_cons_zero, List.set_cons_succ]
              refine wpAnyH_take (i := 25) (v := ?_) (List.getElem?_toArray.trans rfl) (by kernel_rfl) (by kernel_rfl) (by kernel_rfl) (fun _ _ _ h => h) (Or.inl ⟨by rfl, ?_⟩) hHeld ?_
              rotate_left
              · intro V hV; have k0 := hV; go_simp; all_goals with_reducible rfl
              try simp only [Act.put, List.setIfInBounds_toArray, List.set_cons_zero, List.set_cons_succ]
              refine wpAnyH_ready (rs := [26]) (by kernel_rfl) (by simp) ?_
              refine AllReadyH.cons (List.getElem?_toArray.trans rfl) (fun K hK => ?_) ?_
              · go_simp
                ((with_reducible refine (F2.out _ (by assumption)).mono ?_)); rintro e w4 ⟨rfl, hT4⟩; have g4 := HY.out w4 hT4
                go_wp2_with fail
                refine hK.out _ _ ?_ (fun hHeld => ?_)
                · first | assumption | go_keep
                clear hK K
                try simp only [Act.put, List.setIfInBounds_toArray, List.set_cons_zero, List.set_cons_succ]
                refine wpAnyH_take (i := 27) (v := ?_) (List.getElem?_toArray.trans rfl) (by kernel_rfl) (by kernel_rfl) (by kernel_rfl) (fun _ _ _ h => h) (Or.inl ⟨by rfl, ?_⟩) hHeld ?_
                rotate_left
                · intro V hV; have k0 := hV; go_simp; all_goals with_reducible rfl
                try simp only [Act.put, List.setIfInBounds_toArray, List.set_cons_zero, List.set_cons_succ]
                refine wpAnyH_take (i := 28) (v := ?_) (List.getElem?_toArray.trans rfl) (by kernel_rfl) (by kernel_rfl) (by kernel_rfl) (fun _ _ _ h => h) (Or.inl ⟨by rfl, ?_⟩) hHeld ?_
                rotate_left
                · intro V hV; have k0 := hV; go_simp; all_goals with_reducible rfl
                try simp only [Act.put, List.setIfInBounds_toArray, List.set_cons_zero, List.set_cons_succ]
                refine wpAnyH_take (i := 29) (v := ?_) (List.getElem?_toArray.trans rfl) (by kernel_rfl) (by kernel_rfl) (by kernel_rfl) (fun _ _ _ h => h) (Or.inl ⟨by rfl, ?_⟩) hHeld ?_
                rotate_left
                · intro V hV; have k0 := hV; go_simp; all_goals with_reducible rfl
                try simp only [Act.put, List.setIfInBounds_toArray, List.set_cons_zero, List.set_cons_succ]
                refine wpAnyH_done (by kernel_rfl) ?_ _
                refine NoPanic.normal ?_
                clear F1 F2 HY
                go_wp2_with fail
                exact ⟨⟨k + 1, L', by omega, by go_num, HL'.out, HI.out.still hT4⟩, by simp [intOf]; omega⟩
              exact AllReadyH.nil
            exact AllReadyH.nil
        · as_aux_lemma =>
            have hr0 : (((k : Int).tmod 8) == 7) = false := by rw [Int.tmod_eq_emod_of_nonneg (by omega), beq_eq_false_iff_ne]; omega
            have hr1 : (((k : Int) % 8) == 7) = false := by rw [beq_eq_false_iff_ne]; omega
            have hr2 : ((k % 8) == 7) = false := by rw [beq_eq_false_iff_ne]; omega
            have hTd : Still wc wc.drew := (Turned.refl _ _).drew
            have hwr := HWc.out
            have hq3 : (((k : Int)) == ((n - 1 : Nat) : Int)) = true := by rw [beq_iff_eq]; omega
            have hq4 : (k == n - 1) = true := by rw [beq_iff_eq]; omega
            clear hq2
            go_wp2_with fail
            refine wp_region_noPanic ?_
            refine wp_region_held_drew (S := (fun V => V.cell? ⟨y, 0, none⟩ = some (.slice la m lc))) (by kernel_rfl) (by first | assumption | go_keep) (fun hHeld => ?_)
            refine wpAnyH_take (i := 0) (v := ?_) (List.getElem?_toArray.trans rfl) (by kernel_rfl) (by kernel_rfl) (by kernel_rfl) (fun _ _ _ h => h) (Or.inl ⟨by rfl, ?_⟩) hHeld ?_
            rotate_left
            · intro V hV; have k0 := hV; go_simp; all_goals with_reducible rfl
            try simp only [Act.put, List.setIfInBounds_toArray, List.set_cons_zero, List.set_cons_succ]
            refine wpAnyH_take (i := 1) (v := ?_) (List.getElem?_toArray.trans rfl) (by kernel_rfl) (by kernel_rfl) (by kernel_rfl) (fun _ _ _ h => h) (Or.inl ⟨by rfl, ?_⟩) hHeld ?_
            rotate_left
            · intro V hV; have k0 := hV; go_simp; all_goals with_reducible rfl
            try simp only [Act.put, List.setIfInBounds_toArray, List.set_cons_zero, List.set_cons_succ]
            refine wpAnyH_take (i := 2) (v := ?_) (List.getElem?_toArray.trans rfl) (by kernel_rfl) (by kernel_rfl) (by kernel_rfl) (fun _ _ _ h => h) (Or.inl ⟨by rfl, ?_⟩) hHeld ?_
            rotate_left
            · intro V hV; have k0 := hV; go_simp; all_goals with_reducible rfl
            try simp only [Act.put, List.setIfInBounds_toArray, List.set_cons_zero, List.set_cons_succ]
            refine wpAnyH_take (i := 3) (v := ?_) (List.getElem?_toArray.trans rfl) (by kernel_rfl) (by kernel_rfl) (by kernel_rfl) (fun _ _ _ h => h) (Or.inl ⟨by rfl, ?_⟩) hHeld ?_
            rotate_left
            · intro V hV; have k0 := hV; go_simp; all_goals with_reducible rfl
            try simp only [Act.put, List.setIfInBounds_toArray, List.set_cons_zero, List.set_cons_succ]
            refine wpAnyH_take (i := 5) (v := ?_) (List.getElem?_toArray.trans rfl) (by kernel_rfl) (by kernel_rfl) (by kernel_rfl) (fun _ _ _ h => h) (Or.inl ⟨by rfl, ?_⟩) hHeld ?_
            rotate_left
            · intro V hV; have k0 := hV; go_simp; all_goals with_reducible rfl
            try simp only [Act.put, List.setIfInBounds_toArray, List.set_cons_zero, List.set_cons_succ]
            refine wpAnyH_take (i := 6) (v := ?_) (List.getElem?_toArray.trans rfl) (by kernel_rfl) (by kernel_rfl) (by kernel_rfl) (fun _ _ _ h => h) (Or.inl ⟨by rfl, ?_⟩) hHeld ?_
            rotate_left
            · intro V hV; have k0 := hV; go_simp; all_goals with_reducible rfl
            try simp only [Act.put, List.setIfInBounds_toArray, List.set_cons_zero, List.set_cons_succ]
            refine wpAnyH_take (i := 7) (v := ?_) (List.getElem?_toArray.trans rfl) (by kernel_rfl) (by kernel_rfl) (by kernel_rfl) (fun _ _ _ h => h) (Or.inl ⟨by rfl, ?_⟩) hHeld ?_
            rotate_left
            · intro V hV; have k0 := hV; go_simp; all_goals with_reducible rfl
            try simp only [Act.put, List.setIfInBounds_toArray, List.set_cons_zero, List.set_cons_succ]
            refine wpAnyH_take (i := 8) (v := ?_) (List.getElem?_toArray.trans rfl) (by kernel_rfl) (by kernel_rfl) (by kernel_rfl) (fun _ _ _ h => h) (Or.inl ⟨by rfl, ?_⟩) hHeld ?_
            rotate_left
            · intro V hV; have k0 := hV; go_simp; all_goals with_reducible rfl
            try simp only [Act.put, List.setIfInBounds_toArray, List.set_cons_zero, List.set_cons_succ]
            refine wpAnyH_take (i := 9) (v := ?_) (List.getElem?_toArray.trans rfl) (by kernel_rfl) (by kernel_rfl) (by kernel_rfl) (fun _ _ _ h => h) (Or.inl ⟨by rfl, ?_⟩) hHeld ?_
            rotate_left
            · intro V hV; have k0 := hV; go_simp; all_goals with_reducible rfl
            try simp only [Act.put, List.setIfInBounds_toArray, List.set_cons_zero, List.set_cons_succ]
            refine wpAnyH_ready (rs := [4]) (by kernel_rfl) (by simp) ?_
            refine AllReadyH.cons (List.getElem?_toArray.trans rfl) (fun K hK => ?_) ?_
            · go_simp
              ((with_reducible refine (F1.out _ (by assumption)).mono ?_)); rintro e w3 ⟨rfl, hT3⟩; have g3 := HY.out w3 hT3
              go_wp2_with fail
              refine hK.out _ _ ?_ (fun hHeld => ?_)
              · first | assumption | go_keep
              clear hK K
              try simp only [Act.put, List.setIfInBounds_toArray, List.set_cons_zero, List.set_cons_succ]
              refine wpAnyH_take (i := 10) (v := ?_) (List.getElem?_toArray.trans rfl) (by kernel_rfl) (by kernel_rfl) (by kernel_rfl) (fun _ _ _ h => h) (Or.inl ⟨by rfl, ?_⟩) hHeld ?_
              rotate_left
              · intro V hV; have k0 := hV; go_simp; all_goals with_reducible rfl
              try simp only [Act.put, List.setIfInBounds_toArray, List.set_cons_zero, List.set_cons_succ]
              refine wpAnyH_take (i := 11) (v := ?_) (List.getElem?_toArray.trans rfl) (by kernel_rfl) (by kernel_rfl) (by kernel_rfl) (fun _ _ _ h => h) (Or.inl ⟨by rfl, ?_⟩) hHeld ?_
              rotate_left
              · intro V hV; have k0 := hV; go_simp; all_goals with_reducible rfl
              try simp only [Act.put, List.setIfInBounds_toArray, List.set_cons_zero, List.set_cons_succ]
              refine wpAnyH_take (i := 12) (v := ?_) (List.getElem?_toArray.trans rfl) (by kernel_rfl) (by kernel_rfl) (by kernel_rfl) (fun _ _ _ h => h) (Or.inl ⟨by rfl, ?_⟩) hHeld ?_
              rotate_left
              · intro V hV; have k0 := hV; go_simp; all_goals with_reducible rfl
              try simp only [Act.put, List.setIfInBounds_toArray, List.set_cons_zero, List.set_cons_succ]
              refine wpAnyH_take (i := 13) (v := ?_) (List.getElem?_toArray.trans rfl) (by kernel_rfl) (by kernel_rfl) (by kernel_rfl) (fun _ _ _ h => h) (Or.inl ⟨by rfl, ?_⟩) hHeld ?_
              rotate_left
              · intro V hV; have k0 := hV; go_simp; all_goals with_reducible rfl
              try simp only [Act.put, List.setIfInBounds_toArray, List.set_cons_zero, List.set_cons_succ]
              refine wpAnyH_take (i := 14) (v := ?_) (List.getElem?_toArray.trans rfl) (by kernel_rfl) (by kernel_rfl) (by kernel_rfl) (fun _ _ _ h => h) (Or.inl ⟨by rfl, ?_⟩) hHeld ?_
              rotate_left
              · intro V hV; have k0 := hV; go_simp; all_goals with_reducible rfl
              try simp only [Act.put, List.setIfInBounds_toArray, List.set_cons_zero, List.set_cons_succ]
              refine wpAnyH_take (i := 15) (v := ?_) (List.getElem?_toArray.trans rfl) (by kernel_rfl) (by kernel_rfl) (by kernel_rfl) (fun _ _ _ h => h) (Or.inl ⟨by rfl, ?_⟩) hHeld ?_
              rotate_left
              · intro V hV; have k0 := hV; go_simp; all_goals with_reducible rfl
              try simp only [Act.put, List.setIfInBounds_toArray, List.set_cons_zero, List.set_cons_succ]
              refine wpAnyH_take (i := 16) (v := ?_) (List.getElem?_toArray.trans rfl) (by kernel_rfl) (by kernel_rfl) (by kernel_rfl) (fun _ _ _ h => h) (Or.inl ⟨by rfl, ?_⟩) hHeld ?_
              rotate_left
              · intro V hV; have k0 := hV; go_simp; all_goals with_reducible rfl
              try simp only [Act.put, List.setIfInBounds_toArray, List.set_cons_zero, List.set_cons_succ]
              refine wpAnyH_take (i := 17) (v := ?_) (List.getElem?_toArray.trans rfl) (by kernel_rfl) (by kernel_rfl) (by kernel_rfl) (fun _ _ _ h => h) (Or.inl ⟨by rfl, ?_⟩) hHeld ?_
              rotate_left
              · intro V hV; have k0 := hV; go_simp; all_goals with_reducible rfl
              try simp only [Act.put, List.setIfInBounds_toArray, List.set_cons_zero, List.set_cons_succ]
              refine wpAnyH_take (i := 18) (v := ?_) (List.getElem?_toArray.trans rfl) (by kernel_rfl) (by kernel_rfl) (by kernel_rfl) (fun _ _ _ h => h) (Or.inl ⟨by rfl, ?_⟩) hHeld ?_
              rotate_left
              · intro V hV; have k0 := hV; go_simp; all_goals with_reducible rfl
              try simp only [Act.put, List.setIfInBounds_toArray, List.set_cons_zero, List.set_cons_succ]
              refine wpAnyH_take (i := 19) (v := ?_) (List.getElem?_toArray.trans rfl) (by kernel_rfl) (by kernel_rfl) (by kernel_rfl) (fun _ _ _ h => h) (Or.inl ⟨by rfl, ?_⟩) hHeld ?_
              rotate_left
              · intro V hV; have k0 := hV; go_simp; all_goals with_reducible rfl
              try simp only [Act.put, List.setIfInBounds_toArray, List.set_cons_zero, List.set_cons_succ]
              refine wpAnyH_take (i := 20) (v := ?_) (List.getElem?_toArray.trans rfl) (by kernel_rfl) (by kernel_rfl) (by kernel_rfl) (fun _ _ _ h => h) (Or.inl ⟨by rfl, ?_⟩) hHeld ?_
              rotate_left
              · intro V hV; have k0 := hV; go_simp; all_goals with_reducible rfl
              try simp only [Act.put, List.setIfInBounds_toArray, List.set_cons_zero, List.set_cons_succ]
              refine wpAnyH_take (i := 21) (v := ?_) (List.getElem?_toArray.trans rfl) (by kernel_rfl) (by kernel_rfl) (by kernel_rfl) (fun _ _ _ h => h) (Or.inl ⟨by rfl, ?_⟩) hHeld ?_
              rotate_left
              · intro V hV; have k0 := hV; go_simp; all_goals with_reducible rfl
              try simp only [Act.put, List.setIfInBounds_toArray, List.set_cons_zero, List.set_cons_succ]
              refine wpAnyH_take (i := 22) (v := ?_) (List.getElem?_toArray.trans rfl) (by kernel_rfl) (by kernel_rfl) (by kernel_rfl) (fun _ _ _ h => h) (Or.inl ⟨by rfl, ?_⟩) hHeld ?_
              rotate_left
              · intro V hV; have k0 := hV; go_simp; all_goals with_reducible rfl
              try simp only [Act.put, List.setIfInBounds_toArray, List.set_cons_zero, List.set_cons_succ]
              refine wpAnyH_take (i := 23) (v := ?_) (List.getElem?_toArray.trans rfl) (by kernel_rfl) (by kernel_rfl) (by kernel_rfl) (fun _ _ _ h => h) (Or.inl ⟨by rfl, ?_⟩) hHeld ?_
              rotate_left
              · intro V hV; have k0 := hV; go_simp; all_goals with_reducible rfl
              try simp only [Act.put, List.setIfInBounds_toArray, List.set_cons_zero, List.set_cons_succ]
              refine wpAnyH_take (i := 24) (v := ?_) (List.getElem?_toArray.trans rfl) (by kernel_rfl) (by kernel_rfl) (by kernel_rfl) (fun _ _ _ h => h) (Or.inl ⟨by rfl, ?_⟩) hHeld ?_
              rotate_left
              · intro V hV; have k0 := hV; go_simp; all_goals with_reducible rfl
              try simp only [Act.put, List.setIfInBounds_toArray, List.set_cons_zero, List.set_cons_succ]
              refine wpAnyH_take (i := 25) (v := ?_) (List.getElem?_toArray.trans rfl) (by kernel_rfl) (by kernel_rfl) (by kernel_rfl) (fun _ _ _ h => h) (Or.inl ⟨by rfl, ?_⟩) hHeld ?_
              rotate_left
              · intro V hV; have k0 := hV; go_simp; all_goals with_reducible rfl
              try simp only [Act.put, List.setIfInBounds_toArray, List.set_cons_zero, List.set_cons_succ]
              refine wpAnyH_ready (rs := [26]) (by kernel_rfl) (by simp) ?_
              refine AllReadyH.cons (List.getElem?_toArray.trans rfl) (fun K hK => ?_) ?_
              · go_simp
                ((with_reducible refine (F2.out _ (by assumption)).mono ?_)); rintro e w4 ⟨rfl, hT4⟩; have g4 := HY.out w4 hT4
                go_wp2_with fail
                refine hK.out _ _ ?_ (fun hHeld => ?_)
                · first | assumption | go_keep
                clear hK K
                try simp only [Act.put, List.setIfInBounds_toArray, List.set_cons_zero, List.set_cons_succ]
                refine wpAnyH_take (i := 27) (v := ?_) (List.getElem?_toArray.trans rfl) (by kernel_rfl) (by kernel_rfl) (by kernel_rfl) (fun _ _ _ h => h) (Or.inl ⟨by rfl, ?_⟩) hHeld ?_
                rotate_left
                · intro V hV; have k0 := hV; go_simp; all_goals with_reducible rfl
                try simp only [Act.put, List.setIfInBounds_toArray, List.set_cons_zero, List.set_cons_succ]
                refine wpAnyH_take (i := 28) (v := ?_) (List.getElem?_toArray.trans rfl) (by kernel_rfl) (by kernel_rfl) (by kernel_rfl) (fun _ _ _ h => h) (Or.inl ⟨by rfl, ?_⟩) hHeld ?_
                rotate_left
                · intro V hV; have k0 := hV; go_simp; all_goals with_reducible rfl
                try simp only [Act.put, List.setIfInBounds_toArray, List.set_cons_zero, List.set_cons_succ]
                refine wpAnyH_take (i := 29) (v := ?_) (List.getElem?_toArray.trans rfl) (by kernel_rfl) (by kernel_rfl) (by kernel_rfl) (fun _ _ _ h => h) (Or.inl ⟨by rfl, ?_⟩) hHeld ?_
                rotate_left
                · intro V hV; have k0 := hV; go_simp; all_goals with_reducible rfl
                try simp only [Act.put, List.setIfInBounds_toArray, List.set_cons_zero, List.set_cons_succ]
                refine wpAnyH_done (by kernel_rfl) ?_ _
                refine NoPanic.normal ?_
                clear F1 F2 HY
                go_wp2_with fail
                exact ⟨⟨k + 1, L', by omega, by go_num, HL'.out, HI.out.still hT4⟩, by simp [intOf]; omega⟩
              exact AllReadyH.nil
            exact AllReadyH.nil
        · as_aux_lemma =>
            have hr0 : (((k : Int).tmod 8) == 7) = false := by rw [Int.tmod_eq_emod_of_nonneg (by omega), beq_eq_false_iff_ne]; omega
            have hr1 : (((k : Int) % 8) == 7) = false := by rw [beq_eq_false_iff_ne]; omega
            have hr2 : ((k % 8) == 7) = false := by rw [beq_eq_false_iff_ne]; omega
            have hTd : Still wc wc.drew := (Turned.refl _ _).drew
            have hwr := HWc.out
            have hq3 : (((k : Int)) == ((n - 1 : Nat) : Int)) = false := by rw [beq_eq_false_iff_ne]; omega
            have hq4 : (k == n - 1) = false := by rw [beq_eq_false_iff_ne]; omega
            go_wp2_with fail
            refine wp_region_noPanic ?_
            refine wp_region_held_drew (S := (fun V => V.cell? ⟨y, 0, none⟩ = some (.slice la m lc))) (by kernel_rfl) (by first | assumption | go_keep) (fun hHeld => ?_)
            refine wpAnyH_take (i := 0) (v := ?_) (List.getElem?_toArray.trans rfl) (by kernel_rfl) (by kernel_rfl) (by kernel_rfl) (fun _ _ _ h => h) (Or.inl ⟨by rfl, ?_⟩) hHeld ?_
            rotate_left
            · intro V hV; have k0 := hV; go_simp; all_goals with_reducible rfl
            try simp only [Act.put, List.setIfInBounds_toArray, List.set_cons_zero, List.set_cons_succ]
            refine wpAnyH_take (i := 1) (v := ?_) (List.getElem?_toArray.trans rfl) (by kernel_rfl) (by kernel_rfl) (by kernel_rfl) (fun _ _ _ h => h) (Or.inl ⟨by rfl, ?_⟩) hHeld ?_
            rotate_left
            · intro V hV; have k0 := hV; go_simp; all_goals with_reducible rfl
            try simp only [Act.put, List.setIfInBounds_toArray, List.set_cons_zero, List.set_cons_succ]
            refine wpAnyH_take (i := 2) (v := ?_) (List.getElem?_toArray.trans rfl) (by kernel_rfl) (by kernel_rfl) (by kernel_rfl) (fun _ _ _ h => h) (Or.inl ⟨by rfl, ?_⟩) hHeld ?_
            rotate_left
            · intro V hV; have k0 := hV; go_simp; all_goals with_reducible rfl
            try simp only [Act.put, List.setIfInBounds_toArray, List.set_cons_zero, List.set_cons_succ]
            refine wpAnyH_take (i := 3) (v := ?_) (List.getElem?_toArray.trans rfl) (by kernel_rfl) (by kernel_rfl) (by kernel_rfl) (fun _ _ _ h => h) (Or.inl ⟨by rfl, ?_⟩) hHeld ?_
            rotate_left
            · intro V hV; have k0 := hV; go_simp; all_goals with_reducible rfl
            try simp only [Act.put, List.setIfInBounds_toArray, List.set_cons_zero, List.set_cons_succ]
            refine wpAnyH_take (i := 5) (v := ?_) (List.getElem?_toArray.trans rfl) (by kernel_rfl) (by kernel_rfl) (by kernel_rfl) (fun _ _ _ h => h) (Or.inl ⟨by rfl, ?_⟩) hHeld ?_
            rotate_left
            · intro V hV; have k0 := hV; go_simp; all_goals with_reducible rfl
            try simp only [Act.put, List.setIfInBounds_toArray, List.set_cons_zero, List.set_cons_succ]
            refine wpAnyH_take (i := 6) (v := ?_) (List.getElem?_toArray.trans rfl) (by kernel_rfl) (by kernel_rfl) (by kernel_rfl) (fun _ _ _ h => h) (Or.inl ⟨by rfl, ?_⟩) hHeld ?_
            rotate_left
            · intro V hV; have k0 := hV; go_simp; all_goals with_reducible rfl
            try simp only [Act.put, List.setIfInBounds_toArray, List.set_cons_zero, List.set_cons_succ]
            refine wpAnyH_take (i := 7) (v := ?_) (List.getElem?_toArray.trans rfl) (by kernel_rfl) (by kernel_rfl) (by kernel_rfl) (fun _ _ _ h => h) (Or.inl ⟨by rfl, ?_⟩) hHeld ?_
            rotate_left
            · intro V hV; have k0 := hV; go_simp; all_goals with_reducible rfl
            try simp only [Act.put, List.setIfInBounds_toArray, List.set_cons_zero, List.set_cons_succ]
            refine wpAnyH_take (i := 8) (v := ?_) (List.getElem?_toArray.trans rfl) (by kernel_rfl) (by kernel_rfl) (by kernel_rfl) (fun _ _ _ h => h) (Or.inl ⟨by rfl, ?_⟩) hHeld ?_
            rotate_left
            · intro V hV; have k0 := hV; go_simp; all_goals with_reducible rfl
            try simp only [Act.put, List.setIfInBounds_toArray, List.set_cons_zero, List.set_cons_succ]
            refine wpAnyH_take (i := 9) (v := ?_) (List.getElem?_toArray.trans rfl) (by kernel_rfl) (by kernel_rfl) (by kernel_rfl) (fun _ _ _ h => h) (Or.inl ⟨by rfl, ?_⟩) hHeld ?_
            rotate_left
            · intro V hV; have k0 := hV; go_simp; all_goals with_reducible rfl
            try simp only [Act.put, List.setIfInBounds_toArray, List.set_cons_zero, List.set_cons_succ]
            refine wpAnyH_ready (rs := [4]) (by kernel_rfl) (by simp) ?_
            refine AllReadyH.cons (List.getElem?_toArray.trans rfl) (fun K hK => ?_) ?_
            · go_simp
              ((with_reducible refine (F1.out _ (by assumption)).mono ?_)); rintro e w3 ⟨rfl, hT3⟩; have g3 := HY.out w3 hT3
              go_wp2_with fail
              refine hK.out _ _ ?_ (fun hHeld => ?_)
              · first | assumption | go_keep
              clear hK K
              try simp only [Act.put, List.setIfInBounds_toArray, List.set_cons_zero, List.set_cons_succ]
              refine wpAnyH_take (i := 10) (v := ?_) (List.getElem?_toArray.trans rfl) (by kernel_rfl) (by kernel_rfl) (by kernel_rfl) (fun _ _ _ h => h) (Or.inl ⟨by rfl, ?_⟩) hHeld ?_
              rotate_left
              · intro V hV; have k0 := hV; go_simp; all_goals with_reducible rfl
              try simp only [Act.put, List.setIfInBounds_toArray, List.set_cons_zero, List.set_cons_succ]
              refine wpAnyH_take (i := 11) (v := ?_) (List.getElem?_toArray.trans rfl) (by kernel_rfl) (by kernel_rfl) (by kernel_rfl) (fun _ _ _ h => h) (Or.inl ⟨by rfl, ?_⟩) hHeld ?_
              rotate_left
              · intro V hV; have k0 := hV; go_simp; all_goals with_reducible rfl
              try simp only [Act.put, List.setIfInBounds_toArray, List.set_cons_zero, List.set_cons_succ]
              refine wpAnyH_take (i := 12) (v := ?_) (List.getElem?_toArray.trans rfl) (by kernel_rfl) (by kernel_rfl) (by kernel_rfl) (fun _ _ _ h => h) (Or.inl ⟨by rfl, ?_⟩) hHeld ?_
              rotate_left
              · intro V hV; have k0 := hV; go_simp; all_goals with_reducible rfl
              try simp only [Act.put, List.setIfInBounds_toArray, List.set_cons_zero, List.set_cons_succ]
              refine wpAnyH_take (i := 13) (v := ?_) (List.getElem?_toArray.trans rfl) (by kernel_rfl) (by kernel_rfl) (by kernel_rfl) (fun _ _ _ h => h) (Or.inl ⟨by rfl, ?_⟩) hHeld ?_
              rotate_left
              · intro V hV; have k0 := hV; go_simp; all_goals with_reducible rfl
              try simp only [Act.put, List.setIfInBounds_toArray, List.set_cons_zero, List.set_cons_succ]
              refine wpAnyH_take (i := 14) (v := ?_) (List.getElem?_toArray.trans rfl) (by kernel_rfl) (by kernel_rfl) (by kernel_rfl) (fun _ _ _ h => h) (Or.inl ⟨by rfl, ?_⟩) hHeld ?_
              rotate_left
              · intro V hV; have k0 := hV; go_simp; all_goals with_reducible rfl
              try simp only [Act.put, List.setIfInBounds_toArray, List.set_cons_zero, List.set_cons_succ]
              refine wpAnyH_take (i := 15) (v := ?_) (List.getElem?_toArray.trans rfl) (by kernel_rfl) (by kernel_rfl) (by kernel_rfl) (fun _ _ _ h => h) (Or.inl ⟨by rfl, ?_⟩) hHeld ?_
              rotate_left
              · intro V hV; have k0 := hV; go_simp; all_goals with_reducible rfl
              try simp only [Act.put, List.setIfInBounds_toArray, List.set_cons_zero, List.set_cons_succ]
              refine wpAnyH_take (i := 16) (v := ?_) (List.getElem?_toArray.trans rfl) (by kernel_rfl) (by kernel_rfl) (by kernel_rfl) (fun _ _ _ h => h) (Or.inl ⟨by rfl, ?_⟩) hHeld ?_
              rotate_left
              · intro V hV; have k0 := hV; go_simp; all_goals with_reducible rfl
              try simp only [Act.put, List.setIfInBounds_toArray, List.set_cons_zero, List.set_cons_succ]
              refine wpAnyH_take (i := 17) (v := ?_) (List.getElem?_toArray.trans rfl) (by kernel_rfl) (by kernel_rfl) (by kernel_rfl) (fun _ _ _ h => h) (Or.inl ⟨by rfl, ?_⟩) hHeld ?_
              rotate_left
              · intro V hV; have k0 := hV; go_simp; all_goals with_reducible rfl
              try simp only [Act.put, List.setIfInBounds_toArray, List.set_cons_zero, List.set_cons_succ]
              refine wpAnyH_take (i := 18) (v := ?_) (List.getElem?_toArray.trans rfl) (by kernel_rfl) (by kernel_rfl) (by kernel_rfl) (fun _ _ _ h => h) (Or.inl ⟨by rfl, ?_⟩) hHeld ?_
              rotate_left
              · intro V hV; have k0 := hV; go_simp; all_goals with_reducible rfl
              try simp only [Act.put, List.setIfInBounds_toArray, List.set_cons_zero, List.set_cons_succ]
              refine wpAnyH_take (i := 19) (v := ?_) (List.getElem?_toArray.trans rfl) (by kernel_rfl) (by kernel_rfl) (by kernel_rfl) (fun _ _ _ h => h) (Or.inl ⟨by rfl, ?_⟩) hHeld ?_
              rotate_left
              · intro V hV; have k0 := hV; go_simp; all_goals with_reducible rfl
              try simp only [Act.put, List.setIfInBounds_toArray, List.set_cons_zero, List.set_cons_succ]
              refine wpAnyH_take (i := 20) (v := ?_) (List.getElem?_toArray.trans rfl) (by kernel_rfl) (by kernel_rfl) (by kernel_rfl) (fun _ _ _ h => h) (Or.inl ⟨by rfl, ?_⟩) hHeld ?_
              rotate_left
              · intro V hV; have k0 := hV; go_simp; all_goals with_reducible rfl
              try simp only [Act.put, List.setIfInBounds_toArray, List.set_cons_zero, List.set_cons_succ]
              refine wpAnyH_take (i := 21) (v := ?_) (List.getElem?_toArray.trans rfl) (by kernel_rfl) (by kernel_rfl) (by kernel_rfl) (fun _ _ _ h => h) (Or.inl ⟨by rfl, ?_⟩) hHeld ?_
              rotate_left
              · intro V hV; have k0 := hV; go_simp; all_goals with_reducible rfl
              try simp only [Act.put, List.setIfInBounds_toArray, List.set_cons_zero, List.set_cons_succ]
              refine wpAnyH_take (i := 22) (v := ?_) (List.getElem?_toArray.trans rfl) (by kernel_rfl) (by kernel_rfl) (by kernel_rfl) (fun _ _ _ h => h) (Or.inl ⟨by rfl, ?_⟩) hHeld ?_
              rotate_left
              · intro V hV; have k0 := hV; go_simp; all_goals with_reducible rfl
              try simp only [Act.put, List.setIfInBounds_toArray, List.set_cons_zero, List.set_cons_succ]
              refine wpAnyH_take (i := 23) (v := ?_) (List.getElem?_toArray.trans rfl) (by kernel_rfl) (by kernel_rfl) (by kernel_rfl) (fun _ _ _ h => h) (Or.inl ⟨by rfl, ?_⟩) hHeld ?_
              rotate_left
              · intro V hV; have k0 := hV; go_simp; all_goals with_reducible rfl
              try simp only [Act.put, List.setIfInBounds_toArray, List.set_cons_zero, List.set_cons_succ]
              refine wpAnyH_take (i := 24) (v := undef) (List.getElem?_toArray.trans rfl) (by kernel_rfl) (by kernel_rfl) (by kernel_rfl) (fun _ _ _ h => h) (Or.inr ⟨by rfl, rfl⟩) hHeld ?_
              try simp only [Act.put, List.setIfInBounds_toArray, List.set_cons_zero, List.set_cons_succ]
              refine wpAnyH_take (i := 25) (v := undef) (List.getElem?_toArray.trans rfl) (by kernel_rfl) (by kernel_rfl) (by kernel_rfl) (fun _ _ _ h => h) (Or.inr ⟨by rfl, rfl⟩) hHeld ?_
              try simp only [Act.put, List.setIfInBounds_toArray, List.set_cons_zero, List.set_cons_succ]
              refine wpAnyH_take (i := 26) (v := undef) (List.getElem?_toArray.trans rfl) (by kernel_rfl) (by kernel_rfl) (by kernel_rfl) (fun _ _ _ h => h) (Or.inr ⟨by rfl, rfl⟩) hHeld ?_
              try simp only [Act.put, List.setIfInBounds_toArray, List.set_cons_zero, List.set_cons_succ]
              refine wpAnyH_take (i := 27) (v := undef) (List.getElem?_toArray.trans rfl) (by kernel_rfl) (by kernel_rfl) (by kernel_rfl) (fun _ _ _ h => h) (Or.inr ⟨by rfl, rfl⟩) hHeld ?_
              try simp only [Act.put, List.setIfInBounds_toArray, List.set_cons_zero, List.set_cons_succ]
              refine wpAnyH_take (i := 28) (v := ?_) (List.getElem?_toArray.trans rfl) (by kernel_rfl) (by kernel_rfl) (by kernel_rfl) (fun _ _ _ h => h) (Or.inl ⟨by rfl, ?_⟩) hHeld ?_
              rotate_left
              · intro V hV; have k0 := hV; go_simp; all_goals with_reducible rfl
              try simp only [Act.put, List.setIfInBounds_toArray, List.set_cons_zero, List.set_cons_succ]
              refine wpAnyH_take (i := 29) (v := ?_) (List.getElem?_toArray.trans rfl) (by kernel_rfl) (by kernel_rfl) (by kernel_rfl) (fun _ _ _ h => h) (Or.inl ⟨by rfl, ?_⟩) hHeld ?_
              rotate_left
              · intro V hV; have k0 := hV; go_simp; all_goals with_reducible rfl
              try simp only [Act.put, List.setIfInBounds_toArray, List.set_cons_zero, List.set_cons_succ]
              refine wpAnyH_done (by kernel_rfl) ?_ _
              refine NoPanic.normal ?_
              clear F1 F2 HY
              go_wp2_with fail
              exact ⟨⟨k + 1, L', by omega, by go_num, HL'.out, HI.out.still hT3⟩, by simp [intOf]; omega⟩
            exact AllReadyH.nil
    · obtain rfl : k = n := by omega
      have HI0 := Lib.hid hI
      clear HSm HI3 HN HOd hI hL HT
      go_wp2_with fail
      go_loopw [18] (fun i w2 => ∃ j : Nat, j ≤ tl ∧ j ≤ 20 ∧ i = .int .i64 j ∧ Held w w2 (tyT tT x y L O)) (fun i _ => tl - (intOf i).toNat)
      case atStart => exact ⟨0, Nat.zero_le _, Nat.zero_le _, rfl, HI0.out⟩
      case round =>
        clear HI0
        obtain ⟨j, hj, hj2, rfl, hI⟩ := hrel
        have HI := Lib.hid hI
        have hT := hI.ground
        clear hI
        by_cases hjn : j < tl ∧ j < 20
        · obtain ⟨hjl, hj20⟩ := hjn
          obtain ⟨sa, hsa⟩ := get_some (l := ts) (i := j) (by rw [HTL.out]; exact hjl)
          have hmx : sa.size ≤ maxLen := HTX.out.each sa (List.mem_of_getElem? hsa)
          obtain ⟨b, o, rfl, hc⟩ := (TextsAt.of_row HTX.out.row) j _ (by rw [List.getElem?_map, hsa]; rfl)
          rw [← tx_of] at hc
          have c0 := still_cell hT hc rfl
          obtain ⟨m, hm⟩ : ∃ m, m = sa.size := ⟨_, rfl⟩
          obtain ⟨z, hz⟩ : ∃ z : Nat, z = min m 100 := ⟨_, rfl⟩
          have hif : (if (100 : Int) < (m : Int) then (100 : Int) else (m : Int)) = (z : Int) := by split <;> omega
          have hzm : (z : Int) ≤ (m : Int) := by omega
          have hmi : (m : Int) ≤ 9223372036854775807 := by rw [← hm] at hmx; unfold maxLen at hmx; omega
          obtain ⟨q, hq⟩ : ∃ q, q = sa.data.toList.take 100 := ⟨_, rfl⟩
          obtain ⟨st, hst0⟩ : ∃ st : ByteArray, st = ⟨q.toArray⟩ := ⟨_, rfl⟩
          have hex : sa.extract 0 z = st := by rw [hst0, hq]; exact ext100 hm.symm hz
          have hsm : sa.size = m := hm.symm
          have hql : q.length ≤ 300 := by rw [hq, List.length_take]; omega
          have htx : tx q = .string st := by rw [hst0]; rfl
          have X1 := Lib.hid (fun (W : World) (R : Thing) (H : Held w W ((tT x L).sep R)) => show Calls Tryz.prog 22 #[.pointer (some ⟨x, 0, none⟩), .string st] W (OutE W (ni (mtL L q)) (nmE q)) from by rw [← htx]; exact A.hmtch H HL.out q hql)
          have Y1 := Lib.hid (fun (W : World) (B R : Thing) (H : Held w W (B.sep ((zgT y L).sep R))) => show Calls Tryz.prog 23 #[.pointer (some ⟨y, 0, none⟩), .string st] W (OutE W (ni (mtL L q)) (nmE q)) from by
            obtain ⟨_, h', _⟩ := H.turn.fst
            rw [← htx]
            exact (ztmatch_any h' HL.out q hql).mono fun e w' hh => NumE.out hh (by rw [ni_length]))
          have hlen := mtL_len L q
          have SI := Lib.hid (fun V (a b : Option Addr) (p q' ca cb : Nat) (h1 : p = (ni (mtL L q)).length) (h2 : q' = (ni (mtL L q)).length) (hA : NumsAt V a (ni (mtL L q))) (hB : NumsAt V b (ni (mtL L q))) => sameI_true V a b (ni (mtL L q)) p q' ca cb h1 h2 (by omega) hA hB)
          unfold OutE at X1 Y1
          generalize ni (mtL L q) = Q at *
          generalize nmE q = qe at *
          have HI' := Lib.hid (fun nq => HI.out.still ((Turned.refl _ _).drewN nq))
          clear hlen hsa hmx hc hm hz hq hst0 hql htx hT HTX
          go_wp2_with fail
          go_quiet (fail)
          go_wp2_with (first
            | (go_at_call 22; ((with_reducible refine (X1.out _ _ (HI'.out _)).mono ?_)); rintro e w6 ⟨a6, n6, c6, rfl, hn6, hA6, _, hst6⟩; have HH6 := Lib.hid ((HI'.out _).still hst6); have HN6 := Lib.hid hn6; have HA6 := Lib.hid hA6; clear hn6 hA6 hst6)
            | (go_at_call 23; ((with_reducible refine (Y1.out _ _ _ HH6.out).mono ?_)); rintro e w7 ⟨a7, n7, c7, rfl, hn7, hA7, _, hst7⟩; have HH7 := Lib.hid (HH6.out.still hst7); have HN7 := Lib.hid hn7; have HA7 := Lib.hid hA7; have HA67 := Lib.hid (HA6.out.still hst7); clear hn7 hA7 hst7)
            | (go_at_call 21; ((with_reducible refine (SI.out _ _ _ _ _ _ _ HN6.out HN7.out HA67.out HA7.out).mono ?_)); rintro e w8 ⟨rfl, hst8⟩; have HH8 := Lib.hid (HH7.out.still hst8); clear hst8))
          go_roundw
          case rel => exact ⟨j + 1, by omega, by omega, by go_num, HH8.out⟩
          case measure => simp [intOf]; omega
        · have hex : (j < tl ∧ 20 ≤ j) ∨ tl ≤ j := by omega
          have HW := Lib.hid (fun V => works10 A V)
          clear hjn HTX
          rcases hex with ⟨q1, q2⟩ | q1
          all_goals
            go_wp2_with (go_at_call 26; ((with_reducible refine (HW.out _).mono ?_)); rintro e w8 ⟨rfl, hT8⟩)
            go_ret
            exact ⟨by first | rfl | simp, hT.trans hT8⟩
end Go.Proofs.YtpmkokckjieidaaGreatDoor
