import Derived.Test.YtbljjmehjkmjaaaGreatBdAct
import Derived.Test.YtbljjmehjkmjaaaGreatPtActDrop
import Derived.Deep.RegionHeld3
import Derived.Deep.DeepCutAuto
import Derived.BigQuiet
import Derived.Deep.CutBlock

/- What the statements' own 'act' does, whichever it is. No condition but that the program's partitions and pool keep their words. -/
namespace Go.Proofs.YtbljjmehjkmjaaaGreat
open Go.RowKit
set_option linter.unusedVariables false

theorem act_any {PT : Nat → PM → Thing} {XT : Nat → Nat → RM → Thing} (A : PartActs PT XT) (B : PoolActs PT) {w wr : World} {t q zq i xi xj yi yj ri rj : Nat} {P : PM} {Mi Mj : RM} {had : List Int} {ao : Option Addr} {n cc N K : Nat} (H : Two PT XT w wr t q zq i xi xj yi yj ri rj P Mi Mj had ao n cc N K) (hN : N < 800000) (hK : K < 800000) (hn : n ≤ 1000) (hi : i < 2) (a : Act12) (hai : am a.1 2 = i) (hok : okAct12 w a) :
    Calls Tryz.prog 8 #[.pointer (some ⟨t, 0, none⟩), a.val] wr (ActPost PT XT w t q zq i xi xj yi yj ri rj P Mi Mj n N K) := by
  have hv : am a.2.1 11 < 11 := am_lt _ (by omega)
  rcases (show am a.2.1 11 = 0 ∨ am a.2.1 11 = 1 ∨ am a.2.1 11 = 2 ∨ am a.2.1 11 = 3 ∨ am a.2.1 11 = 4 ∨ am a.2.1 11 = 5 ∨ am a.2.1 11 = 6 ∨ am a.2.1 11 = 7 ∨ am a.2.1 11 = 8 ∨ am a.2.1 11 = 9 ∨ am a.2.1 11 = 10 by omega) with h | h | h | h | h | h | h | h | h | h | h
  · exact act_claim A B H hN hK hn hi a hai hok h (by omega)
  · exact act_claim A B H hN hK hn hi a hai hok h (by omega)
  · exact act_claim A B H hN hK hn hi a hai hok h (by omega)
  · exact act_claim A B H hN hK hn hi a hai hok h (by omega)
  · exact act_fill A B H hN hK hn hi a hai hok h rfl
  · exact act_pub A B H hN hK hn hi a hai hok h (by omega)
  · exact act_pub A B H hN hK hn hi a hai hok h (by omega)
  · exact act_read A B H hN hK hn hi a hai hok h rfl
  · by_cases h0 : n = 0
    · exact act_none A B H hN hK hn hi a hai hok h rfl h0
    · exact act_drop A B H hN hK hn hi a hai hok h rfl (by omega)
  · exact act_trim A B H hN hK hn hi a hai hok h rfl
  · exact act_peek A B H hN hK hn hi a hai hok h rfl

/-- What an act leaves of both. -/
def ActTwo (PT : Nat → PM → Thing) (XT : Nat → Nat → RM → Thing) (w : World) (t q zq x0 x1 y0 y1 r0 r1 : Nat) (P : PM) (M0 M1 : RM) (n N K i : Nat) (e : Ending) (w' : World) : Prop :=
  e = .returned (.bool true) ∧ ∃ (P' : PM) (M0' M1' : RM) (had' : List Int) (ao' : Option Addr) (n' cc' : Nat), Two PT XT w w' t q zq 0 x0 x1 y0 y1 r0 r1 P' M0' M1' had' ao' n' cc' (N + 66) (K + 1) ∧ SameSz P P' ∧ n' ≤ n + 1 ∧ (i = 0 → M1' = M1)

theorem act_two {PT : Nat → PM → Thing} {XT : Nat → Nat → RM → Thing} (A : PartActs PT XT) (B : PoolActs PT) {w wr : World} {t q zq x0 x1 y0 y1 r0 r1 : Nat} {P : PM} {M0 M1 : RM} {had : List Int} {ao : Option Addr} {n cc N K : Nat} (H : Two PT XT w wr t q zq 0 x0 x1 y0 y1 r0 r1 P M0 M1 had ao n cc N K) (hN : N < 800000) (hK : K < 800000) (hn : n ≤ 1000) (a : Act12) (hok : okAct12 w a) :
    Calls Tryz.prog 8 #[.pointer (some ⟨t, 0, none⟩), a.val] wr (ActTwo PT XT w t q zq x0 x1 y0 y1 r0 r1 P M0 M1 n N K (am a.1 2)) := by
  have hv : am a.1 2 < 2 := am_lt _ (by omega)
  by_cases h0 : am a.1 2 = 0
  · refine (act_any A B H hN hK hn (by omega) a h0 hok).mono ?_
    rintro e w' ⟨he, P', M', had', ao', n', cc', h1, h2, h3, _⟩
    exact ⟨he, P', M', M1, had', ao', n', cc', h1, h2, h3, fun _ => rfl⟩
  · refine (act_any A B (H.swap (by omega)) hN hK hn (by omega) a (by omega) hok).mono ?_
    rintro e w' ⟨he, P', M', had', ao', n', cc', h1, h2, h3, _⟩
    exact ⟨he, P', M0, M', had', ao', n', cc', h1.swap (by omega), h2, h3, fun h => absurd h h0⟩
end Go.Proofs.YtbljjmehjkmjaaaGreat

/- What the statements' own 'made' makes. No condition but that the program's partitions and pool keep their words. -/
namespace Go.Proofs.YtbljjmehjkmjaaaGreat
open Go.RowKit
set_option linter.unusedVariables false
set_option linter.unusedSimpArgs false
set_option maxRecDepth 100000

theorem sys_of {A X Z Y X' Y' T : Thing} {w : World} {W : Nat → Prop} (h : (T.sep (Y'.sep (X'.sep (Y.sep (X.sep (A.sep Z)))))).at_ w W) : (sysT A X Z Y X' Y' T).at_ w W := by
  have h1 : (T.sep (Y'.sep (X'.sep ((A.sep X).sep (Z.sep Y))))).at_ w W :=
    sep_mono id (sep_mono id (sep_mono id (fun h => sep_mono id sep_swap (sep_turn (sep_mono id (fun h => sep_assoc' (sep_turn h)) h))))) h
  have h2 : (T.sep ((A.sep X).sep ((Z.sep Y).sep (X'.sep Y')))).at_ w W :=
    sep_mono id (fun h => sep_mono id (fun h => sep_mono id sep_swap (sep_turn h)) (sep_turn (sep_mono id (fun h => sep_mono id sep_swap (sep_turn h)) h))) h1
  exact sep_mono id (fun h => sep_mono id (fun h => sep_assoc (sep_swap h)) (sep_turn h)) (sep_turn h2)
theorem Held.add {w0 w w' : World} {T R B : Thing} (h : Held w0 w (T.sep R)) (hB : ∃ W, B.at_ w' W ∧ Still w w' ∧ ∀ k, W k → w.heap.size ≤ k) : Held w0 w' (T.sep (B.sep R)) := Held.turn (h.new hB)
theorem Held.setT {w0 w : World} {R : Thing} {t : Nat} {xs : List Value} {e : TypeId} (h : Held w0 w ((blkT t xs e).sep R)) (o : Nat) (v : Value) : Held w0 (w.setCell ⟨t, o, none⟩ v) ((blkT t (xs.set o v) e).sep R) := by
  obtain ⟨Q, h1, h2⟩ := h.fst
  exact h2 _ _ (blkT_set h1 o v)

theorem sep_none {A : Thing} {w : World} {W : Nat → Prop} (h : (A.sep Thing.none).at_ w W) : A.at_ w W := by
  obtain ⟨W1, W2, h1, h2, _, hW⟩ := h
  have e : W = W1 := funext fun k => propext ((hW k).trans ⟨fun h => h.elim id (fun h => absurd h (h2 k)), .inl⟩)
  rw [e]; exact h1

abbrev ptr (b : Nat) : Value := .pointer (some ⟨b, 0, none⟩)

/-- The struct, while it is filled. -/
def MadeAt (PT : Nat → PM → Thing) (XT : Nat → Nat → RM → Thing) (w wr : World) (t q zq n r : Nat) (ov : Bool) (k : Nat) : Prop :=
  (k = 0 ∧ Held w wr ((blkT t [ptr q, ptr zq, .pointer none, .pointer none, .pointer none, .pointer none, .slice none 0 0, .bool false] 34).sep ((PT q (PM.new n 8)).sep (zT zq (PM.new n 8))))) ∨
  (k = 1 ∧ ∃ x y s, Held w wr ((blkT t [ptr q, ptr zq, ptr x, .pointer none, ptr y, .pointer none, .slice none 0 0, .bool false] 34).sep ((zxT y zq s (RM.new r ov)).sep ((XT x q (RM.new r ov)).sep ((PT q (PM.new n 8)).sep (zT zq (PM.new n 8))))))) ∨
  (k = 2 ∧ ∃ x y s x' y' s', Held w wr ((blkT t [ptr q, ptr zq, ptr x, ptr x', ptr y, ptr y', .slice none 0 0, .bool false] 34).sep ((zxT y' zq s' (RM.new r true)).sep ((XT x' q (RM.new r true)).sep ((zxT y zq s (RM.new r ov)).sep ((XT x q (RM.new r ov)).sep ((PT q (PM.new n 8)).sep (zT zq (PM.new n 8)))))))))

theorem made_end {PT : Nat → PM → Thing} {XT : Nat → Nat → RM → Thing} {w wr : World} {t q zq x y s x' y' s' n r : Nat} {ov : Bool} (h1 : 1 ≤ n) (h2 : n ≤ 128) (h3 : 1 ≤ r) (h4 : r ≤ 64)
    (h : Held w wr ((blkT t [ptr q, ptr zq, ptr x, ptr x', ptr y, ptr y', .slice none 0 0, .bool false] 34).sep ((zxT y' zq s' (RM.new r true)).sep ((XT x' q (RM.new r true)).sep ((zxT y zq s (RM.new r ov)).sep ((XT x q (RM.new r ov)).sep ((PT q (PM.new n 8)).sep (zT zq (PM.new n 8))))))))) :
    Two PT XT w (wr.setCell ⟨t, 7, none⟩ (.bool true)) t q zq 0 x x' y y' s s' (PM.new n 8) (RM.new r ov) (RM.new r true) [] none 0 0 0 0 := by
  have h5 := (h.setT 7 (.bool true)).imp sys_of
  refine ⟨h5.sysNew (B := ownT 3 1 none 0 0 (ints [])) ⟨fun _ => False, ⟨⟨rfl, .inl ⟨rfl, rfl⟩⟩, fun k => ⟨fun h => h.elim, fun h => by simp [Value.ownBlock] at h⟩⟩, Turned.refl _ _, fun k hk => hk.elim⟩, rfl, PtInv.new n 8, PM.new_ok h1 h2 (by omega) (by omega), RM.new_ok h3 h4, RM.new_ok h3 h4⟩

set_option maxHeartbeats 4000000 in
theorem ptmade_any {PT : Nat → PM → Thing} {XT : Nat → Nat → RM → Thing} (A : PartApi PT XT) (B : PoolApi12 PT) (w W : World) (hW : Still w W) (n r : Nat) (ov : Bool) (h1 : 1 ≤ n) (h2 : n ≤ 128) (h3 : 1 ≤ r) (h4 : r ≤ 64) :
    Calls Tryz.prog 6 #[.int .i64 n, .int .i64 r, .int .i64 (polB ov)] W fun e w' => ∃ t q zq x y s x' y' s', e = .returned (.pointer (some ⟨t, 0, none⟩)) ∧ Two PT XT w w' t q zq 0 x x' y y' s s' (PM.new n 8) (RM.new r ov) (RM.new r true) [] none 0 0 0 0 := by
  have C0 := Lib.hid (fun V => show Calls Tryz.prog 21 #[.int .i64 n, .int .i64 8] V (PNew PT V n 8) from B.make_ok n 8 V h1 h2 (by omega) (by omega))
  have C1 := Lib.hid (fun V => show Calls Tryz.prog 22 #[.int .i64 n, .int .i64 8] V (PNew zT V n 8) from zmake_ok n 8 V h1 h2 (by omega) (by omega))
  have HO := Lib.hid (PM.new_ok (n := n) (size := 8) h1 h2 (by omega) (by omega))
  have HEnd := Lib.hid (fun wr t q zq x y s x' y' s' h => made_end (PT := PT) (XT := XT) (w := w) (wr := wr) (t := t) (q := q) (zq := zq) (x := x) (y := y) (s := s) (x' := x') (y' := y') (s' := s') (ov := ov) h1 h2 h3 h4 h)
  have CX := Lib.hid (fun V q (b : Bool) (R : Thing) (h : Held w V ((PT q (PM.new n 8)).sep R)) => show Calls Tryz.prog 10 #[.pointer (some ⟨q, 0, none⟩), .int .i64 r, .int .i64 (polB b)] V (XNew XT V q r b) from by
    obtain ⟨_, hp, _⟩ := h.fst
    exact A.make_ok hp HO.out (by omega) r b h3 h4)
  have CY := Lib.hid (fun V zq (b : Bool) => zxmake_ok zq r b V h3 h4)
  have CX1 := Lib.hid (fun V q (R : Thing) (h : Held w V ((PT q (PM.new n 8)).sep R)) => show Calls Tryz.prog 10 #[.pointer (some ⟨q, 0, none⟩), .int .i64 r, .int .i64 1] V (XNew XT V q r true) from CX.out V q true R h)
  have CY1 := Lib.hid (fun V zq => show Calls Tryz.prog 23 #[.pointer (some ⟨zq, 0, none⟩), .int .i64 r, .int .i64 1] V _ from CY.out V zq true)
  have HT0 := Lib.hid (show Held w (W.alloc (.cells #[.pointer none, .pointer none, .pointer none, .pointer none, .pointer none, .pointer none, .slice none 0 0, .bool false] 34)) ((blkT W.heap.size [.pointer none, .pointer none, .pointer none, .pointer none, .pointer none, .pointer none, .slice none 0 0, .bool false] 34).sep Thing.none) from
    (Held.swap (Held.box (Held.start hW) [.pointer none, .pointer none, .pointer none, .pointer none, .pointer none, .pointer none, .slice none 0 0, .bool false] 34)))
  go_enter Tryz.func6, Tryz.ntmps6
  go_upto_region 2 with fail
  obtain ⟨t, ht⟩ : ∃ t, t = W.heap.size := ⟨_, rfl⟩
  obtain ⟨V0, hV0⟩ : ∃ V, V = W.alloc (.cells #[.pointer none, .pointer none, .pointer none, .pointer none, .pointer none, .pointer none, .slice none 0 0, .bool false] 34) := ⟨_, rfl⟩
  rw [← hV0, ← ht] at HT0
  rw [← hV0, ← ht]
  clear hV0 ht
  go_wp2_with (first
    | (go_at_call 21; ((with_reducible refine (C0.out _).mono ?_)); rintro e w2 ⟨q, rfl, hq⟩; have h2 := HT0.out.add hq; have b2 := h2.drop.blk; have c20 := b2.cell (o := 0) rfl; have f20 := b2.free 0; have H2 := Lib.hid (h2.setT 0 (ptr q)); clear hq h2 b2)
    | (go_at_call 22; ((with_reducible refine (C1.out _).mono ?_)); rintro e w3 ⟨zq, rfl, hq⟩; have h3 := H2.out.add hq; have b3 := h3.drop.blk; have c31 := b3.cell (o := 1) rfl; have f31 := b3.free 1; have H3 := Lib.hid (h3.setT 1 (ptr zq)); have b4 := H3.out.drop.blk; have d0 := b4.cell (o := 0) (v := ptr q) rfl; have d1 := b4.cell (o := 1) (v := ptr zq) rfl; clear hq h3 b3 b4))
  go_loopw [8] (fun i wr => ∃ k : Nat, i = .int .i64 k ∧ MadeAt PT XT w wr t q zq n r ov k) (fun i _ => 2 - (intOf i).toNat)
  case atStart => exact ⟨0, rfl, .inl ⟨rfl, H3.out.imp (sep_mono id (fun h => sep_mono id sep_none (sep_turn h)))⟩⟩
  case round =>
    clear c20 f20 c31 f31 d0 d1 H2 H3 HT0 C0 C1
    obtain ⟨k, rfl, hk⟩ := hrel
    rcases hk with ⟨rfl, hh⟩ | ⟨rfl, x0, y0, s0, hh⟩ | ⟨rfl, x0, y0, s0, x1, y1, s1, hh⟩
    · have b := hh.drop.blk
      have d0 := b.cell (o := 0) rfl
      have d1 := b.cell (o := 1) rfl
      have HH := Lib.hid hh
      clear hh b
      go_wp2_with (first
        | (go_at_call 10; ((with_reducible refine (CX.out _ q ov _ HH.out.snd).mono ?_)); rintro e w5 ⟨x, rfl, hx⟩; have h5 := HH.out.add hx; have H5 := Lib.hid h5; have b5 := h5.drop.blk; have g0 := b5.cell (o := 0) rfl; have g1 := b5.cell (o := 1) rfl; clear hx h5 b5)
        | (go_at_call 23; ((with_reducible refine (CY.out _ zq ov).mono ?_)); rintro e w6 ⟨y, s, rfl, hy⟩; have h6 := (H5.out.add hy).still (Turned.refl _ w6).drew; have H6 := Lib.hid h6; have b6 := h6.drop.blk; have i2 := b6.cell (o := 2) rfl; have i4 := b6.cell (o := 4) rfl; have j2 := b6.free 2; have j4 := b6.free 4; have i4' := (b6.set 2 (ptr x)).cell (o := 4) (v := .pointer none) rfl; have j4' := (b6.set 2 (ptr x)).free 4; have i2' := (b6.set 4 (ptr y)).cell (o := 2) (v := .pointer none) rfl; have j2' := (b6.set 4 (ptr y)).free 2; have h7 := H5.out.add hy; have H7 := Lib.hid h7; have b7 := h7.drop.blk; have p4' := (b7.set 2 (ptr x)).cell (o := 4) (v := .pointer none) rfl; have q4' := (b7.set 2 (ptr x)).free 4; have p2' := (b7.set 4 (ptr y)).cell (o := 2) (v := .pointer none) rfl; have q2' := (b7.set 4 (ptr y)).free 2; clear hy h6 b6 h7 b7))
      go_region_held3 (fun _ => True) (exact trivial) (fail)
      all_goals (
        go_wp2_with fail
        go_roundw
        case rel => exact ⟨1, by go_num, .inr (.inl ⟨rfl, x, y, s, by first | exact (H6.out.setT 2 (ptr x)).setT 4 (ptr y) | exact (H6.out.setT 4 (ptr y)).setT 2 (ptr x) | exact ((H7.out.setT 2 (ptr x)).setT 4 (ptr y)).still (Turned.refl _ _).drew | exact ((H7.out.setT 4 (ptr y)).setT 2 (ptr x)).still (Turned.refl _ _).drew⟩)⟩
        case measure => simp [intOf])
    · have b := hh.drop.blk
      have d0 := b.cell (o := 0) rfl
      have d1 := b.cell (o := 1) rfl
      have HH := Lib.hid hh
      clear hh b
      go_wp2_with (first
        | (go_at_call 10; ((with_reducible refine (CX1.out _ q _ HH.out.snd.snd.snd).mono ?_)); rintro e w5 ⟨x, rfl, hx⟩; have h5 := HH.out.add hx; have H5 := Lib.hid h5; have b5 := h5.drop.blk; have g0 := b5.cell (o := 0) rfl; have g1 := b5.cell (o := 1) rfl; clear hx h5 b5)
        | (go_at_call 23; ((with_reducible refine (CY1.out _ zq).mono ?_)); rintro e w6 ⟨y, s, rfl, hy⟩; have h6 := (H5.out.add hy).still (Turned.refl _ w6).drew; have H6 := Lib.hid h6; have b6 := h6.drop.blk; have i2 := b6.cell (o := 3) rfl; have i4 := b6.cell (o := 5) rfl; have j2 := b6.free 3; have j4 := b6.free 5; have i4' := (b6.set 3 (ptr x)).cell (o := 5) (v := .pointer none) rfl; have j4' := (b6.set 3 (ptr x)).free 5; have i2' := (b6.set 5 (ptr y)).cell (o := 3) (v := .pointer none) rfl; have j2' := (b6.set 5 (ptr y)).free 3; have h7 := H5.out.add hy; have H7 := Lib.hid h7; have b7 := h7.drop.blk; have p4' := (b7.set 3 (ptr x)).cell (o := 5) (v := .pointer none) rfl; have q4' := (b7.set 3 (ptr x)).free 5; have p2' := (b7.set 5 (ptr y)).cell (o := 3) (v := .pointer none) rfl; have q2' := (b7.set 5 (ptr y)).free 3; clear hy h6 b6 h7 b7))
      go_region_held3 (fun _ => True) (exact trivial) (fail)
      all_goals (
        go_wp2_with fail
        go_roundw
        case rel => exact ⟨2, by go_num, .inr (.inr ⟨rfl, x0, y0, s0, x, y, s, by first | exact (H6.out.setT 3 (ptr x)).setT 5 (ptr y) | exact (H6.out.setT 5 (ptr y)).setT 3 (ptr x) | exact ((H7.out.setT 3 (ptr x)).setT 5 (ptr y)).still (Turned.refl _ _).drew | exact ((H7.out.setT 5 (ptr y)).setT 3 (ptr x)).still (Turned.refl _ _).drew⟩)⟩
        case measure => simp [intOf])
    · have b := hh.drop.blk
      have d7 := b.cell (o := 7) rfl
      have f7 := b.free 7
      have HE := Lib.hid (HEnd.out _ _ _ _ _ _ _ _ _ _ hh)
      clear hh b
      go_wp2_with fail
      go_ret
      exact ⟨t, q, zq, x0, y0, s0, x1, y1, s1, rfl, HE.out⟩
end Go.Proofs.YtbljjmehjkmjaaaGreat

/- What the statements' own 'same' answers. No condition but that the program's partitions and pool keep their words. -/
namespace Go.Proofs.YtbljjmehjkmjaaaGreat
open Go.RowKit
set_option linter.unusedVariables false
set_option linter.unusedSimpArgs false
set_option maxRecDepth 100000

theorem sameI_yes (w : World) (ao bo : Option Addr) (l : List Int) (n m ca cb : Nat) (hn : n = l.length) (hm : m = l.length) (hl : l.length ≤ 1000000) (hA : NumsAt w ao l) (hB : NumsAt w bo l) :
    Calls Tryz.prog 20 #[.slice ao n ca, .slice bo m cb] w fun e w' => e = .returned (.bool true) ∧ Still w w' := by
  subst hn; subst hm
  refine (sameInts_any w ao bo l l ca cb rfl (by omega) hA hB).mono fun e w' ⟨h1, k, h2⟩ => ⟨by rw [h1, decide_eq_true rfl], by rw [h2]; exact (Turned.refl _ _).drewN k⟩

/-- What one of the two answers, and the document's. -/
structure SameI (w : World) (t i xi yi ri : Nat) (M : RM) (n : Nat) : Prop where
  cells : ∀ V, Still w V → V.cell? ⟨t, 2 + i, none⟩ = some (.pointer (some ⟨xi, 0, none⟩)) ∧ V.cell? ⟨t, 4 + i, none⟩ = some (.pointer (some ⟨yi, 0, none⟩)) ∧ V.cell? ⟨yi, 1, none⟩ = some (.pointer (some ⟨ri, 0, none⟩)) ∧ V.cell? ⟨ri, 2, none⟩ = some (.int .i64 M.h)
  head : ∀ V, Still w V → Calls Tryz.prog 17 #[.pointer (some ⟨xi, 0, none⟩)] V fun e w' => e = .returned (.int .i64 M.h) ∧ Still V w'
  tail : ∀ V, Still w V → Calls Tryz.prog 18 #[.pointer (some ⟨xi, 0, none⟩)] V fun e w' => e = .returned (.int .i64 M.tail) ∧ Still V w'
  ztail : ∀ V, Still w V → Calls Tryz.prog 40 #[.pointer (some ⟨ri, 0, none⟩)] V fun e w' => e = .returned (.int .i64 M.tail) ∧ Still V w'
  ready : ∀ V, Still w V → Calls Tryz.prog 19 #[.pointer (some ⟨xi, 0, none⟩), .int .i64 0] V fun e w' => e = .returned (.int .i64 (M.ready 0)) ∧ Still V w'
  zready : ∀ V, Still w V → Calls Tryz.prog 41 #[.pointer (some ⟨ri, 0, none⟩), .int .i64 0] V fun e w' => e = .returned (.int .i64 (M.ready 0)) ∧ Still V w'
  refs : ∀ V, Still w V → Calls Tryz.prog 13 #[.pointer (some ⟨xi, 0, none⟩)] V fun e w' => ∃ a c, e = .returned (.slice a n c) ∧ (∀ V', Still w' V' → NumsAt V' a M.refs) ∧ Still V w'
  zrefs : ∀ V, Still w V → Calls Tryz.prog 42 #[.pointer (some ⟨ri, 0, none⟩)] V fun e w' => ∃ a c, e = .returned (.slice a n c) ∧ (∀ V', Still w' V' → NumsAt V' a M.refs) ∧ Still V w'
  len : M.refs.length = n
  small : n ≤ 64

theorem Two.same {PT : Nat → PM → Thing} {XT : Nat → Nat → RM → Thing} (A : PartActs PT XT) {w wr : World} {t q zq i xi xj yi yj ri rj : Nat} {P : PM} {Mi Mj : RM} {had : List Int} {ao : Option Addr} {n cc N K : Nat} (H : Two PT XT w wr t q zq i xi xj yi yj ri rj P Mi Mj had ao n cc N K) (hN : N < 800000) (hK : K < 800000) (hi : i < 2) :
    SameI wr t i xi yi ri Mi Mi.l.length := by
  have hz : ∀ V, Still wr V → ∃ W, (zrT ri Mi).at_ V W := fun V h => by
    obtain ⟨_, _, _, _, ⟨_, W3, _, h3, _⟩, _⟩ := (H.still h).held.docu
    exact ⟨W3, h3⟩
  refine ⟨fun V h => ?_, fun V h => ?_, fun V h => ?_, fun V h => ?_, fun V h => ?_, fun V h => ?_, fun V h => ?_, fun V h => ?_, by simp [RM.refs], by have := H.mi.len; have := H.mi.max; omega⟩
  · have hh := (H.still h).held
    have h1 := hh.rest.drop.blk
    obtain ⟨e1, e2⟩ := twoV_x (q := q) (zq := zq) (xi := xi) (xj := xj) (yi := yi) (yj := yj) (ao := ao) (n := n) (cc := cc) hi
    obtain ⟨W3, la, lc, h3⟩ := hz V h
    exact ⟨h1.cell e1, h1.cell e2, (two_y hh).2, h3.cells.2.2.1⟩
  · obtain ⟨_, hp⟩ := (H.still h).held.prog
    exact (A.head hp H.ok H.mi (by omega) (by omega))
  · obtain ⟨_, hp⟩ := (H.still h).held.prog
    exact (A.tail hp H.ok H.mi (by omega) (by omega))
  · obtain ⟨W3, la, lc, h3⟩ := hz V h
    exact (zrtail_any h3 H.mi (by omega))
  · obtain ⟨_, hp⟩ := (H.still h).held.prog
    exact (A.ready hp H.ok H.mi (by omega) (by omega) 0 ⟨by omega, by omega⟩)
  · obtain ⟨W3, h3⟩ := hz V h
    exact (zrready_any h3 H.mi (by omega) 0)
  · obtain ⟨_, hp⟩ := (H.still h).held.prog
    refine (A.handles hp H.ok H.mi (by omega) (by omega) _ rfl).mono ?_
    rintro e w' ⟨a, c, h1, h2, h3⟩
    exact ⟨a, c, h1, fun V' h' => (NumsAt.of_own h2 (by simp [RM.refs])).turned h' (fun _ _ hs => hs), h3⟩
  · obtain ⟨W3, h3⟩ := hz V h
    refine (zrrefs_any h3 H.mi _ rfl).mono ?_
    rintro e w' ⟨a, c, h1, h2, h3⟩
    exact ⟨a, c, h1, fun V' h' => (NumsAt.of_own h2 (by simp [RM.refs])).turned h' (fun _ _ hs => hs), h3⟩

set_option maxHeartbeats 8000000 in
theorem same_two {PT : Nat → PM → Thing} {XT : Nat → Nat → RM → Thing} (A : PartApi PT XT) (B : PoolApi12 PT) {w ws : World} {t q zq x0 x1 y0 y1 r0 r1 : Nat} {P : PM} {M0 M1 : RM} {had : List Int} {ao : Option Addr} {n cc N K : Nat} (H : Two PT XT w ws t q zq 0 x0 x1 y0 y1 r0 r1 P M0 M1 had ao n cc N K) (hN : N < 800000) (hK : K < 800000) :
    Calls Tryz.prog 9 #[.pointer (some ⟨t, 0, none⟩)] ws fun e w' => e = .returned (.bool true) ∧ Still ws w' := by
  have HSm := Lib.hid (fun (k : Nat) (hk : k < 2) => show ∃ xi yi ri M n, SameI ws t k xi yi ri M n from by
    rcases (show k = 0 ∨ k = 1 by omega) with rfl | rfl
    · exact ⟨_, _, _, _, _, H.same A.toPartActs hN hK (by omega)⟩
    · exact ⟨_, _, _, _, _, (H.swap (by omega)).same A.toPartActs hN hK (by omega)⟩)
  have HFr := Lib.hid (fun V (h : Still ws V) => show Calls Tryz.prog 14 #[.pointer (some ⟨q, 0, none⟩)] V fun e w' => ∃ a c, e = .returned (.slice a P.fr.length c) ∧ (∀ V', Still w' V' → NumsAt V' a (nums P.fr)) ∧ Still V w' from by
    obtain ⟨_, _, _, hp, _⟩ := (H.still h).held.prog
    refine (B.free hp H.ok (by omega) _ rfl).mono ?_
    rintro e w' ⟨a, c, h1, h2, h3⟩
    exact ⟨a, c, h1, fun V' h' => (NumsAt.of_own h2 (nums_length _).symm).turned h' (fun _ _ hs => hs), h3⟩)
  have HTc := Lib.hid (fun V (h : Still ws V) => show ∃ fa fc, V.cell? ⟨t, 0, none⟩ = some (.pointer (some ⟨q, 0, none⟩)) ∧ V.cell? ⟨t, 1, none⟩ = some (.pointer (some ⟨zq, 0, none⟩)) ∧ V.cell? ⟨zq, 3, none⟩ = some (.slice (some fa) P.fr.length fc) ∧ NumsAt V (some fa) (nums P.fr) from by
    have hh := (H.still h).held
    have h1 := hh.rest.drop.blk
    obtain ⟨_, _, _, ⟨L, hz⟩, _⟩ := hh.docu
    exact ⟨L.fa, L.fc, h1.cell rfl, h1.cell rfl, hz.hd.cell rfl, hz.ff⟩)
  have hfrl := H.ok.frlen
  obtain ⟨fl, hfl⟩ : ∃ fl, fl = P.fr.length := ⟨_, rfl⟩
  rw [← hfl] at HFr HTc
  have HSI := Lib.hid (fun V ao bo l n m ca cb hn hm hl hA hB => sameI_yes V ao bo l n m ca cb hn hm hl hA hB)
  have HFl := Lib.hid hfl
  clear H hfl
  go_enter Tryz.func9, Tryz.ntmps9
  go_wp2_with fail
  go_loopw [3] (fun i wx => ∃ k : Nat, k ≤ 2 ∧ i = .int .i64 k ∧ Still ws wx) (fun i _ => 2 - (intOf i).toNat)
  case atStart => exact ⟨0, by omega, rfl, Turned.refl _ _⟩
  case round =>
    obtain ⟨k, hk, rfl, hst⟩ := hrel
    by_cases hlt : k < 2
    · obtain ⟨xi, yi, ri, M, m, hS⟩ := HSm.out k hlt
      have HS := Lib.hid hS
      obtain ⟨tx, ty, _, _⟩ := hS.cells _ hst
      have hm := hS.small
      have HLm := Lib.hid hS.len
      have hki : (k : Int) < 2 := by omega
      have HSt := Lib.hid hst
      clear hS hst
      go_wp2_with fail
      go_quiet (fail)
      obtain ⟨V, hV⟩ : ∃ V, V = wr.drewN nq := ⟨_, rfl⟩
      rw [← hV]
      have hUd : Still ws V.drew := HSt.out.trans (by rw [hV]; exact ((Turned.refl _ _).drewN _).drew)
      obtain ⟨_, _, k1, k2⟩ := HS.out.cells _ hUd
      clear hV tx ty
      go_wp2_with fail
      go_region_held3 (fun Z => Z.cell? ⟨yi, 1, none⟩ = some (.pointer (some ⟨ri, 0, none⟩)) ∧ Z.cell? ⟨ri, 2, none⟩ = some (.int .i64 M.h)) (first | exact ⟨by assumption, by assumption⟩ | go_keep) (first
        | (go_at_call 17; ((with_reducible refine (HS.out.head _ (by assumption)).mono ?_)); rintro e w5 ⟨rfl, hT5⟩; have hU5 : Still ws w5 := Turned.trans (by assumption) hT5; obtain ⟨_, _, k51, k52⟩ := HS.out.cells _ hU5; clear hT5)
        | (go_at_call 18; ((with_reducible refine (HS.out.tail _ (by assumption)).mono ?_)); rintro e w6 ⟨rfl, hT6⟩; have hU6 : Still ws w6 := Turned.trans (by assumption) hT6; obtain ⟨_, _, k61, k62⟩ := HS.out.cells _ hU6; clear hT6)
        | (go_at_call 40; ((with_reducible refine (HS.out.ztail _ (by assumption)).mono ?_)); rintro e w7 ⟨rfl, hT7⟩; have hU7 : Still ws w7 := Turned.trans (by assumption) hT7; obtain ⟨_, _, k71, k72⟩ := HS.out.cells _ hU7; clear hT7)
        | (go_at_call 19; ((with_reducible refine (HS.out.ready _ (by assumption)).mono ?_)); rintro e w8 ⟨rfl, hT8⟩; have hU8 : Still ws w8 := Turned.trans (by assumption) hT8; obtain ⟨_, _, k81, k82⟩ := HS.out.cells _ hU8; clear hT8)
        | (go_at_call 41; ((with_reducible refine (HS.out.zready _ (by assumption)).mono ?_)); rintro e w9 ⟨rfl, hT9⟩; have hU9 : Still ws w9 := Turned.trans (by assumption) hT9; obtain ⟨_, _, k91, k92⟩ := HS.out.cells _ hU9; clear hT9)
        | (go_at_call 13; ((with_reducible refine (HS.out.refs _ (by assumption)).mono ?_)); rintro e w10 ⟨a10, c10, rfl, hN10, hT10⟩; have HN10 := Lib.hid hN10; have hU10 : Still ws w10 := Turned.trans (by assumption) hT10; obtain ⟨_, _, ka1, ka2⟩ := HS.out.cells _ hU10; clear hT10 hN10)
        | (go_at_call 42; ((with_reducible refine (HS.out.zrefs _ (by assumption)).mono ?_)); rintro e w11 ⟨a11, c11, rfl, hN11, hT11⟩; have HN11 := Lib.hid hN11; have HNa := Lib.hid (HN10.out _ hT11); have hU11 : Still ws w11 := Turned.trans (by assumption) hT11; obtain ⟨_, _, kb1, kb2⟩ := HS.out.cells _ hU11; clear hT11 hN11)
        | (go_at_call 20; ((with_reducible refine (HSI.out _ _ _ M.refs m m _ _ HLm.out.symm HLm.out.symm (by rw [HLm.out]; omega) HNa.out (HN11.out _ (Turned.refl _ _))).mono ?_)); rintro e w12 ⟨rfl, hT12⟩; have hU12 : Still ws w12 := Turned.trans (by assumption) hT12; obtain ⟨_, _, kc1, kc2⟩ := HS.out.cells _ hU12; clear hT12))
      all_goals (
        go_wp2_with fail
        go_roundw
        case rel => exact ⟨k + 1, by omega, by go_num, by assumption⟩
        case measure => simp [intOf]; omega)
    · obtain rfl : k = 2 := by omega
      have hUd : Still ws wr.drew := hst.trans (Turned.refl _ _).drew
      obtain ⟨fa, fc, k1, k2, k3, _⟩ := HTc.out _ hUd
      clear hst
      go_wp2_with fail
      go_region_held3 (fun Z => Z.cell? ⟨t, 0, none⟩ = some (.pointer (some ⟨q, 0, none⟩)) ∧ Z.cell? ⟨t, 1, none⟩ = some (.pointer (some ⟨zq, 0, none⟩)) ∧ Z.cell? ⟨zq, 3, none⟩ = some (.slice (some fa) fl fc)) (first | exact ⟨by assumption, by assumption, by assumption⟩ | go_keep) (first
        | (go_at_call 14; ((with_reducible refine (HFr.out _ (by assumption)).mono ?_)); rintro e w5 ⟨a5, c5, rfl, hN5, hT5⟩; have HN5 := Lib.hid hN5; have hU5 : Still ws w5 := Turned.trans (by assumption) hT5; have k51 := still_cell hT5 k1 rfl; have k52 := still_cell hT5 k2 rfl; have k53 := still_cell hT5 k3 rfl; obtain ⟨fb, fd, _, _, kk, hNF⟩ := HTc.out _ hU5; rw [k53] at kk; cases kk; have HNF := Lib.hid hNF; clear hT5 hN5 hNF)
        | (go_at_call 20; ((with_reducible refine (HSI.out _ _ _ (nums P.fr) fl fl _ _ (by rw [nums_length]; exact HFl.out) (by rw [nums_length]; exact HFl.out) (by rw [nums_length]; omega) (HN5.out _ (Turned.refl _ _)) HNF.out).mono ?_)); rintro e w6 ⟨rfl, hT6⟩; have hU6 : Still ws w6 := Turned.trans (by assumption) hT6; have k61 := still_cell hT6 k51 rfl; have k62 := still_cell hT6 k52 rfl; have k63 := still_cell hT6 k53 rfl; clear hT6))
      all_goals (
        go_wp2_with fail
        go_ret
        exact ⟨rfl, by assumption⟩)
end Go.Proofs.YtbljjmehjkmjaaaGreat
