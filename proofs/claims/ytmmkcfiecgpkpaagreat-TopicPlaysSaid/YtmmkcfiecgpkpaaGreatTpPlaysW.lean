/- TopicPlays: the walk. No condition but that the program's sets, partitions and pool keep their words. -/
import Derived.Test.YtmmkcfiecgpkpaaGreatBxTpTwo
import Derived.Test.YtmmkcfiecgpkpaaGreatBxTpSame
import Derived.Test.YtmmkcfiecgpkpaaGreatBdAct13
import Derived.Test.YtmmkcfiecgpkpaaGreatBdRead
import Derived.Test.YtmmkcfiecgpkpaaGreatBdPoolZ
namespace Go.Proofs.YtmmkcfiecgpkpaaGreat
open Go.RowKit
set_option linter.unusedVariables false
set_option linter.unusedSimpArgs false
set_option maxRecDepth 100000

theorem okB_stays13p : Stays okB := fun _ _ _ _ h => h
theorem okAct13_staysp : Stays okAct13 := fun w w' a ht h => ⟨h.1, h.2.1, SlOk.stays okB_stays13p w w' _ ht h.2.2.1, h.2.2.2⟩
theorem few13_lenp (xs : List Act13) : (few13 xs).length ≤ 80 := by unfold few13; rw [List.length_map, List.length_take]; omega

/-- What is known of an act. -/
theorem few13_act {w : World} {xs : List Act13} {a : A13} (hok : ∀ x ∈ xs, okAct13 w x) (h : a ∈ few13 xs) :
    a.2.1.length ≤ 100 ∧ a.2.2.1.len = a.2.2.1.xs.length ∧ a.2.2.1.len ≤ 65 ∧ BytesAt w a.2.2.1.a a.2.2.1.xs ∧ SlW a.2.2.1.a a.2.2.1.len a.2.2.1.cap ∧ w64 a.2.2.2.1 ∧ w64 a.2.2.2.2.1 ∧ w64 a.2.2.2.2.2 := by
  unfold few13 at h
  obtain ⟨b, hb, rfl⟩ := List.mem_map.1 h
  obtain ⟨h1, h2, h3, h4, h5, h6⟩ := hok b (List.mem_of_mem_take hb)
  have hl := h3.len
  have hle := h3.le
  have hx := BytesAt.of_row h3.row
  refine ⟨by show (List.take 100 _).length ≤ 100; rw [List.length_take]; omega, ?_, ?_, ?_, ⟨?_, h3.max, ?_⟩, i64w_of h4, i64w_of h5, i64w_of h6⟩
  · show min b.2.2.1.len 65 = (b.2.2.1.xs.take 65).length
    rw [List.length_take, hl]; omega
  · show min b.2.2.1.len 65 ≤ 65
    omega
  · intro i x hi
    have hi' : (b.2.2.1.xs.take 65)[i]? = some x := hi
    rw [List.getElem?_take] at hi'
    split at hi'
    · exact hx i x hi'
    · cases hi'
  · show min b.2.2.1.len 65 ≤ b.2.2.1.cap
    omega
  · intro e
    obtain ⟨e1, e2⟩ := h3.none e
    exact ⟨by show min b.2.2.1.len 65 = 0; omega, e2⟩

theorem pbox_new {w1 w2 : World} {f t : Int} (h : Still (w1.alloc (.cells #[.int .i64 f, .int .i64 t] 25)) w2) : Blk w2 w1.heap.size [.int .i64 f, .int .i64 t] 25 :=
  (Blk.new w1 [.int .i64 f, .int .i64 t] 25).turned h (fun h => h)
theorem pbox_pass {w1 w2 : World} {b : Nat} {f t : Int} (h : Still w1 w2) (hb : Blk w1 b [.int .i64 f, .int .i64 t] 25) : Blk w2 b [.int .i64 f, .int .i64 t] 25 := hb.turned h (fun h => h)
theorem pbox_cells {w : World} {b : Nat} {f t : Int} (hb : Blk w b [.int .i64 f, .int .i64 t] 25) :
    w.cell? ⟨b, 0, none⟩ = some (.int .i64 f) ∧ w.cell? ⟨b, 1, none⟩ = some (.int .i64 t) ∧ w.frozen? ⟨b, 0, none⟩ = false ∧ w.frozen? ⟨b, 1, none⟩ = false :=
  ⟨hb.cell rfl, hb.cell rfl, hb.free _, hb.free _⟩

theorem Held.setLast2 {w0 w : World} {A B : Thing} {b : Nat} {xs : List Value} {e : TypeId} (h : Held w0 w (A.sep (B.sep (blkT b xs e)))) (o : Nat) (v : Value) : Held w0 (w.setCell ⟨b, o, none⟩ v) (A.sep (B.sep (blkT b (xs.set o v) e))) := by
  obtain ⟨W, ⟨hb, hW⟩, hg⟩ := h.assoc'.swap.fst
  exact (hg (blkT b (xs.set o v) e) _ ⟨W, ⟨hb.set o v, hW⟩, (Turned.refl W w).setCell (p := ⟨b, o, none⟩) (.inl ((hW b).2 rfl)) _, fun _ h => .inl h⟩).swap.assoc

theorem Held.fst3 {w0 w : World} {A B : Thing} {b : Nat} {xs : List Value} {e : TypeId} (h : Held w0 w ((A.sep (blkT b xs e)).sep B)) : Blk w b xs e := h.drop.snd.blk
/-- Where a claim's place lies. -/
theorem claim_place {S : StM} {X : List Int} {N K : Nat} (h : S.Ok X N K) (hN : N < 800000) (hK : K < 800000) {l : Txt} {k : List UInt8} {n : Int} (he : tclE S l k n = 0) :
    ∃ (t p : Nat) (M : RM), tclT S l k n = (t : Int) ∧ tclP S l k n = (p : Int) ∧ prt (tclM S l k n).T t p = some M ∧ w64 (tclA S l k n) := by
  have hr : routE S.T l k = 0 := by
    unfold tclE at he
    split at he
    · exact he
    · rename_i h2; exact Decidable.of_not_not h2
  obtain ⟨t, p, e1, e2, hm, _⟩ := rout_ok h hr
  obtain ⟨hM, _⟩ := h.at hm
  refine ⟨t, p, ptClM S.P (rtM S.T l k) n, by unfold tclT; rw [if_neg (by simp [he]), e1], by unfold tclP; rw [if_neg (by simp [he]), e2], ?_, ?_⟩
  · unfold tclM
    rw [if_neg (by simp [he]), e1, e2, Int.toNat_natCast, Int.toNat_natCast]
    exact (put_prt hm).1
  · have hl := hM.low
    unfold tclA
    rw [if_neg (by simp [he])]
    unfold ptClA
    split
    · exact ⟨by omega, by omega⟩
    · exact ⟨by omega, by omega⟩

/-- What holds between two rounds. -/
def PlAt13 (HT : Nat → Nat → List Txt → List (List Nat) → Thing) (PT : Nat → PM → Thing) (XT : Nat → Nat → RM → Thing) (w0 wr : World) (x q z zq : Nat) (R : Thing) (N K : Nat) : Prop :=
  ∃ (L L2 : List (List Nat)) (S : StM), Fits L S.T ∧ Fits L2 S.T ∧ S.Ok [] N K ∧ Held w0 wr ((TwoS HT PT XT x q z zq L L2 S).sep R)

set_option maxHeartbeats 8000000 in
theorem tpplays_walk {HT : Nat → Nat → List Txt → List (List Nat) → Thing} {PT : Nat → PM → Thing} {XT : Nat → Nat → RM → Thing} (A : TopicApi HT PT XT) (B : PartActs PT XT) (C : PoolActs PT) (n0 s0 : Int) (s : Sl Act13) (l : Sl Int) (ot op : Int) (w : World) (hn0 : i64 n0) (hs0 : i64 s0) (hs : SlOk encAct13 okAct13 6 w s) (hl : SlOk encI (okI .i64) 1 w l) (hot : w64 ot) (hop : w64 op) :
    Calls Tryz.prog 3 #[.int .i64 n0, .int .i64 s0, .slice s.a s.len s.cap, .slice l.a l.len l.cap, .agg #[.int .i64 ot, .int .i64 op]] w fun e w' => e = .returned (.bool true) ∧ Still w w' := by
  have hw1 : Still w (w.alloc (.cells #[.int .i64 ot, .int .i64 op] 25)) := (Turned.refl _ _).alloc _
  have HWk := Lib.hid (fun V => works13 A V)
  by_cases hok : 1 ≤ n0 ∧ n0 ≤ 128 ∧ 1 ≤ s0 ∧ s0 ≤ 256
  · obtain ⟨n, rfl⟩ : ∃ n : Nat, n0 = (n : Int) := ⟨n0.toNat, by omega⟩
    obtain ⟨m, rfl⟩ : ∃ m : Nat, s0 = (m : Int) := ⟨s0.toNat, by omega⟩
    obtain ⟨w1, hw1e⟩ : ∃ w1, w1 = w.alloc (.cells #[.int .i64 ot, .int .i64 op] 25) := ⟨_, rfl⟩
    rw [← hw1e] at hw1
    have HOdd := Lib.hid (show w1.cell? ⟨w.heap.size, 0, none⟩ = some (.int .i64 ot) ∧ w1.cell? ⟨w.heap.size, 1, none⟩ = some (.int .i64 op) from by rw [hw1e]; exact ⟨(Blk.new w [.int .i64 ot, .int .i64 op] 25).cell rfl, (Blk.new w [.int .i64 ot, .int .i64 op] 25).cell rfl⟩)
    have HW1 := Lib.hid hw1
    obtain ⟨l13, hl13⟩ : ∃ l, l = few13 s.xs := ⟨_, rfl⟩
    have HF := Lib.hid (fun V (h : Still w V) => few13_any s V (SlOk.stays okAct13_staysp w V s h hs))
    unfold Few13Post at HF
    rw [← hl13] at HF
    have hln : l13.length ≤ 80 := by rw [hl13]; exact few13_lenp _
    have HAc := Lib.hid (fun a (ha : a ∈ l13) => few13_act hs.each (by rw [← hl13]; exact ha))
    obtain ⟨nl, hnl⟩ : ∃ nl, nl = l13.length := ⟨_, rfl⟩
    rw [← hnl] at HF hln
    have HN := Lib.hid hnl
    have C0 := Lib.hid (fun W => show Calls Tryz.prog 8 #[.int .i64 n, .int .i64 m] W fun e w' => ∃ x q, e = .returned (.tuple #[.pointer (some ⟨x, 0, none⟩), .int .i64 0]) ∧ ∃ U, (setT HT PT XT x q [] ⟨PM.new n m, []⟩).at_ w' U ∧ Still W w' ∧ ∀ k, U k → W.heap.size ≤ k from A.make_ok n m W (by omega) (by omega) (by omega) (by omega))
    have C1 := Lib.hid (fun W => zztmake_ok n m W (by omega) (by omega) (by omega) (by omega))
    have HO0 := Lib.hid (show (StM.mk (PM.new n m) []).Ok [] 0 0 from StM.new_ok (by omega) (by omega) (by omega) (by omega))
    obtain ⟨sa, sl, sc, sx⟩ := s
    have hlo := hl
    have HL := Lib.hid hl
    obtain ⟨la, ll, lc, lx⟩ := l
    dsimp only at HF ⊢
    clear hs hl13 hnl hl hok hn0 hs0 hlo
    go_enter Tryz.func3, Tryz.ntmps3
    go_wp2_with (first
      | (go_at_call 8; rw [← hw1e]; ((with_reducible refine (C0.out _).mono ?_)); intro e w2 hN; obtain ⟨x, q, rfl, H⟩ := Held.madeS A (Turned.refl _ w1) hN; have H2 := Lib.hid H; clear H hN)
      | (go_at_call 9; ((with_reducible refine (C1.out _).mono ?_)); rintro e w3 ⟨z, zq, rfl, hN⟩; have H3 := Lib.hid (H2.out.new hN).zoutof; clear hN)
      | (go_at_call 11; ((with_reducible refine (HF.out _ (HW1.out.trans H3.out.ground)).mono ?_)); rintro e w4 ⟨g, n2, c, rfl, hn2, ho2, hs2⟩; subst n2; have H4 := Lib.hid (H3.out.got ho2 hs2).assoc; clear ho2 hs2))
    clear HF C0 C1 H2 H3 hw1
    obtain ⟨R, hR⟩ : ∃ R, R = Thing.none.sep (ownT 37 6 (some ⟨g, 0, none⟩) nl c (rowOf encA13 l13)) := ⟨_, rfl⟩
    rw [← hR] at H4
    have HRow := Lib.hid (fun (V : World) (Q : Thing) (h : Held w1 V (Q.sep R)) => show V.ownsRow 0 37 6 (.slice (some ⟨g, 0, none⟩) nl c) nl (rowOf encA13 l13) from by
      rw [hR] at h
      exact h.snd.own)
    clear hR hw1e
    go_loopw [15] (fun i wr => ∃ k : Nat, k ≤ nl ∧ i = .int .i64 k ∧ PlAt13 HT PT XT w1 wr x q z zq R (2 * k) k) (fun i _ => nl - (intOf i).toNat)
    case atStart => exact ⟨0, Nat.zero_le _, rfl, [], [], ⟨PM.new n m, []⟩, rfl, rfl, HO0.out, H4.out⟩
    case round =>
      clear H4 HO0
      obtain ⟨k, hk, rfl, L, L2, S, hf, hf2, hO, hh⟩ := hrel
      have HFt := Lib.hid hf
      have HFt2 := Lib.hid hf2
      have HO := Lib.hid hO
      have HH := Lib.hid hh
      clear hf hf2 hO hh
      by_cases hlt : k < nl
      · have hki : (k : Int) < (nl : Int) := by omega
        obtain ⟨a, ha⟩ := get_some (l := l13) (i := k) (by rw [← HN.out]; exact hlt)
        obtain ⟨a0, u, ky, aA, aB, aC⟩ := a
        obtain ⟨y0, y1, y2, y3, y4, y5⟩ := act_cells13 (HRow.out wr _ HH.out) ha
        obtain ⟨hul, hkl, hk65, hkA, hkW, hA64, hB64, hC64⟩ := HAc.out _ (List.mem_of_getElem? ha)
        obtain ⟨d0, hd0⟩ : ∃ p, p = am a0 8 := ⟨_, rfl⟩
        have hd8 : d0 < 8 := by rw [hd0]; exact am_lt _ (by omega)
        have BA := Lib.hid (fun W => among_lit a0 8 8 d0 rfl hd0 (by omega) (by omega) W)
        dsimp only at y0 y1 y2 y3 y4 y5 hul hkl hk65 hkA hkW hA64 hB64 hC64
        obtain ⟨ka, kl, kc, kx⟩ := ky
        dsimp only at y2 hkl hk65 hkA hkW
        have HKA := Lib.hid hkA
        have HKW := Lib.hid hkW
        have HKL := Lib.hid hkl
        have HA64 := Lib.hid hA64
        have HB64 := Lib.hid hB64
        have HC64 := Lib.hid hC64
        have HG := Lib.hid (fun (V : World) (Q : Thing) (h : Held w1 V Q) => show Still w V from HW1.out.trans h.ground)
        have HSame := Lib.hid (fun (V : World) (L' L2' : List (List Nat)) (S' : StM) (R' : Thing) (N' K' : Nat) (h1 : Fits L' S'.T) (h2 : Fits L2' S'.T) (h3 : S'.Ok [] N' K') (hN : N' < 800000) (hK : K' < 800000) (h : Held w1 V ((TwoS HT PT XT x q z zq L' L2' S').sep R')) => by
          obtain ⟨za, zc, hs⟩ := two_same13 A B C h h1 h2 h3 hN hK
          exact same13_any hs)
        unfold tx at y1
        have hkle : kl ≤ kc := hkW.le
        have HBx := Lib.hid (HH.out.box [.int .i64 a0, .string ⟨u.toArray⟩, .slice ka kl kc, .int .i64 aA, .int .i64 aB, .int .i64 aC] 37).assoc
        obtain ⟨W5, hW5⟩ : ∃ W5, W5 = wr.alloc (.cells #[.int .i64 a0, .string ⟨u.toArray⟩, .slice ka kl kc, .int .i64 aA, .int .i64 aB, .int .i64 aC] 37) := ⟨_, rfl⟩
        obtain ⟨bx, hbx⟩ : ∃ bx, bx = wr.heap.size := ⟨_, rfl⟩
        obtain ⟨RB, hRB⟩ : ∃ RB, RB = R.sep (blkT bx [.int .i64 a0, .string ⟨u.toArray⟩, .slice ka kl kc, .int .i64 aA, .int .i64 aB, .int .i64 aC] 37) := ⟨_, rfl⟩
        have H5 := Lib.hid (show Held w1 W5 ((TwoS HT PT XT x q z zq L L2 S).sep RB) from by rw [hW5, hRB, hbx]; exact HBx.out)
        have HC := Lib.hid (fun (V : World) (Q : Thing) (h : Held w1 V (Q.sep RB)) => show V.cell? ⟨bx, 0, none⟩ = some (.int .i64 a0) ∧ V.cell? ⟨bx, 1, none⟩ = some (.string ⟨u.toArray⟩) ∧ V.cell? ⟨bx, 2, none⟩ = some (.slice ka kl kc) ∧ V.cell? ⟨bx, 3, none⟩ = some (.int .i64 aA) ∧ V.cell? ⟨bx, 4, none⟩ = some (.int .i64 aB) ∧ V.cell? ⟨bx, 5, none⟩ = some (.int .i64 aC) from by
          rw [hRB] at h
          have hb := h.snd.snd.blk
          exact ⟨hb.cell rfl, hb.cell rfl, hb.cell rfl, hb.cell rfl, hb.cell rfl, hb.cell rfl⟩)
        have HPop := Lib.hid (fun (V : World) (Q : Thing) (h : Held w1 V (Q.sep RB)) => show Held w1 V (Q.sep R) from by
          rw [hRB] at h
          exact h.assoc'.drop)
        clear ha hkl hkA hkW hA64 hB64 hC64 hd0 HBx hRB
        go_upto_region 12 with fail
        rw [← hbx, ← hW5]
        clear hW5 hbx y0 y1 y2 y3 y4 y5
        obtain ⟨x0, x1, x2, x3, x4, x5⟩ := HC.out W5 _ H5.out
        have hd : (d0 = 0 ∨ d0 = 1) ∨ d0 = 2 ∨ d0 = 3 ∨ d0 = 7 ∨ (d0 = 4 ∨ d0 = 5 ∨ d0 = 6) := by omega
        rcases hd with hd | rfl | rfl | rfl | hd
        · as_aux_lemma =>
          have CO := Lib.hid (two_open A H5.out HFt.out HO.out (by omega) (by omega) u (by omega) aA aB aC HA64.out HB64.out HC64.out)
          have CZ := Lib.hid (fun (V : World) (P : Thing) (h : Held w1 V ((P.sep (setT zhT zT zXT z zq L2 S)).sep RB)) => two_zopen h HFt2.out HO.out u (by omega) aA aB aC)
          have HO1 := Lib.hid (HO.out.open u aA aB aC)
          unfold tx at CO CZ
          generalize openN S.T u aA aB aC = pn at *
          generalize openE S.T u aA aB aC = pe at *
          generalize openT S.T u aA aB aC = T1 at *
          rcases hd with rfl | rfl
          all_goals (
            go_wp2_with (first
              | (go_at_call 12; ((with_reducible refine (BA.out _).mono ?_)); rintro e w6 ⟨rfl, hw6⟩; subst hw6)
              | (go_at_call 13; ((with_reducible refine CO.out.mono ?_)); rintro e w7 ⟨rfl, L7, hf7, h7⟩; have H7 := Lib.hid h7; have F7 := Lib.hid hf7; obtain ⟨p0, p1, p2, p3, p4, p5⟩ := HC.out w7 _ h7; clear h7 hf7)
              | (go_at_call 14; ((with_reducible refine (CZ.out _ _ H7.out).mono ?_)); rintro e w8 ⟨rfl, L8, hf8, h8⟩; have H8 := Lib.hid h8; have F8 := Lib.hid hf8; clear h8 hf8)
              | (go_at_call 26; ((with_reducible refine (HSame.out _ _ _ _ _ _ _ F7.out F8.out HO1.out (by omega) (by omega) H8.out).mono ?_)); rintro e w9 ⟨rfl, h9⟩; have H9 := Lib.hid h9; clear h9))
            go_roundw
            case rel => exact ⟨k + 1, by omega, by go_num, L7, L8, ⟨S.P, T1⟩, F7.out, F8.out, HO1.out.mono (by omega) (by omega), HPop.out _ _ (H8.out.still H9.out)⟩
            case measure => simp [intOf]; omega)
        · as_aux_lemma =>
          have CF := Lib.hid (two_find A H5.out HFt.out HO.out u (by omega) (Turned.refl _ W5))
          have CZ := Lib.hid (fun V (h : Still W5 V) => two_zfind H5.out HO.out u (by omega) h)
          unfold tx at CF CZ
          generalize findN S.T u = pn at *
          generalize findE S.T u = pe at *
          go_wp2_with (first
            | (go_at_call 12; ((with_reducible refine (BA.out _).mono ?_)); rintro e w6 ⟨rfl, hw6⟩; subst hw6)
            | (go_at_call 15; ((with_reducible refine CF.out.mono ?_)); rintro e w7 ⟨rfl, h7⟩; have H7 := Lib.hid h7; obtain ⟨p0, p1, p2, p3, p4, p5⟩ := HC.out w7 _ (H5.out.still h7); clear h7)
            | (go_at_call 16; ((with_reducible refine (CZ.out _ H7.out).mono ?_)); rintro e w8 ⟨rfl, h8⟩; have H8 := Lib.hid (H7.out.trans h8); clear h8)
            | (go_at_call 26; ((with_reducible refine (HSame.out _ _ _ _ _ _ _ HFt.out HFt2.out HO.out (by omega) (by omega) (H5.out.still H8.out)).mono ?_)); rintro e w9 ⟨rfl, h9⟩; have H9 := Lib.hid (H8.out.trans h9); clear h9))
          go_roundw
          case rel => exact ⟨k + 1, by omega, by go_num, L, L2, S, HFt.out, HFt2.out, HO.out.mono (by omega) (by omega), HPop.out _ _ (H5.out.still H9.out)⟩
          case measure => simp [intOf]; omega
        · as_aux_lemma =>
          have CB := Lib.hid (fun V (h : Still W5 V) => show Calls Tryz.prog 18 #[.slice ka kl kc] V fun e w' => ∃ a' c', e = .returned (.slice a' kl c') ∧ BytesAt w' a' kx ∧ SlW a' kl c' ∧ Still W5 w' ∧ Still V w' from by
            have hA := HKA.out.still ((HG.out W5 _ H5.out).trans h)
            have := bytes_any V ka kx kc hA (by have := HKL.out; omega) (fun e => (HKW.out.none e).2)
            rw [← HKL.out] at this
            refine this.mono ?_
            rintro e w' ⟨a', c', rfl, h1, h2⟩
            exact ⟨a', c', by rw [HKL.out], BytesAt.of_own h1, by rw [HKL.out]; exact SlW.of_own h1, h.trans h2, h2⟩)
          have CR := Lib.hid (fun V a' c' (h : Still W5 V) (hA : BytesAt V a' kx) (hW : SlW a' kl c') => show Calls Tryz.prog 17 #[.pointer (some ⟨x, 0, none⟩), tx u, .slice a' kl c'] V fun e w' => e = .returned (.tuple #[plcA (routT S.T u kx) (routP S.T u kx), .int .i64 (routE S.T u kx)]) ∧ Still W5 w' ∧ Still V w' from
            (two_route A H5.out HFt.out HO.out u (by omega) h kx a' kl c' HKL.out hA hW (by omega)).mono fun e w' (he : _ ∧ _) => ⟨he.1, h.trans he.2, he.2⟩)
          have CZ := Lib.hid (fun V (h : Still W5 V) => two_zroute H5.out HFt2.out HO.out u (by omega) h kx ka kl kc HKL.out (HKA.out.still ((HG.out W5 _ H5.out).trans h)) (by omega))
          have HCs := Lib.hid (fun V (h : Still W5 V) => And.intro (HC.out V _ (H5.out.still h)).2.1 (HC.out V _ (H5.out.still h)).2.2.1)
          unfold tx at CR CZ
          generalize routT S.T u kx = rt at *
          generalize routP S.T u kx = rp at *
          generalize routE S.T u kx = re at *
          have hTd : Still W5 W5.drew := (Turned.refl _ _).drew
          have hAd : Still W5 (W5.alloc (.cells #[.int .i64 0, .int .i64 0] 25)).drew := ((Turned.refl _ _).alloc _).drew
          have hAb : Blk (W5.alloc (.cells #[.int .i64 0, .int .i64 0] 25)).drew W5.heap.size [.int .i64 0, .int .i64 0] 25 := (Blk.new W5 [.int .i64 0, .int .i64 0] 25).drew
          have n0 := World.new_ne W5 ⟨bx, 1, none⟩ x1
          go_wp2_with (go_at_call 12; ((with_reducible refine (BA.out _).mono ?_)); rintro e w6 ⟨rfl, hw6⟩; subst hw6)
          clear x0 x3 x4 x5
          go_region_held3 (fun V => V.cell? ⟨bx, 1, none⟩ = some (.string ⟨u.toArray⟩) ∧ V.cell? ⟨bx, 2, none⟩ = some (.slice ka kl kc)) (first | exact ⟨by assumption, by assumption⟩ | go_keep) (first
            | (go_at_call 18; ((with_reducible refine (CB.out _ (by first | assumption | exact Turned.alloc (by assumption) _)).mono ?_)); rintro e w8 ⟨a8, c8, rfl, hA8, hW8, hT8, hV8⟩; obtain ⟨g81, g82⟩ := HCs.out w8 hT8; have n8 := World.new_ne w8 ⟨bx, 1, none⟩ g81; have HA8 := Lib.hid hA8; have HW8 := Lib.hid hW8; clear hA8 hW8; first | (have z8 := pbox_new hV8; obtain ⟨z81, z82, z83, z84⟩ := pbox_cells z8) | (have z8 := pbox_pass hV8 hAb; obtain ⟨z81, z82, z83, z84⟩ := pbox_cells z8) | skip)
            | (go_at_call 17; ((with_reducible refine (CR.out _ a8 c8 (by first | assumption | exact Turned.alloc (by assumption) _) (by first | exact HA8.out | exact HA8.out.still ((Turned.refl _ _).alloc _)) HW8.out).mono ?_)); rintro e w9 ⟨rfl, hT9, hV9⟩; obtain ⟨g91, g92⟩ := HCs.out w9 hT9; have n9 := World.new_ne w9 ⟨bx, 1, none⟩ g91; first | (have z9 := pbox_new hV9; obtain ⟨z91, z92, z93, z94⟩ := pbox_cells z9) | (have z9 := pbox_pass hV9 (by assumption); obtain ⟨z91, z92, z93, z94⟩ := pbox_cells z9) | skip))
          all_goals (
            first
              | (obtain ⟨WF, hWF⟩ : ∃ WF, WF = w9.alloc (.cells #[.int .i64 rt, .int .i64 rp] 25) := ⟨_, rfl⟩
                 rw [← hWF]
                 have hBF : Blk WF w9.heap.size [.int .i64 rt, .int .i64 rp] 25 := by rw [hWF]; exact Blk.new w9 [.int .i64 rt, .int .i64 rp] 25
                 have hUF : Still W5 WF := by rw [hWF]; exact hT9.alloc _
                 obtain ⟨bb, hbb⟩ : ∃ bb, bb = w9.heap.size := ⟨_, rfl⟩
                 rw [← hbb] at hBF ⊢)
              | (obtain ⟨WF, hWF⟩ : ∃ WF, WF = (w9.setCell ⟨w8.heap.size, 0, none⟩ (.int .i64 rt)).setCell ⟨w8.heap.size, 1, none⟩ (.int .i64 rp) := ⟨_, rfl⟩
                 rw [← hWF]
                 have hBF : Blk WF w8.heap.size [.int .i64 rt, .int .i64 rp] 25 := by rw [hWF]; exact (z9.set 0 _).set 1 _
                 have hUF : Still W5 WF := by rw [hWF]; exact (hT9.setCell (.inr hT8.size) _).setCell (.inr hT8.size) _
                 obtain ⟨bb, hbb⟩ : ∃ bb, bb = w8.heap.size := ⟨_, rfl⟩
                 rw [← hbb] at hBF ⊢)
              | (obtain ⟨WF, hWF⟩ : ∃ WF, WF = (w9.setCell ⟨W5.heap.size, 0, none⟩ (.int .i64 rt)).setCell ⟨W5.heap.size, 1, none⟩ (.int .i64 rp) := ⟨_, rfl⟩
                 rw [← hWF]
                 have hBF : Blk WF W5.heap.size [.int .i64 rt, .int .i64 rp] 25 := by rw [hWF]; exact (z9.set 0 _).set 1 _
                 have hUF : Still W5 WF := by rw [hWF]; exact (hT9.setCell (.inr (Nat.le_refl _)) _).setCell (.inr (Nat.le_refl _)) _
                 obtain ⟨bb, hbb⟩ : ∃ bb, bb = W5.heap.size := ⟨_, rfl⟩
                 rw [← hbb] at hBF ⊢)
            have HBF := Lib.hid hBF
            have HUF := Lib.hid hUF
            obtain ⟨s1, s2⟩ := HCs.out WF hUF
            clear hWF hBF hUF hbb hTd hAd hAb n0 n8 n9 x1 x2 g81 g82 g91 g92 hT8 hV8 hT9 hV9
            try clear z8 z81 z82 z83 z84
            try clear z9 z91 z92 z93 z94
            go_wp2_with (first
              | (go_at_call 19; ((with_reducible refine (CZ.out _ HUF.out).mono ?_)); rintro e w10 ⟨rfl, h10⟩; have hB10 := (HBF.out.turned h10 (fun h => h)).alloc (.cells #[.int .i64 rt, .int .i64 rp] 25); have b100 := hB10.cell (o := 0) rfl; have b101 := hB10.cell (o := 1) rfl; have HU10 := Lib.hid ((HUF.out.trans h10).alloc (.cells #[.int .i64 rt, .int .i64 rp] 25)); clear h10 hB10)
              | (go_at_call 26; ((with_reducible refine (HSame.out _ _ _ _ _ _ _ HFt.out HFt2.out HO.out (by omega) (by omega) (H5.out.still HU10.out)).mono ?_)); rintro e w11 ⟨rfl, h11⟩; have H11 := Lib.hid (HU10.out.trans h11); clear h11))
            go_roundw
            case rel => exact ⟨k + 1, by omega, by go_num, L, L2, S, HFt.out, HFt2.out, HO.out.mono (by omega) (by omega), HPop.out _ _ (H5.out.still H11.out)⟩
            case measure => simp [intOf]; omega)
        · as_aux_lemma =>
          have CB := Lib.hid (fun V (h : Still W5 V) => show Calls Tryz.prog 18 #[.slice ka kl kc] V fun e w' => ∃ a' c', e = .returned (.slice a' kl c') ∧ BytesAt w' a' kx ∧ SlW a' kl c' ∧ Still W5 w' ∧ Still V w' from by
            have hA := HKA.out.still ((HG.out W5 _ H5.out).trans h)
            have := bytes_any V ka kx kc hA (by have := HKL.out; omega) (fun e => (HKW.out.none e).2)
            rw [← HKL.out] at this
            refine this.mono ?_
            rintro e w' ⟨a', c', rfl, h1, h2⟩
            exact ⟨a', c', by rw [HKL.out], BytesAt.of_own h1, by rw [HKL.out]; exact SlW.of_own h1, h.trans h2, h2⟩)
          have CC := Lib.hid (fun V (R' : Thing) (h : Held w1 V ((TwoS HT PT XT x q z zq L L2 S).sep R')) a' c' (hA : BytesAt V a' kx) (hW : SlW a' kl c') => two_claim A h HFt.out HO.out (by omega) (by omega) u (by omega) kx a' kl c' HKL.out hA hW (by omega) aA HA64.out)
          have CZ := Lib.hid (fun V (P R' : Thing) (h : Held w1 V ((P.sep (setT zhT zT zXT z zq L2 S)).sep R')) => two_zclaim h HFt2.out HO.out (by omega) (by omega) u (by omega) kx ka kl kc HKL.out (HKA.out.still (HG.out V _ h)) HKW.out (by omega) aA HA64.out)
          have HCs := Lib.hid (fun V Q (h : Held w1 V (Q.sep RB)) => And.intro (HC.out V Q h).2.1 (And.intro (HC.out V Q h).2.2.1 (HC.out V Q h).2.2.2.1))
          have HO1 := Lib.hid (HO.out.claim (by omega) u kx aA)
          have HF1 := Lib.hid (fits_claim HFt.out u kx aA)
          have HF2 := Lib.hid (fits_claim HFt2.out u kx aA)
          have HPop2 := Lib.hid (fun (V : World) (Q b1 b2 : Thing) (h : Held w1 V (Q.sep ((RB.sep b1).sep b2))) => HPop.out V Q (h.assoc'.drop.assoc'.drop))
          unfold tx at CC CZ
          generalize tclT S u kx aA = rt at *
          generalize tclP S u kx aA = rp at *
          generalize tclA S u kx aA = ca at *
          generalize tclH S u kx aA = ch at *
          generalize tclE S u kx aA = ce at *
          generalize tclM S u kx aA = S1 at *
          go_wp2_with (go_at_call 12; ((with_reducible refine (BA.out _).mono ?_)); rintro e w6 ⟨rfl, hw6⟩; subst hw6)
          have hTd : Still W5 W5.drew := (Turned.refl _ _).drew
          have hAd : Still W5 (W5.alloc (.cells #[.int .i64 0, .int .i64 0] 25)).drew := ((Turned.refl _ _).alloc _).drew
          have hAb : Blk (W5.alloc (.cells #[.int .i64 0, .int .i64 0] 25)).drew W5.heap.size [.int .i64 0, .int .i64 0] 25 := (Blk.new W5 [.int .i64 0, .int .i64 0] 25).drew
          have HBd := Lib.hid (((H5.out.box [.int .i64 0, .int .i64 0] 25).assoc).still (Turned.refl _ _).drew)
          have n0 := World.new_ne W5 ⟨bx, 1, none⟩ x1
          clear x0 x4 x5
          go_region_held3 (fun V => V.cell? ⟨bx, 1, none⟩ = some (.string ⟨u.toArray⟩) ∧ V.cell? ⟨bx, 2, none⟩ = some (.slice ka kl kc) ∧ V.cell? ⟨bx, 3, none⟩ = some (.int .i64 aA)) (first | exact ⟨by assumption, by assumption, by assumption⟩ | go_keep) (first
            | (go_at_call 18; ((with_reducible refine (CB.out _ (by first | assumption | exact Turned.alloc (by assumption) _)).mono ?_)); rintro e w8 ⟨a8, c8, rfl, hA8, hW8, hT8, hV8⟩; obtain ⟨g81, g82, g83⟩ := HCs.out w8 _ (H5.out.still hT8); have n8 := World.new_ne w8 ⟨bx, 1, none⟩ g81; have HA8 := Lib.hid hA8; have HW8 := Lib.hid hW8; clear hA8 hW8; first | (have z8 := pbox_new hV8; obtain ⟨z81, z82, z83, z84⟩ := pbox_cells z8) | (have z8 := pbox_pass hV8 hAb; obtain ⟨z81, z82, z83, z84⟩ := pbox_cells z8) | skip)
            | (go_at_call 20; first
              | (((with_reducible refine (CC.out _ _ (HBd.out.still hV8) a8 c8 HA8.out HW8.out).mono ?_)); rintro e w9 ⟨rfl, h9⟩; have H9 := Lib.hid h9; have z9 := h9.snd.snd.blk; obtain ⟨z91, z92, z93, z94⟩ := pbox_cells z9; obtain ⟨g91, g92, g93⟩ := HCs.out w9 _ h9.assoc'.drop; have n9 := World.new_ne w9 ⟨bx, 1, none⟩ g91; clear h9)
              | (((with_reducible refine (CC.out _ _ (((H5.out.still hT8).box [.int .i64 0, .int .i64 0] 25).assoc) a8 c8 (HA8.out.still ((Turned.refl _ _).alloc _)) HW8.out).mono ?_)); rintro e w9 ⟨rfl, h9⟩; have H9 := Lib.hid h9; have z9 := h9.snd.snd.blk; obtain ⟨z91, z92, z93, z94⟩ := pbox_cells z9; obtain ⟨g91, g92, g93⟩ := HCs.out w9 _ h9.assoc'.drop; have n9 := World.new_ne w9 ⟨bx, 1, none⟩ g91; clear h9)
              | (((with_reducible refine (CC.out _ _ (H5.out.still hT8) a8 c8 HA8.out HW8.out).mono ?_)); rintro e w9 ⟨rfl, h9⟩; have H9 := Lib.hid h9; obtain ⟨g91, g92, g93⟩ := HCs.out w9 _ h9; have n9 := World.new_ne w9 ⟨bx, 1, none⟩ g91; clear h9)))
          all_goals (
            first
              | (obtain ⟨WF, hWF⟩ : ∃ WF, WF = w9.alloc (.cells #[.int .i64 rt, .int .i64 rp] 25) := ⟨_, rfl⟩
                 rw [← hWF]
                 have hHF := ((H9.out.box [.int .i64 rt, .int .i64 rp] 25)).assoc
                 rw [show w9.alloc (.cells [.int .i64 rt, .int .i64 rp].toArray 25) = WF from hWF.symm] at hHF
                 obtain ⟨bb, hbb⟩ : ∃ bb, bb = w9.heap.size := ⟨_, rfl⟩
                 rw [← hbb] at hHF ⊢)
              | (obtain ⟨WF, hWF⟩ : ∃ WF, WF = (w9.setCell ⟨w8.heap.size, 0, none⟩ (.int .i64 rt)).setCell ⟨w8.heap.size, 1, none⟩ (.int .i64 rp) := ⟨_, rfl⟩
                 rw [← hWF]
                 have hHF := (H9.out.setLast2 0 (.int .i64 rt)).setLast2 1 (.int .i64 rp)
                 rw [← hWF] at hHF
                 obtain ⟨bb, hbb⟩ : ∃ bb, bb = w8.heap.size := ⟨_, rfl⟩
                 rw [← hbb] at hHF ⊢)
              | (obtain ⟨WF, hWF⟩ : ∃ WF, WF = (w9.setCell ⟨W5.heap.size, 0, none⟩ (.int .i64 rt)).setCell ⟨W5.heap.size, 1, none⟩ (.int .i64 rp) := ⟨_, rfl⟩
                 rw [← hWF]
                 have hHF := (H9.out.setLast2 0 (.int .i64 rt)).setLast2 1 (.int .i64 rp)
                 rw [← hWF] at hHF
                 obtain ⟨bb, hbb⟩ : ∃ bb, bb = W5.heap.size := ⟨_, rfl⟩
                 rw [← hbb] at hHF ⊢)
            have HF := Lib.hid (show Held w1 WF (((setT HT PT XT x q L S1).sep (setT zhT zT zXT z zq L2 S)).sep (RB.sep (blkT bb [.int .i64 rt, .int .i64 rp] 25))) from hHF)
            obtain ⟨s1, s2, s3⟩ := HCs.out WF _ hHF.assoc'.drop
            clear hWF hHF hbb hTd hAd hAb n0 n8 n9 x1 x2 x3 g81 g82 g83 g91 g92 g93 hT8 hV8 H9 HBd
            try clear z8 z81 z82 z83 z84
            try clear z9 z91 z92 z93 z94
            go_wp2_with (first
              | (go_at_call 21; ((with_reducible refine (CZ.out _ _ _ HF.out).mono ?_)); rintro e w10 ⟨rfl, h10⟩; have h10b := (h10.box [.int .i64 rt, .int .i64 rp] 25).assoc; have b10 := h10b.snd.fst3; have b100 := b10.cell (o := 0) rfl; have b101 := b10.cell (o := 1) rfl; have H10 := Lib.hid h10b; clear h10 b10 h10b)
              | (go_at_call 26; ((with_reducible refine (HSame.out _ _ _ _ _ _ _ HF1.out HF2.out HO1.out (by omega) (by omega) H10.out).mono ?_)); rintro e w11 ⟨rfl, h11⟩; have H11 := Lib.hid h11; clear h11))
            all_goals (
              go_roundw
              case rel => exact ⟨k + 1, by omega, by go_num, L, L2, S1, HF1.out, HF2.out, HO1.out.mono (by omega) (by omega), HPop2.out _ _ _ _ (H10.out.still H11.out)⟩
              case measure => simp [intOf]; omega))
        · have q0 : (d0 == 0) = false := by rw [beq_eq_false_iff_ne]; omega
          have q1 : (d0 == 1) = false := by rw [beq_eq_false_iff_ne]; omega
          have q2 : (d0 == 2) = false := by rw [beq_eq_false_iff_ne]; omega
          have q3 : (d0 == 3) = false := by rw [beq_eq_false_iff_ne]; omega
          have i0 : ((d0 : Int) == 0) = false := by rw [beq_eq_false_iff_ne]; omega
          have i1 : ((d0 : Int) == 1) = false := by rw [beq_eq_false_iff_ne]; omega
          have i2 : ((d0 : Int) == 2) = false := by rw [beq_eq_false_iff_ne]; omega
          have i3 : ((d0 : Int) == 3) = false := by rw [beq_eq_false_iff_ne]; omega
          have q7 : (d0 : Int) < 7 := by omega
          clear hd
          have CB := Lib.hid (fun V (h : Still W5 V) => show Calls Tryz.prog 18 #[.slice ka kl kc] V fun e w' => ∃ a' c', e = .returned (.slice a' kl c') ∧ BytesAt w' a' kx ∧ SlW a' kl c' ∧ Still W5 w' ∧ Still V w' from by
            have hA := HKA.out.still ((HG.out W5 _ H5.out).trans h)
            have := bytes_any V ka kx kc hA (by have := HKL.out; omega) (fun e => (HKW.out.none e).2)
            rw [← HKL.out] at this
            refine this.mono ?_
            rintro e w' ⟨a', c', rfl, h1, h2⟩
            exact ⟨a', c', by rw [HKL.out], BytesAt.of_own h1, by rw [HKL.out]; exact SlW.of_own h1, h.trans h2, h2⟩)
          have CC := Lib.hid (fun V (R' : Thing) (h : Held w1 V ((TwoS HT PT XT x q z zq L L2 S).sep R')) a' c' (hA : BytesAt V a' kx) (hW : SlW a' kl c') => two_claim A h HFt.out HO.out (by omega) (by omega) u (by omega) kx a' kl c' HKL.out hA hW (by omega) aA HA64.out)
          have CZ := Lib.hid (fun V (P R' : Thing) (h : Held w1 V ((P.sep (setT zhT zT zXT z zq L2 S)).sep R')) => two_zclaim h HFt2.out HO.out (by omega) (by omega) u (by omega) kx ka kl kc HKL.out (HKA.out.still (HG.out V _ h)) HKW.out (by omega) aA HA64.out)
          have HCs := Lib.hid (fun V Q (h : Held w1 V (Q.sep RB)) => And.intro (HC.out V Q h).2.1 (And.intro (HC.out V Q h).2.2.1 (HC.out V Q h).2.2.2.1))
          have HO1 := Lib.hid (HO.out.claim (by omega) u kx aA)
          have HF1 := Lib.hid (fits_claim HFt.out u kx aA)
          have HF2 := Lib.hid (fits_claim HFt2.out u kx aA)
          have HPop2 := Lib.hid (fun (V : World) (Q b1 b2 : Thing) (h : Held w1 V (Q.sep ((RB.sep b1).sep b2))) => HPop.out V Q (h.assoc'.drop.assoc'.drop))
          by_cases hce : tclE S u kx aA = 0
          · as_aux_lemma =>
            obtain ⟨pt0, pp0, M0, f1, f2, f3, f4⟩ := claim_place HO.out (by omega) (by omega) hce
            have HPub := Lib.hid (fun V (R' : Thing) (h : Held w1 V ((TwoS HT PT XT x q z zq L L2 (tclM S u kx aA)).sep R')) => two_pub B h A HF1.out HF2.out HO1.out (by omega) (by omega) f3 (tclA S u kx aA) f4)
            have HO2 := Lib.hid (HO1.out.pub f3 (tclA S u kx aA))
            have HF3 := Lib.hid (fits_put HF1.out pt0 pp0 (M0.pubM (tclA S u kx aA)))
            have HF4 := Lib.hid (fits_put HF2.out pt0 pp0 (M0.pubM (tclA S u kx aA)))
            obtain ⟨S2, hS2⟩ : ∃ S2 : StM, S2 = ⟨(tclM S u kx aA).P, putP (tclM S u kx aA).T pt0 pp0 (M0.pubM (tclA S u kx aA))⟩ := ⟨_, rfl⟩
            rw [← hS2] at HPub HO2
            rw [show putP (tclM S u kx aA).T pt0 pp0 (M0.pubM (tclA S u kx aA)) = S2.T from by rw [hS2]] at HF3 HF4
            rw [f1, f2, hce] at CC CZ
            clear f1 f2 f3 f4 hce hS2
            unfold tx at CC CZ
            generalize tclA S u kx aA = ca at *
            generalize tclH S u kx aA = ch at *
            generalize tclM S u kx aA = S1 at *
            generalize M0.pubE ca = pe at *
            obtain ⟨rt, hrt⟩ : ∃ rt : Int, rt = (pt0 : Int) := ⟨_, rfl⟩
            obtain ⟨rp, hrp⟩ : ∃ rp : Int, rp = (pp0 : Int) := ⟨_, rfl⟩
            rw [← hrt, ← hrp] at CC CZ HPub
            clear hrt hrp
            go_wp2_with (go_at_call 12; ((with_reducible refine (BA.out _).mono ?_)); rintro e w6 ⟨rfl, hw6⟩; subst hw6)
            have hTd : Still W5 W5.drew := (Turned.refl _ _).drew
            have hAd : Still W5 (W5.alloc (.cells #[.int .i64 0, .int .i64 0] 25)).drew := ((Turned.refl _ _).alloc _).drew
            have hAb : Blk (W5.alloc (.cells #[.int .i64 0, .int .i64 0] 25)).drew W5.heap.size [.int .i64 0, .int .i64 0] 25 := (Blk.new W5 [.int .i64 0, .int .i64 0] 25).drew
            have HBd := Lib.hid (((H5.out.box [.int .i64 0, .int .i64 0] 25).assoc).still (Turned.refl _ _).drew)
            have n0 := World.new_ne W5 ⟨bx, 1, none⟩ x1
            clear x0 x4 x5
            go_region_held3 (fun V => V.cell? ⟨bx, 1, none⟩ = some (.string ⟨u.toArray⟩) ∧ V.cell? ⟨bx, 2, none⟩ = some (.slice ka kl kc) ∧ V.cell? ⟨bx, 3, none⟩ = some (.int .i64 aA)) (first | exact ⟨by assumption, by assumption, by assumption⟩ | go_keep) (first
              | (go_at_call 18; ((with_reducible refine (CB.out _ (by first | assumption | exact Turned.alloc (by assumption) _)).mono ?_)); rintro e w8 ⟨a8, c8, rfl, hA8, hW8, hT8, hV8⟩; obtain ⟨g81, g82, g83⟩ := HCs.out w8 _ (H5.out.still hT8); have n8 := World.new_ne w8 ⟨bx, 1, none⟩ g81; have HA8 := Lib.hid hA8; have HW8 := Lib.hid hW8; clear hA8 hW8; first | (have z8 := pbox_new hV8; obtain ⟨z81, z82, z83, z84⟩ := pbox_cells z8) | (have z8 := pbox_pass hV8 hAb; obtain ⟨z81, z82, z83, z84⟩ := pbox_cells z8) | skip)
              | (go_at_call 20; first
                | (((with_reducible refine (CC.out _ _ (HBd.out.still hV8) a8 c8 HA8.out HW8.out).mono ?_)); rintro e w9 ⟨rfl, h9⟩; have H9 := Lib.hid h9; have z9 := h9.snd.snd.blk; obtain ⟨z91, z92, z93, z94⟩ := pbox_cells z9; obtain ⟨g91, g92, g93⟩ := HCs.out w9 _ h9.assoc'.drop; have n9 := World.new_ne w9 ⟨bx, 1, none⟩ g91; clear h9)
                | (((with_reducible refine (CC.out _ _ (((H5.out.still hT8).box [.int .i64 0, .int .i64 0] 25).assoc) a8 c8 (HA8.out.still ((Turned.refl _ _).alloc _)) HW8.out).mono ?_)); rintro e w9 ⟨rfl, h9⟩; have H9 := Lib.hid h9; have z9 := h9.snd.snd.blk; obtain ⟨z91, z92, z93, z94⟩ := pbox_cells z9; obtain ⟨g91, g92, g93⟩ := HCs.out w9 _ h9.assoc'.drop; have n9 := World.new_ne w9 ⟨bx, 1, none⟩ g91; clear h9)
                | (((with_reducible refine (CC.out _ _ (H5.out.still hT8) a8 c8 HA8.out HW8.out).mono ?_)); rintro e w9 ⟨rfl, h9⟩; have H9 := Lib.hid h9; obtain ⟨g91, g92, g93⟩ := HCs.out w9 _ h9; have n9 := World.new_ne w9 ⟨bx, 1, none⟩ g91; clear h9)))
            all_goals (
              first
                | (obtain ⟨WF, hWF⟩ : ∃ WF, WF = w9.alloc (.cells #[.int .i64 rt, .int .i64 rp] 25) := ⟨_, rfl⟩
                   rw [← hWF]
                   have hHF := ((H9.out.box [.int .i64 rt, .int .i64 rp] 25)).assoc
                   rw [show w9.alloc (.cells [.int .i64 rt, .int .i64 rp].toArray 25) = WF from hWF.symm] at hHF
                   obtain ⟨bb, hbb⟩ : ∃ bb, bb = w9.heap.size := ⟨_, rfl⟩
                   rw [← hbb] at hHF ⊢)
                | (obtain ⟨WF, hWF⟩ : ∃ WF, WF = (w9.setCell ⟨w8.heap.size, 0, none⟩ (.int .i64 rt)).setCell ⟨w8.heap.size, 1, none⟩ (.int .i64 rp) := ⟨_, rfl⟩
                   rw [← hWF]
                   have hHF := (H9.out.setLast2 0 (.int .i64 rt)).setLast2 1 (.int .i64 rp)
                   rw [← hWF] at hHF
                   obtain ⟨bb, hbb⟩ : ∃ bb, bb = w8.heap.size := ⟨_, rfl⟩
                   rw [← hbb] at hHF ⊢)
                | (obtain ⟨WF, hWF⟩ : ∃ WF, WF = (w9.setCell ⟨W5.heap.size, 0, none⟩ (.int .i64 rt)).setCell ⟨W5.heap.size, 1, none⟩ (.int .i64 rp) := ⟨_, rfl⟩
                   rw [← hWF]
                   have hHF := (H9.out.setLast2 0 (.int .i64 rt)).setLast2 1 (.int .i64 rp)
                   rw [← hWF] at hHF
                   obtain ⟨bb, hbb⟩ : ∃ bb, bb = W5.heap.size := ⟨_, rfl⟩
                   rw [← hbb] at hHF ⊢)
              have HF := Lib.hid (show Held w1 WF (((setT HT PT XT x q L S1).sep (setT zhT zT zXT z zq L2 S)).sep (RB.sep (blkT bb [.int .i64 rt, .int .i64 rp] 25))) from hHF)
              obtain ⟨s1, s2, s3⟩ := HCs.out WF _ hHF.assoc'.drop
              clear hWF hHF hbb hTd hAd hAb n0 n8 n9 x1 x2 x3 g81 g82 g83 g91 g92 g93 hT8 hV8 H9 HBd
              try clear z8 z81 z82 z83 z84
              try clear z9 z91 z92 z93 z94
              go_wp2_with (first
                | (go_at_call 21; ((with_reducible refine (CZ.out _ _ _ HF.out).mono ?_)); rintro e w10 ⟨rfl, h10⟩; have h10b := (h10.box [.int .i64 rt, .int .i64 rp] 25).assoc; have b10 := h10b.snd.fst3; have b100 := b10.cell (o := 0) rfl; have b101 := b10.cell (o := 1) rfl; have H10 := Lib.hid h10b; clear h10 b10 h10b; obtain ⟨px, py, pr, hp1, hp2, hcl, hpb⟩ := HPub.out _ _ H10.out; have P1 := Lib.hid hp1; have P2 := Lib.hid hp2; have PC := Lib.hid hcl; have PB := Lib.hid hpb; clear hp1 hp2 hcl hpb)
                | (go_at_call 22; ((with_reducible refine (P1.out _ (Turned.refl _ _)).mono ?_)); rintro e w12 ⟨rfl, h12⟩; have H12 := Lib.hid h12; have b12 := (H10.out.still h12).snd.snd.blk; have b120 := b12.cell (o := 0) rfl; have b121 := b12.cell (o := 1) rfl; clear h12 b12)
                | (go_at_call 23; ((with_reducible refine (P2.out _ H12.out).mono ?_)); rintro e w13 ⟨rfl, h13⟩; have H13 := Lib.hid (H12.out.trans h13); clear h13))
              have hU13 := Turned.drew H13.out
              have y13 := PC.out _ hU13
              go_region_held3 (fun Z => Z.cell? ⟨py, 1, none⟩ = some (.pointer (some ⟨pr, 0, none⟩))) (first | assumption | go_keep) (first
                | (go_at_call 24; ((with_reducible refine (PB.out _ (by assumption)).mono ?_)); rintro e w14 ⟨rfl, y14, hp14⟩; have HP14 := Lib.hid hp14; clear hp14)
                | (go_at_call 25; ((with_reducible refine ((HP14.out _ (Turned.refl _ _)).2).mono ?_)); rintro e w15 ⟨rfl, y15, h15⟩; have H15 := Lib.hid h15; clear h15))
              all_goals (
                go_wp2_with (go_at_call 26; ((with_reducible refine (HSame.out _ _ _ _ _ _ _ HF3.out HF4.out HO2.out (by omega) (by omega) H15.out).mono ?_)); rintro e w16 ⟨rfl, h16⟩; have H16 := Lib.hid h16; clear h16)
                go_roundw
                case rel => exact ⟨k + 1, by omega, by go_num, L, L2, S2, HF3.out, HF4.out, HO2.out.mono (by omega) (by omega), HPop2.out _ _ _ _ (H15.out.still H16.out)⟩
                case measure => simp [intOf]; omega))
          · as_aux_lemma =>
            unfold tx at CC CZ
            generalize tclT S u kx aA = rt at *
            generalize tclP S u kx aA = rp at *
            generalize tclA S u kx aA = ca at *
            generalize tclH S u kx aA = ch at *
            generalize tclE S u kx aA = ce at *
            generalize tclM S u kx aA = S1 at *
            go_wp2_with (go_at_call 12; ((with_reducible refine (BA.out _).mono ?_)); rintro e w6 ⟨rfl, hw6⟩; subst hw6)
            have hTd : Still W5 W5.drew := (Turned.refl _ _).drew
            have hAd : Still W5 (W5.alloc (.cells #[.int .i64 0, .int .i64 0] 25)).drew := ((Turned.refl _ _).alloc _).drew
            have hAb : Blk (W5.alloc (.cells #[.int .i64 0, .int .i64 0] 25)).drew W5.heap.size [.int .i64 0, .int .i64 0] 25 := (Blk.new W5 [.int .i64 0, .int .i64 0] 25).drew
            have HBd := Lib.hid (((H5.out.box [.int .i64 0, .int .i64 0] 25).assoc).still (Turned.refl _ _).drew)
            have n0 := World.new_ne W5 ⟨bx, 1, none⟩ x1
            clear x0 x4 x5
            go_region_held3 (fun V => V.cell? ⟨bx, 1, none⟩ = some (.string ⟨u.toArray⟩) ∧ V.cell? ⟨bx, 2, none⟩ = some (.slice ka kl kc) ∧ V.cell? ⟨bx, 3, none⟩ = some (.int .i64 aA)) (first | exact ⟨by assumption, by assumption, by assumption⟩ | go_keep) (first
              | (go_at_call 18; ((with_reducible refine (CB.out _ (by first | assumption | exact Turned.alloc (by assumption) _)).mono ?_)); rintro e w8 ⟨a8, c8, rfl, hA8, hW8, hT8, hV8⟩; obtain ⟨g81, g82, g83⟩ := HCs.out w8 _ (H5.out.still hT8); have n8 := World.new_ne w8 ⟨bx, 1, none⟩ g81; have HA8 := Lib.hid hA8; have HW8 := Lib.hid hW8; clear hA8 hW8; first | (have z8 := pbox_new hV8; obtain ⟨z81, z82, z83, z84⟩ := pbox_cells z8) | (have z8 := pbox_pass hV8 hAb; obtain ⟨z81, z82, z83, z84⟩ := pbox_cells z8) | skip)
              | (go_at_call 20; first
                | (((with_reducible refine (CC.out _ _ (HBd.out.still hV8) a8 c8 HA8.out HW8.out).mono ?_)); rintro e w9 ⟨rfl, h9⟩; have H9 := Lib.hid h9; have z9 := h9.snd.snd.blk; obtain ⟨z91, z92, z93, z94⟩ := pbox_cells z9; obtain ⟨g91, g92, g93⟩ := HCs.out w9 _ h9.assoc'.drop; have n9 := World.new_ne w9 ⟨bx, 1, none⟩ g91; clear h9)
                | (((with_reducible refine (CC.out _ _ (((H5.out.still hT8).box [.int .i64 0, .int .i64 0] 25).assoc) a8 c8 (HA8.out.still ((Turned.refl _ _).alloc _)) HW8.out).mono ?_)); rintro e w9 ⟨rfl, h9⟩; have H9 := Lib.hid h9; have z9 := h9.snd.snd.blk; obtain ⟨z91, z92, z93, z94⟩ := pbox_cells z9; obtain ⟨g91, g92, g93⟩ := HCs.out w9 _ h9.assoc'.drop; have n9 := World.new_ne w9 ⟨bx, 1, none⟩ g91; clear h9)
                | (((with_reducible refine (CC.out _ _ (H5.out.still hT8) a8 c8 HA8.out HW8.out).mono ?_)); rintro e w9 ⟨rfl, h9⟩; have H9 := Lib.hid h9; obtain ⟨g91, g92, g93⟩ := HCs.out w9 _ h9; have n9 := World.new_ne w9 ⟨bx, 1, none⟩ g91; clear h9)))
            all_goals (
              first
                | (obtain ⟨WF, hWF⟩ : ∃ WF, WF = w9.alloc (.cells #[.int .i64 rt, .int .i64 rp] 25) := ⟨_, rfl⟩
                   rw [← hWF]
                   have hHF := ((H9.out.box [.int .i64 rt, .int .i64 rp] 25)).assoc
                   rw [show w9.alloc (.cells [.int .i64 rt, .int .i64 rp].toArray 25) = WF from hWF.symm] at hHF
                   obtain ⟨bb, hbb⟩ : ∃ bb, bb = w9.heap.size := ⟨_, rfl⟩
                   rw [← hbb] at hHF ⊢)
                | (obtain ⟨WF, hWF⟩ : ∃ WF, WF = (w9.setCell ⟨w8.heap.size, 0, none⟩ (.int .i64 rt)).setCell ⟨w8.heap.size, 1, none⟩ (.int .i64 rp) := ⟨_, rfl⟩
                   rw [← hWF]
                   have hHF := (H9.out.setLast2 0 (.int .i64 rt)).setLast2 1 (.int .i64 rp)
                   rw [← hWF] at hHF
                   obtain ⟨bb, hbb⟩ : ∃ bb, bb = w8.heap.size := ⟨_, rfl⟩
                   rw [← hbb] at hHF ⊢)
                | (obtain ⟨WF, hWF⟩ : ∃ WF, WF = (w9.setCell ⟨W5.heap.size, 0, none⟩ (.int .i64 rt)).setCell ⟨W5.heap.size, 1, none⟩ (.int .i64 rp) := ⟨_, rfl⟩
                   rw [← hWF]
                   have hHF := (H9.out.setLast2 0 (.int .i64 rt)).setLast2 1 (.int .i64 rp)
                   rw [← hWF] at hHF
                   obtain ⟨bb, hbb⟩ : ∃ bb, bb = W5.heap.size := ⟨_, rfl⟩
                   rw [← hbb] at hHF ⊢)
              have HF := Lib.hid (show Held w1 WF (((setT HT PT XT x q L S1).sep (setT zhT zT zXT z zq L2 S)).sep (RB.sep (blkT bb [.int .i64 rt, .int .i64 rp] 25))) from hHF)
              obtain ⟨s1, s2, s3⟩ := HCs.out WF _ hHF.assoc'.drop
              clear hWF hHF hbb hTd hAd hAb n0 n8 n9 x1 x2 x3 g81 g82 g83 g91 g92 g93 hT8 hV8 H9 HBd
              try clear z8 z81 z82 z83 z84
              try clear z9 z91 z92 z93 z94
              go_wp2_with (first
                | (go_at_call 21; ((with_reducible refine (CZ.out _ _ _ HF.out).mono ?_)); rintro e w10 ⟨rfl, h10⟩; have h10b := (h10.box [.int .i64 rt, .int .i64 rp] 25).assoc; have b10 := h10b.snd.fst3; have b100 := b10.cell (o := 0) rfl; have b101 := b10.cell (o := 1) rfl; have H10 := Lib.hid h10b; clear h10 b10 h10b)
                | (go_at_call 26; ((with_reducible refine (HSame.out _ _ _ _ _ _ _ HF1.out HF2.out HO1.out (by omega) (by omega) H10.out).mono ?_)); rintro e w11 ⟨rfl, h11⟩; have H11 := Lib.hid h11; clear h11))
              all_goals (
                go_roundw
                case rel => exact ⟨k + 1, by omega, by go_num, L, L2, S1, HF1.out, HF2.out, HO1.out.mono (by omega) (by omega), HPop2.out _ _ _ _ (H10.out.still H11.out)⟩
                case measure => simp [intOf]; omega))
      · obtain rfl : k = nl := by omega
        obtain ⟨za, zc, hS⟩ := two_same13 A B C HH.out HFt.out HFt2.out HO.out (by omega) (by omega)
        have HS := Lib.hid hS
        have CN := Lib.hid (fun V (h : Still wr V) => show Calls Tryz.prog 30 #[.pointer (some ⟨x, 0, none⟩), .int .i64 (-1)] V fun e w' => e = .returned (.string ⟨#[]⟩) ∧ Still V w' from by
          obtain ⟨_, h1⟩ := (HH.out.still h).into.headS
          have := A.name h1 HFt.out HO.out.len (-1) ⟨by omega, by omega⟩
          rwa [show nmAt S.T (-1) = [] from by unfold nmAt; rw [if_neg (by omega)]] at this)
        obtain ⟨m4, hm4⟩ : ∃ m4, m4 = min ll 40 := ⟨_, rfl⟩
        obtain ⟨lx4, hlx4⟩ : ∃ l, l = lx.take 40 := ⟨_, rfl⟩
        have hlen4 : m4 = lx4.length := by have := HL.out.len; dsimp only at this; rw [hlx4, List.length_take]; omega
        have HLn4 := Lib.hid hlen4
        have hif : (if (40 : Int) < (ll : Int) then (40 : Int) else (ll : Int)) = (m4 : Int) := by split <;> omega
        have hle4 : m4 ≤ lc := by have := HL.out.le; dsimp only at this; omega
        have HA4 := Lib.hid (show NumsAt w la lx4 from by
          intro i y hi
          rw [hlx4, List.getElem?_take] at hi
          split at hi
          · obtain ⟨b', o', e', hc'⟩ := HL.out.row i y hi
            exact ⟨b', o', e', by have := hc' 0 _ rfl; simpa using this⟩
          · cases hi)
        have hlmx : lc ≤ maxLen := HL.out.max
        have HNone := Lib.hid (fun (e : la = none) => show lc = 0 from (HL.out.none e).2)
        have hm40 : m4 ≤ 40 := by omega
        have HG2 := Lib.hid (fun V (h : Still wr V) => show Still w V from HW1.out.trans (HH.out.ground.trans h))
        have CI := Lib.hid (fun V (h : Still wr V) => bints_any V la lx4 m4 lc hlen4 (HA4.out.still (HG2.out V h)) (by omega) (fun e => HNone.out e))
        unfold IntsPost at CI
        have hm100 : m4 ≤ 100 := by omega
        obtain ⟨np, hnp⟩ : ∃ np, np = (plcs S.T lx4).length := ⟨_, rfl⟩
        have CP := Lib.hid (fun V (h : Still wr V) a' c' (hA : NumsAt V a' lx4) (hW : SlW a' m4 c') => HS.out.places V h a' lx4 m4 c' np hlen4 hA hW hm100 hnp)
        have CQ := Lib.hid (fun V (h : Still wr V) => HS.out.zplaces V h la lx4 m4 lc np hlen4 (HA4.out.still (HG2.out V h)) hm100 hnp)
        unfold OutPl at CP CQ
        have HNp := Lib.hid hnp
        have hnp1 : np ≤ 400 := by
          have := zplcs_le (fun t ht => (HS.out.nps t ht).2) lx4
          omega
        have HOd := Lib.hid (fun V (h : Still wr V) => show V.cell? ⟨w.heap.size, 0, none⟩ = some (.int .i64 ot) ∧ V.cell? ⟨w.heap.size, 1, none⟩ = some (.int .i64 op) from ⟨still_cell (HH.out.ground.trans h) HOdd.out.1 rfl, still_cell (HH.out.ground.trans h) HOdd.out.2 rfl⟩)
        clear hm4 hlx4 hlen4 hnp hS
        have hprep : (la = none ∧ lc = 0 ∧ m4 = 0 ∧ ll = 0) ∨ ∃ a', la = some a' := by
          cases la with
          | none =>
            have h1 := (HL.out.none rfl)
            dsimp only at h1
            exact .inl ⟨rfl, h1.2, by omega, h1.1⟩
          | some a' => exact .inr ⟨a', rfl⟩
        have HPr := Lib.hid (show (partE S.T ot op = 0 ∧ ∃ (ti pi : Nat) (M : RM), ot = (ti : Int) ∧ op = (pi : Int) ∧ prt S.T ti pi = some M) ∨ partE S.T ot op ≠ 0 from by
          by_cases h0 : partE S.T ot op = 0
          · refine .inl ⟨h0, ?_⟩
            unfold partE at h0
            split at h0
            · rename_i hc
              obtain ⟨h1, h2, h3⟩ := hc
              obtain ⟨M, hM⟩ := Option.isSome_iff_exists.1 h3
              exact ⟨ot.toNat, op.toNat, M, by omega, by omega, hM⟩
            · simp at h0
          · exact .inr h0)
        have HGrd := Lib.hid (fun V (h : Still wr V) => show Still w V from HG2.out V h)
        clear hlmx
        rcases hprep with ⟨rfl, rfl, rfl, rfl⟩ | ⟨la', rfl⟩
        all_goals (
          go_wp2_with (first
            | (go_at_call 28; ((with_reducible refine (CI.out _ (Turned.refl _ _)).mono ?_)); rintro e w5 ⟨a5, c5, rfl, ho5, hT5⟩; have HA5 := Lib.hid (NumsAt.of_own ho5 HLn4.out); have HW5 := Lib.hid (SlW.of_own ho5); have HT5 := Lib.hid hT5; clear ho5 hT5)
            | (go_at_call 27; ((with_reducible refine (CP.out _ HT5.out _ _ HA5.out HW5.out).mono ?_)); rintro e w6 ⟨a6, c6, rfl, ho6, hT6⟩; have HO6 := Lib.hid ho6; have HT6 := Lib.hid (HT5.out.trans hT6); clear ho6 hT6)
            | (go_at_call 29; ((with_reducible refine (CQ.out _ HT6.out).mono ?_)); rintro e w7 ⟨a7, c7, rfl, ho7, hT7⟩; have HO7 := Lib.hid ho7; have HT67 := Lib.hid hT7; have HT7 := Lib.hid (HT6.out.trans hT7); clear ho7 hT7))
          have HCl := Lib.hid (fun (j : Nat) (hj : j < np) => show ∃ ga gb y0 y1, a6 = some ⟨ga, 0, none⟩ ∧ a7 = some ⟨gb, 0, none⟩ ∧ ∀ V, Still w7 V → V.cell? ⟨ga, j * 2, none⟩ = some (.int .i64 y0) ∧ V.cell? ⟨ga, j * 2 + 1, none⟩ = some (.int .i64 y1) ∧ V.cell? ⟨gb, j * 2, none⟩ = some (.int .i64 y0) ∧ V.cell? ⟨gb, j * 2 + 1, none⟩ = some (.int .i64 y1) from by
            obtain ⟨y, hy⟩ := get_some (l := plcs S.T lx4) (i := j) (by rw [← HNp.out]; exact hj)
            obtain ⟨ga, rfl⟩ := owm_addr HO6.out (by omega)
            obtain ⟨gb, rfl⟩ := owm_addr HO7.out (by omega)
            have e0 : (rowOf plcV (plcs S.T lx4))[j * 2 + 0]? = some (.int .i64 y.1) := rowOf_get plcV_len hy (j := 0) rfl
            have e1 : (rowOf plcV (plcs S.T lx4))[j * 2 + 1]? = some (.int .i64 y.2) := rowOf_get plcV_len hy (j := 1) rfl
            exact ⟨ga, gb, y.1, y.2, rfl, rfl, fun V h => ⟨still_cell (HT67.out.trans h) (owm_cell HO6.out e0).1 rfl, still_cell (HT67.out.trans h) (owm_cell HO6.out e1).1 rfl, still_cell h (owm_cell HO7.out e0).1 rfl, still_cell h (owm_cell HO7.out e1).1 rfl⟩⟩)
          go_loopw [45] (fun i wx => ∃ j : Nat, j ≤ np ∧ i = .int .i64 j ∧ Still w7 wx) (fun i _ => np - (intOf i).toNat)
          case atStart => exact ⟨0, Nat.zero_le _, rfl, Turned.refl _ _⟩
          case round =>
            obtain ⟨j, hj, rfl, hst⟩ := hrel
            have HSt := Lib.hid hst
            clear hst
            by_cases hjn : j < np
            · have hji : (j : Int) < (np : Int) := by omega
              obtain ⟨ga, gb, y0, y1, rfl, rfl, hcl⟩ := HCl.out j hjn
              obtain ⟨q1, q2, q3, q4⟩ := hcl _ HSt.out
              clear hcl
              go_wp2_with fail
              go_quiet (fail)
              go_wp2_with fail
              go_roundw
              case rel => exact ⟨j + 1, by omega, by go_num, HSt.out.trans ((Turned.refl _ _).drewN _)⟩
              case measure => simp [intOf]; omega
            · obtain rfl : j = np := by omega
              have HU := Lib.hid (HT7.out.trans HSt.out)
              obtain ⟨o1, o2⟩ := HOd.out _ HU.out
              clear hjn
              rcases HPr.out with ⟨h0, ti, pi, M, e1, e2, hM⟩ | h0
              · obtain ⟨px, py, pr, pn, _, hp1, hp2⟩ := HS.out.part ti pi M hM
                rw [← e1, ← e2] at hp1 hp2
                have P1 := Lib.hid hp1
                have P2 := Lib.hid hp2
                clear hp1 hp2 e1 e2 hM h0
                go_wp2_with (first
                  | (go_at_call 22; ((with_reducible refine (P1.out _ HU.out).mono ?_)); rintro e w8 ⟨rfl, h8⟩; have H8 := Lib.hid (HU.out.trans h8); obtain ⟨o81, o82⟩ := HOd.out _ H8.out; clear h8)
                  | (go_at_call 23; ((with_reducible refine (P2.out _ H8.out).mono ?_)); rintro e w9 ⟨rfl, h9⟩; have H9 := Lib.hid (H8.out.trans h9); clear h9)
                  | (go_at_call 30; ((with_reducible refine (CN.out _ H9.out).mono ?_)); rintro e w10 ⟨rfl, h10⟩; have H10 := Lib.hid (H9.out.trans h10); clear h10)
                  | (go_at_call 10; ((with_reducible refine (HWk.out _).mono ?_)); rintro e w11 ⟨rfl, h11⟩; have H11 := Lib.hid (H10.out.trans h11); clear h11))
                go_ret
                exact ⟨by first | rfl | simp, HGrd.out _ H11.out⟩
              · obtain ⟨hp1, hp2⟩ := HS.out.nopart ot op hot hop h0
                have P1 := Lib.hid hp1
                have P2 := Lib.hid hp2
                clear hp1 hp2 h0
                go_wp2_with (first
                  | (go_at_call 22; ((with_reducible refine (P1.out _ HU.out).mono ?_)); rintro e w8 ⟨rfl, h8⟩; have H8 := Lib.hid (HU.out.trans h8); obtain ⟨o81, o82⟩ := HOd.out _ H8.out; clear h8)
                  | (go_at_call 23; ((with_reducible refine (P2.out _ H8.out).mono ?_)); rintro e w9 ⟨rfl, h9⟩; have H9 := Lib.hid (H8.out.trans h9); clear h9)
                  | (go_at_call 30; ((with_reducible refine (CN.out _ H9.out).mono ?_)); rintro e w10 ⟨rfl, h10⟩; have H10 := Lib.hid (H9.out.trans h10); clear h10)
                  | (go_at_call 10; ((with_reducible refine (HWk.out _).mono ?_)); rintro e w11 ⟨rfl, h11⟩; have H11 := Lib.hid (H10.out.trans h11); clear h11))
                go_ret
                exact ⟨by first | rfl | simp, HGrd.out _ H11.out⟩)
  · have HP := Lib.hid (fun W => A.make_no n0 s0 W hn0 hs0 hok)
    have HZ := Lib.hid (fun W => zztmake_no n0 s0 W hok)
    have HW := Lib.hid hw1
    clear hs hl hok hw1
    go_enter Tryz.func3, Tryz.ntmps3
    go_wp2_with (first
      | (go_at_call 8; ((with_reducible refine (HP.out _).mono ?_)); rintro e w2 ⟨rfl, h2⟩; have H2 := Lib.hid h2; clear h2)
      | (go_at_call 9; ((with_reducible refine (HZ.out _).mono ?_)); rintro e w3 ⟨rfl, h3⟩; have H3 := Lib.hid h3; clear h3)
      | (go_at_call 10; ((with_reducible refine (HWk.out _).mono ?_)); rintro e w4 ⟨rfl, h4⟩; have H4 := Lib.hid h4; clear h4))
    go_ret
    exact ⟨rfl, HW.out.trans (H2.out.trans (H3.out.trans H4.out))⟩
end Go.Proofs.YtmmkcfiecgpkpaaGreat
