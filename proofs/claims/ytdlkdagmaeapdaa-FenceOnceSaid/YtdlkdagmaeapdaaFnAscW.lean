/- FenceAscends: the walk. No condition but the words. -/
import Derived.Test.YtdlkdagmaeapdaaFnApi
import Derived.Test.YtdlkdagmaeapdaaFnMath
import Derived.Test.YtdlkdagmaeapdaaActs18
import Derived.Test.YtdlkdagmaeapdaaHasInt
import Derived.Test.YtdlkdagmaeapdaaRowsT
import Derived.Deep.DeepCutAuto
import Derived.Deep.CutBlock
import Derived.Deep.CutRange
import Derived.Maps.AppendAt
namespace Go.Proofs.Ytdlkdagmaeapdaa
open Go.RowKit
set_option linter.unusedVariables false
set_option linter.unusedSimpArgs false
set_option maxRecDepth 100000

theorem Held.imA {w0 w : World} {A B : Thing} (h : Held w0 w A) (f : ∀ {w : World} {W : Nat → Prop}, A.at_ w W → B.at_ w W) : Held w0 w B := by
  obtain ⟨W, h1, h2⟩ := h
  exact ⟨W, f h1, h2⟩
/-- What holds between two acts. -/
structure AscIn (FT : Nat → FnM → Thing) (w wr : World) (q : Nat) (a : Int) (k : Nat) (h t last : Int) (ao : Option Addr) (l cc : Nat) (M : FnM) (had : List Int) : Prop where
  held : Held w wr ((FT q M).sep (intsT ao l cc had))
  len : l = had.length
  le : l ≤ k
  asc : Asc a M had last k
  h0 : 0 ≤ h
  ht : h ≤ t
  hi : t ≤ 49 + 3 * k
abbrev actT (B : Nat) (d nn hh tt : Int) (near : Bool) : Thing := blkT B [.int .i64 d, .int .i64 nn, .int .i64 hh, .int .i64 tt, .bool near] 32
section
variable {FT : Nat → FnM → Thing} {LT : Nat → LgM → Thing} {w V W : World} {q B : Nat} {M : FnM} {R : Thing} {d nn hh tt : Int} {near : Bool} {X : Thing}
theorem Held.actIn (h : Held w V ((FT q M).sep X)) (B : Nat) (hB : B = V.heap.size) : Held w (V.alloc (.cells #[.int .i64 d, .int .i64 nn, .int .i64 hh, .int .i64 tt, .bool near] 32)) ((FT q M).sep ((actT B d nn hh tt near).sep X)) := by
  subst hB
  exact (h.box [.int .i64 d, .int .i64 nn, .int .i64 hh, .int .i64 tt, .bool near] 32).assoc.imA (sep_imp2 (fun h => h) sep_swap)
theorem Held.actOut (h : Held w V ((FT q M).sep ((actT B d nn hh tt near).sep X))) : Held w V ((FT q M).sep X) := (h.imA (sep_imp2 (fun h => h) sep_swap)).assoc'.drop
theorem Held.actAt (h : Held w V ((FT q M).sep ((actT B d nn hh tt near).sep X))) : V.cell? ⟨B, 0, none⟩ = some (.int .i64 d) ∧ V.cell? ⟨B, 1, none⟩ = some (.int .i64 nn) ∧ V.cell? ⟨B, 2, none⟩ = some (.int .i64 hh) ∧ V.cell? ⟨B, 3, none⟩ = some (.int .i64 tt) := by
  have hb := h.snd.drop.blk
  exact ⟨hb.cell rfl, hb.cell rfl, hb.cell rfl, hb.cell rfl⟩
end

/-- What an act leaves. -/
def AscMid (FT : Nat → FnM → Thing) (w : World) (q : Nat) (a : Int) (k : Nat) (h t was : Int) (v9 v10 : Value) (wx : World) : Prop :=
  ∃ (last : Int) (ao : Option Addr) (l cc : Nat) (M : FnM) (had : List Int), v9 = .int .i64 last ∧ v10 = .slice ao l cc ∧ was ≤ M.L.fin ∧ AscIn FT w wx q a (k + 1) h t last ao l cc M had

set_option maxHeartbeats 16000000 in
theorem fascends_walk {FT : Nat → FnM → Thing} {LT : Nat → LgM → Thing} (A : FenceApi FT LT) (n0 : Int) (t : Sl Act18) (w : World) (h0 : (Lit.int .i64 n0).wf = true) (h1 : SlOk encAct18 okAct18 5 w t) :
    Calls Try.prog 4 #[.int .i64 n0, .slice t.a t.len t.cap] w fun e w' => e = .returned (.bool true) ∧ Still w w' := by
  have HWk := Lib.hid (works18 A w)
  obtain ⟨a, ha⟩ : ∃ a, a = am n0 50 := ⟨_, rfl⟩
  have hal : a < 50 := by rw [ha]; exact am_lt _ (by omega)
  have B0 := Lib.hid (fun W => among_lit n0 50 50 a rfl ha (by omega) (by omega) W)
  have HMk := Lib.hid (fun W => A.make_ok (a : Int) W (by omega) (by omega))
  have HAs := Lib.hid (Asc.new (a := (a : Int)) (by omega) (by omega))
  obtain ⟨i0, hi, hz0, hz1, hz2⟩ := info_parts infoIntW
  obtain ⟨ta, tl, tc, tx⟩ := t
  have htcap : tl ≤ tc := h1.le
  have htmax : tc ≤ maxLen := h1.max
  unfold maxLen at htmax
  have HTX := Lib.hid h1
  have HTL : Hid (tx.length = tl) := Lib.hid h1.len
  dsimp only
  clear h1 h0 ha
  go_enter Try.func4, Try.ntmps4
  go_wp2_with (first
    | (go_at_call 10; ((with_reducible refine HWk.out.mono ?_)); rintro e w1 ⟨rfl, hs⟩; have S1 := Lib.hid hs; clear hs)
    | (go_at_call 12; ((with_reducible refine (B0.out _).mono ?_)); rintro e wb ⟨rfl, hwb⟩; subst hwb)
    | (go_at_call 8; ((with_reducible refine (HMk.out _).mono ?_)); rintro e w2 ⟨q, rfl, hN⟩; have K2 := Lib.hid (((Held.start S1.out).new hN).drop); clear hN))
  have K3 := Lib.hid (show Held w (w2.alloc (.cells #[] 3)) ((FT q (FnM.new a)).sep (intsT (some ⟨w2.heap.size, 0, none⟩) 0 0 [])) from lit_held K2.out (l := []) (n := 0) rfl (by omega))
  obtain ⟨bb, hbb⟩ : ∃ bb, bb = w2.heap.size := ⟨_, rfl⟩
  rw [← hbb] at K3 ⊢
  clear hbb K2
  go_loopw [7, 8, 9, 10, 11] (fun hv tv lv sv i wr => ∃ (k : Nat) (h t last : Int) (ao : Option Addr) (l cc : Nat) (M : FnM) (had : List Int), k ≤ tl ∧ k ≤ 150 ∧ hv = .int .i64 h ∧ tv = .int .i64 t ∧ lv = .int .i64 last ∧ sv = .slice ao l cc ∧ i = .int .i64 k ∧ AscIn FT w wr q (a : Int) k h t last ao l cc M had) (fun _ _ _ _ i _ => tl - (intOf i).toNat)
  case atStart => exact ⟨0, 0, (a : Int), (a : Int) - 1, _, 0, 0, FnM.new a, [], Nat.zero_le _, Nat.zero_le _, rfl, rfl, by first | rfl | (simp only [IntKind.wrap_i64]; congr 1; omega), rfl, rfl, ⟨K3.out, rfl, Nat.le_refl _, HAs.out, Int.le_refl _, by omega, by omega⟩⟩
  case round =>
    clear K3 HAs B0 HMk
    obtain ⟨k, h, t, last, ao, l, cc, M, had, hk, hk1, rfl, rfl, rfl, rfl, rfl, hI⟩ := hrel
    by_cases hin : k < tl ∧ k < 150
    · obtain ⟨hlt, h150⟩ := hin
      obtain ⟨x, hx⟩ := get_some (l := tx) (i := k) (by rw [HTL.out]; exact hlt)
      obtain ⟨b, o, rfl, hc⟩ := HTX.out.row k x hx
      obtain ⟨_, hok1, hok2, hok3, _⟩ : okAct18 w x := HTX.out.each x (List.mem_of_getElem? hx)
      have hT := hI.held.ground
      obtain ⟨d, nn, hh, tt, near⟩ := x
      have c0 := still_cell hT (hc 0 _ rfl) rfl
      have c1 := still_cell hT (hc 1 _ rfl) rfl
      have c2 := still_cell hT (hc 2 _ rfl) rfl
      have c3 := still_cell hT (hc 3 _ rfl) rfl
      have c4 := still_cell hT (hc 4 _ rfl) rfl
      rw [show o + (k * 5 + 0) = o + k * 5 from rfl] at c0
      rw [← Nat.add_assoc] at c1 c2 c3 c4
      obtain ⟨B, hB⟩ : ∃ B, B = wr.heap.size := ⟨_, rfl⟩
      have HG := Lib.hid (hI.held.actIn (d := d) (nn := nn) (hh := hh) (tt := tt) (near := near) B hB)
      have hki : (k : Int) < (tl : Int) := by omega
      have HBw := Lib.hid hB
      obtain ⟨a0, a1, a2, a3⟩ := HG.out.actAt
      -- the window
      obtain ⟨ut, hut⟩ : ∃ u, u = am tt 4 := ⟨_, rfl⟩
      have hutl : ut < 4 := by rw [hut]; exact am_lt _ (by omega)
      have B4 := Lib.hid (fun W => among_lit tt 4 4 ut rfl hut (by omega) (by omega) W)
      obtain ⟨uh, huh⟩ : ∃ u, u = am hh 12 := ⟨_, rfl⟩
      have huhl : uh < 12 := by rw [huh]; exact am_lt _ (by omega)
      have B12 := Lib.hid (fun W => among_lit hh 12 12 uh rfl huh (by omega) (by omega) W)
      obtain ⟨v, hv⟩ : ∃ v, v = am d 9 := ⟨_, rfl⟩
      have hvl : v < 9 := by rw [hv]; exact am_lt _ (by omega)
      have B9 := Lib.hid (fun W => among_lit d 9 9 v rfl hv (by omega) (by omega) W)
      obtain ⟨i1, i2, i3, i4, i5, i6, i7⟩ := hI
      have HL2 := Lib.hid i2
      obtain ⟨T, hTT⟩ : ∃ T, T = t + (ut : Int) := ⟨_, rfl⟩
      obtain ⟨m1, hm1⟩ : ∃ m1, m1 = max h (T - 1 - (uh : Int)) := ⟨_, rfl⟩
      have w1 : 0 ≤ m1 ∧ m1 ≤ T ∧ T ≤ 49 + 3 * ((k + 1 : Nat) : Int) := by omega
      have hmx : (if h < T - 1 - (uh : Int) then T - 1 - (uh : Int) else h) = m1 := by rw [hm1]; split <;> omega
      have htu : t + (ut : Int) = T := hTT.symm
      obtain ⟨w2, w3, w4⟩ := w1
      have hT9 : T ≤ 600 := by omega
      obtain ⟨was, hwas⟩ : ∃ was, was = M.L.fin := ⟨_, rfl⟩
      have hw0 : 0 ≤ was ∧ was ≤ 1099511627776 := by
        have h7 := (endF_le i4.ok.led.ch).1
        have h8 := i4.ok.led.lo
        have h9 := i4.ok.led.hi
        rw [hwas]; unfold LgM.fin at h9 ⊢; omega
      have HCm := Lib.hid (fun V (hs : Held w V ((FT q M).sep ((actT B d nn hh tt near).sep (intsT ao l cc had)))) => (Held.cmdF A hs i4.ok (f := was) hwas.symm))
      have HAs := Lib.hid i4
      have HWas := Lib.hid hwas
      have hle := i3
      clear hx hc hT hok1 hok2 hok3 hB hut huh hv i1 i2 i4 hTT hm1 hwas
      rw [HBw.out] at a0 a1 a2 a3
      go_upto_block 2 with (first
        | (go_at_call 12; ((with_reducible refine (B4.out _).mono ?_)); rintro e wb ⟨rfl, hwb⟩; subst hwb)
        | (go_at_call 12; ((with_reducible refine (B12.out _).mono ?_)); rintro e wb ⟨rfl, hwb⟩; subst hwb)
        | (go_at_call 12; ((with_reducible refine (B9.out _).mono ?_)); rintro e wb ⟨rfl, hwb⟩; subst hwb)
        | (go_at_call 23; ((with_reducible refine (HCm.out _ HG.out).mono ?_)); rintro e wc ⟨rfl, hs⟩; have HC := Lib.hid (HG.out.still hs); obtain ⟨b0, b1, b2, b3⟩ := HC.out.actAt; rw [HBw.out] at b0 b1 b2 b3; clear hs))
      have HG := HC
      clear HC HCm B4 B12 B9 hmx htu c0 c1 c2 c3 c4 a0 a1 a2 a3
      go_cut [9, 10] (fun s9 s10 wx => AscMid FT w q (a : Int) k m1 T was s9 s10 wx)
      case first =>
        obtain ⟨un, hun⟩ : ∃ u, u = am nn 3 := ⟨_, rfl⟩
        have hunl : un < 3 := by rw [hun]; exact am_lt _ (by omega)
        have B3 := Lib.hid (fun W => among_lit nn 3 3 un rfl hun (by omega) (by omega) W)
        obtain ⟨us, hus⟩ : ∃ u, u = am nn 5 := ⟨_, rfl⟩
        have husl : us < 5 := by rw [hus]; exact am_lt _ (by omega)
        have B5 := Lib.hid (fun W => among_lit nn 5 5 us rfl hus (by omega) (by omega) W)
        have hok := HAs.out.ok
        have hok1 := hok.lo
        have hok2 := hok.hi
        rw [← HWas.out] at hok1
        have HT9 := Lib.hid (show T ≤ 49 + 3 * ((k + 1 : Nat) : Int) from by omega)
        clear hun hus hok
        rcases (show (v = 0 ∨ v = 1 ∨ v = 2 ∨ v = 3 ∨ v = 8) ∨ (v = 4 ∨ v = 5) ∨ v = 6 ∨ v = 7 by omega) with hv | hv | rfl | rfl
        · by_cases he : M.delE m1 T = 0
          · obtain ⟨d1, d2, d3, d4, d5⟩ := HAs.out.del he
            obtain ⟨kk, hkk⟩ : ∃ kk, kk = M.delV m1 T := ⟨_, rfl⟩
            have HD := Lib.hid (Held.delF A HG.out HAs.out.ok (h := m1) (t := T) (v := kk) (r := 0) (by omega) (by omega) (by omega) (by omega) hkk.symm he rfl)
            rw [← hkk] at d1 d2 d3 d4
            rw [← HWas.out] at d5
            generalize M.del m1 T = M' at *
            have D1 := Lib.hid d1
            have D5 := Lib.hid d5
            have n1 : ¬ kk ≤ last := by omega
            have n2 : ¬ kk < m1 := by omega
            have n3 : ¬ T ≤ kk := by omega
            clear d1 d5 hkk he HAs HWas
            rcases hv with rfl | rfl | rfl | rfl | rfl
            all_goals (as_aux_lemma =>
              go_wp2_with (first
                | (go_at_call 13; ((with_reducible refine HD.out.mono ?_)); rintro e w5 ⟨rfl, h5⟩; have HO := Lib.hid h5.assoc'; clear h5)
                | (at_builtin; refine wpList_append_own_at _ rfl (.tmp 96) (.tmp 98) 44 rfl 0 3 i0 (.int .i64 0) 1 8 Try.underlying44 hi hz0 hz1 hz2 rfl (by decide) (.slice ao l cc) l (ints had) rfl (ow_still HO.out.own ((Turned.refl _ _).alloc _)) ⟨w5.heap.size, 0, none⟩ 1 1 [.int .i64 kk] rfl rfl (ow_cells w5 _ _) (ow_ints rfl) (by unfold maxLen; omega) (by omega) (Nat.zero_le _) ?_; intro v8 w8 hown8 hg8 _ hat8; obtain ⟨a8, c8, rfl⟩ := ow_slice hown8; have HH8 := Lib.hid (HO.out.grown hown8 hg8 hat8); clear hown8 hg8 hat8))
              go_meet
              exact ⟨kk, a8, l + 1, c8, M', had ++ [kk], rfl, rfl, D5.out, ⟨by have h := HH8.out.assoc.actOut; show Held w w8 ((FT q M').sep (ownT 3 1 a8 (l + 1) c8 (ints (had ++ [kk])))); rw [show ints (had ++ [kk]) = ints had ++ [.int .i64 kk] by simp [ints]]; exact h, by rw [List.length_append, ← HL2.out]; rfl, by omega, D1.out, w2, w3, HT9.out⟩⟩)
          · obtain ⟨d1, d2⟩ := HAs.out.del_no (by omega) w2 w3 (by omega) he
            obtain ⟨kk, hkk⟩ : ∃ kk, kk = M.delV m1 T := ⟨_, rfl⟩
            have HD := Lib.hid (Held.delF A HG.out HAs.out.ok (h := m1) (t := T) (v := kk) (r := 5) (M' := M) (by omega) (by omega) (by omega) (by omega) hkk.symm d1 d2)
            clear d1 d2 hkk he
            rcases hv with rfl | rfl | rfl | rfl | rfl
            all_goals (as_aux_lemma =>
              go_wp2_with (go_at_call 13; ((with_reducible refine HD.out.mono ?_)); rintro e w5 ⟨rfl, h5⟩; have HO := Lib.hid h5; clear h5)
              go_meet
              exact ⟨last, ao, l, cc, M, had, rfl, rfl, by rw [HWas.out]; exact Int.le_refl _, ⟨HO.out.actOut, HL2.out, by omega, HAs.out.no, w2, w3, HT9.out⟩⟩)
        · obtain ⟨x, hx⟩ : ∃ x : Int, x = was + 1 + (un : Int) := ⟨_, rfl⟩
          have hx2 : was + 1 + (un : Int) = x := hx.symm
          have hxb : 0 ≤ x ∧ x ≤ 1099511627800 := by omega
          by_cases he : M.comE x = 0
          · obtain ⟨d1, d2, d3, d4, d5⟩ := HAs.out.com he
            have HD := Lib.hid (Held.comF A HG.out HAs.out.ok (x := x) (r := 0) (by omega) (by omega) he rfl)
            rw [← HWas.out] at d2
            generalize M.com x = M' at *
            have D1 := Lib.hid d1
            have D2 := Lib.hid d2
            have D3 := Lib.hid (show was ≤ M'.L.fin from by omega)
            have hwx : was < x := by omega
            clear d1 d2 d3 d4 d5 he hx HAs HWas
            rcases hv with rfl | rfl
            all_goals (as_aux_lemma =>
              go_wp2_with (first
                | (go_at_call 12; ((with_reducible refine (B3.out _).mono ?_)); rintro e wb ⟨rfl, hwb⟩; subst hwb)
                | (go_at_call 15; ((with_reducible refine HD.out.mono ?_)); rintro e w5 ⟨rfl, h5⟩; have HO := Lib.hid h5; clear h5))
              go_loopw [16] (fun s wq => ∃ y : Int, s = .int .i64 y ∧ was ≤ y ∧ y ≤ x ∧ wq = w5) (fun s _ => (x - intOf s).toNat)
              case atStart => exact ⟨was, rfl, Int.le_refl _, Int.le_of_lt hwx, rfl⟩
              case round =>
                obtain ⟨y, rfl, hy1, hy2, rfl⟩ := hrel
                by_cases hyx : y < x
                · have HI := Lib.hid (hasI_any wr ao had l cc y HL2.out (by omega) (ints_at HO.out.snd.snd HL2.out))
                  rw [decide_eq_true (D2.out y hy1 hyx)] at HI
                  go_wp2_with (go_at_call 24; ((with_reducible refine HI.out.mono ?_)); rintro e wb ⟨rfl, rfl⟩)
                  go_roundw
                  case rel => exact ⟨y + 1, rfl, by omega, by omega, trivial⟩
                  case measure => simp [intOf]; omega
                · go_wp2_with fail
                  go_meet
                  exact ⟨last, ao, l, cc, M', had, rfl, rfl, D3.out, ⟨HO.out.actOut, HL2.out, by omega, D1.out, w2, w3, HT9.out⟩⟩)
          · have hm := HAs.out.com_no he
            obtain ⟨r, hr⟩ : ∃ r, r = M.comE x := ⟨_, rfl⟩
            have hrb : (r == 0) = false := by rw [hr]; simpa using he
            have HD := Lib.hid (Held.comF A HG.out HAs.out.ok (x := x) (r := r) (M' := M) (by omega) (by omega) hr.symm hm)
            clear he hm hr hx
            rcases hv with rfl | rfl
            all_goals (as_aux_lemma =>
              go_wp2_with (first
                | (go_at_call 12; ((with_reducible refine (B3.out _).mono ?_)); rintro e wb ⟨rfl, hwb⟩; subst hwb)
                | (go_at_call 15; ((with_reducible refine HD.out.mono ?_)); rintro e w5 ⟨rfl, h5⟩; have HO := Lib.hid h5; clear h5))
              go_meet
              exact ⟨last, ao, l, cc, M, had, rfl, rfl, by rw [HWas.out]; exact Int.le_refl _, ⟨HO.out.actOut, HL2.out, by omega, HAs.out.no, w2, w3, HT9.out⟩⟩)
        · obtain ⟨x, hx⟩ : ∃ x : Int, x = was + (us : Int) := ⟨_, rfl⟩
          have hx2 : was + (us : Int) = x := hx.symm
          have hxb : 0 ≤ x ∧ x ≤ 1099511627800 := by omega
          by_cases he : M.seekE x m1 T = 0
          · have d1 := HAs.out.seek he
            obtain ⟨c1, c2, c3, c4⟩ := seek_is HAs.out.ok he
            have HD := Lib.hid (Held.seekF A HG.out HAs.out.ok (x := x) (h := m1) (t := T) (r := 0) (by omega) (by omega) (by omega) (by omega) (by omega) (by omega) he rfl)
            rw [← HWas.out] at c3
            generalize M.seek x m1 T = M' at *
            obtain ⟨N, hN⟩ : ∃ N, N = M'.N := ⟨_, rfl⟩
            have hNb := d1.ok.hi
            have hNl : 0 ≤ N := by omega
            rw [← hN] at d1 hNb
            have HNx := Lib.hid (fun V (H : Held w V ((FT q M').sep ((actT B d nn hh tt near).sep (intsT ao l cc had)))) => Held.nextF A H c1 (f := N) hN.symm)
            have D1 := Lib.hid d1
            have D3 := Lib.hid c3
            clear d1 c1 c2 c3 c4 hN he hx HAs HWas
            as_aux_lemma =>
              go_wp2_with (first
                | (go_at_call 12; ((with_reducible refine (B5.out _).mono ?_)); rintro e wb ⟨rfl, hwb⟩; subst hwb)
                | (go_at_call 17; ((with_reducible refine HD.out.mono ?_)); rintro e w5 ⟨rfl, h5⟩; have HO := Lib.hid h5; clear h5)
                | (go_at_call 25; ((with_reducible refine (HNx.out _ HO.out).mono ?_)); rintro e w6 ⟨rfl, hs⟩; have HO6 := Lib.hid (HO.out.still hs); clear hs))
              go_meet
              exact ⟨N - 1, ao, l, cc, M', had, rfl, rfl, D3.out, ⟨HO6.out.actOut, HL2.out, by omega, D1.out, w2, w3, HT9.out⟩⟩
          · have hm := HAs.out.seek_no he
            obtain ⟨r, hr⟩ : ∃ r, r = M.seekE x m1 T := ⟨_, rfl⟩
            have hrb : (r == 0) = false := by rw [hr]; simpa using he
            have HD := Lib.hid (Held.seekF A HG.out HAs.out.ok (x := x) (h := m1) (t := T) (r := r) (M' := M) (by omega) (by omega) (by omega) (by omega) (by omega) (by omega) hr.symm hm)
            clear he hm hr hx
            as_aux_lemma =>
              go_wp2_with (first
                | (go_at_call 12; ((with_reducible refine (B5.out _).mono ?_)); rintro e wb ⟨rfl, hwb⟩; subst hwb)
                | (go_at_call 17; ((with_reducible refine HD.out.mono ?_)); rintro e w5 ⟨rfl, h5⟩; have HO := Lib.hid h5; clear h5))
              go_meet
              exact ⟨last, ao, l, cc, M, had, rfl, rfl, by rw [HWas.out]; exact Int.le_refl _, ⟨HO.out.actOut, HL2.out, by omega, HAs.out.no, w2, w3, HT9.out⟩⟩
        · have d1 := HAs.out.back
          have HD := Lib.hid (Held.backF A HG.out HAs.out.ok)
          have HNx := Lib.hid (fun V (H : Held w V ((FT q M.back).sep ((actT B d nn hh tt near).sep (intsT ao l cc had)))) => Held.nextF A H d1.ok (f := was) HWas.out.symm)
          rw [← HWas.out] at d1
          have D1 := Lib.hid d1
          have D3 := Lib.hid (show was ≤ M.back.L.fin from by rw [HWas.out]; exact Int.le_refl _)
          clear d1 HAs HWas
          as_aux_lemma =>
            go_wp2_with (first
              | (go_at_call 19; ((with_reducible refine HD.out.mono ?_)); rintro e w5 ⟨rfl, h5⟩; have HO := Lib.hid h5; clear h5)
              | (go_at_call 25; ((with_reducible refine (HNx.out _ HO.out).mono ?_)); rintro e w6 ⟨rfl, hs⟩; have HO := Lib.hid (HO.out.still hs); clear hs))
            go_meet
            exact ⟨was - 1, ao, l, cc, M.back, had, rfl, rfl, D3.out, ⟨HO.out.actOut, HL2.out, by omega, D1.out, w2, w3, HT9.out⟩⟩
      case rest =>
        obtain ⟨last', ao', l', cc', M', had', rfl, rfl, hfw, hI'⟩ := hcut
        obtain ⟨f', hf'⟩ : ∃ f', f' = M'.L.fin := ⟨_, rfl⟩
        obtain ⟨N', hN'⟩ : ∃ N', N' = M'.N := ⟨_, rfl⟩
        have hlo := hI'.asc.ok.lo
        rw [← hf', ← hN'] at hlo
        rw [← hf'] at hfw
        have HCm := Lib.hid (fun V (hs : Held w V ((FT q M').sep (intsT ao' l' cc' had'))) => (Held.cmdF A hs hI'.asc.ok (f := f') hf'.symm))
        have HNx := Lib.hid (fun V (hs : Held w V ((FT q M').sep (intsT ao' l' cc' had'))) => (Held.nextF A hs hI'.asc.ok (f := N') hN'.symm))
        have HO := Lib.hid hI'.held
        have HI' := Lib.hid hI'
        have n1 : ¬ f' < was := by omega
        have n2 : ¬ N' < f' := by omega
        clear hf' hN' hlo hfw hI' HG HAs HWas
        go_wp2_with (first
          | (go_at_call 23; ((with_reducible refine (HCm.out _ HO.out).mono ?_)); rintro e wc ⟨rfl, hs⟩; have HO := Lib.hid (HO.out.still hs); clear hs)
          | (go_at_call 25; ((with_reducible refine (HNx.out _ HO.out).mono ?_)); rintro e wc ⟨rfl, hs⟩; have HO := Lib.hid (HO.out.still hs); clear hs))
        go_roundw
        case rel => exact ⟨k + 1, m1, T, last', ao', l', cc', M', had', by omega, by omega, rfl, rfl, rfl, rfl, by go_num, { HI'.out with held := HO.out }⟩
        case measure => simp [intOf]; omega
    · have HGr := Lib.hid hI.held.ground
      clear hI
      have hend : ((k : Int) < (tl : Int) ∧ ¬ (k : Int) < 150) ∨ ¬ (k : Int) < (tl : Int) := by omega
      clear hin
      rcases hend with ⟨e1, e2⟩ | e1
      all_goals (
        go_wp2_with fail
        go_ret
        exact ⟨rfl, HGr.out⟩)
end Go.Proofs.Ytdlkdagmaeapdaa
