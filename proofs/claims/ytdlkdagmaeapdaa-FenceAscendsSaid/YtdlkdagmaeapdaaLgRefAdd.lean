/- What Add of the document's ledger does (Accept, Skip). No condition but that it is one. -/
import Derived.Test.YtdlkdagmaeapdaaLgRefDo
namespace Go.Proofs.Ytdlkdagmaeapdaa
open Go.RowKit
set_option linter.unusedVariables false
set_option linter.unusedSimpArgs false
set_option maxRecDepth 100000

theorem infoBool14 : (Try.prog.info? 4).map (fun i => (i.zero, i.size, i.bytes)) = some (some (.bool false), 1, 1) := by kernel_rfl
section
variable {q : Nat} {a a2 a6 a8 : Option Addr} {c c2 c6 c8 n : Nat} {M : LgM} {w V V2 w6 w8 : World} {W : Nat → Prop}
theorem kindsV_set {l' : List Pc} {x : Pc} (tt : Int) : kindsV (l' ++ [(x.1, tt, x.2.2)]) = kindsV (l' ++ [x]) := by simp [kindsV]
theorem set_last (l' : List Pc) (x y : Pc) : (l' ++ [x]).set l'.length y = l' ++ [y] := by simp
/-- The last span ends elsewhere. -/
theorem zl_last {l' : List Pc} {x : Pc} {g : Nat} {tt : Int} (hl : M.L = l' ++ [x]) (hn : n = M.L.length) (H : Sit W w V (zlT q (some ⟨g, 0, none⟩) c a2 c2 n M)) :
    V.cell? ⟨g, l'.length * 2 + 1, none⟩ = some (.int .i64 x.2.1) ∧ V.frozen? ⟨g, l'.length * 2 + 1, none⟩ = false ∧ Hid (Goes (zLT q ⟨M.b, setTo M.L tt⟩) W w (V.setCell ⟨g, l'.length * 2 + 1, none⟩ (.int .i64 tt))) := by
  have hx : M.L[l'.length]? = some x := by rw [hl]; simp
  obtain ⟨h1, h2, h3⟩ := sit_put H (rowOf_get encSp_len hx (j := 1) (v := .int .i64 x.2.1) rfl) (.int .i64 tt)
  refine ⟨h1, h2, Lib.hid ((h3.out.goes).turn (fun h => ⟨some ⟨g, 0, none⟩, c, a2, c2, ?_⟩))⟩
  have hrow := rowOf_set encSp_len hx (j := 1) (v := .int .i64 tt) (b := (x.1, tt, x.2.2)) (by omega) rfl
  rw [hrow] at h
  have e1 : setTo M.L tt = M.L.set l'.length (x.1, tt, x.2.2) := by rw [hl, setTo_app, set_last]
  show (zlT q (some ⟨g, 0, none⟩) c a2 c2 (setTo M.L tt).length ⟨M.b, setTo M.L tt⟩).at_ _ _
  have e2 : kindsV (M.L.set l'.length (x.1, tt, x.2.2)) = kindsV M.L := by rw [hl, set_last, kindsV_set]
  have e3 : (M.L.set l'.length (x.1, tt, x.2.2)).length = n := by rw [List.length_set]; exact hn.symm
  unfold zlT
  rw [e1, e3]
  dsimp only
  rw [e2]
  exact h
/-- One span more: first the spans' row, then the kinds'. -/
theorem zl_more1 {o : Obj} {f tt : Int} (H : Sit W w V (zlT q a c a2 c2 n M)) (hown : w6.ownsRow 0 51 2 (.slice a6 (n + 1) c6) (n + 1) (rowOf encSp M.L ++ [.int .i64 f, .int .i64 tt]))
    (hg : (V.alloc o).grownBy w6 (Value.slice a n c).ownBlock) (hat : (Value.slice a6 (n + 1) c6).ownBlock = (Value.slice a n c).ownBlock ∨ (Value.slice a6 (n + 1) c6).ownBlock = some (V.alloc o).heap.size) :
    w6.cell? ⟨q, 1, none⟩ = some (.slice a n c) ∧ w6.frozen? ⟨q, 1, none⟩ = false ∧
    Hid (Sit W w (w6.setCell ⟨q, 1, none⟩ (.slice a6 (n + 1) c6)) ((blkT q [.int .i64 M.b, .slice a6 (n + 1) c6, .slice a2 n c2] 79).sep ((ownT 4 1 a2 n c2 (kindsV M.L)).sep (ownT 51 2 a6 (n + 1) c6 (rowOf encSp M.L ++ [.int .i64 f, .int .i64 tt]))))) := by
  obtain ⟨h1, h2, h3⟩ := sit_app (i := 1) H rfl hown hg hat
  exact ⟨h1, h2, Lib.hid (h3.out.imp (fun h => sep_imp2 (fun h => h) (fun h => sep_swap h) h))⟩
theorem zl_more2 {o : Obj} {f tt : Int} {k : Bool} (hn : n = M.L.length) (H : Sit W w V ((blkT q [.int .i64 M.b, .slice a6 (n + 1) c6, .slice a2 n c2] 79).sep ((ownT 4 1 a2 n c2 (kindsV M.L)).sep (ownT 51 2 a6 (n + 1) c6 (rowOf encSp M.L ++ [.int .i64 f, .int .i64 tt])))))
    (hown : w8.ownsRow 0 4 1 (.slice a8 (n + 1) c8) (n + 1) (kindsV M.L ++ [.bool k])) (hg : (V.alloc o).grownBy w8 (Value.slice a2 n c2).ownBlock) (hat : (Value.slice a8 (n + 1) c8).ownBlock = (Value.slice a2 n c2).ownBlock ∨ (Value.slice a8 (n + 1) c8).ownBlock = some (V.alloc o).heap.size) :
    w8.cell? ⟨q, 2, none⟩ = some (.slice a2 n c2) ∧ w8.frozen? ⟨q, 2, none⟩ = false ∧ Hid (Goes (zLT q ⟨M.b, M.L ++ [(f, tt, k)]⟩) W w (w8.setCell ⟨q, 2, none⟩ (.slice a8 (n + 1) c8))) := by
  obtain ⟨h1, h2, h3⟩ := sit_app (i := 2) H rfl hown hg hat
  refine ⟨h1, h2, Lib.hid ((h3.out.goes).turn (fun h => ⟨a6, c6, a8, c8, ?_⟩))⟩
  have e1 : (M.L ++ [(f, tt, k)]).length = n + 1 := by rw [List.length_append, ← hn]; rfl
  have e2 : rowOf encSp (M.L ++ [(f, tt, k)]) = rowOf encSp M.L ++ [.int .i64 f, .int .i64 tt] := by rw [rowOf_append, rowOf_cons, rowOf_nil, List.append_nil]; rfl
  have e3 : kindsV (M.L ++ [(f, tt, k)]) = kindsV M.L ++ [.bool k] := by simp [kindsV]
  show (zlT q a6 c6 a8 c8 (M.L ++ [(f, tt, k)]).length ⟨M.b, M.L ++ [(f, tt, k)]⟩).at_ _ _
  unfold zlT
  dsimp only
  rw [e1, e2, e3]
  exact sep_imp2 (fun h => h) (fun h => sep_swap h) h

set_option maxHeartbeats 2000000 in
theorem zlgadd_any (h : (zLT q M).at_ w W) (hM : M.Ok) (tt : Int) (kd : Bool) :
    Calls Try.prog 46 #[.pointer (some ⟨q, 0, none⟩), .int .i64 tt, .bool kd] w fun e w' => e = .returned (.int .i64 (addE M tt kd)) ∧ Goes (zLT q (M.add tt kd)) W w w' := by
  have HEn := Lib.hid (zlgend_any h hM)
  have HS := Lib.hid (fun V (hs : Still w V) => Goes.still h hs)
  obtain ⟨a, c, a2, c2, h⟩ := h
  obtain ⟨n, hn⟩ : ∃ n, n = M.L.length := ⟨_, rfl⟩
  rw [← hn] at h
  have HRd := Lib.hid (fun V (hs : Still w V) => (zlT_rd hn h).still hs)
  have HSit := Lib.hid (fun V (hs : Still w V) => (Sit.start h).still hs)
  have hn256 : n ≤ 256 := by have := hM.len; omega
  unfold LgM.add addL
  by_cases hto : tt ≤ M.fin ∨ 1099511627776 < tt
  · have he : addE M tt kd = 2 := by unfold addE; rw [if_pos hto]
    rw [he, if_pos (by omega)]
    generalize M.fin = f at *
    clear hM hn h HRd HSit he
    by_cases h1 : tt ≤ f
    · clear hto
      go_enter Try.func46, Try.ntmps46
      go_wp2_with (go_at_call 11; ((with_reducible refine HEn.out.mono ?_)); rintro e w1 ⟨rfl, hs1⟩; have HS1 := Lib.hid hs1; clear hs1)
      go_ret
      exact ⟨rfl, HS.out _ HS1.out⟩
    · have h2 : 1099511627776 < tt := by omega
      clear hto
      go_enter Try.func46, Try.ntmps46
      go_wp2_with (go_at_call 11; ((with_reducible refine HEn.out.mono ?_)); rintro e w1 ⟨rfl, hs1⟩; have HS1 := Lib.hid hs1; clear hs1)
      go_ret
      exact ⟨rfl, HS.out _ HS1.out⟩
  · have h1 : ¬ tt ≤ M.fin := fun h => hto (.inl h)
    have h2 : ¬ 1099511627776 < tt := fun h => hto (.inr h)
    by_cases hk : lastK none M.L = some kd
    · have he : addE M tt kd = 0 := by unfold addE; rw [if_neg hto, if_pos hk]
      rw [he, if_neg (by omega), if_pos hk]
      obtain ⟨l', x, hl, hx⟩ := lastK_split hk
      have hnl : n = l'.length + 1 := by rw [hn, hl]; simp
      have HX := Lib.hid (fun V (hs : Still w V) => show ∃ g g2, a = some ⟨g, 0, none⟩ ∧ a2 = some ⟨g2, 0, none⟩ ∧ V.cell? ⟨g2, l'.length, none⟩ = some (.bool kd) ∧ V.cell? ⟨g, l'.length * 2 + 1, none⟩ = some (.int .i64 x.2.1) ∧ V.frozen? ⟨g, l'.length * 2 + 1, none⟩ = false ∧ Hid (Goes (zLT q ⟨M.b, setTo M.L tt⟩) W w (V.setCell ⟨g, l'.length * 2 + 1, none⟩ (.int .i64 tt))) from by
        obtain ⟨g, g2, rfl, rfl, _, _, y2⟩ := (HRd.out V hs).row l'.length x (by rw [hl]; simp)
        obtain ⟨z1, z2, z3⟩ := zl_last (tt := tt) hl hn (HSit.out V hs)
        exact ⟨g, g2, rfl, rfl, by rw [← hx]; exact y2, z1, z2, z3⟩)
      have HC := Lib.hid (fun V (hs : Still w V) => (⟨(HRd.out V hs).c1, (HRd.out V hs).c2⟩ : V.cell? ⟨q, 1, none⟩ = some (.slice a n c) ∧ V.cell? ⟨q, 2, none⟩ = some (.slice a2 n c2)))
      generalize M.fin = f at *
      generalize l'.length = i at *
      subst hnl
      have hi0 : (0 : Int) < ((i + 1 : Nat) : Int) := by omega
      clear hM h HRd HSit he hto hl hk hn hx HS
      go_enter Try.func46, Try.ntmps46
      go_wp2_with (go_at_call 11; ((with_reducible refine HEn.out.mono ?_)); rintro e w1 ⟨rfl, hs1⟩; obtain ⟨c1, c3⟩ := HC.out w1 hs1; obtain ⟨g, g2, rfl, rfl, y0, y1, y2, y3⟩ := HX.out w1 hs1; clear hs1)
      go_ret
      exact ⟨rfl, y3.out⟩
    · by_cases hfull : 256 ≤ M.L.length
      · have he : addE M tt kd = 4 := by unfold addE; rw [if_neg hto, if_neg hk, if_pos hfull]
        rw [he, if_pos (by omega)]
        have hne : M.L ≠ [] := by intro h0; rw [h0] at hfull; simp at hfull
        obtain ⟨l', x, hl⟩ := last_split hne
        have hnl : n = l'.length + 1 := by rw [hn, hl]; simp
        have hx : (x.2.2 == kd) = false := by
          rw [beq_eq_false_iff_ne]
          intro hx
          apply hk
          rw [hl, lastK_app, ← hx]; rfl
        have HX := Lib.hid (fun V (hs : Still w V) => show ∃ g g2, a = some ⟨g, 0, none⟩ ∧ a2 = some ⟨g2, 0, none⟩ ∧ V.cell? ⟨g2, l'.length, none⟩ = some (.bool x.2.2) from by
          obtain ⟨g, g2, rfl, rfl, _, _, y2⟩ := (HRd.out V hs).row l'.length x (by rw [hl]; simp)
          exact ⟨g, g2, rfl, rfl, y2⟩)
        have HC := Lib.hid (fun V (hs : Still w V) => (⟨(HRd.out V hs).c1, (HRd.out V hs).c2⟩ : V.cell? ⟨q, 1, none⟩ = some (.slice a n c) ∧ V.cell? ⟨q, 2, none⟩ = some (.slice a2 n c2)))
        have hfi : (256 : Int) ≤ (n : Int) := by omega
        generalize M.fin = f at *
        generalize l'.length = i at *
        generalize x.2.2 = xk at *
        subst hnl
        have hi0 : (0 : Int) < ((i + 1 : Nat) : Int) := by omega
        clear hM h HRd HSit he hto hl hk hn hfull hne
        go_enter Try.func46, Try.ntmps46
        go_wp2_with (go_at_call 11; ((with_reducible refine HEn.out.mono ?_)); rintro e w1 ⟨rfl, hs1⟩; have HS1 := Lib.hid hs1; obtain ⟨c1, c3⟩ := HC.out w1 hs1; obtain ⟨g, g2, rfl, rfl, y0⟩ := HX.out w1 hs1; clear hs1)
        go_ret
        exact ⟨rfl, HS.out _ HS1.out⟩
      · have he : addE M tt kd = 0 := by unfold addE; rw [if_neg hto, if_neg hk, if_neg hfull]
        rw [he, if_neg (by omega), if_neg hk]
        have hG : M.L = [] ∨ ∃ l' x, M.L = l' ++ [x] ∧ (x.2.2 == kd) = false := by
          by_cases h0 : M.L = []
          · exact .inl h0
          · obtain ⟨l', x, hl⟩ := last_split h0
            refine .inr ⟨l', x, hl, ?_⟩
            rw [beq_eq_false_iff_ne]
            intro hx
            apply hk
            rw [hl, lastK_app, ← hx]; rfl
        have HX := Lib.hid (show n = 0 ∨ ∃ i xk, n = i + 1 ∧ (xk == kd) = false ∧ ∀ V, Still w V → ∃ g2, a2 = some ⟨g2, 0, none⟩ ∧ V.cell? ⟨g2, i, none⟩ = some (.bool xk) from by
          rcases hG with h0 | ⟨l', x, hl, hx⟩
          · exact .inl (by rw [hn, h0]; rfl)
          · refine .inr ⟨l'.length, x.2.2, by rw [hn, hl]; simp, hx, fun V hs => ?_⟩
            obtain ⟨g, g2, _, e2, _, _, y2⟩ := (HRd.out V hs).row l'.length x (by rw [hl]; simp)
            exact ⟨g2, e2, y2⟩)
        have HC := Lib.hid (fun V (hs : Still w V) => (⟨(HRd.out V hs).c1, (HRd.out V hs).c2⟩ : V.cell? ⟨q, 1, none⟩ = some (.slice a n c) ∧ V.cell? ⟨q, 2, none⟩ = some (.slice a2 n c2)))
        have HR1 := Lib.hid (fun V (hs : Still w V) => show V.ownsRow 0 51 2 (.slice a n c) n (rowOf encSp M.L) from by
          obtain ⟨_, h1, _⟩ := (HSit.out V hs).turn.fst
          exact h1.1)
        have HM1 := Lib.hid (fun (V w6 : World) (o : Obj) (a6 : Option Addr) (c6 : Nat) (hs : Still w V) hown hg hat => zl_more1 (w6 := w6) (o := o) (a6 := a6) (c6 := c6) (f := M.fin) (tt := tt) (HSit.out V hs) hown hg hat)
        have HM2 := Lib.hid (fun (V w8 : World) (o : Obj) (a6 a8 : Option Addr) (c6 c8 : Nat) H hown hg hat => zl_more2 (q := q) (a2 := a2) (c2 := c2) (V := V) (w8 := w8) (o := o) (a6 := a6) (c6 := c6) (a8 := a8) (c8 := c8) (f := M.fin) (tt := tt) (k := kd) (W := W) (w := w) hn H hown hg hat)
        have HR2 := Lib.hid (fun (V : World) (a6 : Option Addr) (c6 : Nat) (H : Sit W w V ((blkT q [.int .i64 M.b, .slice a6 (n + 1) c6, .slice a2 n c2] 79).sep ((ownT 4 1 a2 n c2 (kindsV M.L)).sep (ownT 51 2 a6 (n + 1) c6 (rowOf encSp M.L ++ [.int .i64 M.fin, .int .i64 tt]))))) =>
          show V.cell? ⟨q, 2, none⟩ = some (.slice a2 n c2) ∧ V.ownsRow 0 4 1 (.slice a2 n c2) n (kindsV M.L) from by
            obtain ⟨_, h1, _⟩ := H.turn.fst
            obtain ⟨_, h2, _⟩ := H.fst
            exact ⟨h2.1.cell rfl, h1.1⟩)
        have hlt : (n : Int) < 256 := by omega
        obtain ⟨i0, hi, hz0, hz1, hz2⟩ := info_parts infoSpan
        obtain ⟨j0, ji, jz0, jz1, jz2⟩ := info_parts infoBool14
        generalize M.fin = f at *
        clear hM h HRd HSit he hto hk hn hfull hG HS
        rcases HX.out with h0 | ⟨i, xk, hni, hxk, HY⟩
        · clear HX
          subst h0
          go_enter Try.func46, Try.ntmps46
          go_wp2_with (first
            | (go_at_call 11; ((with_reducible refine HEn.out.mono ?_)); rintro e w1 ⟨rfl, hs1⟩; have HS1 := Lib.hid hs1; obtain ⟨c1, c3⟩ := HC.out w1 hs1; have HO1 := Lib.hid (HR1.out w1 hs1); clear hs1)
            | (at_builtin; refine wpList_append_own_at _ rfl _ _ 48 rfl 0 51 i0 (.agg #[.int .i64 0, .int .i64 0]) 2 16 Try.underlying48 hi hz0 hz1 hz2 rfl (by decide) (.slice a 0 c) 0 (rowOf encSp M.L) rfl (ow_still HO1.out ((Turned.refl _ _).alloc _)) ⟨w1.heap.size, 0, none⟩ 1 1 [.int .i64 f, .int .i64 tt] rfl rfl (ow_cells w1 _ _) (by intro u hu; simp at hu; rcases hu with rfl | rfl <;> rfl) (by unfold maxLen; omega) (by omega) (Nat.zero_le _) ?_; intro v6 w6 hown6 hg6 _ hat6; obtain ⟨a6, c6, rfl⟩ := ow_slice hown6; obtain ⟨z1, z2, HZ6⟩ := HM1.out w1 w6 _ a6 c6 HS1.out hown6 hg6 hat6; obtain ⟨z3, z4⟩ := HR2.out _ a6 c6 HZ6.out; have HO7 := Lib.hid z4; clear hown6 hg6 hat6 z4)
            | (at_builtin; refine wpList_append_own_at _ rfl _ _ 77 rfl 0 4 j0 (.bool false) 1 1 Try.underlying77 ji jz0 jz1 jz2 rfl (by decide) (.slice a2 0 c2) 0 (kindsV M.L) rfl (ow_still HO7.out ((Turned.refl _ _).alloc _)) ⟨w6.heap.size, 0, none⟩ 1 1 [.bool kd] rfl rfl (by intro j u hj; have := ow_cells (w6.setCell ⟨q, 1, none⟩ (.slice a6 (0 + 1) c6)) [.bool kd] 4 j u hj; simpa [World.setCell] using this) (by intro u hu; simp at hu; subst hu; rfl) (by unfold maxLen; omega) (by omega) (Nat.zero_le _) ?_; intro v8 w8 hown8 hg8 _ hat8; obtain ⟨a8, c8, rfl⟩ := ow_slice hown8; obtain ⟨z5, z6, HZ8⟩ := HM2.out _ w8 _ a6 a8 c6 c8 HZ6.out hown8 hg8 hat8; clear hown8 hg8 hat8))
          go_ret
          exact ⟨rfl, HZ8.out⟩
        · subst hni
          have hi0 : (0 : Int) < ((i + 1 : Nat) : Int) := by omega
          clear HX
          have HY := Lib.hid HY
          go_enter Try.func46, Try.ntmps46
          go_wp2_with (first
            | (go_at_call 11; ((with_reducible refine HEn.out.mono ?_)); rintro e w1 ⟨rfl, hs1⟩; have HS1 := Lib.hid hs1; obtain ⟨c1, c3⟩ := HC.out w1 hs1; have HO1 := Lib.hid (HR1.out w1 hs1); obtain ⟨g2, rfl, y0⟩ := HY.out w1 hs1; clear hs1)
            | (at_builtin; refine wpList_append_own_at _ rfl _ _ 48 rfl 0 51 i0 (.agg #[.int .i64 0, .int .i64 0]) 2 16 Try.underlying48 hi hz0 hz1 hz2 rfl (by decide) (.slice a (i + 1) c) (i + 1) (rowOf encSp M.L) rfl (ow_still HO1.out ((Turned.refl _ _).alloc _)) ⟨w1.heap.size, 0, none⟩ 1 1 [.int .i64 f, .int .i64 tt] rfl rfl (ow_cells w1 _ _) (by intro u hu; simp at hu; rcases hu with rfl | rfl <;> rfl) (by unfold maxLen; omega) (by omega) (Nat.zero_le _) ?_; intro v6 w6 hown6 hg6 _ hat6; obtain ⟨a6, c6, rfl⟩ := ow_slice hown6; obtain ⟨z1, z2, HZ6⟩ := HM1.out w1 w6 _ a6 c6 HS1.out hown6 hg6 hat6; obtain ⟨z3, z4⟩ := HR2.out _ a6 c6 HZ6.out; have HO7 := Lib.hid z4; clear hown6 hg6 hat6 z4)
            | (at_builtin; refine wpList_append_own_at _ rfl _ _ 77 rfl 0 4 j0 (.bool false) 1 1 Try.underlying77 ji jz0 jz1 jz2 rfl (by decide) (.slice (some ⟨g2, 0, none⟩) (i + 1) c2) (i + 1) (kindsV M.L) rfl (ow_still HO7.out ((Turned.refl _ _).alloc _)) ⟨w6.heap.size, 0, none⟩ 1 1 [.bool kd] rfl rfl (by intro j u hj; have := ow_cells (w6.setCell ⟨q, 1, none⟩ (.slice a6 (i + 1 + 1) c6)) [.bool kd] 4 j u hj; simpa [World.setCell] using this) (by intro u hu; simp at hu; subst hu; rfl) (by unfold maxLen; omega) (by omega) (Nat.zero_le _) ?_; intro v8 w8 hown8 hg8 _ hat8; obtain ⟨a8, c8, rfl⟩ := ow_slice hown8; obtain ⟨z5, z6, HZ8⟩ := HM2.out _ w8 _ a6 a8 c6 c8 HZ6.out hown8 hg8 hat8; clear hown8 hg8 hat8))
          go_ret
          exact ⟨rfl, HZ8.out⟩
end
end Go.Proofs.Ytdlkdagmaeapdaa
