/- What Back of the document's ledger does. No condition but that it is one. -/
import Derived.Test.YtpkodmclbobkpaaLgRefAdd
import Derived.Test.YtpkodmclbobkpaaStepApp
namespace Go.Proofs.Ytpkodmclbobkpaa
open Go.RowKit
set_option linter.unusedVariables false
set_option linter.unusedSimpArgs false
set_option maxRecDepth 100000

theorem backL_snoc {l : List Pc} {k : Nat} {x : Pc} (tt : Int) (h : l[k]? = some x) : backL (l.take (k + 1)) tt = if x.1 < tt then backL (l.take k) tt ++ [cutPc tt x] else backL (l.take k) tt := by
  unfold backL
  rw [List.take_add_one, h, List.filter_append]
  simp only [Option.toList_some, List.filter_cons, List.filter_nil]
  by_cases hk : x.1 < tt
  · rw [if_pos hk, if_pos (by simpa using hk)]; simp
  · rw [if_neg hk, if_neg (by simpa using hk)]; simp
section
variable {q : Nat} {a a2 sa sa' ka ka' : Option Addr} {c c2 sc sc' kc kc' n d : Nat} {M : LgM} {B : List Pc} {w V w6 : World} {W : Nat → Prop} {o : Obj}
abbrev zbT (q : Nat) (a : Option Addr) (c : Nat) (a2 : Option Addr) (c2 n : Nat) (M : LgM) (sa : Option Addr) (sc : Nat) (ka : Option Addr) (kc d : Nat) (B : List Pc) : Thing :=
  (zlT q a c a2 c2 n M).sep ((ownT 47 2 sa d sc (rowOf encSp B)).sep (ownT 4 1 ka d kc (kindsV B)))
theorem zb_rd (hn : n = M.L.length) (H : Sit W w V (zbT q a c a2 c2 n M sa sc ka kc d B)) : ZlRd q a c a2 c2 n M V ∧ V.ownsRow 0 47 2 (.slice sa d sc) d (rowOf encSp B) ∧ V.ownsRow 0 4 1 (.slice ka d kc) d (kindsV B) := by
  obtain ⟨_, h1, _⟩ := H.fst
  obtain ⟨_, h2, _⟩ := H.snd.fst
  obtain ⟨_, h3, _⟩ := H.snd.snd.use
  exact ⟨zlT_rd hn h1, h2.1, h3.1⟩
/-- Both rows grow. -/
theorem zb_sp {f t : Int} (H : Sit W w V (zbT q a c a2 c2 n M sa sc ka kc d B)) (hown : w6.ownsRow 0 47 2 (.slice sa' (d + 1) sc') (d + 1) (rowOf encSp B ++ [.int .i64 f, .int .i64 t]))
    (hg : (V.alloc o).grownBy w6 (Value.slice sa d sc).ownBlock) (hat : (Value.slice sa' (d + 1) sc').ownBlock = (Value.slice sa d sc).ownBlock ∨ (Value.slice sa' (d + 1) sc').ownBlock = some (V.alloc o).heap.size) :
    Hid (Sit W w w6 ((zlT q a c a2 c2 n M).sep ((ownT 47 2 sa' (d + 1) sc' (rowOf encSp B ++ [.int .i64 f, .int .i64 t])).sep (ownT 4 1 ka d kc (kindsV B))))) := by
  obtain ⟨U, h1, h2⟩ := H.turn.fst
  exact Lib.hid (h2 _ _ (ownT_grown h1 hown hg hat)).turn
theorem zb_mid {f t : Int} (hn : n = M.L.length) (H : Sit W w V ((zlT q a c a2 c2 n M).sep ((ownT 47 2 sa' (d + 1) sc' (rowOf encSp B ++ [.int .i64 f, .int .i64 t])).sep (ownT 4 1 ka d kc (kindsV B))))) :
    ZlRd q a c a2 c2 n M V ∧ V.ownsRow 0 4 1 (.slice ka d kc) d (kindsV B) := by
  obtain ⟨_, h1, _⟩ := H.fst
  obtain ⟨_, h3, _⟩ := H.snd.snd.use
  exact ⟨zlT_rd hn h1, h3.1⟩
theorem zb_kd {f t : Int} {k : Bool} (H : Sit W w V ((zlT q a c a2 c2 n M).sep ((ownT 47 2 sa' (d + 1) sc' (rowOf encSp B ++ [.int .i64 f, .int .i64 t])).sep (ownT 4 1 ka d kc (kindsV B)))))
    (hown : w6.ownsRow 0 4 1 (.slice ka' (d + 1) kc') (d + 1) (kindsV B ++ [.bool k]))
    (hg : (V.alloc o).grownBy w6 (Value.slice ka d kc).ownBlock) (hat : (Value.slice ka' (d + 1) kc').ownBlock = (Value.slice ka d kc).ownBlock ∨ (Value.slice ka' (d + 1) kc').ownBlock = some (V.alloc o).heap.size) :
    Hid (Sit W w w6 (zbT q a c a2 c2 n M sa' sc' ka' kc' (d + 1) (B ++ [(f, t, k)]))) := by
  have H1 := H.imp (B := (ownT 4 1 ka d kc (kindsV B)).sep ((zlT q a c a2 c2 n M).sep (ownT 47 2 sa' (d + 1) sc' (rowOf encSp B ++ [.int .i64 f, .int .i64 t])))) (fun h => sep_swap (sep_assoc' h))
  obtain ⟨U, h1, h2⟩ := H1.fst
  have H2 := h2 _ _ (ownT_grown h1 hown hg hat)
  have e1 : rowOf encSp (B ++ [(f, t, k)]) = rowOf encSp B ++ [.int .i64 f, .int .i64 t] := by rw [rowOf_append, rowOf_cons, rowOf_nil, List.append_nil]; rfl
  have e2 : kindsV (B ++ [(f, t, k)]) = kindsV B ++ [.bool k] := by simp [kindsV]
  refine Lib.hid (H2.imp (fun h => ?_))
  unfold zbT
  rw [e1, e2]
  exact sep_assoc (sep_swap h)
/-- They come into the ledger. -/
theorem zb_end (hd : d = B.length) (H : Sit W w V (zbT q a c a2 c2 n M sa sc ka kc d B)) :
    (V.cell? ⟨q, 1, none⟩ = some (.slice a n c) ∧ V.frozen? ⟨q, 1, none⟩ = false ∧ (V.setCell ⟨q, 1, none⟩ (.slice sa d sc)).cell? ⟨q, 2, none⟩ = some (.slice a2 n c2) ∧ (V.setCell ⟨q, 1, none⟩ (.slice sa d sc)).frozen? ⟨q, 2, none⟩ = false) ∧
    Hid (Goes (zLT q ⟨M.b, B⟩) W w ((V.setCell ⟨q, 1, none⟩ (.slice sa d sc)).setCell ⟨q, 2, none⟩ (.slice ka d kc))) := by
  obtain ⟨h1, h2, h3⟩ := sit_row (o := 1) H.assoc rfl (.slice sa d sc)
  obtain ⟨h4, h5, h6⟩ := sit_row (o := 2) h3.out rfl (.slice ka d kc)
  refine ⟨⟨h1, h2, h4, h5⟩, Lib.hid (((h6.out.imp (fun h => sep_assoc' (sep_imp2 (fun h => h) (fun h => sep_swap h) h))).drop).goes.turn (fun h => ⟨sa, sc, ka, kc, ?_⟩))⟩
  show (zlT q sa sc ka kc B.length ⟨M.b, B⟩).at_ _ _
  rw [← hd]
  exact h
theorem zb_start (h : (zlT q a c a2 c2 n M).at_ w W) : Sit W w ((w.alloc (.cells #[] 47)).alloc (.cells #[] 4)) (zbT q a c a2 c2 n M (some ⟨w.heap.size, 0, none⟩) 0 (some ⟨w.heap.size + 1, 0, none⟩) 0 0 []) := by
  have H1 := (Sit.start h).new (ownT_new w 47 2)
  have H2 := H1.new (ownT_new (w.alloc (.cells #[] 47)) 4 1)
  have e : (w.alloc (.cells #[] 47)).heap.size = w.heap.size + 1 := by simp
  rw [e] at H2
  exact H2.assoc

set_option maxHeartbeats 2000000 in
theorem zlgback_any (h : (zLT q M).at_ w W) (hM : M.Ok) (tt : Int) :
    Calls Try.prog 19 #[.pointer (some ⟨q, 0, none⟩), .int .i64 tt] w fun e w' => e = .returned (.int .i64 (backE M tt)) ∧ Goes (zLT q (M.back tt)) W w w' := by
  have HEn := Lib.hid (fun V (hs : Still w V) => (zlgend_any ((zLT q M).keep h hs (fun _ _ h => h)) hM))
  have HS := Lib.hid (fun V (hs : Still w V) => show Goes (zLT q ⟨M.b, M.L⟩) W w V from Goes.still h hs)
  obtain ⟨a, c, a2, c2, h⟩ := h
  obtain ⟨n, hn⟩ : ∃ n, n = M.L.length := ⟨_, rfl⟩
  rw [← hn] at h
  have HC := Lib.hid (fun V (hs : Still w V) => ((zlT_rd hn h).still hs).c0)
  have hn256 : n ≤ 256 := by have := hM.len; omega
  unfold LgM.back
  by_cases h0 : tt < 0
  · rw [show backE M tt = 2 from by unfold backE; rw [if_pos h0], if_pos (by omega)]
    clear hn h hM HEn HC
    go_enter Try.func19, Try.ntmps19
    go_wp2_with fail
    go_ret
    exact ⟨rfl, HS.out _ (Turned.refl _ _)⟩
  · by_cases h1 : tt < M.b
    · rw [show backE M tt = 61 from by unfold backE; rw [if_neg h0, if_pos (.inl h1)], if_pos (by omega)]
      have c0 := HC.out w (Turned.refl _ _)
      generalize M.b = b at *
      clear hn h hM HEn HC
      go_enter Try.func19, Try.ntmps19
      go_wp2_with fail
      go_ret
      exact ⟨rfl, HS.out _ (Turned.refl _ _)⟩
    · by_cases h2 : M.fin < tt
      · rw [show backE M tt = 61 from by unfold backE; rw [if_neg h0, if_pos (.inr h2)], if_pos (by omega)]
        have c0 := HC.out w (Turned.refl _ _)
        generalize M.b = b at *
        generalize M.fin = f at *
        clear hn h hM HC
        go_enter Try.func19, Try.ntmps19
        go_wp2_with (go_at_call 13; ((with_reducible refine (HEn.out _ (Turned.refl _ _)).mono ?_)); rintro e w1 ⟨rfl, hs1⟩; have HS1 := Lib.hid hs1; clear hs1)
        go_ret
        exact ⟨rfl, HS.out _ HS1.out⟩
      · rw [show backE M tt = 0 from by unfold backE; rw [if_neg h0, if_neg (by omega)], if_neg (by omega)]
        have HStart := Lib.hid (fun V (hs : Still w V) => show Sit W w ((V.alloc (.cells #[] 47)).alloc (.cells #[] 4)) (zbT q a c a2 c2 n M (some ⟨V.heap.size, 0, none⟩) 0 (some ⟨V.heap.size + 1, 0, none⟩) 0 0 []) from by
          have H := zb_start (Thing.keep _ h hs (fun _ _ h => h))
          obtain ⟨Q, g1, g2⟩ := H
          exact ⟨Q, g1, (Since.trans ⟨hs.mono (fun _ _ h => h.elim), fun _ h => .inl h⟩ g2)⟩)
        have HRd := Lib.hid (fun (V : World) (sa ka : Option Addr) (sc kc d : Nat) (B : List Pc) (H : Sit W w V (zbT q a c a2 c2 n M sa sc ka kc d B)) => zb_rd hn H)
        have HMid := Lib.hid (fun (V : World) (sa ka : Option Addr) (sc kc d : Nat) (B : List Pc) (f t : Int) (H : Sit W w V ((zlT q a c a2 c2 n M).sep ((ownT 47 2 sa (d + 1) sc (rowOf encSp B ++ [.int .i64 f, .int .i64 t])).sep (ownT 4 1 ka d kc (kindsV B))))) => zb_mid hn H)
        have HEnd := Lib.hid (fun (V : World) (sa ka : Option Addr) (sc kc d : Nat) (B : List Pc) (hd : d = B.length) (H : Sit W w V (zbT q a c a2 c2 n M sa sc ka kc d B)) => zb_end hd H)
        have HN := Lib.hid hn
        have HAll := Lib.hid (show backL (M.L.take n) tt = backL M.L tt from by rw [hn, List.take_length])
        have HLen := Lib.hid (fun k => show (backL (M.L.take k) tt).length ≤ 256 from Nat.le_trans (backL_len _ _) (by rw [List.length_take]; have := hM.len; omega))
        have c0 := HC.out w (Turned.refl _ _)
        obtain ⟨i0, hi, hz0, hz1, hz2⟩ := info_parts infoSpan
        obtain ⟨j0, ji, jz0, jz1, jz2⟩ := info_parts infoBool14
        obtain ⟨b, hb⟩ : ∃ b, b = M.b := ⟨_, rfl⟩
        obtain ⟨f, hf⟩ : ∃ f, f = M.fin := ⟨_, rfl⟩
        rw [← hb] at c0 h1
        rw [← hf] at HEn h2
        clear hn h hM HC hb hf HS
        go_enter Try.func19, Try.ntmps19
        go_wp2_with (go_at_call 13; ((with_reducible refine (HEn.out _ (Turned.refl _ _)).mono ?_)); rintro e w1 ⟨rfl, hs1⟩; have HS1 := Lib.hid (HStart.out w1 hs1); clear hs1)
        obtain ⟨g0, hg0⟩ : ∃ g0, g0 = w1.heap.size := ⟨_, rfl⟩
        obtain ⟨W0, hW0⟩ : ∃ W0, W0 = (w1.alloc (.cells #[] 47)).alloc (.cells #[] 4) := ⟨_, rfl⟩
        rw [← hg0, ← hW0] at HS1
        rw [← hg0, ← hW0]
        clear hg0 hW0 c0 HEn
        go_loopw [5, 6, 7] (fun s ks i wr => ∃ (k d : Nat) (sa ka : Option Addr) (sc kc : Nat), k ≤ n ∧ d = (backL (M.L.take k) tt).length ∧ i = .int .i64 k ∧ s = .slice sa d sc ∧ ks = .slice ka d kc ∧ Sit W w wr (zbT q a c a2 c2 n M sa sc ka kc d (backL (M.L.take k) tt))) (fun _ _ i _ => n - (intOf i).toNat)
        case atStart => exact ⟨0, 0, _, _, 0, 0, Nat.zero_le _, rfl, rfl, rfl, rfl, HS1.out⟩
        case round =>
          clear HS1
          obtain ⟨k, d, sa, ka, sc, kc, hk, hd, rfl, rfl, rfl, hS⟩ := hrel
          have hd256 : d ≤ 256 := by rw [hd]; exact HLen.out k
          have HS := Lib.hid hS
          obtain ⟨⟨c0, c1, c3, hrow⟩, hr1, hr2⟩ := HRd.out wr sa ka sc kc d _ hS
          have HR1 := Lib.hid hr1
          have HR2 := Lib.hid hr2
          have HD := Lib.hid hd
          have hlo := hS.size
          clear hr1 hr2 hS
          by_cases hlt : k < n
          · obtain ⟨x, hx⟩ := get_some (l := M.L) (i := k) (by rw [← HN.out]; exact hlt)
            obtain ⟨g, g2, rfl, rfl, y0, y1, y2⟩ := hrow k x hx
            have hki : (k : Int) < (n : Int) := by omega
            have HSn := Lib.hid (backL_snoc tt hx)
            obtain ⟨xf, xt, xk⟩ := x
            dsimp only at y0 y1 y2 HSn
            by_cases hcut : xf < tt
            · obtain ⟨v, hv⟩ : ∃ v, (if tt < xt then tt else xt) = v := ⟨_, rfl⟩
              have HS1 := Lib.hid (show backL (M.L.take (k + 1)) tt = backL (M.L.take k) tt ++ [(xf, v, xk)] from by
                rw [HSn.out, if_pos hcut]
                unfold cutPc
                dsimp only
                rw [show min xt tt = v from by rw [← hv]; split <;> omega])
              have HY := Lib.hid (fun (V : World) (h : ZlRd q (some ⟨g, 0, none⟩) c (some ⟨g2, 0, none⟩) c2 n M V) => show V.cell? ⟨q, 2, none⟩ = some (.slice (some ⟨g2, 0, none⟩) n c2) ∧ V.cell? ⟨g2, k, none⟩ = some (.bool xk) from by
                obtain ⟨_, _, _, e2, _, _, z⟩ := h.row k _ hx
                cases e2
                exact ⟨h.c2, z⟩)
              obtain ⟨B, hB⟩ : ∃ B, B = backL (M.L.take k) tt := ⟨_, rfl⟩
              rw [← hB] at HR1
              rw [← hB] at HR2
              rw [← hB] at HD
              rw [← hB] at HS
              rw [← hB] at HS1
              have HRA := Lib.hid (ow_still HR1.out ((Turned.refl _ wr).alloc (.cells #[.int .i64 xf, .int .i64 v] 47)).drew)
              have HCl := Lib.hid (show ∀ (j : Nat) (u : Value), [Value.int .i64 xf, .int .i64 v][j]? = some u → (wr.alloc (.cells #[.int .i64 xf, .int .i64 v] 47)).drew.cell? ((⟨wr.heap.size, 0, none⟩ : Addr).add j) = some u from ow_cells wr [.int .i64 xf, .int .i64 v] 47)
              have HNw := Lib.hid (fun (w6 : World) (a6 : Option Addr) (c6 : Nat) hown (hg : (wr.alloc (.cells #[.int .i64 xf, .int .i64 v] 47)).drew.grownBy w6 (Value.slice sa d sc).ownBlock) hat => zb_sp (o := .cells #[.int .i64 xf, .int .i64 v] 47) (f := xf) (t := v) (sa' := a6) (sc' := c6) (w6 := w6) HS.out hown ⟨hg.os, hg.tape, hg.output, hg.size, hg.block⟩ hat)
              have HKd := Lib.hid (fun (V w8 : World) (a6 a8 : Option Addr) (c6 c8 : Nat) H hown hg hat => zb_kd (q := q) (a := some ⟨g, 0, none⟩) (c := c) (a2 := some ⟨g2, 0, none⟩) (c2 := c2) (n := n) (M := M) (W := W) (w := w) (V := V) (w6 := w8) (o := .cells #[.bool xk] 4) (f := xf) (t := v) (k := xk) (sa' := a6) (sc' := c6) (ka := ka) (kc := kc) (ka' := a8) (kc' := c8) (d := d) (B := B) H hown hg hat)
              clear hrow hx hd HSn HRd HEnd hB
              go_upto_region 10 with fail
              go_region_law (refine step_app_own rfl (.tmp 43) (.tmp 63) 41 rfl 0 47 i0 (.agg #[.int .i64 0, .int .i64 0]) 2 16 Try.underlying41 hi hz0 hz1 hz2 rfl (by decide) (.slice sa d sc) d (rowOf encSp B) rfl HRA.out ⟨wr.heap.size, 0, none⟩ 1 1 [.int .i64 xf, .int .i64 v] rfl rfl HCl.out (by intro u hu; simp at hu; rcases hu with rfl | rfl <;> rfl) (by unfold maxLen; omega) (by omega) (by simp) ?_; intro v6 w6 hown6 hg6 hat6; obtain ⟨a6, c6, rfl⟩ := ow_slice hown6; have HG6 := HNw.out w6 a6 c6 hown6 hg6 hat6; obtain ⟨hz6, hr6⟩ := HMid.out _ _ _ _ _ _ _ _ _ HG6.out; have HR6 := Lib.hid hr6; obtain ⟨c6a, y6⟩ := HY.out _ hz6; clear hown6 hg6 hat6 hz6 hr6)
              all_goals (
                go_wp2_with (at_builtin; refine wpList_append_own_at _ rfl _ _ 54 rfl 0 4 j0 (.bool false) 1 1 Try.underlying54 ji jz0 jz1 jz2 rfl (by decide) (.slice ka d kc) d (kindsV B) rfl (ow_still HR6.out ((Turned.refl _ _).alloc _)) ⟨w6.heap.size, 0, none⟩ 1 1 [.bool xk] rfl rfl (ow_cells w6 _ _) (by intro u hu; simp at hu; subst hu; rfl) (by unfold maxLen; omega) (by omega) (Nat.zero_le _) ?_; intro v8 w8 hown8 hg8 _ hat8; obtain ⟨a8, c8, rfl⟩ := ow_slice hown8; have HG8 := HKd.out w6 w8 a6 a8 c6 c8 HG6.out hown8 hg8 hat8; clear hown8 hg8 hat8)
                go_roundw
                case rel => exact ⟨k + 1, d + 1, a6, a8, c6, c8, by omega, by rw [HS1.out, List.length_append, HD.out]; rfl, by go_num, rfl, rfl, by rw [HS1.out]; exact HG8.out⟩
                case measure => simp [intOf]; omega)
            · have HS1 := Lib.hid (show backL (M.L.take (k + 1)) tt = backL (M.L.take k) tt from by rw [HSn.out, if_neg hcut])
              clear hrow hx hd HSn HRd HEnd
              go_wp2_with fail
              go_roundw
              case rel => exact ⟨k + 1, d, sa, ka, sc, kc, by omega, by rw [HS1.out]; exact HD.out, by go_num, rfl, rfl, by rw [HS1.out]; exact HS.out⟩
              case measure => simp [intOf]; omega
          · obtain rfl : k = n := by omega
            rw [HAll.out] at HD HS
            obtain ⟨⟨e1, e2, e3, e4⟩, HE⟩ := HEnd.out wr sa ka sc kc d _ HD.out HS.out
            clear hrow hd HRd HEnd
            go_wp2_with fail
            go_ret
            exact ⟨rfl, HE.out⟩
end
end Go.Proofs.Ytpkodmclbobkpaa
