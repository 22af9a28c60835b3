/- What Back of the program's ledger does. No condition but that it is one. -/
import Derived.Test.YtpkodmclbobkpaaLgDo
import Derived.Test.YtpkodmclbobkpaaLgMath
import Derived.Scope
import Derived.WalkMore
namespace Go.Proofs.Ytpkodmclbobkpaa
open Go.RowKit
set_option linter.unusedVariables false
set_option linter.unusedSimpArgs false
set_option maxRecDepth 100000

section
variable {q : Nat} {a a6 : Option Addr} {c c6 N n : Nat} {f : Bool} {M : LgM} {w V w6 w' : World} {W : Nat → Prop}
theorem marks_take {L : List Pc} {j : Nat} {x : Pc} (b : Int) (hx : L[j]? = some x) : marks ⟨b, L.take (j + 1)⟩ = marks ⟨b, L.take j⟩ ++ [x.2.1] := by
  unfold marks
  dsimp only
  rw [List.take_add_one, hx]
  simp
/-- The last mark goes. -/
theorem lg_cut {L : List Pc} {j : Nat} {x : Pc} {b : Int} {a : Option Addr} (hx : L[j]? = some x) (hN : N = j + 2) (hf : ∀ y, (L.take (j + 1))[0]? = some y → y.2.2 = f) (H : Sit W w V (lgX q a c N f ⟨b, L.take (j + 1)⟩)) :
    V.cell? ⟨q, 0, none⟩ = some (.slice a N c) ∧ V.frozen? ⟨q, 0, none⟩ = false ∧ Hid (Sit W w (V.setCell ⟨q, 0, none⟩ (.slice a (j + 1) c)) (lgT q ⟨b, L.take j⟩)) := by
  obtain ⟨h1, h2, h3⟩ := sit_row (o := 0) H rfl (.slice a (j + 1) c)
  refine ⟨h1, h2, Lib.hid (h3.out.imp (fun h => ⟨a, c, f, ?_, fun y hy => ?_⟩))⟩
  · have hlt := (List.getElem?_eq_some_iff.1 hx).1
    have e1 : (L.take j).length + 1 = j + 1 := by rw [List.length_take]; omega
    show (lgX q a c ((L.take j).length + 1) f ⟨b, L.take j⟩).at_ _ _
    rw [e1]
    obtain ⟨W1, W2, g1, ⟨g2, g3⟩, g4, g5⟩ := h
    obtain ⟨g, rfl⟩ := owm_addr g2 (by omega)
    refine ⟨W1, W2, g1, ⟨?_, g3⟩, g4, g5⟩
    rw [marks_take b hx, hN] at g2
    obtain ⟨r, k1, k2, k3, k4, k5, k6⟩ := owm_parts g2
    rw [show ints (marks ⟨b, L.take j⟩ ++ [x.2.1]) = ints (marks ⟨b, L.take j⟩) ++ [.int .i64 x.2.1] by simp [ints], List.append_assoc] at k1
    exact owm_of_parts k1 (by rw [ints_length, marks_len]; simp [List.length_take]; omega) (by rw [← k3]; simp [ints]) (by omega) k5 k6
  · refine hf y ?_
    cases j with
    | zero => replace hy : (L.take 0)[0]? = some y := hy; simp at hy
    | succ j => 
      replace hy : (L.take (j + 1))[0]? = some y := hy
      rw [List.getElem?_take] at hy ⊢
      rw [if_pos (by omega)] at hy
      rw [if_pos (by omega)]
      exact hy

set_option maxHeartbeats 4000000 in
theorem lgrewind_any (h : (lgT q M).at_ w W) (hM : M.Ok) (tt : Int) (h1 : M.b ≤ tt) (h2 : tt ≤ M.fin) :
    Calls Try.prog 33 #[.pointer (some ⟨q, 0, none⟩), .int .i64 tt] w fun e w' => (∃ v, e = .returned v) ∧ Goes (lgT q ⟨M.b, backL M.L tt⟩) W w w' := by
  obtain ⟨n, hn⟩ : ∃ n, n = M.L.length := ⟨_, rfl⟩
  have hn256 : n ≤ 256 := by have := hM.len; omega
  have HCt := Lib.hid (show Calls Try.prog 38 #[.pointer (some ⟨q, 0, none⟩)] w fun e w' => e = .returned (.int .i64 (n : Int)) ∧ w = w' from by
    obtain ⟨a, c, f, hr, _⟩ := lgT_rd h
    exact lgcount_any (n := n) hr.c0 (by omega) hn256)
  have HAll := Lib.hid (show M.L.take n = M.L from by rw [hn, List.take_length])
  have H0 := Lib.hid (show Sit W w w (lgT q ⟨M.b, M.L.take n⟩) from by rw [HAll.out]; exact Sit.start h)
  have HE0 := Lib.hid (show tt ≤ endF M.b (M.L.take n) ∧ backL (M.L.take n) tt = backL M.L tt from by rw [HAll.out]; exact ⟨h2, rfl⟩)
  have HNn := Lib.hid hn
  have HOk := Lib.hid hM
  have hlb := hM.lo
  clear h hM h2 hn
  go_enter Try.func33, Try.ntmps33
  go_wp2_with fail
  go_step3
  go_wp2_with fail
  go_step3
  go_wp2_with (go_at_call 38; ((with_reducible refine HCt.out.mono ?_)); rintro e w1 ⟨rfl, rfl⟩)
  go_loopw [4] (fun i wr => ∃ k : Nat, k ≤ n ∧ i = .int .i64 k ∧ Sit W w wr (lgT q ⟨M.b, M.L.take k⟩) ∧ tt ≤ endF M.b (M.L.take k) ∧ backL (M.L.take k) tt = backL M.L tt) (fun i _ => (intOf i).toNat)
  case atStart => exact ⟨n, Nat.le_refl _, rfl, H0.out, HE0.out⟩
  case round =>
    obtain ⟨k, hk, rfl, hS, hle, hb⟩ := hrel
    rcases Nat.eq_zero_or_pos k with rfl | hk0
    · have HEnd := Lib.hid (show Goes (lgT q ⟨M.b, backL M.L tt⟩) W w wr from by rw [← hb]; exact hS.goes)
      clear hS hb hle
      go_wp2_with fail
      rw [Exit.noGoto_normal]
      go_end0
      exact ⟨⟨_, rfl⟩, HEnd.out⟩
    · obtain ⟨j, rfl⟩ : ∃ j, k = j + 1 := ⟨k - 1, by omega⟩
      obtain ⟨x, hx⟩ := get_some (l := M.L) (i := j) (by rw [← HNn.out]; omega)
      obtain ⟨e1, e2, e3, e4, e5⟩ := chn_at HOk.out.ch hx
      obtain ⟨Q, ⟨a, c, f, hX, hf⟩, hSi⟩ := hS
      have hlen : (M.L.take (j + 1)).length + 1 = j + 2 := by rw [List.length_take]; have := HNn.out; omega
      replace hX : (lgX q a c ((M.L.take (j + 1)).length + 1) f ⟨M.b, M.L.take (j + 1)⟩).at_ wr Q := hX
      rw [hlen] at hX
      obtain ⟨N, hN⟩ : ∃ N, N = j + 2 := ⟨_, rfl⟩
      rw [← hN] at hX hlen
      have hr := lgX_rd (M := ⟨M.b, M.L.take (j + 1)⟩) hlen.symm hX
      have c0 := hr.c0
      obtain ⟨g, rfl, _⟩ := hr.row 0 _ rfl
      have hx' : (M.L.take (j + 1))[j]? = some x := by rw [List.getElem?_take, if_pos (by omega)]; exact hx
      obtain ⟨m1, m2⟩ := marks_at (HOk.out.take (j + 1)) hx'
      obtain ⟨_, eg, y1⟩ := hr.row _ _ m1
      cases eg
      obtain ⟨_, eg, y2⟩ := hr.row _ _ m2
      cases eg
      have hcap : N ≤ c := by
        obtain ⟨_, _, _, ⟨u, _⟩, _⟩ := hX
        exact (ow_le u).1
      have HSit : Sit W w wr (lgX q (some ⟨g, 0, none⟩) c N f ⟨M.b, M.L.take (j + 1)⟩) := ⟨Q, hX, hSi⟩
      have HL := Lib.hid (lg_last (tt := tt) (l' := M.L.take j) (x := x) (by show M.L.take (j + 1) = _; rw [List.take_add_one, hx]; rfl) hlen.symm hf HSit)
      have HC := Lib.hid (lg_cut hx hN hf HSit)
      have HG := Lib.hid (show Goes (lgT q ⟨M.b, M.L.take (j + 1)⟩) W w wr from Sit.goes ⟨Q, ⟨some ⟨g, 0, none⟩, c, f, by show (lgX q (some ⟨g, 0, none⟩) c ((M.L.take (j + 1)).length + 1) f ⟨M.b, M.L.take (j + 1)⟩).at_ wr Q; rw [← hlen] at hX; exact hX, hf⟩, hSi⟩)
      have hj : (M.L.take j).length = j := by rw [List.length_take]; have := HNn.out; omega
      rw [hj] at HL
      have hk1 : (0 : Int) < ((j + 1 : Nat) : Int) := by omega
      have hjN : ((j + 1 : Nat) : Int) < (N : Int) := by omega
      have hjN0 : (j : Int) < (N : Int) := by omega
      have hjc : j + 1 ≤ c := by omega
      have hbt := back_snoc tt hx
      rw [e4] at hle
      obtain ⟨xf, xt, xk⟩ := x
      dsimp only at e1 e2 e4 y1 y2 hbt HL hle
      have hwr : IntKind.i64.wrap (((j + 1 : Nat) : Int) - 1) = (j : Int) := by simp [IntKind.wrap, IntKind.signed, IntKind.bits]; omega
      rcases Decidable.em (tt < xt) with ht | ht
      · have hnt : ¬ xt ≤ tt := by omega
        rcases Decidable.em (xf < tt) with ht2 | ht2
        · obtain ⟨l1, l2, l3⟩ := HL.out
          have HEnd := Lib.hid (show Goes (lgT q ⟨M.b, backL M.L tt⟩) W w (wr.setCell ⟨g, j + 1, none⟩ (.int .i64 tt)) from by
            have e6 : setTo (M.L.take (j + 1)) tt = backL M.L tt := by
              rw [← hb, hbt, if_pos ht2, backL_fin (chn_take HOk.out.ch j) (by omega), List.take_add_one, hx]
              show setTo (M.L.take j ++ [(xf, xt, xk)]) tt = _
              rw [setTo_app]
              unfold cutPc
              rw [show min xt tt = tt by omega]
            rw [← e6]
            exact l3.out)
          clear hX hSi hr HSit HL HC HG hbt m1 m2 hx hx' hf hb e1 e3 e4 e5 l3 hlen hN hj
          go_wp2_with fail
          go_end0
          exact ⟨⟨_, rfl⟩, HEnd.out⟩
        · have hnt2 : ¬ xf < tt := by omega
          obtain ⟨l1, l2, l3⟩ := HC.out
          have HNx := Lib.hid (show Sit W w (wr.setCell ⟨q, 0, none⟩ (.slice (some ⟨g, 0, none⟩) (j + 1) c)) (lgT q ⟨M.b, M.L.take j⟩) ∧ tt ≤ endF M.b (M.L.take j) ∧ backL (M.L.take j) tt = backL M.L tt from
            ⟨l3.out, by omega, by rw [← hb, hbt, if_neg hnt2]⟩)
          clear hX hSi hr HSit HL HC HG hbt m1 m2 hx hx' hf hb e1 e3 e4 e5 l3 hlen hN hj
          go_wp2_with fail
          go_roundw
          case rel => exact ⟨j, by omega, by go_num, HNx.out⟩
          case measure => simp [intOf]
      · have HEnd := Lib.hid (show Goes (lgT q ⟨M.b, backL M.L tt⟩) W w wr from by
          rw [← hb, backL_fin (chn_take HOk.out.ch (j + 1)) (by omega)]
          exact HG.out)
        clear hX hSi hr HSit HL HC HG hbt m1 m2 hx hx' hf hb e1 e3 e4 e5 hlen hN hj
        go_wp2_with fail
        go_end0
        exact ⟨⟨_, rfl⟩, HEnd.out⟩

theorem lgback_any (h : (lgT q M).at_ w W) (hM : M.Ok) (tt : Int) :
    Calls Try.prog 18 #[.pointer (some ⟨q, 0, none⟩), .int .i64 tt] w fun e w' => e = .returned (.int .i64 (backE M tt)) ∧ Goes (lgT q (M.back tt)) W w w' := by
  have HMd := Lib.hid (show Calls Try.prog 32 #[.pointer (some ⟨q, 0, none⟩)] w fun e w' => e = .returned (.bool true) ∧ w = w' from by
    obtain ⟨a, c, f, hr, _⟩ := lgT_rd h
    exact lgmade_any hr.c0 (by omega))
  have HFr := Lib.hid (lgfrom_any h)
  have HEn := Lib.hid (fun V (hs : Still w V) => lgend_any ((lgT q M).keep h hs (fun _ _ h => h)) hM)
  have HS := Lib.hid (fun V (hs : Still w V) => show Goes (lgT q ⟨M.b, M.L⟩) W w V from Goes.still h hs)
  unfold LgM.back
  by_cases h0 : tt < 0
  · rw [show backE M tt = 2 from by unfold backE; rw [if_pos h0], if_pos (by omega)]
    clear h hM HEn HFr
    go_enter Try.func18, Try.ntmps18
    go_wp2_with (go_at_call 32; ((with_reducible refine HMd.out.mono ?_)); rintro e w0 ⟨rfl, rfl⟩)
    go_ret
    exact ⟨rfl, HS.out _ (Turned.refl _ _)⟩
  · by_cases h1 : tt < M.b
    · rw [show backE M tt = 61 from by unfold backE; rw [if_neg h0, if_pos (.inl h1)], if_pos (by omega)]
      generalize M.b = b at *
      clear h hM HEn
      go_enter Try.func18, Try.ntmps18
      go_wp2_with (first
        | (go_at_call 32; ((with_reducible refine HMd.out.mono ?_)); rintro e w0 ⟨rfl, rfl⟩)
        | (go_at_call 22; ((with_reducible refine HFr.out.mono ?_)); rintro e w1 ⟨rfl, hs1⟩; have HS1 := Lib.hid hs1; clear hs1))
      go_ret
      exact ⟨rfl, HS.out _ HS1.out⟩
    · by_cases h2 : M.fin < tt
      · rw [show backE M tt = 61 from by unfold backE; rw [if_neg h0, if_pos (.inr h2)], if_pos (by omega)]
        generalize M.b = b at *
        generalize M.fin = fi at *
        clear h hM
        go_enter Try.func18, Try.ntmps18
        go_wp2_with (first
          | (go_at_call 32; ((with_reducible refine HMd.out.mono ?_)); rintro e w0 ⟨rfl, rfl⟩)
          | (go_at_call 22; ((with_reducible refine HFr.out.mono ?_)); rintro e w1 ⟨rfl, hs1⟩; have HS1 := Lib.hid hs1; clear hs1)
          | (go_at_call 23; ((with_reducible refine (HEn.out _ HS1.out).mono ?_)); rintro e w2 ⟨rfl, hs2⟩; have HS2 := Lib.hid (HS1.out.trans hs2); clear hs2))
        go_ret
        exact ⟨rfl, HS.out _ HS2.out⟩
      · rw [show backE M tt = 0 from by unfold backE; rw [if_neg h0, if_neg (by omega)], if_neg (by omega)]
        have HRw := Lib.hid (fun V (hs : Still w V) => show Calls Try.prog 33 #[.pointer (some ⟨q, 0, none⟩), .int .i64 tt] V fun e w' => (∃ v, e = .returned v) ∧ Goes (lgT q ⟨M.b, backL M.L tt⟩) W w w' from
          (lgrewind_any ((lgT q M).keep h hs (fun _ _ h => h)) hM tt (by omega) (by omega)).mono fun e w' ⟨he, W', g1, g2, g3⟩ => ⟨he, W', g1, (hs.mono (fun _ _ h => h.elim)).trans g2, fun k hk => (g3 k hk).imp id (fun h => Nat.le_trans hs.size h)⟩)
        obtain ⟨b, hb⟩ : ∃ b, b = M.b := ⟨_, rfl⟩
        rw [← hb] at HFr h1
        generalize M.fin = fi at *
        clear h hM hb
        go_enter Try.func18, Try.ntmps18
        go_wp2_with (first
          | (go_at_call 32; ((with_reducible refine HMd.out.mono ?_)); rintro e w0 ⟨rfl, rfl⟩)
          | (go_at_call 22; ((with_reducible refine HFr.out.mono ?_)); rintro e w1 ⟨rfl, hs1⟩; have HS1 := Lib.hid hs1; clear hs1)
          | (go_at_call 23; ((with_reducible refine (HEn.out _ HS1.out).mono ?_)); rintro e w2 ⟨rfl, hs2⟩; have HS2 := Lib.hid (HS1.out.trans hs2); clear hs2)
          | (go_at_call 33; ((with_reducible refine (HRw.out _ HS2.out).mono ?_)); rintro e w3 ⟨⟨v3, rfl⟩, hg⟩; have HG := Lib.hid hg; clear hg))
        go_ret
        exact ⟨rfl, HG.out⟩
end
end Go.Proofs.Ytpkodmclbobkpaa
