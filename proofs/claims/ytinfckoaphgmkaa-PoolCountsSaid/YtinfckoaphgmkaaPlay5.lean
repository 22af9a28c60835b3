/- What the statements' own 'play' does: a pool behind acts, and the handles that it gave. No condition but that the program's pool keeps its words. -/
import Derived.Test.YtinfckoaphgmkaaWorks5
import Derived.Test.YtinfckoaphgmkaaActs5
import Derived.Test.YtinfckoaphgmkaaPoolMath
namespace Go.Proofs.Ytinfckoaphgmkaa
open Go.RowKit
set_option linter.unusedVariables false
set_option maxRecDepth 100000

theorem which_small {a : Act5} {had : List Int} {M : PM} {N : Nat} {w : World} (ha : okAct5 w a) (hM : M.Ok N) (hN : N < 1000000) (hg : ∀ h ∈ had, M.Given h) : i64 (whichH a had) := by
  unfold whichH
  split
  · rename_i hp
    have hlt := am_lt a.2.2.1 hp.2
    rw [List.getElem?_eq_getElem hlt, Option.getD_some]
    have := (hg _ (List.getElem_mem hlt)).small hM
    exact ⟨by omega, by omega⟩
  · have := i64_of ha.2.2.1
    exact ⟨this.1, this.2⟩

def PlayPost (PT : Nat → PM → Thing) (w : World) (n : Nat) (e : Ending) (w' : World) : Prop :=
  ∃ (q k : Nat) (ao : Option Addr) (cc : Nat) (M : PM) (had : List Int), e = .returned (.tuple #[.pointer (some ⟨q, 0, none⟩), .slice ao k cc]) ∧ Held w w' ((PT q M).sep (ownT 3 1 ao k cc (ints had))) ∧
    had.length = k ∧ k ≤ 100 ∧ M.Ok 101 ∧ M.sl.length = n ∧ M.size = 8 ∧ ∀ h ∈ had, M.Given h

theorem PM.take_size (M : PM) (n : Int) : (M.takeM n).size = M.size := by
  unfold PM.takeM; split; rfl; cases M.fr <;> rfl
theorem PM.keep_size (M : PM) (x : Int) : (M.keepM x).size = M.size := by unfold PM.keepM; split <;> rfl
theorem PM.drop_size (M : PM) (x : Int) : (M.dropM x).size = M.size := by unfold PM.dropM; split; rfl; split <;> rfl

set_option maxHeartbeats 8000000 in
theorem play_any {PT : Nat → PM → Thing} (A : PoolApi PT) (n : Nat) (n1 : 1 ≤ n) (n2 : n ≤ 128) (s : Sl Act5) (w : World) (hs : SlOk encAct5 okAct5 5 w s) :
    Calls Try.prog 32 #[.int .i64 n, .slice s.a s.len s.cap] w (PlayPost PT w n) := by
  obtain ⟨sa, sl, sc, sx⟩ := s
  have hscap : sl ≤ sc := hs.le
  have hsmax : sc ≤ maxLen := hs.max
  unfold maxLen at hsmax
  have HS := Lib.hid hs
  have HSL : Hid (sx.length = sl) := Lib.hid hs.len
  have C0 := Lib.hid (fun W => A.make_ok n 8 W n1 n2 (by omega) (by omega))
  have HO0 := Lib.hid ((PM.new_ok (n := n) (size := 8) n1 n2 (by omega) (by omega)).mono (N' := 1) (by omega))
  have HL0 := Lib.hid (show (PM.new n 8).sl.length = n by simp [PM.new])
  obtain ⟨i0, hi, hz0, hz1, hz2⟩ := info_parts infoIntW
  clear hs
  dsimp only
  go_enter Try.func32, Try.ntmps32
  go_wp2_with fail
  refine (C0.out _).mono ?_
  intro e w2 hN
  obtain ⟨q, rfl, H⟩ := Held.made (Turned.refl _ _) hN
  have HH := Lib.hid (show Held w (w2.alloc (.cells #[] 3)) ((PT q (PM.new n 8)).sep (ownT 3 1 (some ⟨w2.heap.size, 0, none⟩) 0 0 (ints []))) from (H.drop).new2 3 1)
  clear hN C0 H
  go_wp2_with fail
  go_loopw [8, 9] (fun p i wr => ∃ (k m : Nat) (ao : Option Addr) (cc : Nat) (M : PM) (had : List Int), k ≤ sl ∧ k ≤ 100 ∧ m ≤ k ∧ i = .int .i64 k ∧ p = .slice ao m cc ∧ Held w wr ((PT q M).sep (ownT 3 1 ao m cc (ints had))) ∧ had.length = m ∧ M.Ok (k + 1) ∧ M.sl.length = n ∧ M.size = 8 ∧ ∀ h ∈ had, M.Given h) (fun _ i _ => sl - (intOf i).toNat)
  case atStart => exact ⟨0, 0, _, 0, _, [], Nat.zero_le _, Nat.zero_le _, Nat.zero_le _, rfl, rfl, HH.out, rfl, HO0.out, HL0.out, rfl, fun h hh => by cases hh⟩
  case round =>
    clear HH HO0 HL0
    obtain ⟨k, m, ao, cc, M, had, hk, hk1, hmk, rfl, rfl, H, hml, hM, hMl, hMs, hG⟩ := hrel
    have HH := Lib.hid H
    have HML := Lib.hid hml
    have HM := Lib.hid hM
    have HMl := Lib.hid hMl
    have HMs := Lib.hid hMs
    have HG := Lib.hid hG
    clear H hml hM hMl hMs hG
    by_cases hin : k < sl ∧ k < 100
    · obtain ⟨hlt, h100⟩ := hin
      have hX := HS.out
      obtain ⟨x, hx⟩ := get_some (l := sx) (i := k) (by rw [HSL.out]; exact hlt)
      obtain ⟨b, o, rfl, hc⟩ := hX.row k x hx
      have hok := hX.each x (List.mem_of_getElem? hx)
      have hT := HH.out.ground
      obtain ⟨d, nn, h, hd, ⟨ba, bl, bc, bx⟩⟩ := x
      have c0 : wr.cell? ⟨b, o + k * 5, none⟩ = some (.int .i64 d) := still_cell hT (hc 0 _ rfl) (by omega)
      have c1 : wr.cell? ⟨b, o + k * 5 + 1, none⟩ = some (.int .i64 nn) := still_cell hT (hc 1 _ rfl) (by omega)
      have c2 : wr.cell? ⟨b, o + k * 5 + 2, none⟩ = some (.int .i64 h) := still_cell hT (hc 2 _ rfl) (by omega)
      have c3 : wr.cell? ⟨b, o + k * 5 + 3, none⟩ = some (.bool hd) := still_cell hT (hc 3 _ rfl) (by omega)
      have c4 : wr.cell? ⟨b, o + k * 5 + 4, none⟩ = some (.slice ba bl bc) := still_cell hT (hc 4 _ rfl) (by omega)
      obtain ⟨t, ht⟩ : ∃ t, t = am d 7 := ⟨_, rfl⟩
      have htl : t < 7 := by rw [ht]; exact am_lt _ (by omega)
      have B1 := Lib.hid (fun W => among_lit d 7 7 t rfl ht (by omega) (by omega) W)
      obtain ⟨y, hy⟩ : ∃ y, y = am nn 9 := ⟨_, rfl⟩
      have hyl : y < 9 := by rw [hy]; exact am_lt _ (by omega)
      have B2 := Lib.hid (fun W => among_lit nn 9 9 y rfl hy (by omega) (by omega) W)
      have HOK := Lib.hid hok
      clear hX hx hc ht hy hT hok
      have HB := Lib.hid (fun o => HH.out.still ((Turned.refl _ wr).alloc o))
      have D1 := Lib.hid (fun W (H : Held w W ((PT q M).sep (ownT 3 1 ao m cc (ints had)))) => which_any (d, nn, h, hd, ⟨ba, bl, bc, bx⟩) W ao m cc had HML.out.symm (by omega) (H.ints HML.out.symm))
      unfold Act5.val at D1
      dsimp only at D1
      have hwh := which_small (a := (d, nn, h, hd, ⟨ba, bl, bc, bx⟩)) (had := had) HOK.out HM.out (by omega) HG.out
      obtain ⟨wh, hwh0⟩ : ∃ wh, wh = whichH (d, nn, h, hd, ⟨ba, bl, bc, bx⟩) had := ⟨_, rfl⟩
      rw [← hwh0] at hwh D1
      have D2 := Lib.hid (fun W (H : Held w W ((PT q M).sep (ownT 3 1 ao m cc (ints had)))) => H.call (fun _ h => A.take h HM.out (by omega) y (i64_lit (by omega) (by omega))))
      have D3 := Lib.hid (fun W (H : Held w W ((PT q M).sep (ownT 3 1 ao m cc (ints had)))) => H.call (fun _ h => A.keep h HM.out (by omega) wh hwh))
      have D4 := Lib.hid (fun W (H : Held w W ((PT q M).sep (ownT 3 1 ao m cc (ints had)))) => H.call (fun _ h => A.drop h HM.out (by omega) wh hwh))
      have R2 := Lib.hid (show (M.takeM y).Ok (k + 1 + 1) ∧ (M.takeM y).sl.length = n ∧ (M.takeM y).size = 8 ∧ ∀ h ∈ had, (M.takeM y).Given h from
        ⟨(HM.out.take (by omega) y).mono (by omega), by rw [(HM.out.take_le y).len]; exact HMl.out, by rw [PM.take_size]; exact HMs.out, fun h hh => (HG.out h hh).le (HM.out.take_le y)⟩)
      have R3 := Lib.hid (show (M.keepM wh).Ok (k + 1 + 1) ∧ (M.keepM wh).sl.length = n ∧ (M.keepM wh).size = 8 ∧ ∀ h ∈ had, (M.keepM wh).Given h from
        ⟨HM.out.keep wh, by rw [(PM.keep_le M wh).len]; exact HMl.out, by rw [PM.keep_size]; exact HMs.out, fun h hh => (HG.out h hh).le (PM.keep_le M wh)⟩)
      have R4 := Lib.hid (show (M.dropM wh).Ok (k + 1 + 1) ∧ (M.dropM wh).sl.length = n ∧ (M.dropM wh).size = 8 ∧ ∀ h ∈ had, (M.dropM wh).Given h from
        ⟨HM.out.drop wh, by rw [(PM.drop_le M wh).len]; exact HMl.out, by rw [PM.drop_size]; exact HMs.out, fun h hh => (HG.out h hh).le (PM.drop_le M wh)⟩)
      have RG := Lib.hid (fun (h : M.takeE y = 0) => (HM.out.given h).1)
      clear hwh hwh0
      rcases (show t = 0 ∨ t = 1 ∨ t = 2 ∨ t = 3 ∨ t = 4 ∨ t = 5 ∨ t = 6 by omega) with rfl | rfl | rfl | rfl | rfl | rfl | rfl
      · clear D1 D3 D4 R3 R4
        go_wp2_with (go_at_call 13; first | (((with_reducible refine (B1.out _).mono ?_)); rintro e w' ⟨rfl, rfl⟩) | (((with_reducible refine (B2.out _).mono ?_)); rintro e w' ⟨rfl, rfl⟩))
        refine (D2.out _ (HB.out _)).mono ?_
        rintro e w5 ⟨rfl, H⟩
        have HH5 := Lib.hid H
        clear H HB HH D2
        by_cases he : M.takeE y = 0
        · have HGV := Lib.hid (RG.out he)
          rw [he]
          clear RG he
          generalize M.takeH y = th at *
          go_wp2_with (at_builtin; refine wpList_append_own_at _ rfl (.tmp 59) (.tmp 61) 31 rfl 0 3 i0 (.int .i64 0) 1 8 Try.underlying31 hi hz0 hz1 hz2 rfl (by decide) (.slice ao m cc) m (ints had) rfl (ow_still HH5.out.own ((Turned.refl _ _).alloc _)) ⟨w5.heap.size, 0, none⟩ 1 1 [.int .i64 th] rfl rfl (ow_cells w5 _ _) (ow_ints rfl) (by unfold maxLen; omega) (by omega) (Nat.zero_le _) ?_; intro v6 w6 hown6 hg6 _ hat6; obtain ⟨a6, c6, rfl⟩ := ow_slice hown6; have HH6 := Lib.hid (HH5.out.grown hown6 hg6 hat6); clear hown6 hg6 hat6)
          go_roundw
          case rel =>
            refine ⟨k + 1, m + 1, a6, c6, _, had ++ [th], by omega, by omega, by omega, by go_num, rfl, by have := HH6.out; simpa [ints] using this, by rw [List.length_append, HML.out]; rfl, R2.out.1, R2.out.2.1, R2.out.2.2.1, fun h hh => ?_⟩
            rcases List.mem_append.1 hh with hh | hh
            · exact R2.out.2.2.2 h hh
            · simp at hh; subst hh; exact HGV.out
          case measure => simp [intOf]; omega
        · have hb : (M.takeE y == 0) = false := by rw [beq_eq_false_iff_ne]; exact he
          clear RG he
          generalize M.takeH y = th at *
          generalize M.takeE y = te at *
          go_wp2_with fail
          go_roundw
          case rel => exact ⟨k + 1, m, ao, cc, _, had, by omega, by omega, by omega, by go_num, rfl, HH5.out, HML.out, R2.out⟩
          case measure => simp [intOf]; omega
      · clear D1 D3 D4 R3 R4
        go_wp2_with (go_at_call 13; first | (((with_reducible refine (B1.out _).mono ?_)); rintro e w' ⟨rfl, rfl⟩) | (((with_reducible refine (B2.out _).mono ?_)); rintro e w' ⟨rfl, rfl⟩))
        refine (D2.out _ (HB.out _)).mono ?_
        rintro e w5 ⟨rfl, H⟩
        have HH5 := Lib.hid H
        clear H HB HH D2
        by_cases he : M.takeE y = 0
        · have HGV := Lib.hid (RG.out he)
          rw [he]
          clear RG he
          generalize M.takeH y = th at *
          go_wp2_with (at_builtin; refine wpList_append_own_at _ rfl (.tmp 59) (.tmp 61) 31 rfl 0 3 i0 (.int .i64 0) 1 8 Try.underlying31 hi hz0 hz1 hz2 rfl (by decide) (.slice ao m cc) m (ints had) rfl (ow_still HH5.out.own ((Turned.refl _ _).alloc _)) ⟨w5.heap.size, 0, none⟩ 1 1 [.int .i64 th] rfl rfl (ow_cells w5 _ _) (ow_ints rfl) (by unfold maxLen; omega) (by omega) (Nat.zero_le _) ?_; intro v6 w6 hown6 hg6 _ hat6; obtain ⟨a6, c6, rfl⟩ := ow_slice hown6; have HH6 := Lib.hid (HH5.out.grown hown6 hg6 hat6); clear hown6 hg6 hat6)
          go_roundw
          case rel =>
            refine ⟨k + 1, m + 1, a6, c6, _, had ++ [th], by omega, by omega, by omega, by go_num, rfl, by have := HH6.out; simpa [ints] using this, by rw [List.length_append, HML.out]; rfl, R2.out.1, R2.out.2.1, R2.out.2.2.1, fun h hh => ?_⟩
            rcases List.mem_append.1 hh with hh | hh
            · exact R2.out.2.2.2 h hh
            · simp at hh; subst hh; exact HGV.out
          case measure => simp [intOf]; omega
        · have hb : (M.takeE y == 0) = false := by rw [beq_eq_false_iff_ne]; exact he
          clear RG he
          generalize M.takeH y = th at *
          generalize M.takeE y = te at *
          go_wp2_with fail
          go_roundw
          case rel => exact ⟨k + 1, m, ao, cc, _, had, by omega, by omega, by omega, by go_num, rfl, HH5.out, HML.out, R2.out⟩
          case measure => simp [intOf]; omega
      · clear D1 D3 D4 R3 R4
        go_wp2_with (go_at_call 13; first | (((with_reducible refine (B1.out _).mono ?_)); rintro e w' ⟨rfl, rfl⟩) | (((with_reducible refine (B2.out _).mono ?_)); rintro e w' ⟨rfl, rfl⟩))
        refine (D2.out _ (HB.out _)).mono ?_
        rintro e w5 ⟨rfl, H⟩
        have HH5 := Lib.hid H
        clear H HB HH D2
        by_cases he : M.takeE y = 0
        · have HGV := Lib.hid (RG.out he)
          rw [he]
          clear RG he
          generalize M.takeH y = th at *
          go_wp2_with (at_builtin; refine wpList_append_own_at _ rfl (.tmp 59) (.tmp 61) 31 rfl 0 3 i0 (.int .i64 0) 1 8 Try.underlying31 hi hz0 hz1 hz2 rfl (by decide) (.slice ao m cc) m (ints had) rfl (ow_still HH5.out.own ((Turned.refl _ _).alloc _)) ⟨w5.heap.size, 0, none⟩ 1 1 [.int .i64 th] rfl rfl (ow_cells w5 _ _) (ow_ints rfl) (by unfold maxLen; omega) (by omega) (Nat.zero_le _) ?_; intro v6 w6 hown6 hg6 _ hat6; obtain ⟨a6, c6, rfl⟩ := ow_slice hown6; have HH6 := Lib.hid (HH5.out.grown hown6 hg6 hat6); clear hown6 hg6 hat6)
          go_roundw
          case rel =>
            refine ⟨k + 1, m + 1, a6, c6, _, had ++ [th], by omega, by omega, by omega, by go_num, rfl, by have := HH6.out; simpa [ints] using this, by rw [List.length_append, HML.out]; rfl, R2.out.1, R2.out.2.1, R2.out.2.2.1, fun h hh => ?_⟩
            rcases List.mem_append.1 hh with hh | hh
            · exact R2.out.2.2.2 h hh
            · simp at hh; subst hh; exact HGV.out
          case measure => simp [intOf]; omega
        · have hb : (M.takeE y == 0) = false := by rw [beq_eq_false_iff_ne]; exact he
          clear RG he
          generalize M.takeH y = th at *
          generalize M.takeE y = te at *
          go_wp2_with fail
          go_roundw
          case rel => exact ⟨k + 1, m, ao, cc, _, had, by omega, by omega, by omega, by go_num, rfl, HH5.out, HML.out, R2.out⟩
          case measure => simp [intOf]; omega
      · clear D2 D4 R2 R4 RG
        go_wp2_with (go_at_call 13; refine (B1.out _).mono ?_; rintro e w' ⟨rfl, rfl⟩)
        refine (D1.out _ (HB.out _)).mono ?_
        rintro e w5 ⟨rfl, hst⟩
        have HH5 := Lib.hid ((HB.out _).still hst)
        clear hst D1 HB HH
        go_wp2_with fail
        refine (D3.out _ HH5.out).mono ?_
        rintro e w6 ⟨rfl, H⟩
        have HH6 := Lib.hid H
        clear H HH5 D3
        go_wp2_with fail
        go_roundw
        case rel => exact ⟨k + 1, m, ao, cc, _, had, by omega, by omega, by omega, by go_num, rfl, HH6.out, HML.out, R3.out⟩
        case measure => simp [intOf]; omega
      · clear D2 D3 R2 R3 RG
        go_wp2_with (go_at_call 13; refine (B1.out _).mono ?_; rintro e w' ⟨rfl, rfl⟩)
        refine (D1.out _ (HB.out _)).mono ?_
        rintro e w5 ⟨rfl, hst⟩
        have HH5 := Lib.hid ((HB.out _).still hst)
        clear hst D1 HB HH
        go_wp2_with fail
        refine (D4.out _ HH5.out).mono ?_
        rintro e w6 ⟨rfl, H⟩
        have HH6 := Lib.hid H
        clear H HH5 D4
        go_wp2_with fail
        go_roundw
        case rel => exact ⟨k + 1, m, ao, cc, _, had, by omega, by omega, by omega, by go_num, rfl, HH6.out, HML.out, R4.out⟩
        case measure => simp [intOf]; omega
      · clear D2 D3 R2 R3 RG
        go_wp2_with (go_at_call 13; refine (B1.out _).mono ?_; rintro e w' ⟨rfl, rfl⟩)
        refine (D1.out _ (HB.out _)).mono ?_
        rintro e w5 ⟨rfl, hst⟩
        have HH5 := Lib.hid ((HB.out _).still hst)
        clear hst D1 HB HH
        go_wp2_with fail
        refine (D4.out _ HH5.out).mono ?_
        rintro e w6 ⟨rfl, H⟩
        have HH6 := Lib.hid H
        clear H HH5 D4
        go_wp2_with fail
        go_roundw
        case rel => exact ⟨k + 1, m, ao, cc, _, had, by omega, by omega, by omega, by go_num, rfl, HH6.out, HML.out, R4.out⟩
        case measure => simp [intOf]; omega
      · clear D2 D3 R2 R3 RG
        go_wp2_with (go_at_call 13; refine (B1.out _).mono ?_; rintro e w' ⟨rfl, rfl⟩)
        refine (D1.out _ (HB.out _)).mono ?_
        rintro e w5 ⟨rfl, hst⟩
        have HH5 := Lib.hid ((HB.out _).still hst)
        clear hst D1 HB HH
        go_wp2_with fail
        refine (D4.out _ HH5.out).mono ?_
        rintro e w6 ⟨rfl, H⟩
        have HH6 := Lib.hid H
        clear H HH5 D4
        go_wp2_with fail
        go_roundw
        case rel => exact ⟨k + 1, m, ao, cc, _, had, by omega, by omega, by omega, by go_num, rfl, HH6.out, HML.out, R4.out⟩
        case measure => simp [intOf]; omega
    · have hex : (k < sl ∧ 100 ≤ k) ∨ sl ≤ k := by omega
      clear hin
      have HP := Lib.hid (show PlayPost PT w n (.returned (.tuple #[.pointer (some ⟨q, 0, none⟩), .slice ao m cc])) wr from ⟨q, m, ao, cc, M, had, rfl, HH.out, HML.out, by omega, HM.out.mono (by omega), HMl.out, HMs.out, HG.out⟩)
      clear HH HML HM HMl HMs HG
      rcases hex with ⟨h1, h2⟩ | h1
      all_goals
        go_wp2_with fail
        go_ret2
        exact HP.out
end Go.Proofs.Ytinfckoaphgmkaa
