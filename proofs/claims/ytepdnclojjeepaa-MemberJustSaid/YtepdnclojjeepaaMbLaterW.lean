/- MemberLater: the walk. No condition but the words. -/
import Derived.Test.YtepdnclojjeepaaMbApi
import Derived.Test.YtepdnclojjeepaaMbMath
import Derived.Test.YtepdnclojjeepaaActs15
namespace Go.Proofs.Ytepdnclojjeepaa
open Go.RowKit
set_option linter.unusedVariables false
set_option linter.unusedSimpArgs false
set_option maxRecDepth 100000

theorem sinceV_nat {M : MbM} {k : Nat} (hk : k < 16) (h : 0 < M.at k) : M.sinceV (k : Int) = M.at k := by
  unfold MbM.sinceV; rw [if_pos (findE_0 hk h), Int.toNat_natCast]
structure LaterM (M M2 : MbM) (i : Nat) : Prop where
  e1 : M.findE (i : Int) = 0
  e2 : M.sinceV (i : Int) = M.at i
  e3 : (M.leave (i : Int)).joinE (i : Int) = 0
  e4 : M2 = (M.leave (i : Int)).join (i : Int)
  e5 : M2.sinceV (i : Int) = M.T + 2
  e6 : M2.findE (i : Int) = 0
  e7 : M2.memb = M.memb
  e8 : ∀ j, j ∈ M.memb → M2.findE (j : Int) = 0 ∧ (j ≠ i → M2.sinceV (j : Int) = M.at j)
  e9 : M.at i ≤ M.T
theorem later_math {M : MbM} {K i : Nat} (hM : M.Ok K) (hi : i ∈ M.memb) : LaterM M ((M.leave (i : Int)).join (i : Int)) i := by
  obtain ⟨h1, h2⟩ := mem_memb.1 hi
  have e1 := findE_0 h1 h2
  obtain ⟨a1, a2, a3⟩ := memb_leave hM e1
  have hf := hM.full
  have e3 := joinE_0 (M := M.leave (i : Int)) h1 (by rw [a3, Int.toNat_natCast, if_pos rfl]) (by omega)
  obtain ⟨b1, b2, b3⟩ := memb_join (hM.leave (i : Int)) e3
  have hat : ∀ j, ((M.leave (i : Int)).join (i : Int)).at j = if j = i then M.T + 2 else M.at j := fun j => by
    rw [b3, a3, a2, Int.toNat_natCast]
    by_cases hj : j = i
    · rw [if_pos hj, if_pos hj]
    · rw [if_neg hj, if_neg hj, if_neg hj]
  have hpos : ∀ j, 0 < M.at j → 0 < ((M.leave (i : Int)).join (i : Int)).at j := fun j hj => by rw [hat]; split <;> omega
  refine ⟨e1, sinceV_nat h1 h2, e3, rfl, ?_, findE_0 h1 (hpos i h2), memb_congr (fun j hj => ?_), fun j hj => ?_, hM.le i⟩
  · rw [sinceV_nat h1 (hpos i h2), hat, if_pos rfl]
  · rw [hat]
    by_cases hji : j = i
    · rw [if_pos hji, hji]; exact ⟨fun _ => h2, fun _ => by omega⟩
    · rw [if_neg hji]
  · obtain ⟨j1, j2⟩ := mem_memb.1 hj
    exact ⟨findE_0 j1 (hpos j j2), fun hji => by rw [sinceV_nat j1 (hpos j j2), hat, if_neg hji]⟩
theorem held_nums {w V : World} {a : Option Addr} {n c : Nat} {l : List Int} (h : Held w V (ownT 3 1 a n c (ints l))) (hn : n = l.length) : NumsAt V a l := by
  obtain ⟨W, h1, _⟩ := h
  exact ownT_ints h1 hn
theorem held_allO {MT : Nat → MbM → Thing} {w0 w : World} {q K : Nat} {M : MbM} (A : MemberApi MT) (H : Held w0 w (MT q M)) (hM : M.Ok K) (hK : K < 1000000) {l : List Nat} {n : Nat} (hl : M.memb = l) (hn : n = l.length) :
    Calls Try.prog 23 #[.pointer (some ⟨q, 0, none⟩)] w fun e w' => ∃ a c, e = .returned (.slice a n c) ∧ Held w0 w' ((MT q M).sep (ownT 3 1 a n c (ints (intsN l)))) := by
  subst hl
  have H' := H
  obtain ⟨_, h, _⟩ := H'
  exact (A.all_ h hM hK n hn).mono fun e w' ⟨a, c, he, ho, hs⟩ => ⟨a, c, he, H.got ho hs⟩
/-- A number of a row that is held. -/
theorem held_num {w V : World} {T : Thing} {a : Option Addr} {n c : Nat} {l : List Int} (h : Held w V (T.sep (ownT 3 1 a n c (ints l)))) (hn : n = l.length) {j : Nat} {y : Int} (hy : l[j]? = some y) : ∃ g, a = some ⟨g, 0, none⟩ ∧ V.cell? ⟨g, j, none⟩ = some (.int .i64 y) := by
  obtain ⟨b, o, e, hc⟩ := held_nums h.snd hn j y hy
  obtain ⟨W, hW, _⟩ := h.snd
  obtain ⟨g, rfl⟩ := owm_addr hW.1 (by have := (List.getElem?_eq_some_iff.1 hy).1; omega)
  obtain ⟨rfl, rfl⟩ : g = b ∧ 0 = o := by simpa using e
  exact ⟨g, rfl, by rw [Nat.zero_add] at hc; exact hc⟩
theorem held_numG {w V : World} {T : Thing} {g n c : Nat} {l : List Int} (h : Held w V (T.sep (ownT 3 1 (some ⟨g, 0, none⟩) n c (ints l)))) (hn : n = l.length) {j : Nat} {y : Int} (hy : l[j]? = some y) : V.cell? ⟨g, j, none⟩ = some (.int .i64 y) := by
  obtain ⟨g', e, h⟩ := held_num h hn hy
  cases e
  exact h
theorem intsN_get {l : List Nat} {k i : Nat} (h : l[k]? = some i) : (intsN l)[k]? = some ((i : Nat) : Int) := by unfold intsN; rw [List.getElem?_map, h]; rfl

set_option maxHeartbeats 8000000 in
theorem mlater_walk {MT : Nat → MbM → Thing} (A : MemberApi MT) (t : Sl Act15) (n1 : Int) (w : World) (h1 : SlOk encAct15 okAct15 2 w t) :
    Calls Try.prog 5 #[.slice t.a t.len t.cap, .int .i64 n1] w fun e w' => e = .returned (.bool true) ∧ Still w w' := by
  have HWk := Lib.hid (works15 A w)
  have HMk := Lib.hid (fun V (hs : Still w V) => show Calls Try.prog 8 #[] V fun e w' => ∃ q, e = .returned (.pointer (some ⟨q, 0, none⟩)) ∧ Held w w' ((MT q MbM.new).sep Thing.none) from
    (A.make_ V).mono fun e w' ⟨q, he, hn⟩ => ⟨q, he, (Held.start hs).new hn⟩)
  obtain ⟨ta, tl, tc, tx⟩ := t
  have htcap : tl ≤ tc := h1.le
  have htmax : tc ≤ maxLen := h1.max
  unfold maxLen at htmax
  have HTX := Lib.hid h1
  have HTL : Hid (tx.length = tl) := Lib.hid h1.len
  dsimp only
  clear h1
  go_enter Try.func5, Try.ntmps5
  go_wp2_with (first
    | (go_at_call 26; ((with_reducible refine HWk.out.mono ?_)); rintro e w1 ⟨rfl, hs⟩; have S1 := Lib.hid hs; clear hs)
    | (go_at_call 8; ((with_reducible refine (HMk.out _ S1.out).mono ?_)); rintro e w2 ⟨q, rfl, h⟩; have K1 := Lib.hid h; clear h))
  go_loopw [6] (fun i wr => ∃ (k : Nat) (M : MbM), k ≤ tl ∧ k ≤ 100 ∧ i = .int .i64 k ∧ M.Ok k ∧ Held w wr ((MT q M).sep Thing.none)) (fun i _ => tl - (intOf i).toNat)
  case atStart => exact ⟨0, _, Nat.zero_le _, Nat.zero_le _, rfl, MbM.new_ok, K1.out⟩
  case round =>
    clear K1
    obtain ⟨k, M, hk, hk1, rfl, hM, hH⟩ := hrel
    have K := Lib.hid hH
    by_cases hin : k < tl ∧ k < 100
    · obtain ⟨hlt, h150⟩ := hin
      obtain ⟨x, hx⟩ := get_some (l := tx) (i := k) (by rw [HTL.out]; exact hlt)
      obtain ⟨ba, o, rfl, hc⟩ := HTX.out.row k x hx
      obtain ⟨_, hok⟩ : okAct15 w x := HTX.out.each x (List.mem_of_getElem? hx)
      have hT := hH.ground
      obtain ⟨out, id⟩ := x
      obtain ⟨m1, m2⟩ := i64_of15 hok
      have c0 : wr.cell? ⟨ba, o + k * 2, none⟩ = some (.bool out) := still_cell hT (hc 0 _ rfl) (by omega)
      have c1 : wr.cell? ⟨ba, o + k * 2 + 1, none⟩ = some (.int .i64 id) := still_cell hT (hc 1 _ rfl) (by omega)
      have HJ := Lib.hid (Held.joinM A hH hM (by omega) m1 m2 rfl rfl rfl)
      have HL := Lib.hid (Held.leaveM A hH hM (by omega) m1 m2 rfl rfl rfl)
      have HO := Lib.hid (And.intro (hM.join id) (hM.leave id))
      have hki : (k : Int) < (tl : Int) := by omega
      clear hx hc hT hok hH hM
      cases out
      all_goals (
        go_wp2_with (first
          | (go_at_call 10; ((with_reducible refine HJ.out.mono ?_)); rintro e w5 ⟨rfl, h⟩; have K5 := Lib.hid h; clear h)
          | (go_at_call 12; ((with_reducible refine HL.out.mono ?_)); rintro e w5 ⟨rfl, h⟩; have K5 := Lib.hid h; clear h))
        go_roundw
        case rel => exact ⟨k + 1, _, by omega, by omega, by go_num, by first | exact HO.out.1 | exact HO.out.2, K5.out⟩
        case measure => simp [intOf]; omega)
    · have hex : (k < tl ∧ 100 ≤ k) ∨ tl ≤ k := by omega
      clear hin
      obtain ⟨n, hn⟩ : ∃ n, n = M.memb.length := ⟨_, rfl⟩
      have HA := Lib.hid (held_allO A hH.only hM (by omega) rfl hn)
      have hn8 : n ≤ 8 := by have := hM.full; omega
      rcases Nat.eq_zero_or_pos n with h0 | h0
      · subst h0
        clear hH hM hn
        rcases hex with ⟨q1, q2⟩ | q1
        all_goals (
          go_wp2_with (go_at_call 23; ((with_reducible refine HA.out.mono ?_)); rintro e w6 ⟨a6, c6, rfl, h⟩; have K6 := Lib.hid h; clear h)
          go_ret
          exact ⟨rfl, K6.out.ground⟩)
      · obtain ⟨u, hu⟩ : ∃ u, u = am n1 n := ⟨_, rfl⟩
        have hul : u < n := by rw [hu]; exact am_lt _ h0
        have B1 := Lib.hid (fun W => among_lit n1 (n : Int) n u rfl hu h0 (by omega) W)
        obtain ⟨i, hi⟩ := get_some (l := M.memb) (i := u) (by omega)
        have hLM := later_math hM (List.mem_of_getElem? hi)
        obtain ⟨M2, hM2⟩ : ∃ M2, M2 = (M.leave (i : Int)).join (i : Int) := ⟨_, rfl⟩
        rw [← hM2] at hLM
        have o1 := hM.leave (i : Int)
        have o2 : M2.Ok (k + 1 + 1) := by rw [hM2]; exact o1.join (i : Int)
        have hi16 : i < 16 := (mem_memb.1 (List.mem_of_getElem? hi)).1
        have HCell := Lib.hid (fun V a c (H : Held w V ((MT q M).sep (ownT 3 1 a n c (ints (intsN M.memb))))) => held_num H (by rw [intsN_len]; exact hn) (intsN_get hi))
        have HCl := Lib.hid (fun (j y : Nat) (hy : M.memb[j]? = some y) (V : World) (T : Thing) (g c : Nat) (H : Held w V (T.sep (ownT 3 1 (some ⟨g, 0, none⟩) n c (ints (intsN M.memb))))) => held_numG H (by rw [intsN_len]; exact hn) (intsN_get hy))
        obtain ⟨OT, hOT⟩ : ∃ OT : List Int, OT = M.memb.map (fun y => ((M.at y : Nat) : Int)) := ⟨_, rfl⟩
        have HOl : OT.length = n := by rw [hOT, List.length_map, hn]
        have HOg := Lib.hid (fun (j y : Nat) (hy : M.memb[j]? = some y) => show OT[j]? = some ((M.at y : Nat) : Int) from by rw [hOT, List.getElem?_map, hy]; rfl)
        have HOL := Lib.hid HOl
        have HOt := Lib.hid (fun (j y : Nat) (hy : M.memb[j]? = some y) => show OT.take (j + 1) = OT.take j ++ [((M.at y : Nat) : Int)] from by
          have : OT[j]? = some ((M.at y : Nat) : Int) := by rw [hOT, List.getElem?_map, hy]; rfl
          rw [List.take_add_one, this]; rfl)
        obtain ⟨i0, fi, hz0, hz1, hz2⟩ := info_parts infoIntW
        have HSi := Lib.hid (fun V R (H : Held w V ((MT q M).sep R)) => Held.sinceM A H hM (by omega) (x := ((i : Nat) : Int)) (by omega) (by omega) hLM.e2 hLM.e1)
        have HSk := Lib.hid (fun (j : Nat) (y : Nat) (hy : M.memb[j]? = some y) V R (H : Held w V ((MT q M).sep R)) => show Calls Try.prog 14 #[.pointer (some ⟨q, 0, none⟩), .int .i64 ((y : Nat) : Int)] V fun e w' => e = .returned (.tuple #[.int .i64 ((M.at y : Nat) : Int), .int .i64 0]) ∧ Still V w' from
          Held.sinceM A H hM (by omega) (x := ((y : Nat) : Int)) (by omega) (by have := (mem_memb.1 (List.mem_of_getElem? hy)).1; omega) (sinceV_nat (mem_memb.1 (List.mem_of_getElem? hy)).1 (mem_memb.1 (List.mem_of_getElem? hy)).2) (findE_0 (mem_memb.1 (List.mem_of_getElem? hy)).1 (mem_memb.1 (List.mem_of_getElem? hy)).2))
        have HLv := Lib.hid (fun V R (H : Held w V ((MT q M).sep R)) => Held.leaveM A H hM (by omega) (x := ((i : Nat) : Int)) (by omega) (by omega) rfl hLM.e1 rfl)
        have HJn := Lib.hid (fun V R (H : Held w V ((MT q (M.leave (i : Int))).sep R)) => Held.joinM A H o1 (by omega) (x := ((i : Nat) : Int)) (by omega) (by omega) rfl hLM.e3 hM2.symm)
        have HS2 := Lib.hid (fun V R (H : Held w V ((MT q M2).sep R)) => Held.sinceM A H o2 (by omega) (x := ((i : Nat) : Int)) (by omega) (by omega) hLM.e5 hLM.e6)
        have HS3 := Lib.hid (fun (j : Nat) (y : Nat) (hy : M.memb[j]? = some y) V R (H : Held w V ((MT q M2).sep R)) => show Calls Try.prog 14 #[.pointer (some ⟨q, 0, none⟩), .int .i64 ((y : Nat) : Int)] V fun e w' => e = .returned (.tuple #[.int .i64 ((M2.sinceV ((y : Nat) : Int) : Nat) : Int), .int .i64 0]) ∧ Still V w' from
          Held.sinceM A H o2 (by omega) (x := ((y : Nat) : Int)) (by omega) (by have := (mem_memb.1 (List.mem_of_getElem? hy)).1; omega) rfl (hLM.e8 y (List.mem_of_getElem? hy)).1)
        have HE8 := Lib.hid (fun (y : Nat) (hy : y ∈ M.memb) (hyi : y ≠ i) => (hLM.e8 y hy).2 hyi)
        have HA2 := Lib.hid (fun V R (H : Held w V ((MT q M2).sep R)) => Held.allM A H o2 (by omega) hLM.e7 hn)
        have hwas : M.at i ≤ M.T := hLM.e9
        have hTk : M.T ≤ k := hM.low
        obtain ⟨was, hwas2⟩ : ∃ was, was = M.at i := ⟨_, rfl⟩
        rw [← hwas2] at HSi hwas
        have hni : (u : Int) < (n : Int) := by omega
        have hn0 : (0 : Int) < (n : Int) := by omega
        have HN := Lib.hid hn
        clear hH hM hn hu hLM hM2 o1 o2 hwas2 hi hi16 hOT HOl
        rcases hex with ⟨q1, q2⟩ | q1
        all_goals (
          as_aux_lemma =>
          go_wp2_with (first
            | (go_at_call 23; ((with_reducible refine HA.out.mono ?_)); rintro e w6 ⟨a6, c6, rfl, h⟩; obtain ⟨g6, rfl, z6⟩ := HCell.out _ _ _ h; have K6 := Lib.hid h; clear h)
            | (go_at_call 27; ((with_reducible refine (B1.out _).mono ?_)); rintro e wb ⟨rfl, hwb⟩; subst hwb)
            | (go_at_call 14; ((with_reducible refine (HSi.out _ _ K6.out).mono ?_)); rintro e w7 ⟨rfl, hs⟩; have K7 := Lib.hid (K6.out.still hs); clear hs))
          have HW := Lib.hid (World.ownsRow_made (e := 3) (size := 1) w7 #[] 0 (Nat.le_refl _) (by simp) (by simp))
          go_loopw [10, 11] (fun o i wr => ∃ (j : Nat) (ao : Option Addr) (cc : Nat), j ≤ n ∧ i = .int .i64 j ∧ o = .slice ao j cc ∧ wr.ownsRow w7.heap.size 3 1 (.slice ao j cc) j (ints (OT.take j)) ∧ Still w7 wr) (fun _ i _ => n - (intOf i).toNat)
          case atStart => exact ⟨0, _, 0, Nat.zero_le _, rfl, rfl, HW.out, (Turned.refl _ _).alloc _⟩
          case round =>
            obtain ⟨j, ao, cc, hj, rfl, rfl, hown, hst⟩ := hrel
            have HO := Lib.hid hown
            have HS := Lib.hid hst
            have hlo := hst.size
            have hjc : j ≤ cc := (ow_le hown).1
            by_cases hlt : j < n
            · obtain ⟨y, hy⟩ := get_some (l := M.memb) (i := j) (by rw [← HN.out]; exact hlt)
              have Kr := Lib.hid (K7.out.still hst)
              have zj := HCl.out j y hy _ _ _ _ Kr.out
              have HSy := Lib.hid (HSk.out j y hy)
              have HT := Lib.hid (HOt.out j y hy)
              have hji : (j : Int) < (n : Int) := by omega
              generalize M.at y = sy at *
              clear hown hst hy
              go_wp2_with (first
                | (go_at_call 14; ((with_reducible refine (HSy.out _ _ Kr.out).mono ?_)); rintro e w8 ⟨rfl, hs⟩; have S8 := Lib.hid (HS.out.trans hs); have HO8 := Lib.hid (ow_still HO.out hs); have hlo8 := hs.size; clear hs)
                | (at_builtin; refine wpList_append_own_at _ rfl _ _ 35 rfl w7.heap.size 3 i0 (.int .i64 0) 1 8 Try.underlying35 fi hz0 hz1 hz2 rfl (by decide) (.slice ao j cc) j (ints (OT.take j)) rfl (ow_still HO8.out ((Turned.refl _ _).alloc _)) ⟨w8.heap.size, 0, none⟩ 1 1 [.int .i64 ((sy : Nat) : Int)] rfl rfl (ow_cells w8 _ _) (ow_ints rfl) (by unfold maxLen; omega) (by omega) (by first | (simp; done) | (simp; omega)) ?_; intro v9 w9 hown9 hg9 _ hat9; obtain ⟨a9, c9, rfl⟩ := ow_slice hown9; have HS9 := Lib.hid (ow_appended (xs := ints (OT.take j)) (ys := []) (v6 := undef) S8.out HO8.out hg9); have HO9 := Lib.hid hown9; clear hown9 hg9 hat9))
              go_roundw
              case rel => exact ⟨j + 1, a9, c9, by omega, by go_num, rfl, by rw [HT.out]; have := HO9.out; simpa [ints] using this, HS9.out⟩
              case measure => simp [intOf]; omega
            · obtain rfl : j = n := by omega
              have e : OT.take j = OT := by rw [← HOL.out, List.take_length]
              rw [e] at hown
              have K9 := Lib.hid ((K7.out.got hown hst).assoc)
              obtain ⟨go, rfl⟩ := owm_addr hown (by omega)
              clear hown hst HO HS e hlo
              go_wp2_with (first
                | (go_at_call 12; ((with_reducible refine (HLv.out _ _ K9.out).mono ?_)); rintro e wa ⟨rfl, h⟩; have Ka := Lib.hid h; clear h)
                | (go_at_call 10; ((with_reducible refine (HJn.out _ _ Ka.out).mono ?_)); rintro e wb ⟨rfl, h⟩; have Kb := Lib.hid h; clear h)
                | (go_at_call 14; ((with_reducible refine (HS2.out _ _ Kb.out).mono ?_)); rintro e wc ⟨rfl, hs⟩; have Kc := Lib.hid (Kb.out.still hs); clear hs))
              go_loopw [20] (fun i wr => ∃ jj : Nat, jj ≤ j ∧ i = .int .i64 jj ∧ Still wc wr) (fun i _ => j - (intOf i).toNat)
              case atStart => exact ⟨0, Nat.zero_le _, rfl, Turned.refl _ _⟩
              case round =>
                obtain ⟨k2, hk2, rfl, hst⟩ := hrel
                have HS := Lib.hid hst
                have Kr := Lib.hid (Kc.out.still hst)
                clear hst
                by_cases hlt2 : k2 < j
                · obtain ⟨y, hy⟩ := get_some (l := M.memb) (i := k2) (by rw [← HN.out]; exact hlt2)
                  have HZ := Lib.hid (fun V R (H : Held w V ((MT q M2).sep ((ownT 3 1 (some ⟨g6, 0, none⟩) j c6 (ints (intsN M.memb))).sep (ownT 3 1 (some ⟨go, 0, none⟩) j cc (ints OT))))) (_ : R = 0) => show V.cell? ⟨g6, k2, none⟩ = some (.int .i64 ((y : Nat) : Int)) ∧ V.cell? ⟨go, k2, none⟩ = some (.int .i64 ((M.at y : Nat) : Int)) from
                    ⟨HCl.out k2 y hy _ _ _ _ H.assoc'.drop, held_numG H.assoc' HOL.out.symm (HOg.out k2 y hy)⟩)
                  obtain ⟨z1, z2⟩ := HZ.out _ 0 Kr.out rfl
                  have HSy := Lib.hid (HS3.out k2 y hy)
                  have hji : (k2 : Int) < (j : Int) := by omega
                  by_cases hyi : y = i
                  · subst hyi
                    generalize M2.sinceV ((y : Nat) : Int) = s2 at *
                    generalize M.at y = sy at *
                    have hne : ((y : Int) != (y : Int)) = false := by simp
                    go_wp2_with (go_at_call 14; ((with_reducible refine (HSy.out _ _ Kr.out).mono ?_)); rintro e wd ⟨rfl, hs⟩; have Sd := Lib.hid (HS.out.trans hs); obtain ⟨z3, z4⟩ := HZ.out _ 0 (Kr.out.still hs) rfl; clear hs)
                    go_roundw
                    case rel => exact ⟨k2 + 1, by omega, by go_num, Sd.out⟩
                    case measure => simp [intOf]; omega
                  · have e8 := HE8.out y (List.mem_of_getElem? hy) hyi
                    rw [e8] at HSy
                    have hne : ((y : Int) != (i : Int)) = true := by rw [bne_iff_ne]; omega
                    generalize M.at y = sy at *
                    clear e8
                    go_wp2_with (go_at_call 14; ((with_reducible refine (HSy.out _ _ Kr.out).mono ?_)); rintro e wd ⟨rfl, hs⟩; have Sd := Lib.hid (HS.out.trans hs); obtain ⟨z3, z4⟩ := HZ.out _ 0 (Kr.out.still hs) rfl; clear hs)
                    go_roundw
                    case rel => exact ⟨k2 + 1, by omega, by go_num, Sd.out⟩
                    case measure => simp [intOf]; omega
                · obtain rfl : k2 = j := by omega
                  have hgt : (was : Int) < (M.T : Int) + 2 := by omega
                  generalize M.T = T at *
                  have HSm := Lib.hid (fun V V2 a c (hs : Still V V2) (H : Held w V ((MT q M2).sep ((ownT 3 1 (some ⟨g6, 0, none⟩) k2 c6 (ints (intsN M.memb))).sep (ownT 3 1 (some ⟨go, 0, none⟩) k2 cc (ints OT))))) (hA : NumsAt V2 a (intsN M.memb)) => show Calls Try.prog 22 #[.slice a k2 c, .slice (some ⟨g6, 0, none⟩) k2 c6] V2 fun e w' => e = .returned (.bool true) ∧ Still V2 w' from
                    same_nums (by rw [intsN_len]; exact HN.out) (by omega) hA (held_nums (H.still hs).assoc'.drop.snd (by rw [intsN_len]; exact HN.out)))
                  go_wp2_with (first
                    | (go_at_call 23; ((with_reducible refine (HA2.out _ _ Kr.out).mono ?_)); rintro e we ⟨ae, ce, rfl, hA, hs⟩; have HSn := Lib.hid (HSm.out _ _ _ ce hs Kr.out hA); have Ke := Lib.hid (Kr.out.still hs); clear hs hA)
                    | (go_at_call 22; ((with_reducible refine HSn.out.mono ?_)); rintro e wf ⟨rfl, hs⟩; have Kf := Lib.hid (Ke.out.still hs); clear hs))
                  go_ret
                  exact ⟨by first | rfl | (simp; done) | (simp; omega), Kf.out.ground⟩)
end Go.Proofs.Ytepdnclojjeepaa
