/- The walk of TriePrunes. No condition but the words wanted of the program's calls. -/
import Derived.Test.YtpmkokckjieidaaGreatDoorTrieHeld
namespace Go.Proofs.YtpmkokckjieidaaGreatDoor
open Go.RowKit
set_option linter.unusedVariables false
set_option linter.unusedSimpArgs false
set_option maxRecDepth 100000

theorem okAct10_stays : Stays okAct10 := fun _ _ _ _ h => h
theorem few10_len (xs : List Act10) : (few10 xs).length ≤ 80 := by unfold few10; rw [List.length_map, List.length_take]; omega
theorem few10_small {xs : List Act10} {a : A10} (h : a ∈ few10 xs) : a.2.1.length ≤ 300 := by
  unfold few10 at h
  obtain ⟨b, _, rfl⟩ := List.mem_map.1 h
  show (b.2.1.data.toList.take 100).length ≤ 300
  rw [List.length_take]; omega
theorem Held.own1 {w0 w : World} {e : TypeId} {m : Nat} {ao : Option Addr} {n cc : Nat} {xs : List Value} (H : Held w0 w (ownT e m ao n cc xs)) : w.ownsRow 0 e m (.slice ao n cc) n xs := by
  obtain ⟨W, h, _⟩ := H
  exact h.1
theorem putL_mem {L : List Pr} {f : Txt} {n : Int} {p : Pr} (h : p ∈ putL L f n) : p ∈ L ∨ p = (f, n.toNat) := by
  unfold putL at h
  split at h
  · rcases List.mem_append.1 h with h | h
    · exact .inl h
    · simp at h; exact .inr h
  · exact .inl h
theorem bldL_lt (l : List A10) : ∀ p ∈ bldL l, p.2 < 20 := by
  suffices h : ∀ (l : List A10) (L : List Pr), (∀ p ∈ L, p.2 < 20) → ∀ p ∈ l.foldl (fun L a => putL L a.2.1 ((am a.2.2 20 : Nat) : Int)) L, p.2 < 20 from h l [] (fun p h => by cases h)
  intro l
  induction l with
  | nil => intro L h; exact h
  | cons a l ih =>
    intro L h
    refine ih _ (fun p hp => ?_)
    rcases putL_mem hp with hp | rfl
    · exact h p hp
    · show ((am a.2.2 20 : Nat) : Int).toNat < 20
      rw [Int.toNat_natCast]
      exact am_lt _ (by omega)
/-- What was put and taken leaves the pairs as they were. -/
theorem put_take {L : List Pr} {f : Txt} {t : Nat} (h : ptE L f (t : Int) = 0) : tkE (putL L f (t : Int)) f (t : Int) = 0 ∧ takeL (putL L f (t : Int)) f (t : Int) = L := by
  rcases ptE_cases L f (t : Int) with h' | h' | h' | h' | ⟨_, h1, h2, h3, h4, h5⟩
  · omega
  · omega
  · omega
  · omega
  have hp : putL L f (t : Int) = L ++ [(f, t)] := by unfold putL; rw [if_pos h, Int.toNat_natCast]
  have hh : hasP (L ++ [(f, t)]) f (t : Int) = true := by unfold hasP; rw [decide_eq_true_iff, Int.toNat_natCast]; exact ⟨h2, by simp⟩
  have hk : tkE (L ++ [(f, t)]) f (t : Int) = 0 := by
    unfold tkE
    rw [if_neg (by omega), if_neg (by omega), if_pos hh]
  have hno : (f, t) ∉ L := fun hm => by
    have : hasP L f (t : Int) = true := by unfold hasP; rw [decide_eq_true_iff, Int.toNat_natCast]; exact ⟨h2, hm⟩
    rw [h4] at this; cases this
  rw [hp]
  refine ⟨hk, ?_⟩
  unfold takeL
  rw [if_pos hk, Int.toNat_natCast, List.erase_append_right _ hno]
  simp

def restL (L : List Pr) (k : Nat) : List Pr := L.filter fun p => decide (k ≤ p.2)
theorem restL_zero (L : List Pr) : restL L 0 = L := by unfold restL; rw [List.filter_eq_self]; intro p _; simp
theorem restL_step (L : List Pr) (k : Nat) : dropL (restL L k) (k : Int) = restL L (k + 1) := by
  unfold dropL restL
  rw [List.filter_filter]
  congr 1
  funext p
  by_cases h1 : (p.2 : Int) = (k : Int)
  · have : ¬ k + 1 ≤ p.2 := by omega
    simp [h1, this]
  · have : (k + 1 ≤ p.2) ↔ (k ≤ p.2) := by omega
    simp [h1, this]
theorem restL_len (L : List Pr) (k : Nat) : dropN (restL L k) (k : Int) + (restL L (k + 1)).length = (restL L k).length := by
  have := dropL_len (restL L k) (k : Int)
  unfold dropN
  rw [restL_step] at this ⊢
  omega
theorem restL_end {L : List Pr} (h : ∀ p ∈ L, p.2 < 20) : restL L 20 = [] := by
  unfold restL
  rw [List.filter_eq_nil_iff]
  intro p hp
  have := h p hp
  simp; omega
theorem restL_ok {L : List Pr} (h : TOk L) (k : Nat) : TOk (restL L k) :=
  ⟨h.nodup.filter _, fun p hp => h.ok p (List.mem_filter.1 hp).1, Nat.le_trans (List.length_filter_le _ _) h.len⟩

set_option maxHeartbeats 4000000 in
theorem prunes_walk {tT : Nat → List Pr → Thing} (A : TrieApi tT) (s1 s2 : Sl Act10) (w : World) (h1 : SlOk encAct10 okAct10 3 w s1) (h2 : SlOk encAct10 okAct10 3 w s2) :
    Calls Tryz.prog 4 #[.slice s1.a s1.len s1.cap, .slice s2.a s2.len s2.cap] w fun e w' => e = .returned (.bool true) ∧ Still w w' := by
  obtain ⟨l1, hl1⟩ : ∃ l1, l1 = few10 s1.xs := ⟨_, rfl⟩
  obtain ⟨l2, hl2⟩ : ∃ l2, l2 = few10 s2.xs := ⟨_, rfl⟩
  have HF1 := Lib.hid (fun V (h : Still w V) => few10_any s1 V (SlOk.stays okAct10_stays w V s1 h h1))
  have HF2 := Lib.hid (fun V (h : Still w V) => few10_any s2 V (SlOk.stays okAct10_stays w V s2 h h2))
  unfold Few10Post at HF1 HF2
  rw [← hl1] at HF1
  rw [← hl2] at HF2
  have hn1 : l1.length ≤ 80 := by rw [hl1]; exact few10_len _
  have hn2 : l2.length ≤ 80 := by rw [hl2]; exact few10_len _
  have HB := Lib.hid (fun V a n c (hn : n = l1.length) (hA : ActsAt V a l1) => built10 A l1 V a n c hn hA (by omega) (fun x hx => few10_small (by rw [← hl1]; exact hx)))
  have HS2 := Lib.hid (fun x (hx : x ∈ l2) => show x.2.1.length ≤ 300 from few10_small (by rw [← hl2]; exact hx))
  obtain ⟨L, hLd⟩ : ∃ L, L = bldL l1 := ⟨_, rfl⟩
  rw [← hLd] at HB
  have hL : TOk L := by rw [hLd]; exact bldL_ok _
  have HLt := Lib.hid (show ∀ p ∈ L, p.2 < 20 by rw [hLd]; exact bldL_lt _)
  have HWk := Lib.hid (works10 A w)
  obtain ⟨sa, sl, sc, sx⟩ := s1
  obtain ⟨ta, tl, tc, tx'⟩ := s2
  obtain ⟨m, hm⟩ : ∃ m, m = L.length := ⟨_, rfl⟩
  obtain ⟨nd, hnd⟩ : ∃ nd, nd = ndL L := ⟨_, rfl⟩
  have HPr := Lib.hid (fun V q R (h : Held w V ((tT q L).sep R)) => A.hpairs h hL)
  have HNd := Lib.hid (fun V q R (h : Held w V ((tT q L).sep R)) => A.hnodes h hL)
  rw [← hm] at HPr
  rw [← hnd] at HNd
  have HFl := Lib.hid (fun V q R (h : Held w V ((tT q L).sep R)) => A.hfilters h hL)
  dsimp only at HF1 HF2 ⊢
  have HL := Lib.hid hL
  have HM := Lib.hid hm
  clear hl1 hl2 h1 h2 hLd hL hm hnd
  go_enter Tryz.func4, Tryz.ntmps4
  go_wp2_with (first
    | (go_at_call 26; ((with_reducible refine HWk.out.mono ?_)); rintro e w1 ⟨rfl, hs1⟩)
    | (go_at_call 11; ((with_reducible refine (HF1.out _ hs1).mono ?_)); rintro e w2 ⟨a2, n2, c2, rfl, hn2, ho2, hs2⟩; have HN2 := Lib.hid hn2; have HO2 := Lib.hid ho2; clear hn2 ho2)
    | (go_at_call 11; ((with_reducible refine (HF2.out _ (hs1.trans hs2)).mono ?_)); rintro e w3 ⟨a3, n3, c3, rfl, hn3, ho3, hs3⟩; have HN3 := Lib.hid hn3; have HO3 := Lib.hid ho3; clear hn3 ho3)
    | (go_at_call 27; ((with_reducible refine (HB.out _ _ _ _ HN2.out (ActsAt.of_own (ow_still HO2.out hs3) HN2.out)).mono ?_)); rintro e w4 ⟨q, rfl, hh4⟩; have H4 := Lib.hid (Held.made (((Held.start (hs1.trans hs2)).got HO3.out hs3).snd) hh4); clear hh4)
    | (go_at_call 28; ((with_reducible refine (HFl.out _ _ _ H4.out).mono ?_)); rintro e w5 h5; obtain ⟨a5, n5, c5, rfl, hn5, hsl5, hh5⟩ := H4.out.gotT h5; have H5 := Lib.hid hh5.assoc; have HN5 := Lib.hid hn5; clear hh5 hn5 hsl5 h5)
    | (go_at_call 24; ((with_reducible refine (HPr.out _ _ _ H5.out).mono ?_)); rintro e w6 ⟨rfl, hh6⟩; have H6 := Lib.hid hh6; clear hh6)
    | (go_at_call 29; ((with_reducible refine (HNd.out _ _ _ H6.out).mono ?_)); rintro e w7 ⟨rfl, hh7⟩; have H7 := Lib.hid hh7; clear hh7))
  clear HF1 HF2 HB HO2 HO3 HN2 H4 H5 H6 hs1 hs2 hs3 HWk hn1
  have hn3 : n3 ≤ 80 := by rw [HN3.out]; exact hn2
  go_loopw [9] (fun i wr => ∃ k : Nat, k ≤ n3 ∧ i = .int .i64 k ∧ Held w wr ((tT q L).sep ((ownT 30 3 (some ⟨a3, 0, none⟩) n3 c3 (rowOf encA10 l2)).sep (txT a5 (flL L))))) (fun i _ => n3 - (intOf i).toNat)
  case atStart => exact ⟨0, Nat.zero_le _, rfl, H7.out⟩
  case round =>
    clear H7
    obtain ⟨k, hk, rfl, hh⟩ := hrel
    have HH := Lib.hid hh
    clear hh
    by_cases hlt : k < n3
    · obtain ⟨a, ha⟩ := get_some (l := l2) (i := k) (by rw [← HN3.out]; exact hlt)
      have hal := HS2.out a (List.mem_of_getElem? ha)
      have HCells := Lib.hid (fun (V : World) (M : List Pr) (h : Held w V ((tT q M).sep ((ownT 30 3 (some ⟨a3, 0, none⟩) n3 c3 (rowOf encA10 l2)).sep (txT a5 (flL L))))) => act_cells h.snd.drop.own1 ha)
      obtain ⟨ad, af, an⟩ := a
      dsimp only at HCells hal
      obtain ⟨_, d1, d2⟩ := HCells.out wr L HH.out
      have HCell := Lib.hid (fun (V : World) (M : List Pr) (h : Held w V ((tT q M).sep ((ownT 30 3 (some ⟨a3, 0, none⟩) n3 c3 (rowOf encA10 l2)).sep (txT a5 (flL L))))) => (HCells.out V M h).2.1)
      obtain ⟨t, ht⟩ : ∃ t, t = am an 20 := ⟨_, rfl⟩
      have htl : t < 20 := by rw [ht]; exact am_lt _ (by omega)
      have HAm := Lib.hid (fun V => among_lit an 20 20 t rfl ht (by omega) (by omega) V)
      have hb : i64w (t : Int) := ⟨by omega, by omega⟩
      have HP := Lib.hid (A.hput HH.out HL.out af t hal hb)
      by_cases hz : ptE L af (t : Int) = 0
      · obtain ⟨g1, g2⟩ := put_take hz
        have HT := Lib.hid (fun (V : World) (h : Held w V ((tT q (putL L af (t : Int))).sep ((ownT 30 3 (some ⟨a3, 0, none⟩) n3 c3 (rowOf encA10 l2)).sep (txT a5 (flL L))))) => show Calls Tryz.prog 15 #[.pointer (some ⟨q, 0, none⟩), tx af, .int .i64 t] V fun e w' => e = .returned (.int .i64 0) ∧ Held w w' ((tT q L).sep ((ownT 30 3 (some ⟨a3, 0, none⟩) n3 c3 (rowOf encA10 l2)).sep (txT a5 (flL L)))) from by
          have := A.htake h (HL.out.put _ _) af t hal hb
          rwa [g1, g2] at this)
        rw [hz] at HP
        unfold tx at d1 HP HT HCell
        clear ha ht HCells hz g1 g2 hb
        go_wp2_with (first
          | (go_at_call 12; ((with_reducible refine (HAm.out _).mono ?_)); rintro e w8 ⟨rfl, rfl⟩)
          | (go_at_call 13; ((with_reducible refine HP.out.mono ?_)); rintro e w9 ⟨rfl, hh9⟩; have y1 := HCell.out _ _ hh9)
          | (go_at_call 15; ((with_reducible refine (HT.out _ hh9).mono ?_)); rintro e w10 ⟨rfl, hh10⟩)
          | (go_at_call 24; ((with_reducible refine (HPr.out _ _ _ hh10).mono ?_)); rintro e w11 ⟨rfl, hh11⟩)
          | (go_at_call 29; ((with_reducible refine (HNd.out _ _ _ hh11).mono ?_)); rintro e w12 ⟨rfl, hh12⟩))
        go_roundw
        case rel => exact ⟨k + 1, by omega, by go_num, hh12⟩
        case measure => simp [intOf]; omega
      · have hx : (ptE L af (t : Int) == 0) = false := by simpa using hz
        rw [show putL L af (t : Int) = L from if_neg hz] at HP
        generalize ptE L af (t : Int) = x at *
        unfold tx at d1 HP
        clear ha ht HCells HCell hz hb
        go_wp2_with (first
          | (go_at_call 12; ((with_reducible refine (HAm.out _).mono ?_)); rintro e w8 ⟨rfl, rfl⟩)
          | (go_at_call 13; ((with_reducible refine HP.out.mono ?_)); rintro e w9 ⟨rfl, hh9⟩)
          | (go_at_call 24; ((with_reducible refine (HPr.out _ _ _ hh9).mono ?_)); rintro e w11 ⟨rfl, hh11⟩)
          | (go_at_call 29; ((with_reducible refine (HNd.out _ _ _ hh11).mono ?_)); rintro e w12 ⟨rfl, hh12⟩))
        go_roundw
        case rel => exact ⟨k + 1, by omega, by go_num, hh12⟩
        case measure => simp [intOf]; omega
    · obtain rfl : k = n3 := by omega
      have hfl := Nat.le_trans (flL_len L) HL.out.len
      have HSm := Lib.hid (fun V a n c (hn : n = (flL L).length) (hA : TextsAt V a (flL L)) (hB : TextsAt V a5 (flL L)) => sameT_true V a a5 (flL L) n n5 c c5 hn HN5.out (by omega) hA hB)
      clear hfl HS2 HN3
      go_wp2_with (first
        | (go_at_call 28; ((with_reducible refine (HFl.out _ _ _ HH.out).mono ?_)); rintro e w8 ⟨a8, n8, c8, rfl, hn8, hA8, _, hs8, _⟩; have H8 := Lib.hid (HH.out.still hs8))
        | (go_at_call 30; ((with_reducible refine (HSm.out _ _ _ _ (by first | rfl | assumption) hA8 H8.out.texts3).mono ?_)); rintro e w9 ⟨rfl, hs9⟩; have H9 := Lib.hid (H8.out.still hs9)))
      obtain ⟨R, hR⟩ : ∃ R, Held w w9 ((tT q L).sep R) := ⟨_, H9.out⟩
      have HR := Lib.hid hR
      have HRest := Lib.hid (fun j => restL_step L j)
      have HRlen := Lib.hid (fun j => restL_len L j)
      have HRok := Lib.hid (fun j => restL_ok HL.out j)
      have HR0 := Lib.hid (restL_zero L)
      have HR20 := Lib.hid (restL_end HLt.out)
      have hmm : m ≤ 256 := by rw [HM.out]; exact HL.out.len
      clear hR H8 H9 HH HSm hA8 hs8 hs9 HPr HNd HFl
      go_loopw [11, 12] (fun dv i wr => ∃ j d : Nat, j ≤ 20 ∧ i = .int .i64 j ∧ dv = .int .i64 d ∧ d + (restL L j).length = m ∧ Held w wr ((tT q (restL L j)).sep R)) (fun _ i _ => 20 - (intOf i).toNat)
      case atStart => exact ⟨0, 0, Nat.zero_le _, rfl, rfl, by rw [HR0.out, HM.out, Nat.zero_add], by rw [HR0.out]; exact HR.out⟩
      case round =>
        clear HR
        obtain ⟨j, d, hj, rfl, rfl, hd, hh⟩ := hrel
        have HD := Lib.hid hd
        have hd2 : d ≤ m := by omega
        by_cases hlt2 : j < 20
        · have hlt3 : (j : Int) < 20 := by omega
          have HDr := Lib.hid (A.hdrop hh (HRok.out j) (j : Int) ⟨by omega, by omega⟩)
          rw [HRest.out] at HDr
          have hle := HRlen.out j
          have HLe := Lib.hid hle
          have hx : dropN (restL L j) (j : Int) ≤ m := by omega
          generalize dropN (restL L j) (j : Int) = x at *
          clear hd hle hh HRest HRlen HRok
          go_wp2_with (go_at_call 17; ((with_reducible refine HDr.out.mono ?_)); rintro e w10 ⟨rfl, hh10⟩)
          go_roundw
          case rel => exact ⟨j + 1, d + x, by omega, by go_num, by go_num, by have := HD.out; have := HLe.out; omega, hh10⟩
          case measure => simp [intOf]; omega
        · obtain rfl : j = 20 := by omega
          rw [HR20.out] at hd hh
          obtain rfl : d = m := by simpa using hd
          have HP0 := Lib.hid (fun V (h : Held w V ((tT q []).sep R)) => A.hpairs h TOk.nil)
          have HN0 := Lib.hid (fun V (h : Held w V ((tT q []).sep R)) => show Calls Tryz.prog 29 #[.pointer (some ⟨q, 0, none⟩)] V fun e w' => e = .returned (.int .i64 1) ∧ Held w w' ((tT q []).sep R) from A.hnodes h TOk.nil)
          have HF0 := Lib.hid (fun V (h : Held w V ((tT q []).sep R)) => A.hfilters h TOk.nil)
          have HH := Lib.hid hh
          clear hd hh HRest HRlen HRok HR20 HR0
          go_wp2_with (first
            | (go_at_call 29; ((with_reducible refine (HN0.out _ HH.out).mono ?_)); rintro e w11 ⟨rfl, hh11⟩; have H11 := Lib.hid hh11; clear hh11)
            | (go_at_call 24; ((with_reducible refine (HP0.out _ H11.out).mono ?_)); rintro e w12 ⟨rfl, hh12⟩; have H12 := Lib.hid hh12; clear hh12)
            | (go_at_call 28; ((with_reducible refine (HF0.out _ H12.out).mono ?_)); rintro e w13 ⟨a13, n13, c13, rfl, hn13, _, _, hs13, _⟩; obtain rfl : n13 = 0 := hn13))
          go_ret
          exact ⟨by first | rfl | simp, H12.out.ground.trans hs13⟩
end Go.Proofs.YtpmkokckjieidaaGreatDoor
