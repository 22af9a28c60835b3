/- What the statements of layer 10 want of the program's calls, told of the plain tree. The words are shown of the program in another text. No condition. -/
import Derived.Test.YtpmkokckjieidaaGreatDoorBdRef
import Derived.Test.YtpmkokckjieidaaGreatDoorActs10
import Derived.Test.YtpmkokckjieidaaGreatDoorHeld
namespace Go.Proofs.YtpmkokckjieidaaGreatDoor
open Go.RowKit
set_option linter.unusedVariables false
set_option linter.unusedSimpArgs false
set_option maxRecDepth 100000

/-- Numbers that are handed out, beside an error. -/
def OutE (w : World) (l : List Int) (er : Int) (e : Ending) (w' : World) : Prop := ∃ a n c, e = .returned (.tuple #[.slice a n c, .int .i64 er]) ∧ n = l.length ∧ NumsAt w' a l ∧ SlW a n c ∧ Still w w'
/-- Texts that are handed out, one's own. -/
def OutT (w : World) (l : List Txt) (e : Ending) (w' : World) : Prop := ∃ a n c, e = .returned (.slice a n c) ∧ n = l.length ∧ TextsAt w' a l ∧ SlW a n c ∧ Still w w' ∧ ∀ x, a = some x → l ≠ [] → w.heap.size ≤ x.block
structure TrieApi (tT : Nat → List Pr → Thing) : Prop where
  make : ∀ w, Calls Tryz.prog 9 #[] w (TNew tT w)
  put : ∀ {w W q L}, (tT q L).at_ w W → TOk L → ∀ (f : Txt) (n : Int), f.length ≤ 300 → i64w n → Calls Tryz.prog 13 #[.pointer (some ⟨q, 0, none⟩), tx f, .int .i64 n] w fun e w' => e = .returned (.int .i64 (ptE L f n)) ∧ Goes (tT q (putL L f n)) W w w'
  take : ∀ {w W q L}, (tT q L).at_ w W → TOk L → ∀ (f : Txt) (n : Int), f.length ≤ 300 → i64w n → Calls Tryz.prog 15 #[.pointer (some ⟨q, 0, none⟩), tx f, .int .i64 n] w fun e w' => e = .returned (.int .i64 (tkE L f n)) ∧ Goes (tT q (takeL L f n)) W w w'
  drop : ∀ {w W q L}, (tT q L).at_ w W → TOk L → ∀ (n : Int), i64w n → Calls Tryz.prog 17 #[.pointer (some ⟨q, 0, none⟩), .int .i64 n] w fun e w' => e = .returned (.int .i64 (dropN L n : Nat)) ∧ Goes (tT q (dropL L n)) W w w'
  of : ∀ {w W q L}, (tT q L).at_ w W → TOk L → ∀ (f : Txt), f.length ≤ 300 → Calls Tryz.prog 19 #[.pointer (some ⟨q, 0, none⟩), tx f] w (OutE w (ni (ofL L f)) (fcE f))
  mtch : ∀ {w W q L}, (tT q L).at_ w W → TOk L → ∀ (s : Txt), s.length ≤ 300 → Calls Tryz.prog 22 #[.pointer (some ⟨q, 0, none⟩), tx s] w (OutE w (ni (mtL L s)) (nmE s))
  filters : ∀ {w W q L}, (tT q L).at_ w W → TOk L → Calls Tryz.prog 28 #[.pointer (some ⟨q, 0, none⟩)] w (OutT w (flL L))
  pairs : ∀ {w W q L}, (tT q L).at_ w W → TOk L → Calls Tryz.prog 24 #[.pointer (some ⟨q, 0, none⟩)] w fun e w' => e = .returned (.int .i64 (L.length : Nat)) ∧ Still w w'
  nodes : ∀ {w W q L}, (tT q L).at_ w W → TOk L → Calls Tryz.prog 29 #[.pointer (some ⟨q, 0, none⟩)] w fun e w' => e = .returned (.int .i64 (ndL L : Nat)) ∧ Still w w'

theorem NumE.out {w w' : World} {l : List Int} {n : Nat} {er : Int} {e : Ending} (h : NumE w l n er e w') (hn : n = l.length) : OutE w l er e w' := by
  obtain ⟨a, c, h1, h2, h3⟩ := h
  exact ⟨a, n, c, h1, hn, NumsAt.of_own h2 hn, SlW.of_own h2, h3⟩
theorem sameI_true (w : World) (ao bo : Option Addr) (l : List Int) (n m ca cb : Nat) (hn : n = l.length) (hm : m = l.length) (hl : l.length ≤ 1000000) (hA : NumsAt w ao l) (hB : NumsAt w bo l) :
    Calls Tryz.prog 21 #[.slice ao n ca, .slice bo m cb] w fun e w' => e = .returned (.bool true) ∧ Still w w' := by
  subst hn; subst hm
  refine (sameInts_any w ao bo l l ca cb rfl (by omega) hA hB).mono fun e w' ⟨h1, k, h2⟩ => ⟨by rw [h1, decide_eq_true rfl], by rw [h2]; exact (Turned.refl _ _).drewN k⟩
theorem sameT_true (w : World) (ao bo : Option Addr) (l : List Txt) (n m ca cb : Nat) (hn : n = l.length) (hm : m = l.length) (hl : l.length ≤ 1000000) (hA : TextsAt w ao l) (hB : TextsAt w bo l) :
    Calls Tryz.prog 30 #[.slice ao n ca, .slice bo m cb] w fun e w' => e = .returned (.bool true) ∧ Still w w' := by
  have := sameT_any l l w ao bo n m ca cb hn hm hA hB (by omega) (by omega)
  rwa [decide_eq_true rfl] at this
theorem ofL_len (L : List Pr) (f : Txt) : (ni (ofL L f)).length ≤ 256 := by
  rw [ni_length]; unfold ofL; split
  · exact range_len _ 256
  · simp
theorem mtL_len (L : List Pr) (s : Txt) : (ni (mtL L s)).length ≤ 256 := by
  rw [ni_length]; unfold mtL; split
  · exact range_len _ 256
  · simp

set_option maxHeartbeats 2000000 in
theorem same10 {tT : Nat → List Pr → Thing} (A : TrieApi tT) {w : World} {W W2 : Nat → Prop} {q q2 : Nat} {L : List Pr} (H : (tT q L).at_ w W) (H2 : (zgT q2 L).at_ w W2) (hL : TOk L) :
    Calls Tryz.prog 25 #[.pointer (some ⟨q, 0, none⟩), .pointer (some ⟨q2, 0, none⟩)] w fun e w' => e = .returned (.bool true) ∧ Still w w' := by
  have K1 := fun V (h : Still w V) => (tT q L).keep H h (fun _ _ h => h)
  have K2 := fun V (h : Still w V) => (zgT q2 L).keep H2 h (fun _ _ h => h)
  have F1 := Lib.hid (fun V (h : Still w V) => A.filters (K1 V h) hL)
  have F2 := Lib.hid (fun V (h : Still w V) => ztfilters_any (K2 V h) hL.len)
  have P1 := Lib.hid (fun V (h : Still w V) => A.pairs (K1 V h) hL)
  have N1 := Lib.hid (fun V (h : Still w V) => A.nodes (K1 V h) hL)
  have N2 := Lib.hid (fun V (h : Still w V) => ztnodes_any (K2 V h) hL)
  have hfl := Nat.le_trans (flL_len L) hL.len
  have HSm := Lib.hid (fun V a b n m ca cb hn hm hA hB => sameT_true V a b (flL L) n m ca cb hn hm (by omega) hA hB)
  obtain ⟨la, lc, HZ⟩ := H2
  have HC := Lib.hid (fun V (h : Still w V) => (HZ.still h).cell)
  have hs0 : Still w w.drew := (Turned.refl _ _).drew
  generalize L.length = m at *
  have c0 := HC.out w (Turned.refl _ _)
  have c1 := HC.out w.drew hs0
  clear H HZ K1 K2 hfl
  go_enter Tryz.func25, Tryz.ntmps25
  go_wp2_with fail
  go_region_held3 (fun V => V.cell? ⟨q2, 0, none⟩ = some (.slice la m lc)) (first | assumption | go_keep) (first
    | (go_at_call 28; ((with_reducible refine (F1.out _ (by assumption)).mono ?_)); rintro e w1 ⟨a1, n1, c1, rfl, hn1, hA1, _, h1, _⟩; have hs1 := Turned.trans (by assumption) h1; have cc1 := HC.out _ hs1; (try have hB1 := hB.still h1))
    | (go_at_call 53; ((with_reducible refine (F2.out _ (by assumption)).mono ?_)); rintro e w2 ⟨g2, o2, c2, rfl, hB, _, h2⟩; have hs2 := Turned.trans (by assumption) h2; have cc2 := HC.out _ hs2; (try have hA2 := hA1.still h2))
    | (go_at_call 30; ((with_reducible refine (HSm.out _ _ _ _ _ _ _ (by first | rfl | assumption) (by first | rfl | assumption) (by assumption) (by assumption)).mono ?_)); rintro e w3 ⟨rfl, h3⟩; have hs3 := Turned.trans (by assumption) h3; have cc3 := HC.out _ hs3)
    | (go_at_call 24; ((with_reducible refine (P1.out _ (by assumption)).mono ?_)); rintro e w4 ⟨rfl, h4⟩; have hs4 := Turned.trans (by assumption) h4; have cc4 := HC.out _ hs4)
    | (go_at_call 29; ((with_reducible refine (N1.out _ (by assumption)).mono ?_)); rintro e w5 ⟨rfl, h5⟩; have hs5 := Turned.trans (by assumption) h5; have cc5 := HC.out _ hs5)
    | (go_at_call 54; ((with_reducible refine (N2.out _ (by assumption)).mono ?_)); rintro e w6 ⟨rfl, h6⟩; have hs6 := Turned.trans (by assumption) h6; have cc6 := HC.out _ hs6))
  all_goals go_wp2_with fail
  all_goals go_ret
  all_goals exact ⟨rfl, hs6⟩

/-- The tree that acts build. -/
def bldL (l : List A10) : List Pr := l.foldl (fun L a => putL L a.2.1 ((am a.2.2 20 : Nat) : Int)) []
theorem bldL_step {l : List A10} {k : Nat} {a : A10} (h : l[k]? = some a) : bldL (l.take (k + 1)) = putL (bldL (l.take k)) a.2.1 ((am a.2.2 20 : Nat) : Int) := by
  unfold bldL
  rw [List.take_add_one, h, List.foldl_append]; rfl
theorem bldL_ok (l : List A10) : TOk (bldL l) := by
  suffices h : ∀ (l : List A10) (L : List Pr), TOk L → TOk (l.foldl (fun L a => putL L a.2.1 ((am a.2.2 20 : Nat) : Int)) L) from h l [] TOk.nil
  intro l
  induction l with
  | nil => intro L h; exact h
  | cons a l ih => intro L h; exact ih _ (h.put _ _)

/-- Acts that lie one behind the other. -/
abbrev ActsAt (w : World) (a : Option Addr) (l : List A10) : Prop := RowAt encA10 3 w a l
theorem ActsAt.of_own {w : World} {B : Nat} {a : Option Addr} {n c : Nat} {l : List A10} (h : w.ownsRow B 30 3 (.slice a n c) n (rowOf encA10 l)) (hn : n = l.length) : ActsAt w a l := by
  intro i x hx
  have hl := get_lt hx
  obtain ⟨g, rfl⟩ := owm_addr h (by omega)
  refine ⟨g, 0, rfl, fun j v hv => ?_⟩
  rw [Nat.zero_add]
  exact (owm_cell h (rowOf_get encA10_len hx hv)).1
theorem ActsAt.three {w : World} {a : Option Addr} {l : List A10} (h : ActsAt w a l) {i : Nat} {x : A10} (hx : l[i]? = some x) : ∃ b o, a = some ⟨b, o, none⟩ ∧ w.cell? ⟨b, o + i * 3, none⟩ = some (.int .i64 x.1) ∧ w.cell? ⟨b, o + i * 3 + 1, none⟩ = some (tx x.2.1) ∧ w.cell? ⟨b, o + i * 3 + 2, none⟩ = some (.int .i64 x.2.2) := by
  obtain ⟨b, o, e, hc⟩ := h i x hx
  exact ⟨b, o, e, hc 0 _ rfl, hc 1 _ rfl, hc 2 _ rfl⟩

set_option maxHeartbeats 2000000 in
theorem built10 {tT : Nat → List Pr → Thing} (A : TrieApi tT) (l : List A10) (w : World) (ao : Option Addr) (n cap : Nat) (hn : n = l.length) (hA : ActsAt w ao l) (hmax : n ≤ 1000) (hs : ∀ a ∈ l, a.2.1.length ≤ 300) :
    Calls Tryz.prog 27 #[.slice ao n cap] w fun e w' => ∃ q, e = .returned (.pointer (some ⟨q, 0, none⟩)) ∧ Held w w' (tT q (bldL l)) := by
  have HN := Lib.hid hn
  have HA := Lib.hid hA
  have HS := Lib.hid hs
  have HM := Lib.hid (A.make w)
  have HL := Lib.hid (show l.take n = l from List.take_of_length_le (by omega))
  clear hA hn hs
  go_enter Tryz.func27, Tryz.ntmps27
  go_wp2_with (go_at_call 9; ((with_reducible refine HM.out.mono ?_)); rintro e w1 ⟨q, rfl, W1, hW1, hs1, hf1⟩; have H0 := Lib.hid (show Held w w1 (tT q []) from ⟨W1, hW1, hf1, hs1⟩); clear hW1 hf1)
  go_loopw [4] (fun i wr => ∃ k : Nat, k ≤ n ∧ i = .int .i64 k ∧ Held w wr (tT q (bldL (l.take k)))) (fun i _ => n - (intOf i).toNat)
  case atStart => exact ⟨0, Nat.zero_le _, rfl, H0.out⟩
  case round =>
    obtain ⟨k, hk, rfl, hh⟩ := hrel
    have HH := Lib.hid hh
    have hst : Still w wr := hh.ground
    clear H0 hs1 hh
    by_cases hlt : k < n
    · obtain ⟨a, ha⟩ := get_some (l := l) (i := k) (by rw [← HN.out]; exact hlt)
      obtain ⟨b, o, rfl, d0, d1, d2⟩ := ActsAt.three (RowAt.stays HA.out hst) ha
      have HSt := Lib.hid (bldL_step ha)
      have hal := HS.out a (List.mem_of_getElem? ha)
      obtain ⟨ad, af, an⟩ := a
      dsimp only at d0 d1 d2 hal
      unfold tx at d1
      obtain ⟨t, ht⟩ : ∃ t, t = am an 20 := ⟨_, rfl⟩
      have htl : t < 20 := by rw [ht]; exact am_lt _ (by omega)
      have HAm := Lib.hid (fun V => among_lit an 20 20 t rfl ht (by omega) (by omega) V)
      have HSt2 := Lib.hid (show bldL (l.take (k + 1)) = putL (bldL (l.take k)) af (t : Int) by rw [HSt.out, ht])
      have HP := Lib.hid (show Calls Tryz.prog 13 #[.pointer (some ⟨q, 0, none⟩), tx af, .int .i64 t] wr.drew fun e w' => e = .returned (.int .i64 (ptE (bldL (l.take k)) af t)) ∧ Held w w' (tT q (bldL (l.take (k + 1)))) from by
        obtain ⟨W, h1, h2⟩ := (HH.out.still (Turned.refl _ wr).drew).use
        rw [HSt2.out]
        exact (A.put h1 (bldL_ok _) af t hal ⟨by omega, by omega⟩).mono fun e w' ⟨g1, g2⟩ => ⟨g1, h2 _ _ g2⟩)
      unfold tx at HP
      clear ha ht HSt HA HH hst
      go_wp2_with fail
      refine wp_region_still_tail 12 (by kernel_rfl) (by kernel_rfl) ?_
      simp only [List.take_succ_cons, List.take_zero, List.drop_succ_cons, List.drop_zero]
      repeat (first | still_step | still_call (stillEq (HAm.out _)))
      refine wpStill_nil ?_
      change wpList _ _ _ _ _ wr.drew
      go_wp2_with (go_at_call 13; ((with_reducible refine HP.out.mono ?_)); rintro e w5 ⟨rfl, h5⟩; have H5 := Lib.hid h5; clear h5)
      go_roundw
      case rel => exact ⟨k + 1, by omega, by go_num, H5.out⟩
      case measure => simp [intOf]; omega
    · obtain rfl : k = n := by omega
      clear hst HA
      go_wp2_with fail
      go_ret
      exact ⟨q, rfl, by rw [← HL.out]; exact HH.out⟩
end Go.Proofs.YtpmkokckjieidaaGreatDoor
