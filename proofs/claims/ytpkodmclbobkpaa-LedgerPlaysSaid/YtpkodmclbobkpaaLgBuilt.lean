/- What built of layer 14 makes: some ledger that begins below 1000. No condition but the words. -/
import Derived.Test.YtpkodmclbobkpaaLgApi
import Derived.Test.YtpkodmclbobkpaaActs14
namespace Go.Proofs.Ytpkodmclbobkpaa
open Go.RowKit
set_option linter.unusedVariables false
set_option linter.unusedSimpArgs false
set_option maxRecDepth 100000

/-- Some ledger, made since. -/
def LgSome (LT : Nat → LgM → Thing) (w : World) (q : Nat) (b : Int) (w' : World) : Prop := ∃ M : LgM, M.Ok ∧ M.b = b ∧ Held w w' ((LT q M).sep Thing.none)
theorem LgSome.still {LT : Nat → LgM → Thing} {w w1 w2 : World} {q : Nat} {b : Int} (h : LgSome LT w q b w1) (hs : Still w1 w2) : LgSome LT w q b w2 := by
  obtain ⟨M, h1, h2, h3⟩ := h; exact ⟨M, h1, h2, h3.still hs⟩

set_option maxHeartbeats 4000000 in
theorem built14_any {LT : Nat → LgM → Thing} (A : LedgerApi LT) (n0 : Int) (t : Sl Act14) (w : World) (h1 : SlOk encAct14 okAct14 3 w t) :
    Calls Try.prog 28 #[.int .i64 n0, .slice t.a t.len t.cap] w fun e w' => ∃ q, e = .returned (.pointer (some ⟨q, 0, none⟩)) ∧ ∃ b, 0 ≤ b ∧ b < 1000 ∧ LgSome LT w q b w' := by
  obtain ⟨ta, tl, tc, tx⟩ := t
  have htcap : tl ≤ tc := h1.le
  have htmax : tc ≤ maxLen := h1.max
  unfold maxLen at htmax
  have HTX := Lib.hid h1
  have HTL : Hid (tx.length = tl) := Lib.hid h1.len
  obtain ⟨f, hf⟩ : ∃ f, f = am n0 1000 := ⟨_, rfl⟩
  have hf2 : f < 1000 := by rw [hf]; exact am_lt _ (by omega)
  have hf0 : (0 : Int) ≤ (f : Int) ∧ (f : Int) < 1000 := by omega
  have B0 := Lib.hid (fun W => among_lit n0 1000 1000 f rfl hf (by omega) (by omega) W)
  have C0 := Lib.hid (fun W => A.make_ok (f : Int) W (by omega) (by omega))
  have O0 := Lib.hid (LgM.new_ok (b := (f : Int)) (by omega) (by omega))
  have HAc := Lib.hid (fun (V : World) (q : Nat) (n : Int) (hn1 : -9223372036854775808 ≤ n) (hn2 : n ≤ 9223372036854775807) (h : LgSome LT w q (f : Int) V) => show Calls Try.prog 15 #[.pointer (some ⟨q, 0, none⟩), .int .i64 n] V fun e w' => (∃ v, e = .returned v) ∧ LgSome LT w q (f : Int) w' from by
    obtain ⟨M, m1, m2, m3⟩ := h
    exact (m3.call (fun _ h => A.accept h m1 n hn1 hn2)).mono fun e w' ⟨he, hh⟩ => ⟨⟨_, he⟩, _, m1.add n true, m2, hh⟩)
  have HSk := Lib.hid (fun (V : World) (q : Nat) (n : Int) (hn1 : -9223372036854775808 ≤ n) (hn2 : n ≤ 9223372036854775807) (h : LgSome LT w q (f : Int) V) => show Calls Try.prog 17 #[.pointer (some ⟨q, 0, none⟩), .int .i64 n] V fun e w' => (∃ v, e = .returned v) ∧ LgSome LT w q (f : Int) w' from by
    obtain ⟨M, m1, m2, m3⟩ := h
    exact (m3.call (fun _ h => A.skip h m1 n hn1 hn2)).mono fun e w' ⟨he, hh⟩ => ⟨⟨_, he⟩, _, m1.add n false, m2, hh⟩)
  have HBk := Lib.hid (fun (V : World) (q : Nat) (n : Int) (hn1 : -9223372036854775808 ≤ n) (hn2 : n ≤ 9223372036854775807) (h : LgSome LT w q (f : Int) V) => show Calls Try.prog 18 #[.pointer (some ⟨q, 0, none⟩), .int .i64 n] V fun e w' => (∃ v, e = .returned v) ∧ LgSome LT w q (f : Int) w' from by
    obtain ⟨M, m1, m2, m3⟩ := h
    exact (m3.call (fun _ h => A.back h m1 n hn1 hn2)).mono fun e w' ⟨he, hh⟩ => ⟨⟨_, he⟩, _, m1.back n, m2, hh⟩)
  have HEn := Lib.hid (fun (V : World) (q : Nat) (h : LgSome LT w q (f : Int) V) => show ∃ g : Int, 0 ≤ g ∧ g ≤ 1099511627776 ∧ ∀ V2, Still V V2 → Calls Try.prog 23 #[.pointer (some ⟨q, 0, none⟩)] V2 fun e w' => e = .returned (.int .i64 g) ∧ Still V w' from by
    obtain ⟨M, m1, m2, m3⟩ := h
    refine ⟨M.fin, ?_, m1.hi, fun V2 hs => (Held.endL A (m3.still hs) m1 rfl).mono fun e w' ⟨he, hs2⟩ => ⟨he, hs.trans hs2⟩⟩
    have := (endF_le m1.ch).1
    have := m1.lo
    unfold LgM.fin; omega)
  have HGr := Lib.hid (fun (V : World) (q : Nat) (h : LgSome LT w q (f : Int) V) => show Still w V from by obtain ⟨M, m1, m2, m3⟩ := h; exact m3.ground)
  dsimp only
  clear h1 hf
  go_enter Try.func28, Try.ntmps28
  go_wp2_with (first
    | (go_at_call 14; ((with_reducible refine (B0.out _).mono ?_)); rintro e wa ⟨rfl, rfl⟩)
    | (go_at_call 9; ((with_reducible refine (C0.out _).mono ?_)); rintro e w1 ⟨q, rfl, hN⟩; have K1 := Lib.hid (show LgSome LT w q (f : Int) w1 from ⟨_, O0.out, rfl, (Held.start (Turned.refl _ w)).new hN⟩); clear hN))
  go_loopw [7] (fun i wr => ∃ k : Nat, k ≤ tl ∧ k ≤ 150 ∧ i = .int .i64 k ∧ LgSome LT w q (f : Int) wr) (fun i _ => tl - (intOf i).toNat)
  case atStart => exact ⟨0, Nat.zero_le _, Nat.zero_le _, rfl, K1.out⟩
  case round =>
    clear K1
    obtain ⟨k, hk, hk1, rfl, hI⟩ := hrel
    have HI := Lib.hid hI
    by_cases hin : k < tl ∧ k < 150
    · obtain ⟨hlt, h150⟩ := hin
      obtain ⟨a, hx⟩ := get_some (l := tx) (i := k) (by rw [HTL.out]; exact hlt)
      obtain ⟨b, o, rfl, hc⟩ := HTX.out.row k a hx
      have hT := HGr.out _ _ hI
      obtain ⟨d, nn, near⟩ := a
      have HC := Lib.hid (fun V (hs : Still wr V) => (⟨still_cell (hT.trans hs) (hc 0 _ rfl) (by omega), still_cell (hT.trans hs) (hc 1 _ rfl) (by omega)⟩ : V.cell? ⟨b, o + k * 3, none⟩ = some (.int .i64 d) ∧ V.cell? ⟨b, o + k * 3 + 1, none⟩ = some (.int .i64 nn)))
      obtain ⟨g, hg1, hg2, hEn⟩ := HEn.out wr q hI
      have HE := Lib.hid hEn
      obtain ⟨v, hv⟩ : ∃ v, v = am d 7 := ⟨_, rfl⟩
      have hvl : v < 7 := by rw [hv]; exact am_lt _ (by omega)
      obtain ⟨u, hu⟩ : ∃ u, u = am nn 9 := ⟨_, rfl⟩
      have hul : u < 9 := by rw [hu]; exact am_lt _ (by omega)
      have B1 := Lib.hid (fun W => among_lit d 7 7 v rfl hv (by omega) (by omega) W)
      have B2 := Lib.hid (fun W => among_lit nn 9 9 u rfl hu (by omega) (by omega) W)
      have hT0 : Still wr wr := Turned.refl _ _
      obtain ⟨c0, c1⟩ := HC.out wr hT0
      have hTd : Still wr wr.drew := hT0.drew
      have hki : (k : Int) < (tl : Int) := by omega
      clear hx hc hT hv hu hI hEn
      go_wp2_with fail
      go_region_held3 (fun V => V.cell? ⟨b, o + k * 3 + 1, none⟩ = some (.int .i64 nn)) (first | assumption | go_keep) (first
        | (go_at_call 23; refine (HE.out _ (by assumption)).mono ?_; rintro e w3 ⟨rfl, hT3⟩; obtain ⟨g0, g1⟩ := HC.out w3 hT3)
        | (go_at_call 14; refine (B2.out _).mono ?_; rintro e w4 ⟨rfl, hw4⟩; subst hw4))
      all_goals (
        have HI3 := Lib.hid (HI.out.still hT3)
        clear hT3 HE B2 hTd hT0 HI c0 c1
        rcases (show v = 0 ∨ v = 1 ∨ v = 2 ∨ v = 3 ∨ v = 4 ∨ v = 5 ∨ v = 6 by omega) with rfl | rfl | rfl | rfl | rfl | rfl | rfl
        all_goals (
          go_wp2_with (first
            | (go_at_call 14; ((with_reducible refine (B1.out _).mono ?_)); rintro e wb ⟨rfl, hwb⟩; subst hwb)
            | (go_at_call 15; ((with_reducible refine (HAc.out _ _ _ (by first | exact (wrap14_range _).1 | omega) (by first | exact (wrap14_range _).2 | omega) HI3.out).mono ?_)); rintro e w5 ⟨⟨v5, rfl⟩, h5⟩; have H5 := Lib.hid h5; clear h5)
            | (go_at_call 17; ((with_reducible refine (HSk.out _ _ _ (by first | exact (wrap14_range _).1 | omega) (by first | exact (wrap14_range _).2 | omega) HI3.out).mono ?_)); rintro e w5 ⟨⟨v5, rfl⟩, h5⟩; have H5 := Lib.hid h5; clear h5)
            | (go_at_call 18; ((with_reducible refine (HBk.out _ _ _ (by first | exact (wrap14_range _).1 | omega) (by first | exact (wrap14_range _).2 | omega) HI3.out).mono ?_)); rintro e w5 ⟨⟨v5, rfl⟩, h5⟩; have H5 := Lib.hid h5; clear h5))
          go_roundw
          case rel => exact ⟨k + 1, by omega, by omega, by go_num, by first | exact H5.out | exact HI3.out⟩
          case measure => simp [intOf]; omega))
    · have hex : (k < tl ∧ 150 ≤ k) ∨ tl ≤ k := by omega
      clear hin hI
      rcases hex with ⟨q1, q2⟩ | q1
      all_goals (
        go_wp2_with fail
        go_ret
        exact ⟨q, rfl, (f : Int), hf0.1, hf0.2, HI.out⟩)
end Go.Proofs.Ytpkodmclbobkpaa
