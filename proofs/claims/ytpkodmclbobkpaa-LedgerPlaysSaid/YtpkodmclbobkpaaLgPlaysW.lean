/- LedgerPlays: the walk: the program's ledger beside the document's. No condition but the words. -/
import Derived.Test.YtpkodmclbobkpaaLgHeld
import Derived.Test.YtpkodmclbobkpaaLgRefBack
namespace Go.Proofs.Ytpkodmclbobkpaa
open Go.RowKit
set_option linter.unusedVariables false
set_option linter.unusedSimpArgs false
set_option maxRecDepth 100000

/-- Both ledgers, of the same spans. -/
def Tw (LT : Nat → LgM → Thing) (w V : World) (q z : Nat) (b : Int) : Prop := ∃ M : LgM, M.Ok ∧ M.b = b ∧ Held w V ((LT q M).sep ((zLT z M).sep Thing.none))
section
variable {LT : Nat → LgM → Thing} {w V V2 : World} {q z : Nat} {b : Int}
theorem Tw.still (h : Tw LT w V q z b) (hs : Still V V2) : Tw LT w V2 q z b := by
  obtain ⟨M, h1, h2, h3⟩ := h; exact ⟨M, h1, h2, h3.still hs⟩
theorem Tw.ground (h : Tw LT w V q z b) : Still w V := by obtain ⟨M, h1, h2, h3⟩ := h; exact h3.ground
theorem tw_acc (A : LedgerApi LT) (H : Tw LT w V q z b) (n : Int) (h1 : -9223372036854775808 ≤ n) (h2 : n ≤ 9223372036854775807) : ∃ r : Int, Calls Try.prog 15 #[.pointer (some ⟨q, 0, none⟩), .int .i64 n] V fun e w' => e = .returned (.int .i64 r) ∧
    Calls Try.prog 16 #[.pointer (some ⟨z, 0, none⟩), .int .i64 n, .bool true] w' fun e w'' => e = .returned (.int .i64 r) ∧ Tw LT w w'' q z b := by
  obtain ⟨M, m1, m2, m3⟩ := H
  exact ⟨_, (Held.accL A m3 m1 h1 h2 rfl rfl).mono fun e w' ⟨he, hh⟩ => ⟨he, (hh.turn.call (fun _ h => zlgadd_any h m1 n true)).mono fun e w'' ⟨he, hk⟩ => ⟨he, _, m1.add n true, m2, hk.turn⟩⟩⟩
theorem tw_skp (A : LedgerApi LT) (H : Tw LT w V q z b) (n : Int) (h1 : -9223372036854775808 ≤ n) (h2 : n ≤ 9223372036854775807) : ∃ r : Int, Calls Try.prog 17 #[.pointer (some ⟨q, 0, none⟩), .int .i64 n] V fun e w' => e = .returned (.int .i64 r) ∧
    Calls Try.prog 16 #[.pointer (some ⟨z, 0, none⟩), .int .i64 n, .bool false] w' fun e w'' => e = .returned (.int .i64 r) ∧ Tw LT w w'' q z b := by
  obtain ⟨M, m1, m2, m3⟩ := H
  exact ⟨_, (Held.skpL A m3 m1 h1 h2 rfl rfl).mono fun e w' ⟨he, hh⟩ => ⟨he, (hh.turn.call (fun _ h => zlgadd_any h m1 n false)).mono fun e w'' ⟨he, hk⟩ => ⟨he, _, m1.add n false, m2, hk.turn⟩⟩⟩
theorem tw_back (A : LedgerApi LT) (H : Tw LT w V q z b) (n : Int) (h1 : -9223372036854775808 ≤ n) (h2 : n ≤ 9223372036854775807) : ∃ r : Int, Calls Try.prog 18 #[.pointer (some ⟨q, 0, none⟩), .int .i64 n] V fun e w' => e = .returned (.int .i64 r) ∧
    Calls Try.prog 19 #[.pointer (some ⟨z, 0, none⟩), .int .i64 n] w' fun e w'' => e = .returned (.int .i64 r) ∧ Tw LT w w'' q z b := by
  obtain ⟨M, m1, m2, m3⟩ := H
  exact ⟨_, (Held.backL A m3 m1 h1 h2 rfl rfl).mono fun e w' ⟨he, hh⟩ => ⟨he, (hh.turn.call (fun _ h => zlgback_any h m1 n)).mono fun e w'' ⟨he, hk⟩ => ⟨he, _, m1.back n, m2, hk.turn⟩⟩⟩
theorem tw_is (A : LedgerApi LT) (H : Tw LT w V q z b) (n : Int) (h1 : -9223372036854775808 ≤ n) (h2 : n ≤ 9223372036854775807) : ∃ (v : Bool) (r : Int), Calls Try.prog 20 #[.pointer (some ⟨q, 0, none⟩), .int .i64 n] V fun e w' => e = .returned (.tuple #[.bool v, .int .i64 r]) ∧
    Calls Try.prog 21 #[.pointer (some ⟨z, 0, none⟩), .int .i64 n] w' fun e w'' => e = .returned (.tuple #[.bool v, .int .i64 r]) ∧ Tw LT w w'' q z b := by
  obtain ⟨M, m1, m2, m3⟩ := H
  refine ⟨_, _, (Held.isL A m3 m1 h1 h2 rfl rfl).mono fun e w' ⟨he, hs⟩ => ⟨he, ?_⟩⟩
  have m4 := (m3.still hs).turn
  obtain ⟨_, h, _⟩ := m4.fst
  exact (zlgis_any h m1 n).mono fun e w'' ⟨he, ht⟩ => ⟨he, M, m1, m2, (m3.still hs).still ht⟩
/-- What both say of themselves. -/
theorem tw_chk (A : LedgerApi LT) (H : Tw LT w V q z b) : ∃ (g : Int) (na nb : Nat) (SA SB : List (Int × Int)), (na = SA.length ∧ nb = SB.length ∧ na ≤ 256 ∧ nb ≤ 256 ∧ 0 ≤ g ∧ g ≤ 1099511627776) ∧
    (∀ V2, Still V V2 → Calls Try.prog 22 #[.pointer (some ⟨q, 0, none⟩)] V2 fun e w' => e = .returned (.int .i64 b) ∧ Still V w') ∧
    (∀ V2, Still V V2 → Calls Try.prog 23 #[.pointer (some ⟨q, 0, none⟩)] V2 fun e w' => e = .returned (.int .i64 g) ∧ Still V w') ∧
    (∀ V2, Still V V2 → Calls Try.prog 13 #[.pointer (some ⟨z, 0, none⟩)] V2 fun e w' => e = .returned (.int .i64 g) ∧ Still V w') ∧
    (∀ V2, Still V V2 → Calls Try.prog 25 #[.pointer (some ⟨q, 0, none⟩)] V2 fun e w' => ∃ a c, e = .returned (.slice a na c) ∧ SpAt w' a SA ∧ Still V w') ∧
    (∀ V2, Still V V2 → Calls Try.prog 26 #[.pointer (some ⟨z, 0, none⟩), .bool true] V2 fun e w' => ∃ a c, e = .returned (.slice a na c) ∧ SpAt w' a SA ∧ Still V2 w' ∧ Still V w') ∧
    (∀ V2, Still V V2 → Calls Try.prog 27 #[.pointer (some ⟨q, 0, none⟩)] V2 fun e w' => ∃ a c, e = .returned (.slice a nb c) ∧ SpAt w' a SB ∧ Still V w') ∧
    (∀ V2, Still V V2 → Calls Try.prog 26 #[.pointer (some ⟨z, 0, none⟩), .bool false] V2 fun e w' => ∃ a c, e = .returned (.slice a nb c) ∧ SpAt w' a SB ∧ Still V2 w' ∧ Still V w') := by
  obtain ⟨M, m1, m2, m3⟩ := H
  have hlen := m1.len
  have h5 := spOf_len M.L true
  have h6 := spOf_len M.L false
  have h7 := (endF_le m1.ch).1
  have h8 := m1.lo
  refine ⟨M.fin, _, _, spOf M.L true, spOf M.L false, ⟨rfl, rfl, by omega, by omega, by unfold LgM.fin; omega, m1.hi⟩, fun V2 hs => ?_, fun V2 hs => ?_, fun V2 hs => ?_, fun V2 hs => ?_, fun V2 hs => ?_, fun V2 hs => ?_, fun V2 hs => ?_⟩
  · exact (Held.fromL A (m3.still hs) m1 m2).mono fun e w' ⟨he, ht⟩ => ⟨he, hs.trans ht⟩
  · exact (Held.endL A (m3.still hs) m1 rfl).mono fun e w' ⟨he, ht⟩ => ⟨he, hs.trans ht⟩
  · obtain ⟨_, h, _⟩ := (m3.still hs).turn.fst
    exact (zlgend_any h m1).mono fun e w' ⟨he, ht⟩ => ⟨he, hs.trans ht⟩
  · exact (Held.acdL A (m3.still hs) m1 rfl rfl).mono fun e w' ⟨a, c, he, h, ht⟩ => ⟨a, c, he, h, hs.trans ht⟩
  · obtain ⟨_, h, _⟩ := (m3.still hs).turn.fst
    exact (zlgof_any h m1 true _ rfl).mono fun e w' ho => by
      obtain ⟨a, c, he, h, ht⟩ := ho.at rfl
      exact ⟨a, c, he, h, ht, hs.trans ht⟩
  · exact (Held.skdL A (m3.still hs) m1 rfl rfl).mono fun e w' ⟨a, c, he, h, ht⟩ => ⟨a, c, he, h, hs.trans ht⟩
  · obtain ⟨_, h, _⟩ := (m3.still hs).turn.fst
    exact (zlgof_any h m1 false _ rfl).mono fun e w' ho => by
      obtain ⟨a, c, he, h, ht⟩ := ho.at rfl
      exact ⟨a, c, he, h, ht, hs.trans ht⟩
theorem same_sp {S : List (Int × Int)} {n c c' : Nat} {a a' : Option Addr} (hn : n = S.length) (h1 : n ≤ 256) (hA : SpAt V a S) (hB : SpAt V a' S) :
    Calls Try.prog 24 #[.slice a n c, .slice a' n c'] V fun e w' => e = .returned (.bool true) ∧ Still V w' :=
  (sameSpans_any V a a' S S n n c c' hn hn (by omega) hA hB).mono fun e w' ⟨he, hs⟩ => ⟨by rw [he]; simp, hs⟩
end
/-- The number that an act names. -/
theorem where14_ex (d nn : Int) (near : Bool) (g : Int) (h1 : -9223372036854775808 ≤ nn) (h2 : nn ≤ 9223372036854775807) (h3 : 0 ≤ g) (h4 : g ≤ 1099511627776) : ∃ N : Int, -9223372036854775808 ≤ N ∧ N ≤ 9223372036854775807 ∧
    ∀ V, Calls Try.prog 12 #[.agg #[.int .i64 d, .int .i64 nn, .bool near], .int .i64 g] V fun e w' => e = .returned (.int .i64 N) ∧ Still V w' := by
  cases near with
  | false =>
    refine ⟨nn, h1, h2, fun V => ?_⟩
    clear h1 h2 h3 h4
    have hb := Blk.new V [.int .i64 d, .int .i64 nn, .bool false] 33
    have c1 := hb.cell (o := 1) rfl
    have c2 := hb.cell (o := 2) rfl
    clear hb
    go_enter Try.func12, Try.ntmps12
    go_wp2_with fail
    go_ret
    exact ⟨rfl, (Turned.refl _ _).alloc _⟩
  | true =>
    obtain ⟨u, hu⟩ : ∃ u, u = am nn 9 := ⟨_, rfl⟩
    have hul : u < 9 := by rw [hu]; exact am_lt _ (by omega)
    refine ⟨g + u - 3, by omega, by omega, fun V => ?_⟩
    have B1 := Lib.hid (fun W => among_lit nn 9 9 u rfl hu (by omega) (by omega) W)
    have hb := Blk.new V [.int .i64 d, .int .i64 nn, .bool true] 33
    have c1 := hb.cell (o := 1) rfl
    have c2 := hb.cell (o := 2) rfl
    clear hb hu h1 h2
    go_enter Try.func12, Try.ntmps12
    go_wp2_with (go_at_call 14; ((with_reducible refine (B1.out _).mono ?_)); rintro e w1 ⟨rfl, hw⟩; subst hw)
    go_ret
    exact ⟨rfl, (Turned.refl _ _).alloc _⟩

set_option maxHeartbeats 16000000 in
theorem lplays_walk {LT : Nat → LgM → Thing} (A : LedgerApi LT) (a : Int) (t : Sl Act14) (w : World) (h0 : (Lit.int .i64 a).wf = true) (h1 : SlOk encAct14 okAct14 3 w t) :
    Calls Try.prog 3 #[.int .i64 a, .slice t.a t.len t.cap] w fun e w' => e = .returned (.bool true) ∧ Still w w' := by
  have HWk := Lib.hid (fun V => works14 A V)
  by_cases hr : 0 ≤ a ∧ a ≤ 1099511627776
  · obtain ⟨ha0, ha1⟩ := hr
    obtain ⟨ta, tl, tc, tx⟩ := t
    have htcap : tl ≤ tc := h1.le
    have htmax : tc ≤ maxLen := h1.max
    unfold maxLen at htmax
    have HTX := Lib.hid h1
    have HTL : Hid (tx.length = tl) := Lib.hid h1.len
    have HMk := Lib.hid (A.make_ok a w ha0 ha1)
    have HZk := Lib.hid (fun V (q : Nat) (H : LNew LT w (LgM.new a) q V) => show Calls Try.prog 10 #[.int .i64 a] V fun e w' => ∃ z, e = .returned (.tuple #[.pointer (some ⟨z, 0, none⟩), .int .i64 0]) ∧ Tw LT w w' q z a from
      (zlgmake_ok a V ha0 ha1).mono fun e w' ⟨z, he, hn⟩ => ⟨z, he, LgM.new a, LgM.new_ok ha0 ha1, rfl, (((Held.start (Turned.refl _ w)).new H).new hn).turn⟩)
    dsimp only
    clear h1 h0
    go_enter Try.func3, Try.ntmps3
    go_wp2_with (first
      | (go_at_call 9; ((with_reducible refine HMk.out.mono ?_)); rintro e w1 ⟨q, rfl, hN⟩; have HN := Lib.hid hN; clear hN)
      | (go_at_call 10; ((with_reducible refine (HZk.out _ _ HN.out).mono ?_)); rintro e w2 ⟨z, rfl, hT⟩; have T2 := Lib.hid hT; clear hT))
    clear HMk HZk HN
    go_loopw [9] (fun i wr => ∃ k : Nat, k ≤ tl ∧ k ≤ 150 ∧ i = .int .i64 k ∧ Tw LT w wr q z a) (fun i _ => tl - (intOf i).toNat)
    case atStart => exact ⟨0, Nat.zero_le _, Nat.zero_le _, rfl, T2.out⟩
    case round =>
      clear T2
      obtain ⟨k, hk, hk1, rfl, hI⟩ := hrel
      have HI := Lib.hid hI
      by_cases hin : k < tl ∧ k < 150
      · obtain ⟨hlt, h150⟩ := hin
        obtain ⟨x, hx⟩ := get_some (l := tx) (i := k) (by rw [HTL.out]; exact hlt)
        obtain ⟨b, o, rfl, hc⟩ := HTX.out.row k x hx
        obtain ⟨_, hok, _⟩ : okAct14 w x := HTX.out.each x (List.mem_of_getElem? hx)
        have hT := hI.ground
        obtain ⟨d, nn, near⟩ := x
        obtain ⟨n1, n2⟩ := i64_of14 hok
        have HC := Lib.hid (fun V (hs : Still wr V) => (⟨still_cell (hT.trans hs) (hc 0 _ rfl) (by omega), still_cell (hT.trans hs) (hc 1 _ rfl) (by omega), still_cell (hT.trans hs) (hc 2 _ rfl) (by omega)⟩ : V.cell? ⟨b, o + k * 3, none⟩ = some (.int .i64 d) ∧ V.cell? ⟨b, o + k * 3 + 1, none⟩ = some (.int .i64 nn) ∧ V.cell? ⟨b, o + k * 3 + 2, none⟩ = some (.bool near)))
        obtain ⟨g, _, _, _, _, ⟨_, _, _, _, hg1, hg2⟩, _, _, hEz, _⟩ := tw_chk A hI
        have HE := Lib.hid hEz
        obtain ⟨N, hN1, hN2, hW⟩ := where14_ex d nn near g n1 n2 hg1 hg2
        have HWh := Lib.hid (fun V (hs : Still wr V) => show Calls Try.prog 12 #[.agg #[.int .i64 d, .int .i64 nn, .bool near], .int .i64 g] V fun e w' => e = .returned (.int .i64 N) ∧ Still wr w' from (hW V).mono fun e w' ⟨he, ht⟩ => ⟨he, hs.trans ht⟩)
        obtain ⟨v, hv⟩ : ∃ v, v = am d 7 := ⟨_, rfl⟩
        have hvl : v < 7 := by rw [hv]; exact am_lt _ (by omega)
        have B1 := Lib.hid (fun W => among_lit d 7 7 v rfl hv (by omega) (by omega) W)
        have hT0 : Still wr wr := Turned.refl _ _
        obtain ⟨c0, c1, c2⟩ := HC.out wr hT0
        have hTd : Still wr wr.drew := hT0.drew
        have hki : (k : Int) < (tl : Int) := by omega
        clear hx hc hT hv hI hEz hW hok hg1 hg2 n1 n2
        go_wp2_with fail
        go_region_held3 (fun V => V.cell? ⟨b, o + k * 3, none⟩ = some (.int .i64 d) ∧ V.cell? ⟨b, o + k * 3 + 1, none⟩ = some (.int .i64 nn) ∧ V.cell? ⟨b, o + k * 3 + 2, none⟩ = some (.bool near)) (first | assumption | exact ⟨by assumption, by assumption, by assumption⟩ | go_keep) (first
          | (go_at_call 13; ((with_reducible refine (HE.out _ (by assumption)).mono ?_)); rintro e w3 ⟨rfl, hT3⟩; obtain ⟨g0, g1, g2⟩ := HC.out w3 hT3)
          | (go_at_call 12; ((with_reducible refine (HWh.out _ (by assumption)).mono ?_)); rintro e w4 ⟨rfl, hT4⟩; obtain ⟨f0, f1, f2⟩ := HC.out w4 hT4))
        have HI4 := Lib.hid (HI.out.still hT4)
        clear HE HWh hTd hT0 HI c0 c1 c2
        have HChk := Lib.hid (fun V (H : Tw LT w V q z a) => tw_chk A H)
        have HAc := Lib.hid (fun V (H : Tw LT w V q z a) => tw_acc A H N hN1 hN2)
        have HSk := Lib.hid (fun V (H : Tw LT w V q z a) => tw_skp A H N hN1 hN2)
        have HBk := Lib.hid (fun V (H : Tw LT w V q z a) => tw_back A H N hN1 hN2)
        have HIs := Lib.hid (fun V (H : Tw LT w V q z a) => tw_is A H N hN1 hN2)
        rcases (show v = 0 ∨ v = 1 ∨ v = 2 ∨ v = 3 ∨ v = 4 ∨ v = 5 ∨ v = 6 by omega) with rfl | rfl | rfl | rfl | rfl | rfl | rfl
        all_goals (
          as_aux_lemma =>
          go_wp2_with (first
            | (go_at_call 14; ((with_reducible refine (B1.out _).mono ?_)); rintro e wb ⟨rfl, hwb⟩; subst hwb)
            | (go_at_call 15; obtain ⟨r5, h5⟩ := HAc.out _ HI4.out; ((with_reducible refine h5.mono ?_)); rintro e w5 ⟨rfl, h6⟩; have H5 := Lib.hid h6; clear h5 h6)
            | (go_at_call 17; obtain ⟨r5, h5⟩ := HSk.out _ HI4.out; ((with_reducible refine h5.mono ?_)); rintro e w5 ⟨rfl, h6⟩; have H5 := Lib.hid h6; clear h5 h6)
            | (go_at_call 18; obtain ⟨r5, h5⟩ := HBk.out _ HI4.out; ((with_reducible refine h5.mono ?_)); rintro e w5 ⟨rfl, h6⟩; have H5 := Lib.hid h6; clear h5 h6)
            | (go_at_call 20; obtain ⟨v5, r5, h5⟩ := HIs.out _ HI4.out; ((with_reducible refine h5.mono ?_)); rintro e w5 ⟨rfl, h6⟩; have H5 := Lib.hid h6; clear h5 h6)
            | (go_at_call 16; ((with_reducible refine H5.out.mono ?_)); rintro e w6 ⟨rfl, h⟩; have T6 := Lib.hid h; obtain ⟨g, na, nb, SA, SB, ⟨hna, hnb, hna1, hnb1, _, _⟩, d1, d2, d3, d4, d5, d6, d7⟩ := HChk.out _ h; have HFr := Lib.hid d1; have HEx := Lib.hid d2; have HEz := Lib.hid d3; have HAx := Lib.hid d4; have HAz := Lib.hid d5; have HBx := Lib.hid d6; have HBz := Lib.hid d7; have HNa := Lib.hid hna; have HNb := Lib.hid hnb; clear h d1 d2 d3 d4 d5 d6 d7 hna hnb)
            | (go_at_call 19; ((with_reducible refine H5.out.mono ?_)); rintro e w6 ⟨rfl, h⟩; have T6 := Lib.hid h; obtain ⟨g, na, nb, SA, SB, ⟨hna, hnb, hna1, hnb1, _, _⟩, d1, d2, d3, d4, d5, d6, d7⟩ := HChk.out _ h; have HFr := Lib.hid d1; have HEx := Lib.hid d2; have HEz := Lib.hid d3; have HAx := Lib.hid d4; have HAz := Lib.hid d5; have HBx := Lib.hid d6; have HBz := Lib.hid d7; have HNa := Lib.hid hna; have HNb := Lib.hid hnb; clear h d1 d2 d3 d4 d5 d6 d7 hna hnb)
            | (go_at_call 21; ((with_reducible refine H5.out.mono ?_)); rintro e w6 ⟨rfl, h⟩; have T6 := Lib.hid h; obtain ⟨g, na, nb, SA, SB, ⟨hna, hnb, hna1, hnb1, _, _⟩, d1, d2, d3, d4, d5, d6, d7⟩ := HChk.out _ h; have HFr := Lib.hid d1; have HEx := Lib.hid d2; have HEz := Lib.hid d3; have HAx := Lib.hid d4; have HAz := Lib.hid d5; have HBx := Lib.hid d6; have HBz := Lib.hid d7; have HNa := Lib.hid hna; have HNb := Lib.hid hnb; clear h d1 d2 d3 d4 d5 d6 d7 hna hnb)
            | (go_at_call 22; ((with_reducible refine (HFr.out _ (Turned.refl _ _)).mono ?_)); rintro e w7 ⟨rfl, hs⟩; have S7 := Lib.hid hs; clear hs)
            | (go_at_call 23; ((with_reducible refine (HEx.out _ S7.out).mono ?_)); rintro e w8 ⟨rfl, hs⟩; have S8 := Lib.hid hs; clear hs)
            | (go_at_call 13; ((with_reducible refine (HEz.out _ S8.out).mono ?_)); rintro e w9 ⟨rfl, hs⟩; have S9 := Lib.hid hs; clear hs)
            | (go_at_call 25; ((with_reducible refine (HAx.out _ S9.out).mono ?_)); rintro e wA ⟨aA, cA, rfl, hA, hs⟩; have PA := Lib.hid hA; have SA1 := Lib.hid hs; clear hs hA)
            | (go_at_call 26; ((with_reducible refine (HAz.out _ SA1.out).mono ?_)); rintro e wB ⟨aB, cB, rfl, hB, ht, hs⟩; have HSm := Lib.hid (same_sp (c := cA) (c' := cB) HNa.out hna1 (PA.out.still ht) hB); have SB1 := Lib.hid hs; clear hs hB ht)
            | (go_at_call 24; ((with_reducible refine HSm.out.mono ?_)); rintro e wC ⟨rfl, ht⟩; have SC := Lib.hid (SB1.out.trans ht); clear ht)
            | (go_at_call 27; ((with_reducible refine (HBx.out _ SC.out).mono ?_)); rintro e wD ⟨aD, cD, rfl, hA, hs⟩; have PD := Lib.hid hA; have SD := Lib.hid hs; clear hs hA)
            | (go_at_call 26; ((with_reducible refine (HBz.out _ SD.out).mono ?_)); rintro e wE ⟨aE, cE, rfl, hB, ht, hs⟩; have HSn := Lib.hid (same_sp (c := cD) (c' := cE) HNb.out hnb1 (PD.out.still ht) hB); have SE := Lib.hid hs; clear hs hB ht)
            | (go_at_call 24; ((with_reducible refine HSn.out.mono ?_)); rintro e wF ⟨rfl, ht⟩; have TF := Lib.hid (T6.out.still (SE.out.trans ht)); clear ht))
          go_roundw
          case rel => exact ⟨k + 1, by omega, by omega, by go_num, TF.out⟩
          case measure => simp [intOf]; omega)
      · have hex : (k < tl ∧ 150 ≤ k) ∨ tl ≤ k := by omega
        clear hin hI
        have HWk1 := Lib.hid ((HWk.out wr).mono fun e w' ⟨he, hs⟩ => (And.intro he (HI.out.ground.trans hs) : e = Ending.returned (.bool true) ∧ Still w w'))
        rcases hex with ⟨q1, q2⟩ | q1
        all_goals (
          go_wp2_with (go_at_call 11; ((with_reducible refine HWk1.out.mono ?_)); rintro e w8 ⟨rfl, hs⟩; have H8 := Lib.hid hs; clear hs)
          go_ret
          exact ⟨rfl, H8.out⟩)
  · have HMk := Lib.hid (A.make_no a w hr)
    have HZk := Lib.hid (fun V => zlgmake_no a V hr)
    clear h0 h1 hr
    go_enter Try.func3, Try.ntmps3
    go_wp2_with (first
      | (go_at_call 9; ((with_reducible refine HMk.out.mono ?_)); rintro e w1 ⟨rfl, hs⟩; have S1 := Lib.hid hs; clear hs)
      | (go_at_call 10; ((with_reducible refine (HZk.out _).mono ?_)); rintro e w2 ⟨rfl, hs⟩; have S2 := Lib.hid (S1.out.trans hs); clear hs)
      | (go_at_call 11; ((with_reducible refine (HWk.out _).mono ?_)); rintro e w8 ⟨rfl, hs⟩; have H8 := Lib.hid (S2.out.trans hs); clear hs))
    go_ret
    exact ⟨rfl, H8.out⟩
end Go.Proofs.Ytpkodmclbobkpaa
