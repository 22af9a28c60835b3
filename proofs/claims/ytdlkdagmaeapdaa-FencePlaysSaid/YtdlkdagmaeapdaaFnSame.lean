/- Both tracks beside one another: what the statements' own comparison says. No condition but the words. -/
import Derived.Test.YtdlkdagmaeapdaaFnApi
import Derived.Test.YtdlkdagmaeapdaaLgApi
import Derived.Deep.RegionHeld3
namespace Go.Proofs.Ytdlkdagmaeapdaa
open Go.RowKit
set_option linter.unusedVariables false
set_option linter.unusedSimpArgs false
set_option maxRecDepth 100000

/-- Both tracks, of the same state. -/
def Tf (FT : Nat → FnM → Thing) (w V : World) (q z : Nat) : Prop := ∃ M : FnM, M.Ok ∧ Held w V ((FT q M).sep ((zfT z M).sep Thing.none))
section
variable {FT : Nat → FnM → Thing} {LT : Nat → LgM → Thing} {w V V2 : World} {q z : Nat}
theorem Tf.still (h : Tf FT w V q z) (hs : Still V V2) : Tf FT w V2 q z := by
  obtain ⟨M, h1, h2⟩ := h; exact ⟨M, h1, h2.still hs⟩
theorem Tf.ground (h : Tf FT w V q z) : Still w V := by obtain ⟨M, h1, h2⟩ := h; exact h2.ground
/-- What lies there of the document's track. -/
theorem tf_cells {M : FnM} (H : Held w V ((zfT z M).sep Thing.none)) : ∃ l, V.cell? ⟨z, 0, none⟩ = some (.pointer (some ⟨l, 0, none⟩)) ∧ V.cell? ⟨z, 1, none⟩ = some (.int .i64 M.N) ∧ V.cell? ⟨l, 0, none⟩ = some (.int .i64 M.L.b) ∧ ∃ W1, (zLT l M.L).at_ V W1 := by
  obtain ⟨_, ⟨l, h⟩, _⟩ := H.drop
  obtain ⟨c0, c1, W1, h1⟩ := zfn_cells h
  obtain ⟨a, c, a2, c2, hr⟩ := zLT_rd h1
  exact ⟨l, c0, c1, hr.c0, W1, h1⟩
set_option maxHeartbeats 4000000 in
theorem same18_any (A : FenceApi FT LT) (AL : LedgerApi LT) (H : Tf FT w V q z) : Calls Try.prog 22 #[.pointer (some ⟨q, 0, none⟩), .pointer (some ⟨z, 0, none⟩)] V fun e w' => e = .returned (.bool true) ∧ Still V w' := by
  obtain ⟨M, m1, m2⟩ := H
  have hlen := m1.led.len
  have h5 := spOf_len M.L.L true
  have h6 := spOf_len M.L.L false
  have HLd := Lib.hid (show Calls Try.prog 26 #[.pointer (some ⟨q, 0, none⟩)] V fun e w' => ∃ q', e = .returned (.pointer (some ⟨q', 0, none⟩)) ∧ Held w w' ((LT q' M.L).sep ((FT q M).sep ((zfT z M).sep Thing.none))) ∧ Still V w' from by
    obtain ⟨_, h, _⟩ := m2.fst
    refine (A.ledger h m1).mono ?_
    rintro e w' ⟨q', he, hn⟩
    have hs := hn
    obtain ⟨_, _, hs, _⟩ := hs
    exact ⟨q', he, m2.new hn, hs⟩)
  obtain ⟨SA, hSA⟩ : ∃ SA, SA = spOf M.L.L true := ⟨_, rfl⟩
  obtain ⟨SB, hSB⟩ : ∃ SB, SB = spOf M.L.L false := ⟨_, rfl⟩
  obtain ⟨na, hna⟩ : ∃ na, na = SA.length := ⟨_, rfl⟩
  obtain ⟨nb, hnb⟩ : ∃ nb, nb = SB.length := ⟨_, rfl⟩
  have hna1 : na ≤ 256 := by rw [hna, hSA]; omega
  have hnb1 : nb ≤ 256 := by rw [hnb, hSB]; omega
  obtain ⟨l, c0, c1, c2, W1, hz⟩ := tf_cells m2.snd
  have HNx := Lib.hid (fun V2 (hs : Still V V2) => (m2.still hs).nextF A m1 rfl)
  have HCm := Lib.hid (fun V2 (hs : Still V V2) => (m2.still hs).cmdF A m1 rfl)
  have HZe := Lib.hid (fun V2 (hs : Still V V2) => zlgend_any (Thing.keep _ hz hs (fun _ _ h => h)) m1.led)
  have HZo := Lib.hid (fun V2 (hs : Still V V2) => show Calls Try.prog 50 #[.pointer (some ⟨l, 0, none⟩), .bool true] V2 fun e w' => ∃ a c, e = .returned (.slice a na c) ∧ SpAt w' a SA ∧ Still V2 w' from
    (zlgof_any (Thing.keep _ hz hs (fun _ _ h => h)) m1.led true na (by rw [hna, hSA])).mono fun e w' ho => by rw [← hSA] at ho; exact ho.at hna)
  have HZp := Lib.hid (fun V2 (hs : Still V V2) => show Calls Try.prog 50 #[.pointer (some ⟨l, 0, none⟩), .bool false] V2 fun e w' => ∃ a c, e = .returned (.slice a nb c) ∧ SpAt w' a SB ∧ Still V2 w' from
    (zlgof_any (Thing.keep _ hz hs (fun _ _ h => h)) m1.led false nb (by rw [hnb, hSB])).mono fun e w' ho => by rw [← hSB] at ho; exact ho.at hnb)
  have HC := Lib.hid (fun V2 (hs : Still V V2) => (⟨still_cell hs c0 rfl, still_cell hs c1 rfl, still_cell hs c2 rfl⟩ : V2.cell? ⟨z, 0, none⟩ = some (.pointer (some ⟨l, 0, none⟩)) ∧ V2.cell? ⟨z, 1, none⟩ = some (.int .i64 M.N) ∧ V2.cell? ⟨l, 0, none⟩ = some (.int .i64 M.L.b)))
  have HLw := Lib.hid (fun ql V1 (hK : Held w V1 ((LT ql M.L).sep ((FT q M).sep ((zfT z M).sep Thing.none)))) V2 (hs : Still V1 V2) => show
    (Calls Try.prog 27 #[.pointer (some ⟨ql, 0, none⟩)] V2 fun e w' => e = .returned (.int .i64 M.L.b) ∧ Still V2 w') ∧
    (Calls Try.prog 29 #[.pointer (some ⟨ql, 0, none⟩)] V2 fun e w' => ∃ a c, e = .returned (.slice a na c) ∧ SpAt w' a SA ∧ Still V2 w') ∧
    (Calls Try.prog 30 #[.pointer (some ⟨ql, 0, none⟩)] V2 fun e w' => ∃ a c, e = .returned (.slice a nb c) ∧ SpAt w' a SB ∧ Still V2 w') from
      ⟨(hK.still hs).fromL AL m1.led rfl, (hK.still hs).acdL AL m1.led hSA.symm hna, (hK.still hs).skdL AL m1.led hSB.symm hnb⟩)
  have HNa := Lib.hid hna
  have HNb := Lib.hid hnb
  have HSp := Lib.hid (fun V2 (S : List (Int × Int)) (n c c' : Nat) (a a' : Option Addr) (hn : n = S.length) (h1 : n ≤ 256) (hA : SpAt V2 a S) (hB : SpAt V2 a' S) => show Calls Try.prog 49 #[.slice a n c, .slice a' n c'] V2 fun e w' => e = .returned (.bool true) ∧ Still V2 w' from
    (sameSpans_any V2 a a' S S n n c c' hn hn (by omega) hA hB).mono fun e w' ⟨he, hs⟩ => ⟨by rw [he]; simp, hs⟩)
  generalize M.N = N at *
  generalize M.L.fin = f at *
  generalize M.L.b = b at *
  clear hz hSA hSB hna hnb h5 h6 hlen
  go_enter Try.func22, Try.ntmps22
  go_wp2_with (go_at_call 26; ((with_reducible refine HLd.out.mono ?_)); rintro e w1 ⟨ql, rfl, hK, hs⟩; have HS1 := Lib.hid hs; have HL1 := Lib.hid (HLw.out ql w1 hK); clear hK hs)
  have T1 := Lib.hid (show Still w1 w1.drew from (Turned.refl _ _).drew)
  obtain ⟨c0, c1, c2⟩ := HC.out w1 HS1.out
  go_region_held3 (fun V2 => V2.cell? ⟨z, 0, none⟩ = some (.pointer (some ⟨l, 0, none⟩)) ∧ V2.cell? ⟨z, 1, none⟩ = some (.int .i64 N) ∧ V2.cell? ⟨l, 0, none⟩ = some (.int .i64 b)) (first | assumption | exact ⟨by assumption, by assumption, by assumption⟩ | go_keep) (first
    | (go_at_call 25; ((with_reducible refine (HNx.out _ (HS1.out.trans T1.out)).mono ?_)); rintro e w2 ⟨rfl, hs⟩; have T2 := Lib.hid (T1.out.trans hs); obtain ⟨d0, d1, d2⟩ := HC.out w2 (HS1.out.trans T2.out); clear hs T1)
    | (go_at_call 23; ((with_reducible refine (HCm.out _ (HS1.out.trans T2.out)).mono ?_)); rintro e w3 ⟨rfl, hs⟩; have T3 := Lib.hid (T2.out.trans hs); obtain ⟨f0, f1, f2⟩ := HC.out w3 (HS1.out.trans T3.out); clear hs T2)
    | (go_at_call 11; ((with_reducible refine (HZe.out _ (HS1.out.trans T3.out)).mono ?_)); rintro e w4 ⟨rfl, hs⟩; have T4 := Lib.hid (T3.out.trans hs); obtain ⟨g0, g1, g2⟩ := HC.out w4 (HS1.out.trans T4.out); clear hs T3)
    | (go_at_call 27; ((with_reducible refine ((HL1.out _ T4.out).1).mono ?_)); rintro e w5 ⟨rfl, hs⟩; have T5 := Lib.hid (T4.out.trans hs); obtain ⟨h0, h1, h2⟩ := HC.out w5 (HS1.out.trans T5.out); clear hs T4)
    | (go_at_call 29; ((with_reducible refine ((HL1.out _ T5.out).2.1).mono ?_)); rintro e w6 ⟨aA, cA, rfl, hA, hs⟩; have PA := Lib.hid hA; have T6 := Lib.hid (T5.out.trans hs); obtain ⟨i0, i1, i2⟩ := HC.out w6 (HS1.out.trans T6.out); clear hs hA T5)
    | (go_at_call 50; ((with_reducible refine (HZo.out _ (HS1.out.trans T6.out)).mono ?_)); rintro e w7 ⟨aB, cB, rfl, hB, hs⟩; have HSm := Lib.hid (HSp.out w7 SA na cA cB aA aB HNa.out hna1 (PA.out.still hs) hB); have T7 := Lib.hid (T6.out.trans hs); obtain ⟨j0, j1, j2⟩ := HC.out w7 (HS1.out.trans T7.out); clear hs hB T6)
    | (go_at_call 49; ((with_reducible refine HSm.out.mono ?_)); rintro e w8 ⟨rfl, hs⟩; have T8 := Lib.hid (T7.out.trans hs); obtain ⟨k0, k1, k2⟩ := HC.out w8 (HS1.out.trans T8.out); clear hs T7)
    | (go_at_call 30; ((with_reducible refine ((HL1.out _ T8.out).2.2).mono ?_)); rintro e w9 ⟨aD, cD, rfl, hA, hs⟩; have PD := Lib.hid hA; have T9 := Lib.hid (T8.out.trans hs); obtain ⟨l0, l1, l2⟩ := HC.out w9 (HS1.out.trans T9.out); clear hs hA T8)
    | (go_at_call 50; ((with_reducible refine (HZp.out _ (HS1.out.trans T9.out)).mono ?_)); rintro e wa ⟨aE, cE, rfl, hB, hs⟩; have HSn := Lib.hid (HSp.out wa SB nb cD cE aD aE HNb.out hnb1 (PD.out.still hs) hB); have Ta := Lib.hid (T9.out.trans hs); obtain ⟨m0, m1, m2⟩ := HC.out wa (HS1.out.trans Ta.out); clear hs hB T9)
    | (go_at_call 49; ((with_reducible refine HSn.out.mono ?_)); rintro e wb ⟨rfl, hs⟩; have Tb := Lib.hid (HS1.out.trans (Ta.out.trans hs)); obtain ⟨n0, n1, n2⟩ := HC.out wb Tb.out; clear hs Ta))
  go_wp2_with fail
  go_ret
  exact ⟨rfl, Tb.out⟩
end
end Go.Proofs.Ytdlkdagmaeapdaa
