/- MemberPlays: the walk: the program's list beside the document's. No condition but the words. -/
import Derived.Test.YtepdnclojjeepaaMbApi
import Derived.Test.YtepdnclojjeepaaMbRefDo
import Derived.Test.YtepdnclojjeepaaActs15
namespace Go.Proofs.Ytepdnclojjeepaa
open Go.RowKit
set_option linter.unusedVariables false
set_option linter.unusedSimpArgs false
set_option maxRecDepth 100000

/-- Both lists, of the same members; a box beside. -/
def Tb (MT : Nat → MbM → Thing) (w V : World) (q z K : Nat) : Prop := ∃ M : MbM, M.Ok K ∧ Held w V ((MT q M).sep (zMbT z M))
def TbX (MT : Nat → MbM → Thing) (w V : World) (q z K b : Nat) (out : Bool) (id : Int) : Prop := ∃ M : MbM, M.Ok K ∧ Held w V (((MT q M).sep (zMbT z M)).sep (blkT b [.bool out, .int .i64 id] 28))
def Bx15 (V : World) (b : Nat) (out : Bool) (id : Int) : Prop := V.cell? ⟨b, 0, none⟩ = some (.bool out) ∧ V.cell? ⟨b, 1, none⟩ = some (.int .i64 id)
section
variable {MT : Nat → MbM → Thing} {w V V2 : World} {q z K b : Nat} {out : Bool} {id : Int}
theorem Tb.box (h : Tb MT w V q z K) (out : Bool) (id : Int) : TbX MT w (V.alloc (.cells #[.bool out, .int .i64 id] 28)) q z K V.heap.size out id := by
  obtain ⟨M, m1, m2⟩ := h
  exact ⟨M, m1, m2.box [.bool out, .int .i64 id] 28⟩
theorem TbX.drop (h : TbX MT w V q z K b out id) : Tb MT w V q z K := by
  obtain ⟨M, m1, m2⟩ := h; exact ⟨M, m1, m2.drop⟩
theorem held_bx {A : Thing} (h : Held w V (A.sep (blkT b [.bool out, .int .i64 id] 28))) : Bx15 V b out id := ⟨h.snd.blk.cell rfl, h.snd.blk.cell rfl⟩
theorem TbX.bx (h : TbX MT w V q z K b out id) : Bx15 V b out id := by obtain ⟨M, m1, m2⟩ := h; exact held_bx m2
theorem Tb.ground (h : Tb MT w V q z K) : Still w V := by obtain ⟨M, m1, m2⟩ := h; exact m2.ground
theorem Tb.still (h : Tb MT w V q z K) (hs : Still V V2) : Tb MT w V2 q z K := by obtain ⟨M, m1, m2⟩ := h; exact ⟨M, m1, m2.still hs⟩
theorem TbX.still (h : TbX MT w V q z K b out id) (hs : Still V V2) : TbX MT w V2 q z K b out id := by obtain ⟨M, m1, m2⟩ := h; exact ⟨M, m1, m2.still hs⟩
theorem tb_join (A : MemberApi MT) (H : TbX MT w V q z K b out id) (hK : K < 1000000) (h1 : -9223372036854775808 ≤ id) (h2 : id ≤ 9223372036854775807) : ∃ (v : Nat) (r : Int),
    Calls Try.prog 10 #[.pointer (some ⟨q, 0, none⟩), .int .i64 id] V fun e w' => e = .returned (.tuple #[.int .i64 ((v : Nat) : Int), .int .i64 r]) ∧ Bx15 w' b out id ∧
      Calls Try.prog 11 #[.pointer (some ⟨z, 0, none⟩), .int .i64 id] w' fun e w'' => e = .returned (.tuple #[.int .i64 ((v : Nat) : Int), .int .i64 r]) ∧ Bx15 w'' b out id ∧ TbX MT w w'' q z (K + 1) b out id := by
  obtain ⟨M, m1, m2⟩ := H
  refine ⟨_, _, (Held.joinM A m2.assoc m1 hK h1 h2 rfl rfl rfl).mono fun e w' ⟨he, hh⟩ => ⟨he, held_bx hh.assoc', ?_⟩⟩
  exact (hh.turn.call (fun _ h => zmbjoin_any h m1 hK id)).mono fun e w'' ⟨he, hk⟩ => ⟨he, held_bx hk.turn.assoc', _, m1.join id, hk.turn.assoc'⟩
theorem tb_leave (A : MemberApi MT) (H : TbX MT w V q z K b out id) (hK : K < 1000000) (h1 : -9223372036854775808 ≤ id) (h2 : id ≤ 9223372036854775807) : ∃ (v : Nat) (r : Int),
    Calls Try.prog 12 #[.pointer (some ⟨q, 0, none⟩), .int .i64 id] V fun e w' => e = .returned (.tuple #[.int .i64 ((v : Nat) : Int), .int .i64 r]) ∧ Bx15 w' b out id ∧
      Calls Try.prog 13 #[.pointer (some ⟨z, 0, none⟩), .int .i64 id] w' fun e w'' => e = .returned (.tuple #[.int .i64 ((v : Nat) : Int), .int .i64 r]) ∧ Bx15 w'' b out id ∧ TbX MT w w'' q z (K + 1) b out id := by
  obtain ⟨M, m1, m2⟩ := H
  refine ⟨_, _, (Held.leaveM A m2.assoc m1 hK h1 h2 rfl rfl rfl).mono fun e w' ⟨he, hh⟩ => ⟨he, held_bx hh.assoc', ?_⟩⟩
  exact (hh.turn.call (fun _ h => zmbleave_any h m1 hK id)).mono fun e w'' ⟨he, hk⟩ => ⟨he, held_bx hk.turn.assoc', _, m1.leave id, hk.turn.assoc'⟩
/-- What both say of themselves. -/
theorem tb_chk (A : MemberApi MT) (H : TbX MT w V q z K b out id) (hK : K < 1000000) (h1 : -9223372036854775808 ≤ id) (h2 : id ≤ 9223372036854775807) : ∃ (sv rv ev tv n : Nat) (fe ee : Int) (l : List Int),
    (n = l.length ∧ n ≤ 8 ∧ Still V V) ∧ (∀ V2, Still V V2 → Bx15 V2 b out id ∧ V2.cell? ⟨z, 16, none⟩ = some (.int .i64 ((tv : Nat) : Int))) ∧
    (∀ V2, Still V V2 → Calls Try.prog 14 #[.pointer (some ⟨q, 0, none⟩), .int .i64 id] V2 fun e w' => e = .returned (.tuple #[.int .i64 ((sv : Nat) : Int), .int .i64 fe]) ∧ Still V w') ∧
    (∀ V2, Still V V2 → Calls Try.prog 15 #[.pointer (some ⟨z, 0, none⟩), .int .i64 id] V2 fun e w' => e = .returned (.tuple #[.int .i64 ((sv : Nat) : Int), .int .i64 fe]) ∧ Still V w') ∧
    (∀ V2, Still V V2 → Calls Try.prog 16 #[.pointer (some ⟨q, 0, none⟩), .int .i64 id] V2 fun e w' => e = .returned (.tuple #[.int .i64 ((rv : Nat) : Int), .int .i64 fe]) ∧ Still V w') ∧
    (∀ V2, Still V V2 → Calls Try.prog 17 #[.pointer (some ⟨z, 0, none⟩), .int .i64 id] V2 fun e w' => e = .returned (.tuple #[.int .i64 ((rv : Nat) : Int), .int .i64 fe]) ∧ Still V w') ∧
    (∀ V2, Still V V2 → Calls Try.prog 18 #[.pointer (some ⟨q, 0, none⟩)] V2 fun e w' => e = .returned (.tuple #[.int .i64 ((ev : Nat) : Int), .int .i64 ee]) ∧ Still V w') ∧
    (∀ V2, Still V V2 → Calls Try.prog 19 #[.pointer (some ⟨z, 0, none⟩)] V2 fun e w' => e = .returned (.tuple #[.int .i64 ((ev : Nat) : Int), .int .i64 ee]) ∧ Still V w') ∧
    (∀ V2, Still V V2 → Calls Try.prog 20 #[.pointer (some ⟨q, 0, none⟩), .int .i64 id] V2 fun e w' => e = .returned (.bool (decide (fe = 0))) ∧ Still V w') ∧
    (∀ V2, Still V V2 → Calls Try.prog 21 #[.pointer (some ⟨z, 0, none⟩), .int .i64 id] V2 fun e w' => e = .returned (.bool (decide (fe = 0))) ∧ Still V w') ∧
    (∀ V2, Still V V2 → Calls Try.prog 23 #[.pointer (some ⟨q, 0, none⟩)] V2 fun e w' => ∃ a c, e = .returned (.slice a n c) ∧ NumsAt w' a l ∧ Still V w') ∧
    (∀ V2, Still V V2 → Calls Try.prog 24 #[.pointer (some ⟨z, 0, none⟩)] V2 fun e w' => ∃ a c, e = .returned (.slice a n c) ∧ NumsAt w' a l ∧ Still V2 w' ∧ Still V w') ∧
    (∀ V2, Still V V2 → Calls Try.prog 25 #[.pointer (some ⟨q, 0, none⟩)] V2 fun e w' => e = .returned (.int .i64 ((tv : Nat) : Int)) ∧ Still V w') := by
  obtain ⟨M, m1, m2⟩ := H
  have hx := fun V2 (hs : Still V V2) => (m2.still hs).assoc
  have hz := fun V2 (hs : Still V V2) => show ZmRd z M V2 from by
    obtain ⟨_, h, _⟩ := (hx V2 hs).turn.fst
    exact zMbT_rd m1 h
  refine ⟨M.sinceV id, M.rankV id, M.eldV, M.T, M.memb.length, M.findE id, M.eldE, intsN M.memb, ⟨by rw [intsN_len], m1.full, Turned.refl _ _⟩, fun V2 hs => ⟨held_bx (m2.still hs), (hz V2 hs).time⟩, ?_, ?_, ?_, ?_, ?_, ?_, ?_, ?_, ?_, ?_, ?_⟩
  · exact fun V2 hs => (Held.sinceM A (hx V2 hs) m1 hK h1 h2 rfl rfl).mono fun e w' ⟨he, ht⟩ => ⟨he, hs.trans ht⟩
  · exact fun V2 hs => (zmbsince_any (hz V2 hs) id).mono fun e w' ⟨he, ht⟩ => ⟨he, ht ▸ hs⟩
  · exact fun V2 hs => (Held.rankM A (hx V2 hs) m1 hK h1 h2 rfl rfl).mono fun e w' ⟨he, ht⟩ => ⟨he, hs.trans ht⟩
  · exact fun V2 hs => (zmbrank_any (hz V2 hs) id).mono fun e w' ⟨he, ht⟩ => ⟨he, ht ▸ hs⟩
  · exact fun V2 hs => (Held.eldM A (hx V2 hs) m1 hK rfl rfl).mono fun e w' ⟨he, ht⟩ => ⟨he, hs.trans ht⟩
  · exact fun V2 hs => (zmbeldest_any (hz V2 hs) m1).mono fun e w' ⟨he, ht⟩ => ⟨he, hs.trans ht⟩
  · exact fun V2 hs => (Held.hasM A (hx V2 hs) m1 hK h1 h2 rfl).mono fun e w' ⟨he, ht⟩ => ⟨he, hs.trans ht⟩
  · exact fun V2 hs => (zmbhas_any (hz V2 hs) id).mono fun e w' ⟨he, ht⟩ => ⟨he, ht ▸ hs⟩
  · exact fun V2 hs => (Held.allM A (hx V2 hs) m1 hK rfl rfl).mono fun e w' ⟨a, c, he, h, ht⟩ => ⟨a, c, he, h, hs.trans ht⟩
  · exact fun V2 hs => (zmball_any (hz V2 hs) _ rfl).mono fun e w' ho => by
      obtain ⟨a, c, he, h, ht⟩ := ho.at (by rw [intsN_len])
      exact ⟨a, c, he, h, ht, hs.trans ht⟩
  · exact fun V2 hs => (Held.timeM A (hx V2 hs) m1 hK rfl).mono fun e w' ⟨he, ht⟩ => ⟨he, hs.trans ht⟩
end

set_option maxHeartbeats 16000000 in
theorem mplays_walk {MT : Nat → MbM → Thing} (A : MemberApi MT) (t : Sl Act15) (w : World) (h1 : SlOk encAct15 okAct15 2 w t) :
    Calls Try.prog 3 #[.slice t.a t.len t.cap] w fun e w' => e = .returned (.bool true) ∧ Still w w' := by
  have HWk := Lib.hid (fun V => works15 A V)
  obtain ⟨ta, tl, tc, tx⟩ := t
  have htcap : tl ≤ tc := h1.le
  have htmax : tc ≤ maxLen := h1.max
  unfold maxLen at htmax
  have HTX := Lib.hid h1
  have HTL : Hid (tx.length = tl) := Lib.hid h1.len
  have HMk := Lib.hid (A.make_ w)
  have HZk := Lib.hid (fun V (q : Nat) (H : MNew MT w MbM.new q V) => show Calls Try.prog 9 #[] V fun e w' => ∃ z, e = .returned (.pointer (some ⟨z, 0, none⟩)) ∧ Tb MT w w' q z 0 from
    (zmbmake_any V).mono fun e w' ⟨z, he, hn⟩ => ⟨z, he, MbM.new, MbM.new_ok, ((((Held.start (Turned.refl _ w)).new H).only).new hn).swap⟩)
  dsimp only
  clear h1
  go_enter Try.func3, Try.ntmps3
  go_wp2_with (first
    | (go_at_call 8; ((with_reducible refine HMk.out.mono ?_)); rintro e w1 ⟨q, rfl, hN⟩; have HN := Lib.hid hN; clear hN)
    | (go_at_call 9; ((with_reducible refine (HZk.out _ _ HN.out).mono ?_)); rintro e w2 ⟨z, rfl, hT⟩; have T2 := Lib.hid hT; clear hT))
  clear HMk HZk HN
  go_loopw [5] (fun i wr => ∃ k : Nat, k ≤ tl ∧ k ≤ 200 ∧ i = .int .i64 k ∧ Tb MT w wr q z (2 * k)) (fun i _ => tl - (intOf i).toNat)
  case atStart => exact ⟨0, Nat.zero_le _, Nat.zero_le _, rfl, T2.out⟩
  case round =>
    clear T2
    obtain ⟨k, hk, hk1, rfl, hI⟩ := hrel
    have HI := Lib.hid hI
    by_cases hin : k < tl ∧ k < 200
    · obtain ⟨hlt, h150⟩ := hin
      obtain ⟨x, hx⟩ := get_some (l := tx) (i := k) (by rw [HTL.out]; exact hlt)
      obtain ⟨ba, o, rfl, hc⟩ := HTX.out.row k x hx
      obtain ⟨_, hok⟩ : okAct15 w x := HTX.out.each x (List.mem_of_getElem? hx)
      have hT := hI.ground
      obtain ⟨out, id⟩ := x
      obtain ⟨n1, n2⟩ := i64_of15 hok
      have c0 : wr.cell? ⟨ba, o + k * 2, none⟩ = some (.bool out) := still_cell hT (hc 0 _ rfl) (by omega)
      have c1 : wr.cell? ⟨ba, o + k * 2 + 1, none⟩ = some (.int .i64 id) := still_cell hT (hc 1 _ rfl) (by omega)
      obtain ⟨b, hb⟩ : ∃ b, b = wr.heap.size := ⟨_, rfl⟩
      obtain ⟨Wb, hWb⟩ : ∃ Wb, Wb = wr.alloc (.cells #[.bool out, .int .i64 id] 28) := ⟨_, rfl⟩
      have TX := Lib.hid (show TbX MT w Wb q z (2 * k) b out id from by rw [hb, hWb]; exact hI.box out id)
      have hWb2 : wr.alloc (.cells #[.bool out, .int .i64 id] 28) = Wb := hWb.symm
      have hki : (k : Int) < (tl : Int) := by omega
      have b1 : (wr.alloc (.cells #[.bool false, .int .i64 0] 28)).cell? ⟨wr.heap.size, 0, none⟩ = some (.bool false) := (Blk.new wr [.bool false, .int .i64 0] 28).cell rfl
      clear hx hc hT hI hok hWb
      go_upto_region 8 with fail
      rw [← hb]
      clear hWb2 hb c0 c1 b1
      have hK1 : 2 * k < 1000000 := by omega
      have hK2 : 2 * k + 1 < 1000000 := by omega
      have hK3 : 2 * k + 1 + 1 < 1000000 := by omega
      have HJ := Lib.hid (fun V (H : TbX MT w V q z (2 * k) b out id) => tb_join A H hK1 n1 n2)
      have HL := Lib.hid (fun V (H : TbX MT w V q z (2 * k + 1) b out id) => tb_leave A H hK2 n1 n2)
      have HUp := Lib.hid (fun V (H : TbX MT w V q z (2 * k + 1) b out id) => show TbX MT w V q z (2 * (k + 1)) b out id from by
        obtain ⟨M, m1, m2⟩ := H; exact ⟨M, m1.mono (by omega), m2⟩)
      have HChk := Lib.hid (fun V (H : TbX MT w V q z (2 * (k + 1)) b out id) => tb_chk A H (by omega) n1 n2)
      obtain ⟨x0, x1⟩ := TX.out.bx
      cases out
      all_goals (
        as_aux_lemma =>
        go_upto_region 13 with (first
          | (go_at_call 10; obtain ⟨v5, r5, h5⟩ := HJ.out _ TX.out; ((with_reducible refine h5.mono ?_)); rintro e w5 ⟨rfl, ⟨y0, y1⟩, h6⟩; have H5 := Lib.hid h6; clear h5 h6)
          | (go_at_call 11; ((with_reducible refine H5.out.mono ?_)); rintro e w6 ⟨rfl, ⟨z0, z1⟩, h⟩; have T6 := Lib.hid h; clear h)
          | (go_at_call 12; obtain ⟨v7, r7, h7⟩ := HL.out _ T6.out; ((with_reducible refine h7.mono ?_)); rintro e w7 ⟨rfl, ⟨y2, y3⟩, h8⟩; have H7 := Lib.hid h8; clear h7 h8)
          | (go_at_call 13; ((with_reducible refine H7.out.mono ?_)); rintro e w8 ⟨rfl, ⟨z2, z3⟩, h⟩; have T8 := Lib.hid h; clear h))
        first
          | have T9 := Lib.hid (show TbX MT w _ q z (2 * (k + 1)) b _ id from T8.out)
          | have T9 := Lib.hid (HUp.out _ T6.out)
        obtain ⟨sv, rv, ev, tv, n, fe, ee, l, ⟨hn, hn8, hsr⟩, d0, d1, d2, d3, d4, d5, d6, d7, d8, d9, d10, d11⟩ := HChk.out _ T9.out
        have HB := Lib.hid d0
        have HS1 := Lib.hid d1
        have HS2 := Lib.hid d2
        have HR1 := Lib.hid d3
        have HR2 := Lib.hid d4
        have HE1 := Lib.hid d5
        have HE2 := Lib.hid d6
        have HH1 := Lib.hid d7
        have HH2 := Lib.hid d8
        have HA1 := Lib.hid d9
        have HA2 := Lib.hid d10
        have HTm := Lib.hid d11
        have HNn := Lib.hid hn
        have hn9 : n ≤ 1000000 := by omega
        clear d0 d1 d2 d3 d4 d5 d6 d7 d8 d9 d10 d11 hn HJ HL HUp HChk
        generalize decide (fe = 0) = hb0 at *
        have Sa := Lib.hid hsr
        clear hsr
        obtain ⟨⟨pa, qa⟩, ra⟩ := HB.out _ Sa.out
        go_upto_region 19 with (first
          | (go_at_call 14; ((with_reducible refine (HS1.out _ Sa.out).mono ?_)); rintro e wb ⟨rfl, hs⟩; have Sb := Lib.hid hs; obtain ⟨⟨pb, qb⟩, rb⟩ := HB.out _ hs; clear hs)
          | (go_at_call 15; ((with_reducible refine (HS2.out _ Sb.out).mono ?_)); rintro e wc ⟨rfl, hs⟩; have Sc := Lib.hid hs; obtain ⟨⟨pc, qc⟩, rc⟩ := HB.out _ hs; clear hs)
          | (go_at_call 16; ((with_reducible refine (HR1.out _ Sc.out).mono ?_)); rintro e wd ⟨rfl, hs⟩; have Sd := Lib.hid hs; obtain ⟨⟨pd, qd⟩, rd⟩ := HB.out _ hs; clear hs)
          | (go_at_call 17; ((with_reducible refine (HR2.out _ Sd.out).mono ?_)); rintro e we ⟨rfl, hs⟩; have Se := Lib.hid hs; obtain ⟨⟨pe, qe⟩, re⟩ := HB.out _ hs; clear hs)
          | (go_at_call 18; ((with_reducible refine (HE1.out _ Se.out).mono ?_)); rintro e wf ⟨rfl, hs⟩; have Sf := Lib.hid hs; obtain ⟨⟨pf, qf⟩, rf⟩ := HB.out _ hs; clear hs)
          | (go_at_call 19; ((with_reducible refine (HE2.out _ Sf.out).mono ?_)); rintro e wg ⟨rfl, hs⟩; have Sg := Lib.hid hs; obtain ⟨⟨pg, qg⟩, rg⟩ := HB.out _ hs; clear hs))
        have hsg := Sg.out
        have hTd := hsg.drew
        clear Sg
        simp only [List.append_eq, List.cons_append, List.nil_append]
        go_region_held3 (fun V => V.cell? ⟨b, 1, none⟩ = some (.int .i64 id) ∧ V.cell? ⟨z, 16, none⟩ = some (.int .i64 ((tv : Nat) : Int))) (first | assumption | exact ⟨by assumption, by assumption⟩ | go_keep) (first
          | (go_at_call 20; ((with_reducible refine (HH1.out _ (by assumption)).mono ?_)); rintro e wh ⟨rfl, hs⟩; obtain ⟨⟨_, qh⟩, rh⟩ := HB.out _ hs)
          | (go_at_call 21; ((with_reducible refine (HH2.out _ (by assumption)).mono ?_)); rintro e wi ⟨rfl, hs⟩; obtain ⟨⟨_, qi⟩, ri⟩ := HB.out _ hs)
          | (go_at_call 23; ((with_reducible refine (HA1.out _ (by assumption)).mono ?_)); rintro e wj ⟨aj, cj, rfl, hA, hs⟩; have PA := Lib.hid hA; clear hA; obtain ⟨⟨_, qj⟩, rj⟩ := HB.out _ hs)
          | (go_at_call 24; ((with_reducible refine (HA2.out _ (by assumption)).mono ?_)); rintro e wk ⟨ak, ck, rfl, hA, ht, hs⟩; have HSm := Lib.hid (same_nums (c := cj) (c' := ck) HNn.out hn9 (PA.out.still ht) hA); clear hA ht; have Sk := Lib.hid hs; obtain ⟨⟨_, qk⟩, rk⟩ := HB.out _ hs)
          | (go_at_call 22; ((with_reducible refine HSm.out.mono ?_)); rintro e wl ⟨rfl, ht⟩; have hs := Sk.out.trans ht; clear ht; obtain ⟨⟨_, ql⟩, rl⟩ := HB.out _ hs)
          | (go_at_call 25; ((with_reducible refine (HTm.out _ (by assumption)).mono ?_)); rintro e wm ⟨rfl, hs⟩; obtain ⟨⟨_, qm⟩, rm⟩ := HB.out _ hs; have Tm := Lib.hid (T9.out.still hs).drop))
        go_wp2_with fail
        go_roundw
        case rel => exact ⟨k + 1, by omega, by omega, by go_num, Tm.out⟩
        case measure => simp [intOf]; omega)
    · have hex : (k < tl ∧ 200 ≤ k) ∨ tl ≤ k := by omega
      clear hin hI
      have HWk1 := Lib.hid ((HWk.out wr).mono fun e w' ⟨he, hs⟩ => (And.intro he (HI.out.ground.trans hs) : e = Ending.returned (.bool true) ∧ Still w w'))
      rcases hex with ⟨q1, q2⟩ | q1
      all_goals (
        go_wp2_with (go_at_call 26; ((with_reducible refine HWk1.out.mono ?_)); rintro e w8 ⟨rfl, hs⟩; have H8 := Lib.hid hs; clear hs)
        go_ret
        exact ⟨rfl, H8.out⟩)
end Go.Proofs.Ytepdnclojjeepaa
