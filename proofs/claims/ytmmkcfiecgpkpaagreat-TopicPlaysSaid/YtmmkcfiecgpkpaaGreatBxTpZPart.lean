/- Texts that lie next to one another, laid into one: each says what it holds. No condition but what each states. -/
import Derived.Test.YtmmkcfiecgpkpaaGreatBxTpZDo
import Derived.StillTailTactics
import Derived.BigQuiet

/- The partition that the document's set answers at a place. No condition but that it is one. -/
namespace Go.Proofs.YtmmkcfiecgpkpaaGreat
open Go.RowKit
set_option linter.unusedVariables false
set_option linter.unusedSimpArgs false
set_option maxRecDepth 100000

section
variable {s q : Nat} {a : Option Addr} {c : Nat} {Z : List ZpZ} {w : World} {T : List TpM} {L : List (List Nat)}
set_option maxHeartbeats 2000000 in
theorem zztpart_ok (h : ZRd s q a c Z w) (hz16 : Z.length ≤ 16) (h8 : ∀ z ∈ Z, z.2.2.2.length ≤ 8) {ti pi x : Nat} {z : ZpZ} (hz : Z[ti]? = some z) (hx : z.2.2.2[pi]? = some x) :
    Calls Tryz.prog 23 #[.pointer (some ⟨s, 0, none⟩), plcA (ti : Nat) (pi : Nat)] w fun e w' => e = .returned (.tuple #[.pointer (some ⟨x, 0, none⟩), .int .i64 0]) ∧ Still w w' := by
  have hw1 : Still w (w.alloc (.cells #[.int .i64 (ti : Nat), .int .i64 (pi : Nat)] 25)) := (Turned.refl _ _).alloc _
  have hb := Blk.new w [.int .i64 (ti : Nat), .int .i64 (pi : Nat)] 25
  have hti := (List.getElem?_eq_some_iff.1 hz).1
  have hpi := (List.getElem?_eq_some_iff.1 hx).1
  obtain ⟨g, rfl, _, hr⟩ := h.row ti z hz
  obtain ⟨g2, hg2, hp⟩ := h.prt ti z pi x hz hx
  have hm := h8 z (List.mem_of_getElem? hz)
  obtain ⟨za, hza⟩ : ∃ za, za = z.2.1 := ⟨_, rfl⟩
  rw [← hza] at hr hg2
  subst hg2
  obtain ⟨zc, hzc⟩ : ∃ zc, zc = z.2.2.1 := ⟨_, rfl⟩
  rw [← hzc] at hr
  generalize z.2.2.2.length = m at *
  have HC := Lib.hid (fun V (hs : Still (w.alloc (.cells #[.int .i64 (ti : Nat), .int .i64 (pi : Nat)] 25)) V) => show V.cell? ⟨w.heap.size, 0, none⟩ = some (.int .i64 (ti : Nat)) ∧ V.cell? ⟨w.heap.size, 1, none⟩ = some (.int .i64 (pi : Nat)) ∧ V.cell? ⟨s, 1, none⟩ = some (.slice (some ⟨g, 0, none⟩) Z.length c) ∧ V.cell? ⟨g, ti * 2 + 1, none⟩ = some (.slice (some ⟨g2, 0, none⟩) m zc) ∧ V.cell? ⟨g2, pi, none⟩ = some (.pointer (some ⟨x, 0, none⟩)) from
    ⟨still_cell hs (hb.cell rfl) rfl, still_cell hs (hb.cell rfl) rfl, (h.still (hw1.trans hs)).c1, still_cell (hw1.trans hs) hr rfl, still_cell (hw1.trans hs) hp rfl⟩)
  have HW := Lib.hid hw1
  obtain ⟨d1, d2, d3, d4, d5⟩ := HC.out _ (Turned.refl _ _)
  generalize Z.length = n at *
  have ht0 : ¬ ((ti : Int) < 0) := by omega
  have hp0 : ¬ ((pi : Int) < 0) := by omega
  have ht1 : ¬ ((ti : Int) ≥ (n : Int)) := by omega
  have hp1 : ¬ ((pi : Int) ≥ (m : Int)) := by omega
  clear h h8 hz hx hb hr hp hw1 hza hzc
  go_enter Tryz.func23, Tryz.ntmps23
  go_wp2_with fail
  go_quiet (fail)
  clear d1 d2 d3 d4 d5
  have HS5 := Lib.hid (show Still (w.alloc (.cells #[.int .i64 (ti : Nat), .int .i64 (pi : Nat)] 25)) ((w.alloc (.cells #[.int .i64 (ti : Nat), .int .i64 (pi : Nat)] 25)).drewN nq) from (Turned.refl _ _).drewN _)
  obtain ⟨W5, hW5⟩ : ∃ W5, W5 = (w.alloc (.cells #[.int .i64 (ti : Nat), .int .i64 (pi : Nat)] 25)).drewN nq := ⟨_, rfl⟩
  rw [← hW5] at HS5 ⊢
  clear hW5
  obtain ⟨d1, d2, d3, d4, d5⟩ := HC.out W5 HS5.out
  go_wp2_with fail
  go_quiet (fail)
  go_wp2_with fail
  go_ret2
  exact ⟨rfl, HW.out.trans (HS5.out.trans ((Turned.refl _ _).drewN _))⟩

set_option maxHeartbeats 400000 in
theorem zztpart_no (h : ZRd s q a c Z w) (hz16 : Z.length ≤ 16) (h8 : ∀ z ∈ Z, z.2.2.2.length ≤ 8) (t p : Int) (hno : t < 0 ∨ (Z.length : Int) ≤ t ∨ p < 0 ∨ ∃ z, Z[t.toNat]? = some z ∧ (z.2.2.2.length : Int) ≤ p) :
    Calls Tryz.prog 23 #[.pointer (some ⟨s, 0, none⟩), plcA t p] w fun e w' => e = .returned (.tuple #[.pointer none, .int .i64 5]) ∧ Still w w' := by
  have hw1 : Still w (w.alloc (.cells #[.int .i64 t, .int .i64 p] 25)) := (Turned.refl _ _).alloc _
  have hb := Blk.new w [.int .i64 t, .int .i64 p] 25
  have d1 := hb.cell (o := 0) rfl
  have d2 := hb.cell (o := 1) rfl
  have d3 := (h.still hw1).c1
  have HW := Lib.hid (fun n => hw1.trans ((Turned.refl (fun _ => False) (w.alloc (.cells #[.int .i64 t, .int .i64 p] 25))).drewN n))
  by_cases ht0 : t < 0
  · generalize Z.length = n at *
    clear h h8 hno hb hw1
    go_enter Tryz.func23, Tryz.ntmps23
    go_wp2_with fail
    go_quiet (fail)
    go_wp2_with fail
    go_ret2
    exact ⟨rfl, HW.out _⟩
  · by_cases ht1 : (Z.length : Int) ≤ t
    · obtain ⟨ti, rfl⟩ : ∃ ti : Nat, t = (ti : Int) := ⟨t.toNat, by omega⟩
      have hnt : Z.length ≤ ti := by omega
      generalize Z.length = n at *
      have hd1 : decide (n ≤ ti) = true := decide_eq_true hnt
      have hd0 : decide ((ti : Int) < 0) = false := decide_eq_false (by omega)
      clear h h8 hno hb hw1
      go_enter Tryz.func23, Tryz.ntmps23
      go_wp2_with fail
      go_quiet (fail)
      go_wp2_with fail
      go_ret2
      exact ⟨rfl, HW.out _⟩
    · by_cases hp0 : p < 0
      · obtain ⟨ti, rfl⟩ : ∃ ti : Nat, t = (ti : Int) := ⟨t.toNat, by omega⟩
        have hnt : ti < Z.length := by omega
        generalize Z.length = n at *
        have hd1 : decide (n ≤ ti) = false := decide_eq_false (by omega)
        have hd0 : decide ((ti : Int) < 0) = false := decide_eq_false (by omega)
        have hd2 : decide (p < 0) = true := decide_eq_true hp0
        clear h h8 hno hb hw1
        go_enter Tryz.func23, Tryz.ntmps23
        go_wp2_with fail
        go_quiet (fail)
        go_wp2_with fail
        go_ret2
        exact ⟨rfl, HW.out _⟩
      · obtain ⟨ti, rfl⟩ : ∃ ti : Nat, t = (ti : Int) := ⟨t.toNat, by omega⟩
        obtain ⟨z, hz, hzp⟩ : ∃ z, Z[ti]? = some z ∧ (z.2.2.2.length : Int) ≤ p := by
          rcases hno with h | h | h | ⟨z, h1, h2⟩
          · exact absurd h ht0
          · exact absurd h ht1
          · exact absurd h hp0
          · exact ⟨z, by rwa [Int.toNat_natCast] at h1, h2⟩
        obtain ⟨g, rfl, _, hr⟩ := (h.still hw1).row ti z hz
        have hm := h8 z (List.mem_of_getElem? hz)
        obtain ⟨za, hza⟩ : ∃ za, za = z.2.1 := ⟨_, rfl⟩
        obtain ⟨zc, hzc⟩ : ∃ zc, zc = z.2.2.1 := ⟨_, rfl⟩
        rw [← hza, ← hzc] at hr
        generalize z.2.2.2.length = m at *
        have hti : ti < Z.length := by omega
        obtain ⟨pi, rfl⟩ : ∃ pi : Nat, p = (pi : Int) := ⟨p.toNat, by omega⟩
        have hmp : m ≤ pi := by omega
        generalize Z.length = n at *
        have hd1 : decide (n ≤ ti) = false := decide_eq_false (by omega)
        have hd0 : decide ((ti : Int) < 0) = false := decide_eq_false (by omega)
        have hd2 : decide ((pi : Int) < 0) = false := decide_eq_false (by omega)
        have hd3 : decide (m ≤ pi) = true := decide_eq_true hmp
        clear h h8 hno hb hw1 hz hza hzc
        go_enter Tryz.func23, Tryz.ntmps23
        go_wp2_with fail
        go_quiet (fail)
        go_wp2_with fail
        go_ret2
        exact ⟨rfl, HW.out _⟩
end
end Go.Proofs.YtmmkcfiecgpkpaaGreat
