/- Texts that lie next to one another, laid into one: each says what it holds. No condition but what each states. -/
import Derived.Test.YtmmkcfiecgpkpaaGreatBdPlain

/- Live, of any number in any book: the program's and the document's. No condition. -/
namespace Go.Proofs.YtmmkcfiecgpkpaaGreat
open Go.RowKit
set_option linter.unusedVariables false
set_option maxRecDepth 100000

/-- The error of a number in a book; the slot. -/
def bkE (l : List Int) (h : Int) : Int :=
  if ¬ haIs h then 2 else
  match l[hSlot h]? with
  | none => 5
  | some g => if g = hGen h then 0 else 40
def bkS (l : List Int) (h : Int) : Int := if bkE l h = 0 then (hSlot h : Nat) else 0
def bkV (l : List Int) (h : Int) : Value := .tuple #[.int .i64 (bkS l h), .int .i64 (bkE l h)]

theorem hSlot_int {h : Int} (k : haIs h) : (h - 1) % 128 = (hSlot h : Nat) := by obtain ⟨h1, h2⟩ := k; unfold hSlot; omega
theorem bkV_no {l : List Int} {h : Int} (k : ¬ haIs h) : bkV l h = .tuple #[.int .i64 0, .int .i64 2] := by
  have : bkE l h = 2 := by unfold bkE; rw [if_pos k]
  simp [bkV, bkS, this]
theorem bkV_none {l : List Int} {h : Int} (k : haIs h) (hs : l.length ≤ hSlot h) : bkV l h = .tuple #[.int .i64 0, .int .i64 5] := by
  have : bkE l h = 5 := by unfold bkE; rw [if_neg (by simpa using k), List.getElem?_eq_none hs]
  simp [bkV, bkS, this]
theorem bkV_stale {l : List Int} {h g : Int} (k : haIs h) (hs : l[hSlot h]? = some g) (hg : g ≠ hGen h) : bkV l h = .tuple #[.int .i64 0, .int .i64 40] := by
  have : bkE l h = 40 := by unfold bkE; rw [if_neg (by simpa using k), hs]; simp [hg]
  simp [bkV, bkS, this]
theorem bkV_live {l : List Int} {h g : Int} (k : haIs h) (hs : l[hSlot h]? = some g) (hg : g = hGen h) : bkV l h = .tuple #[.int .i64 (hSlot h : Nat), .int .i64 0] := by
  have : bkE l h = 0 := by unfold bkE; rw [if_neg (by simpa using k), hs]; simp [hg]
  simp [bkV, bkS, this]

theorem vlive_any (w : World) (ao : Option Addr) (l : List Int) (m cap : Nat) (h : Int) (hm : m = l.length) (hA : NumsAt w ao l) :
    Calls Tryz.prog 127 #[.slice ao m cap, .int .i64 h] w fun e w' => e = .returned (bkV l h) ∧ w = w' := by
  have H := Lib.hid (fun W => refSlot_any h W)
  by_cases k : haIs h
  · rw [slV_ok k, hSlot_int k] at H
    have HK := Lib.hid (show (h - 1).tdiv 128 = hGen h from Int.tdiv_eq_ediv_of_nonneg (by have := k.1; omega))
    obtain ⟨s, hs⟩ : ∃ s, s = hSlot h := ⟨_, rfl⟩
    have hk1 := k.1
    have hk2 := k.2
    by_cases hl : s < m
    · obtain ⟨g, hg⟩ := get_some (l := l) (i := s) (by omega)
      obtain ⟨b, o, rfl, hc⟩ := hA s g hg
      by_cases he : g = hGen h
      · have HV := Lib.hid (bkV_live k (hs ▸ hg) he)
        rw [← hs] at HV H
        have HE := Lib.hid (show (h - 1) / 128 = g by rw [he]; rfl)
        have hb : (g != (h - 1) / 128) = false := by rw [HE.out]; simp
        clear hs hg hA hm k he
        go_enter Tryz.func127, Tryz.ntmps127
        go_wp2_with (go_at_call 74; refine (H.out _).mono ?_; rintro e w' ⟨rfl, rfl⟩)
        go_ret2
        exact ⟨by rw [HV.out]; rfl, rfl⟩
      · have HV := Lib.hid (bkV_stale k (hs ▸ hg) he)
        rw [← hs] at H
        have hb : (g != (h - 1) / 128) = true := by rw [bne_iff_ne]; exact he
        clear hs hg hA hm k he
        go_enter Tryz.func127, Tryz.ntmps127
        go_wp2_with (go_at_call 74; refine (H.out _).mono ?_; rintro e w' ⟨rfl, rfl⟩)
        go_ret2
        exact ⟨by rw [HV.out]; rfl, rfl⟩
    · have HV := Lib.hid (bkV_none (l := l) k (by omega))
      rw [← hs] at H
      clear hs hA hm k
      go_enter Tryz.func127, Tryz.ntmps127
      go_wp2_with (go_at_call 74; refine (H.out _).mono ?_; rintro e w' ⟨rfl, rfl⟩)
      go_ret2
      exact ⟨by rw [HV.out]; rfl, rfl⟩
  · have HV := Lib.hid (bkV_no (l := l) k)
    rw [slV_no k] at H
    clear hA hm k
    go_enter Tryz.func127, Tryz.ntmps127
    go_wp2_with (go_at_call 74; refine (H.out _).mono ?_; rintro e w' ⟨rfl, rfl⟩)
    go_ret2
    exact ⟨by rw [HV.out]; rfl, rfl⟩

theorem alive_any (w : World) (ao : Option Addr) (l : List Int) (m cap : Nat) (h : Int) (hm : m = l.length) (hA : NumsAt w ao l) :
    Calls Tryz.prog 140 #[.slice ao m cap, .int .i64 h] w fun e w' => e = .returned (bkV l h) ∧ w = w' := by
  have H := Lib.hid (fun W => split_any h W)
  by_cases k : haIs h
  · rw [spV_ok k, hSlot_int k] at H
    obtain ⟨s, hs⟩ : ∃ s, s = hSlot h := ⟨_, rfl⟩
    by_cases hl : s < m
    · obtain ⟨g, hg⟩ := get_some (l := l) (i := s) (by omega)
      obtain ⟨b, o, rfl, hc⟩ := hA s g hg
      by_cases he : g = hGen h
      · have HV := Lib.hid (bkV_live k (hs ▸ hg) he)
        rw [← hs] at HV H
        rw [show (h - 1) / 128 = g from he.symm] at H
        clear hs hg hA hm k he
        go_enter Tryz.func140, Tryz.ntmps140
        go_wp2_with (go_at_call 144; refine (H.out _).mono ?_; rintro e w' ⟨rfl, rfl⟩)
        go_ret2
        exact ⟨by rw [HV.out]; rfl, rfl⟩
      · have HV := Lib.hid (bkV_stale k (hs ▸ hg) he)
        rw [← hs] at H
        obtain ⟨x, hx⟩ : ∃ x, x = (h - 1) / 128 := ⟨_, rfl⟩
        rw [← hx] at H
        have hb : (g != x) = true := by rw [bne_iff_ne, hx]; exact he
        clear hs hg hA hm k he hx
        go_enter Tryz.func140, Tryz.ntmps140
        go_wp2_with (go_at_call 144; refine (H.out _).mono ?_; rintro e w' ⟨rfl, rfl⟩)
        go_ret2
        exact ⟨by rw [HV.out]; rfl, rfl⟩
    · have HV := Lib.hid (bkV_none (l := l) k (by omega))
      rw [← hs] at H
      clear hs hA hm k
      go_enter Tryz.func140, Tryz.ntmps140
      go_wp2_with (go_at_call 144; refine (H.out _).mono ?_; rintro e w' ⟨rfl, rfl⟩)
      go_ret2
      exact ⟨by rw [HV.out]; rfl, rfl⟩
  · have HV := Lib.hid (bkV_no (l := l) k)
    rw [spV_no k] at H
    clear hA hm k
    go_enter Tryz.func140, Tryz.ntmps140
    go_wp2_with (go_at_call 144; refine (H.out _).mono ?_; rintro e w' ⟨rfl, rfl⟩)
    go_ret2
    exact ⟨by rw [HV.out]; rfl, rfl⟩

/-- The error of a number told of a pool, by its book and its counts. -/
theorem PM.err_book (M : PM) (h : Int) : M.err h = if bkE (M.sl.map fun s => (s.g : Int)) h = 0 ∧ (M.slt h).c = 0 then 40 else bkE (M.sl.map fun s => (s.g : Int)) h := by
  unfold PM.err bkE PM.slt
  by_cases k : haIs h
  · simp only [k, not_true_eq_false, if_false, List.getElem?_map]
    cases hs : M.sl[hSlot h]? with
    | none => simp
    | some s =>
      simp only [Option.map_some, Option.getD_some]
      by_cases hg : (s.g : Int) = hGen h
      · by_cases hc : s.c = 0
        · simp [hg, hc]
        · simp [hg, hc]
      · simp [hg]
  · simp [k]
end Go.Proofs.YtmmkcfiecgpkpaaGreat
