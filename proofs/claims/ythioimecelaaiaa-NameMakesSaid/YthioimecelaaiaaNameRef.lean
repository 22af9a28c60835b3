/- What the calls of the document's name do. No condition but that the texts are no longer than the statements make them. -/
import Derived.Test.YthioimecelaaiaaName
namespace Go.Proofs.Ythioimecelaaiaa
open Go.RowKit
set_option linter.unusedVariables false
set_option linter.unusedSimpArgs false
set_option maxRecDepth 100000

theorem u8_ne {x : UInt8} {n : Nat} (h : x ≠ UInt8.ofNat n) (hn : n < 256) : ¬ (x.toNat : Int) = (n : Int) := fun e => h (UInt8.toNat_inj.1 (by rw [UInt8.toNat_ofNat']; omega))

set_option maxHeartbeats 1000000 in
theorem zncheck_any (l : Txt) (w : World) (hmax : l.length ≤ 1000000) : Calls Try.prog 15 #[tx l] w fun e w' => e = .returned (.int .i64 (nmE l)) ∧ Still w w' := by
  obtain ⟨r, hr⟩ : ∃ r, r = nmE l := ⟨_, rfl⟩
  rw [← hr]
  have HR := Lib.hid hr
  clear hr
  by_cases h0 : l = []
  · have HE := Lib.hid (show r = 80 by rw [HR.out]; exact nmE_no (fun h => (nmE_iff.1 h).1 h0))
    subst h0
    unfold tx
    go_enter Try.func15, Try.ntmps15
    go_wp2_with fail
    go_ret
    exact ⟨by rw [HE.out]; rfl, Turned.refl _ _⟩
  · obtain ⟨m, hm⟩ : ∃ m, m = l.length := ⟨_, rfl⟩
    have hb0 : (l == []) = false := by simpa using h0
    have hmm : m ≤ 1000000 := by omega
    have HL := Lib.hid hm
    have hlen : (64 < m ∧ nmE l = 80) ∨ m ≤ 64 := by
      rcases Nat.lt_or_ge 64 m with h | h
      · exact .inl ⟨h, nmE_no (fun h' => by have := (nmE_iff.1 h').2.1; omega)⟩
      · exact .inr h
    obtain ⟨s, hs⟩ : ∃ s, s = ByteArray.mk l.toArray := ⟨_, rfl⟩
    have hsz : s.size = m := by rw [hs, hm, tx_size]
    have hsl : s.toList = l := by rw [hs, ByteArray.toList_mk]
    have HX := Lib.hid (fun (k : Nat) (hk : k < m) => show ∃ x : UInt8, l[k]? = some x ∧ ∀ h, s[k]'h = x from ⟨l[k], by simp, fun h => by subst hs; rfl⟩)
    have HS := Lib.hid (show Value.string s = tx l by rw [hs]; rfl)
    have hb : (s.toList == []) = false := by rw [hsl]; exact hb0
    have HSp := Lib.hid (fun V => show Calls Try.prog 28 #[.string s, .int .u8 47] V (OutTexts V (spl l) (spl l).length) from by rw [HS.out]; exact bsplit_any l V _ rfl hmax)
    rw [← HS.out]
    clear hs hsl hb0 hm hmax
    rcases hlen with ⟨h64, he⟩ | h64
    · have HE := Lib.hid (HR.out.trans he)
      clear HX he
      go_enter Try.func15, Try.ntmps15
      go_wp2_with fail
      go_ret
      exact ⟨by rw [HE.out]; rfl, Turned.refl _ _⟩
    · go_enter Try.func15, Try.ntmps15
      go_wp2_with fail
      go_loopw [3] (fun i wr => ∃ k : Nat, k ≤ m ∧ i = .int .i64 k ∧ (∀ b ∈ l.take k, okC b = true) ∧ wr = w) (fun i _ => m - (intOf i).toNat)
      case atStart => exact ⟨0, Nat.zero_le _, rfl, by simp, rfl⟩
      case round =>
        obtain ⟨k, hk, rfl, hok, rfl⟩ := hrel
        have HOK := Lib.hid hok
        clear hok
        by_cases hlt : k < m
        · obtain ⟨x, hx, hsx⟩ := HX.out k hlt
          have hsx' := hsx (by omega)
          have HXX := Lib.hid hx
          clear hx hsx HX
          have hBad := Lib.hid (fun (h : okC x = false) => show r = 80 by
            rw [HR.out]
            refine nmE_no (fun h' => ?_)
            have := (nmE_iff.1 h').2.2.1 x (List.mem_of_getElem? HXX.out)
            rw [h] at this; cases this)
          have hGood := Lib.hid (fun (h : okC x = true) => show ∀ b ∈ l.take (k + 1), okC b = true by
            intro b hb
            rw [List.take_add_one, HXX.out] at hb
            rcases List.mem_append.1 hb with hb | hb
            · exact HOK.out b hb
            · simp at hb; subst hb; exact h)
          rcases Nat.lt_or_ge x.toNat 33 with h1 | h1
          · have HE := Lib.hid (hBad.out (by simp [okC]; omega))
            have h1' : (x.toNat : Int) < 33 := by omega
            clear hBad hGood
            go_wp2_with fail
            go_ret
            exact ⟨by rw [HE.out]; rfl, Turned.refl _ _⟩
          · have h1' : ¬ (x.toNat : Int) < 33 := by omega
            rcases Nat.lt_or_ge 126 x.toNat with h2 | h2
            · have HE := Lib.hid (hBad.out (by simp [okC]; omega))
              have h2' : (126 : Int) < (x.toNat : Int) := by omega
              clear hBad hGood
              go_wp2_with fail
              go_ret
              exact ⟨by rw [HE.out]; rfl, Turned.refl _ _⟩
            · have h2' : ¬ (126 : Int) < (x.toNat : Int) := by omega
              by_cases h3 : x.toNat = 43
              · have HE := Lib.hid (hBad.out (by simp [okC, h3]))
                have h3' : (x.toNat : Int) = 43 := by omega
                clear hBad hGood h1 h2 h1' h2' h3
                go_wp2_with fail
                go_ret
                exact ⟨by rw [HE.out]; rfl, Turned.refl _ _⟩
              · have h3' : ¬ (x.toNat : Int) = 43 := by omega
                by_cases h4 : x.toNat = 35
                · have HE := Lib.hid (hBad.out (by simp [okC, h4]))
                  have h4' : (x.toNat : Int) = 35 := by omega
                  clear hBad hGood h1 h2 h1' h2' h3 h3' h4
                  go_wp2_with fail
                  go_ret
                  exact ⟨by rw [HE.out]; rfl, Turned.refl _ _⟩
                · have h4' : ¬ (x.toNat : Int) = 35 := by omega
                  have HG := Lib.hid (hGood.out (by simp [okC]; omega))
                  have h4b : (((x.toNat : Int)) == 35) = false := by simpa using h4'
                  have h3b : (((x.toNat : Int)) == 43) = false := by simpa using h3'
                  clear hBad hGood
                  go_wp2_with fail
                  go_roundw
                  case rel => exact ⟨k + 1, by omega, by go_num, HG.out, by trivial⟩
                  case measure => simp [intOf]; omega
        · obtain rfl : k = m := by omega
          have hall : ∀ b ∈ l, okC b = true := fun b hb => HOK.out b (by rwa [List.take_of_length_le (by rw [HL.out]; exact Nat.le_refl _)])
          have h5 : (8 < (spl l).length ∧ nmE l = 80) ∨ ((spl l).length ≤ 8 ∧ nmE l = 0) := by
            rcases Nat.lt_or_ge 8 (spl l).length with h | h
            · exact .inl ⟨h, nmE_no (fun h' => by have := (nmE_iff.1 h').2.2.2; omega)⟩
            · exact .inr ⟨h, nmE_iff.2 ⟨h0, by rw [← HL.out]; exact h64, hall, h⟩⟩
          have HSp' := Lib.hid (HSp.out wr)
          clear HX hall HSp
          rcases h5 with ⟨h5, he⟩ | ⟨h5, he⟩
          · have HE := Lib.hid (HR.out.trans he)
            clear he
            generalize (spl l).length = q at *
            have h5' : (8 : Int) < (q : Int) := by omega
            go_wp2_with (go_at_call 28; ((with_reducible refine HSp'.out.mono ?_)); rintro e w6 ⟨a6, c6, rfl, _, hst⟩)
            go_ret
            exact ⟨by rw [HE.out]; rfl, hst⟩
          · have HE := Lib.hid (HR.out.trans he)
            clear he
            generalize (spl l).length = q at *
            have h5' : ¬ (8 : Int) < (q : Int) := by omega
            go_wp2_with (go_at_call 28; ((with_reducible refine HSp'.out.mono ?_)); rintro e w6 ⟨a6, c6, rfl, _, hst⟩)
            go_ret
            exact ⟨by rw [HE.out]; rfl, hst⟩

/-- The levels of a name, in a slice of one's own; none of what is none. -/
def LvPost (w : World) (l : Txt) (n : Nat) (e : Ending) (w' : World) : Prop := ∃ a c, e = .returned (.tuple #[.slice a n c, .int .i64 (nmE l)]) ∧ w'.ownsRow w.heap.size 9 1 (.slice a n c) n (txs (lvls l)) ∧ Still w w'

theorem znlevels_any (l : Txt) (w : World) (n : Nat) (hn : n = (lvls l).length) (hmax : l.length ≤ 1000000) : Calls Try.prog 11 #[tx l] w (LvPost w l n) := by
  have HC := Lib.hid (fun V => zncheck_any l V hmax)
  rcases nmE_or l with h0 | h0
  · have HSp := Lib.hid (fun V => bsplit_any l V n (by rw [hn, lvls_ok h0]) hmax)
    have HP := Lib.hid (fun (V V' : World) (a : Option Addr) (c : Nat) (h1 : Still w V) (h2 : V'.ownsRow V.heap.size 9 1 (.slice a n c) n (txs (spl l))) (h3 : Still V V') => show LvPost w l n (.returned (.tuple #[.slice a n c, .int .i64 0])) V' from ⟨a, c, by rw [h0], by rw [lvls_ok h0]; exact ow_base h2 h1.size, h1.trans h3⟩)
    rw [h0] at HC
    clear h0 hn hmax
    unfold tx at *
    go_enter Try.func11, Try.ntmps11
    go_wp2_with (first
      | (go_at_call 15; ((with_reducible refine (HC.out _).mono ?_)); rintro e w5 ⟨rfl, hT5⟩)
      | (go_at_call 28; ((with_reducible refine (HSp.out _).mono ?_)); rintro e w6 ⟨a6, c6, rfl, hown6, hT6⟩))
    go_ret2
    exact HP.out _ _ _ _ hT5 hown6 hT6
  · have e0 : lvls l = [] := lvls_no (by omega)
    have hn0 : n = 0 := by rw [hn, e0]; rfl
    have HP := Lib.hid (fun (V : World) (h1 : Still w V) => show LvPost w l 0 (.returned (.tuple #[.slice none 0 0, .int .i64 80])) V from ⟨none, 0, by rw [h0], by rw [e0]; exact World.ownsRow_nil _ _ _ _, h1⟩)
    rw [h0] at HC
    clear h0 hn hmax e0
    subst hn0
    unfold tx at *
    go_enter Try.func11, Try.ntmps11
    go_wp2_with (go_at_call 15; ((with_reducible refine (HC.out _).mono ?_)); rintro e w5 ⟨rfl, hT5⟩)
    go_ret2
    exact HP.out _ hT5

theorem znhidden_any (l : Txt) (w : World) (hmax : l.length ≤ 1000000) : Calls Try.prog 17 #[tx l] w fun e w' => e = .returned (.bool (hdB l)) ∧ Still w w' := by
  have HC := Lib.hid (fun V => zncheck_any l V hmax)
  rcases nmE_or l with h0 | h0
  · obtain ⟨x, hx⟩ : ∃ x, l[0]? = some x := get_some (by
      rcases Nat.eq_zero_or_pos l.length with h | h
      · exact absurd (List.eq_nil_of_length_eq_zero h) (nmE_iff.1 h0).1
      · exact h)
    have hlt := get_lt hx
    obtain ⟨s, hs⟩ : ∃ s, s = ByteArray.mk l.toArray := ⟨_, rfl⟩
    have hsz : s.size = l.length := by rw [hs, tx_size]
    have hsx : ∀ h, s[0]'h = x := fun h => by
      subst hs
      have := (List.getElem?_eq_some_iff.1 hx).2
      exact this
    have hz : 0 < s.size := by omega
    have hsx' := hsx hz
    have hlen : (0 : Int) < (l.length : Int) := by omega
    rw [h0] at HC
    have HB := Lib.hid (show hdB l = decide (x = 36) by unfold hdB; rw [hx]; simp [h0])
    rw [HB.out]
    unfold tx at *
    rw [← hs] at HC ⊢
    clear HB h0 hx hsx hs hmax
    generalize l.length = m at *
    by_cases h36 : x = 36
    · have hv : (x.toNat : Int) = 36 := by rw [h36]; rfl
      rw [decide_eq_true h36]
      clear h36
      go_enter Try.func17, Try.ntmps17
      go_wp2_with (go_at_call 15; ((with_reducible refine (HC.out _).mono ?_)); rintro e w5 ⟨rfl, hT5⟩)
      go_ret
      exact ⟨rfl, hT5⟩
    · have hv : ((x.toNat : Int) == 36) = false := by
        have : ¬ (x.toNat : Int) = 36 := fun e => h36 (UInt8.toNat_inj.1 (by have : (36 : UInt8).toNat = 36 := rfl; omega))
        simpa using this
      rw [decide_eq_false h36]
      clear h36
      go_enter Try.func17, Try.ntmps17
      go_wp2_with (go_at_call 15; ((with_reducible refine (HC.out _).mono ?_)); rintro e w5 ⟨rfl, hT5⟩)
      go_ret
      exact ⟨by first | rfl | simp [hv], hT5⟩
  · have e : hdB l = false := by unfold hdB; simp [h0]
    rw [e]
    rw [h0] at HC
    unfold tx at *
    clear e h0 hmax
    go_enter Try.func17, Try.ntmps17
    go_wp2_with (go_at_call 15; ((with_reducible refine (HC.out _).mono ?_)); rintro e w5 ⟨rfl, hT5⟩)
    go_ret
    exact ⟨rfl, hT5⟩
end Go.Proofs.Ythioimecelaaiaa
