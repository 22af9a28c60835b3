/- Texts that lie next to one another, laid into one: each says what it holds. No condition but what each states. -/
import Derived.Test.YtmmkcfiecgpkpaaGreatBdText

/- What the calls of the document's name do. No condition but that the texts are no longer than the statements make them. -/
namespace Go.Proofs.YtmmkcfiecgpkpaaGreat
open Go.RowKit
set_option linter.unusedVariables false
set_option linter.unusedSimpArgs false
set_option maxRecDepth 100000

theorem u8_ne {x : UInt8} {n : Nat} (h : x ≠ UInt8.ofNat n) (hn : n < 256) : ¬ (x.toNat : Int) = (n : Int) := fun e => h (UInt8.toNat_inj.1 (by rw [UInt8.toNat_ofNat']; omega))

set_option maxHeartbeats 1000000 in
theorem zncheck_any (l : Txt) (w : World) (hmax : l.length ≤ 1000000) : Calls Tryz.prog 40 #[tx l] w fun e w' => e = .returned (.int .i64 (nmE l)) ∧ Still w w' := by
  obtain ⟨r, hr⟩ : ∃ r, r = nmE l := ⟨_, rfl⟩
  rw [← hr]
  have HR := Lib.hid hr
  clear hr
  by_cases h0 : l = []
  · have HE := Lib.hid (show r = 80 by rw [HR.out]; exact nmE_no (fun h => (nmE_iff.1 h).1 h0))
    subst h0
    unfold tx
    go_enter Tryz.func40, Tryz.ntmps40
    go_wp2_with fail
    go_ret
    exact ⟨by rw [HE.out]; rfl, Turned.refl _ _⟩
  · obtain ⟨m, hm⟩ : ∃ m, m = l.length := ⟨_, rfl⟩
    have hb0 : (l == []) = false := by simpa using h0
    have hmm : m ≤ 1000000 := by omega
    have HL := Lib.hid hm
    have hlen : (64 < m ∧ nmE l = 80) ∨ m ≤ 64 := by
      rcases Nat.lt_or_ge 64 m with h | h
      · exact .inl ⟨h, nmE_no (fun h' => by have := (nmE_iff.1 h').2.1; omega)⟩
      · exact .inr h
    obtain ⟨s, hs⟩ : ∃ s, s = ByteArray.mk l.toArray := ⟨_, rfl⟩
    have hsz : s.size = m := by rw [hs, hm, tx_size]
    have hsl : s.toList = l := by rw [hs, ByteArray.toList_mk]
    have HX := Lib.hid (fun (k : Nat) (hk : k < m) => show ∃ x : UInt8, l[k]? = some x ∧ ∀ h, s[k]'h = x from ⟨l[k], by simp, fun h => by subst hs; rfl⟩)
    have HS := Lib.hid (show Value.string s = tx l by rw [hs]; rfl)
    have hb : (s.toList == []) = false := by rw [hsl]; exact hb0
    have HSp := Lib.hid (fun V => show Calls Tryz.prog 64 #[.string s, .int .u8 47] V (OutTexts V (spl l) (spl l).length) from by rw [HS.out]; exact bsplit_any l V _ rfl hmax)
    rw [← HS.out]
    clear hs hsl hb0 hm hmax
    rcases hlen with ⟨h64, he⟩ | h64
    · have HE := Lib.hid (HR.out.trans he)
      clear HX he
      go_enter Tryz.func40, Tryz.ntmps40
      go_wp2_with fail
      go_ret
      exact ⟨by rw [HE.out]; rfl, Turned.refl _ _⟩
    · go_enter Tryz.func40, Tryz.ntmps40
      go_wp2_with fail
      go_loopw [3] (fun i wr => ∃ k : Nat, k ≤ m ∧ i = .int .i64 k ∧ (∀ b ∈ l.take k, okC b = true) ∧ wr = w) (fun i _ => m - (intOf i).toNat)
      case atStart => exact ⟨0, Nat.zero_le _, rfl, by simp, rfl⟩
      case round =>
        obtain ⟨k, hk, rfl, hok, rfl⟩ := hrel
        have HOK := Lib.hid hok
        clear hok
        by_cases hlt : k < m
        · obtain ⟨x, hx, hsx⟩ := HX.out k hlt
          have hsx' := hsx (by omega)
          have HXX := Lib.hid hx
          clear hx hsx HX
          have hBad := Lib.hid (fun (h : okC x = false) => show r = 80 by
            rw [HR.out]
            refine nmE_no (fun h' => ?_)
            have := (nmE_iff.1 h').2.2.1 x (List.mem_of_getElem? HXX.out)
            rw [h] at this; cases this)
          have hGood := Lib.hid (fun (h : okC x = true) => show ∀ b ∈ l.take (k + 1), okC b = true by
            intro b hb
            rw [List.take_add_one, HXX.out] at hb
            rcases List.mem_append.1 hb with hb | hb
            · exact HOK.out b hb
            · simp at hb; subst hb; exact h)
          rcases Nat.lt_or_ge x.toNat 33 with h1 | h1
          · have HE := Lib.hid (hBad.out (by simp [okC]; omega))
            have h1' : (x.toNat : Int) < 33 := by omega
            clear hBad hGood
            go_wp2_with fail
            go_ret
            exact ⟨by rw [HE.out]; rfl, Turned.refl _ _⟩
          · have h1' : ¬ (x.toNat : Int) < 33 := by omega
            rcases Nat.lt_or_ge 126 x.toNat with h2 | h2
            · have HE := Lib.hid (hBad.out (by simp [okC]; omega))
              have h2' : (126 : Int) < (x.toNat : Int) := by omega
              clear hBad hGood
              go_wp2_with fail
              go_ret
              exact ⟨by rw [HE.out]; rfl, Turned.refl _ _⟩
            · have h2' : ¬ (126 : Int) < (x.toNat : Int) := by omega
              by_cases h3 : x.toNat = 43
              · have HE := Lib.hid (hBad.out (by simp [okC, h3]))
                have h3' : (x.toNat : Int) = 43 := by omega
                clear hBad hGood h1 h2 h1' h2' h3
                go_wp2_with fail
                go_ret
                exact ⟨by rw [HE.out]; rfl, Turned.refl _ _⟩
              · have h3' : ¬ (x.toNat : Int) = 43 := by omega
                by_cases h4 : x.toNat = 35
                · have HE := Lib.hid (hBad.out (by simp [okC, h4]))
                  have h4' : (x.toNat : Int) = 35 := by omega
                  clear hBad hGood h1 h2 h1' h2' h3 h3' h4
                  go_wp2_with fail
                  go_ret
                  exact ⟨by rw [HE.out]; rfl, Turned.refl _ _⟩
                · have h4' : ¬ (x.toNat : Int) = 35 := by omega
                  have HG := Lib.hid (hGood.out (by simp [okC]; omega))
                  have h4b : (((x.toNat : Int)) == 35) = false := by simpa using h4'
                  have h3b : (((x.toNat : Int)) == 43) = false := by simpa using h3'
                  clear hBad hGood
                  go_wp2_with fail
                  go_roundw
                  case rel => exact ⟨k + 1, by omega, by go_num, HG.out, by trivial⟩
                  case measure => simp [intOf]; omega
        · obtain rfl : k = m := by omega
          have hall : ∀ b ∈ l, okC b = true := fun b hb => HOK.out b (by rwa [List.take_of_length_le (by rw [HL.out]; exact Nat.le_refl _)])
          have h5 : (8 < (spl l).length ∧ nmE l = 80) ∨ ((spl l).length ≤ 8 ∧ nmE l = 0) := by
            rcases Nat.lt_or_ge 8 (spl l).length with h | h
            · exact .inl ⟨h, nmE_no (fun h' => by have := (nmE_iff.1 h').2.2.2; omega)⟩
            · exact .inr ⟨h, nmE_iff.2 ⟨h0, by rw [← HL.out]; exact h64, hall, h⟩⟩
          have HSp' := Lib.hid (HSp.out wr)
          clear HX hall HSp
          rcases h5 with ⟨h5, he⟩ | ⟨h5, he⟩
          · have HE := Lib.hid (HR.out.trans he)
            clear he
            generalize (spl l).length = q at *
            have h5' : (8 : Int) < (q : Int) := by omega
            go_wp2_with (go_at_call 64; ((with_reducible refine HSp'.out.mono ?_)); rintro e w6 ⟨a6, c6, rfl, _, hst⟩)
            go_ret
            exact ⟨by rw [HE.out]; rfl, hst⟩
          · have HE := Lib.hid (HR.out.trans he)
            clear he
            generalize (spl l).length = q at *
            have h5' : ¬ (8 : Int) < (q : Int) := by omega
            go_wp2_with (go_at_call 64; ((with_reducible refine HSp'.out.mono ?_)); rintro e w6 ⟨a6, c6, rfl, _, hst⟩)
            go_ret
            exact ⟨by rw [HE.out]; rfl, hst⟩

/-- The levels of a name, in a slice of one's own; none of what is none. -/
def LvPost (w : World) (l : Txt) (n : Nat) (e : Ending) (w' : World) : Prop := ∃ a c, e = .returned (.tuple #[.slice a n c, .int .i64 (nmE l)]) ∧ w'.ownsRow w.heap.size 9 1 (.slice a n c) n (txs (lvls l)) ∧ Still w w'

end Go.Proofs.YtmmkcfiecgpkpaaGreat
