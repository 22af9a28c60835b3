/- The plain track: a ledger, and the next offset; what its calls answer, and what stays. No condition. -/
import Derived.Test.YtdlkdagmaeapdaaLgMath
namespace Go.Proofs.Ytdlkdagmaeapdaa
open Go.RowKit
set_option linter.unusedVariables false
set_option maxRecDepth 100000

structure FnM where
  L : LgM
  N : Int
def FnM.new (a : Int) : FnM := ⟨LgM.new a, a⟩
structure FnM.Ok (M : FnM) : Prop where
  led : M.L.Ok
  lo : M.L.fin ≤ M.N
  hi : M.N ≤ 1099511627776
/-- What is no window. -/
def winE (h t : Int) : Int := if h < 0 ∨ t < h ∨ 1099511627776 < t then 2 else 0
def FnM.peekE (M : FnM) (h t : Int) : Int := if winE h t = 0 then (if t ≤ max M.N h then 5 else 0) else 2
def FnM.peekV (M : FnM) (h t : Int) : Int := if M.peekE h t = 0 then max M.N h else 0
/-- All from what is committed up to an offset is skipped. -/
def FnM.skipE (M : FnM) (x : Int) : Int := if x ≤ M.L.fin then 0 else addE M.L x false
def FnM.skipL (M : FnM) (x : Int) : LgM := if x ≤ M.L.fin then M.L else M.L.add x false
def FnM.delE (M : FnM) (h t : Int) : Int := if M.peekE h t = 0 then (if M.N < h then M.skipE h else 0) else M.peekE h t
def FnM.delV (M : FnM) (h t : Int) : Int := if M.delE h t = 0 then max M.N h else 0
def FnM.del (M : FnM) (h t : Int) : FnM := if M.delE h t = 0 then (if M.N < h then ⟨M.skipL h, h + 1⟩ else ⟨M.L, M.N + 1⟩) else M
def FnM.comE (M : FnM) (x : Int) : Int := if x < 0 ∨ 1099511627776 < x then 2 else if x ≤ M.L.fin ∨ M.N < x then 61 else addE M.L x true
def FnM.com (M : FnM) (x : Int) : FnM := if M.comE x = 0 then ⟨M.L.add x true, M.N⟩ else M
def FnM.seekE (M : FnM) (x h t : Int) : Int := if winE h t = 0 then (if x < 0 ∨ 1099511627776 < x then 2 else if x < h ∨ t < x ∨ x < M.L.fin then 61 else if M.N < x then M.skipE x else 0) else 2
def FnM.seek (M : FnM) (x h t : Int) : FnM := if M.seekE x h t = 0 then (if M.N < x then ⟨M.skipL x, x⟩ else ⟨M.L, x⟩) else M
def FnM.back (M : FnM) : FnM := ⟨M.L, M.L.fin⟩

theorem win_ok {h t : Int} (hw : winE h t = 0) : 0 ≤ h ∧ h ≤ t ∧ t ≤ 1099511627776 := by
  unfold winE at hw
  split at hw
  · omega
  · omega
theorem FnM.new_ok {a : Int} (h1 : 0 ≤ a) (h2 : a ≤ 1099511627776) : (FnM.new a).Ok := ⟨LgM.new_ok h1 h2, Int.le_refl _, h2⟩
theorem FnM.Ok.back {M : FnM} (h : M.Ok) : M.back.Ok := ⟨h.led, Int.le_refl _, h.led.hi⟩
/-- Behind what is skipped the ledger ends there, or where it ended if that is not before. -/
theorem skip_ok {M : FnM} (h : M.Ok) {x : Int} (he : M.skipE x = 0) : (M.skipL x).Ok ∧ (M.skipL x).fin = max x M.L.fin := by
  unfold FnM.skipE at he
  unfold FnM.skipL
  by_cases hx : x ≤ M.L.fin
  · rw [if_pos hx]; exact ⟨h.led, by omega⟩
  · rw [if_neg hx] at he ⊢
    exact ⟨h.led.add x false, by rw [fin_add he]; omega⟩
theorem peek_ok {M : FnM} {h t : Int} (he : M.peekE h t = 0) : 0 ≤ h ∧ max M.N h < t ∧ t ≤ 1099511627776 := by
  unfold FnM.peekE at he
  by_cases hw : winE h t = 0
  · rw [if_pos hw] at he
    obtain ⟨w1, w2, w3⟩ := win_ok hw
    split at he
    · omega
    · exact ⟨w1, by omega, w3⟩
  · rw [if_neg hw] at he; omega
theorem del_ok {M : FnM} {h t : Int} (he : M.delE h t = 0) : M.peekE h t = 0 ∧ (M.N < h → M.skipE h = 0) := by
  unfold FnM.delE at he
  by_cases hp : M.peekE h t = 0
  · rw [if_pos hp] at he
    refine ⟨hp, fun hn => ?_⟩
    rwa [if_pos hn] at he
  · rw [if_neg hp] at he; exact absurd he hp
/-- What a delivery leaves: the next one is the one behind it, and what is committed does not fall. -/
theorem del_is {M : FnM} (hM : M.Ok) {h t : Int} (he : M.delE h t = 0) : (M.del h t).Ok ∧ (M.del h t).N = M.delV h t + 1 ∧ M.N ≤ M.delV h t ∧ h ≤ M.delV h t ∧ M.delV h t < t ∧ M.L.fin ≤ (M.del h t).L.fin ∧ ((M.del h t).L = M.L ∨ (M.N < h ∧ (M.del h t).L = M.skipL h)) := by
  obtain ⟨hp, hs⟩ := del_ok he
  obtain ⟨p1, p2, p3⟩ := peek_ok hp
  have h1 := hM.lo
  have h2 := hM.hi
  unfold FnM.del FnM.delV
  rw [if_pos he, if_pos he]
  by_cases hn : M.N < h
  · rw [if_pos hn]
    obtain ⟨s1, s2⟩ := skip_ok hM (hs hn)
    refine ⟨⟨s1, by show (M.skipL h).fin ≤ h + 1; omega, by show h + 1 ≤ _; omega⟩, by show h + 1 = _; omega, by omega, by omega, by omega, by show M.L.fin ≤ (M.skipL h).fin; omega, .inr ⟨hn, rfl⟩⟩
  · rw [if_neg hn]
    refine ⟨⟨hM.led, by show M.L.fin ≤ M.N + 1; omega, by show M.N + 1 ≤ _; omega⟩, by show M.N + 1 = _; omega, by omega, by omega, by omega, Int.le_refl _, .inl rfl⟩
theorem FnM.Ok.del {M : FnM} (hM : M.Ok) (h t : Int) : (M.del h t).Ok := by
  by_cases he : M.delE h t = 0
  · exact (del_is hM he).1
  · unfold FnM.del; rw [if_neg he]; exact hM
theorem com_is {M : FnM} (hM : M.Ok) {x : Int} (he : M.comE x = 0) : (M.com x).Ok ∧ (M.com x).N = M.N ∧ (M.com x).L = M.L.add x true ∧ addE M.L x true = 0 ∧ (M.com x).L.fin = x ∧ M.L.fin < x ∧ x ≤ M.N := by
  have h3 : (M.com x) = ⟨M.L.add x true, M.N⟩ := by unfold FnM.com; rw [if_pos he]
  unfold FnM.comE at he
  by_cases h1 : x < 0 ∨ 1099511627776 < x
  · rw [if_pos h1] at he; omega
  · rw [if_neg h1] at he
    by_cases h2 : x ≤ M.L.fin ∨ M.N < x
    · rw [if_pos h2] at he; omega
    · rw [if_neg h2] at he
      have hf := fin_add he
      rw [h3]
      exact ⟨⟨hM.led.add x true, by show (M.L.add x true).fin ≤ M.N; omega, hM.hi⟩, rfl, rfl, he, hf, by omega, by omega⟩
theorem FnM.Ok.com {M : FnM} (hM : M.Ok) (x : Int) : (M.com x).Ok := by
  by_cases he : M.comE x = 0
  · exact (com_is hM he).1
  · unfold FnM.com; rw [if_neg he]; exact hM
theorem seek_is {M : FnM} (hM : M.Ok) {x h t : Int} (he : M.seekE x h t = 0) : (M.seek x h t).Ok ∧ (M.seek x h t).N = x ∧ M.L.fin ≤ (M.seek x h t).L.fin ∧ ((M.seek x h t).L = M.L ∨ (M.N < x ∧ (M.seek x h t).L = M.skipL x ∧ M.skipE x = 0)) := by
  have h0 : M.seek x h t = (if M.N < x then ⟨M.skipL x, x⟩ else ⟨M.L, x⟩) := by unfold FnM.seek; rw [if_pos he]
  unfold FnM.seekE at he
  by_cases hw : winE h t = 0
  · rw [if_pos hw] at he
    obtain ⟨w1, w2, w3⟩ := win_ok hw
    by_cases h1 : x < 0 ∨ 1099511627776 < x
    · rw [if_pos h1] at he; omega
    · rw [if_neg h1] at he
      by_cases h2 : x < h ∨ t < x ∨ x < M.L.fin
      · rw [if_pos h2] at he; omega
      · rw [if_neg h2] at he
        rw [h0]
        by_cases hn : M.N < x
        · rw [if_pos hn] at he ⊢
          obtain ⟨s1, s2⟩ := skip_ok hM he
          exact ⟨⟨s1, by show (M.skipL x).fin ≤ x; omega, by show x ≤ _; omega⟩, rfl, by show M.L.fin ≤ (M.skipL x).fin; omega, .inr ⟨hn, rfl, he⟩⟩
        · rw [if_neg hn]
          exact ⟨⟨hM.led, by show M.L.fin ≤ x; omega, by show x ≤ _; omega⟩, rfl, Int.le_refl _, .inl rfl⟩
  · rw [if_neg hw] at he; omega
theorem FnM.Ok.seek {M : FnM} (hM : M.Ok) (x h t : Int) : (M.seek x h t).Ok := by
  by_cases he : M.seekE x h t = 0
  · exact (seek_is hM he).1
  · unfold FnM.seek; rw [if_neg he]; exact hM
end Go.Proofs.Ytdlkdagmaeapdaa
