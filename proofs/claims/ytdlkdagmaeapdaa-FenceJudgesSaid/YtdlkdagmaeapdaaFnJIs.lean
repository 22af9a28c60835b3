/- Judge keeps the words asked of it. No condition. -/
import Derived.Test.YtdlkdagmaeapdaaBdZb
import Derived.Test.YtdlkdagmaeapdaaBdRb
import Derived.Test.YtdlkdagmaeapdaaRbNil
namespace Go.Proofs.Ytdlkdagmaeapdaa
open Go.RowKit
set_option linter.unusedVariables false
set_option linter.unusedSimpArgs false
set_option maxRecDepth 100000

theorem hasE_one (M : TbM) (x : Int) (p : Plc) : (M.hasE x p == 1) = false := by
  unfold TbM.hasE
  split
  · rfl
  · split
    · rfl
    · split <;> rfl
theorem fnjudge_nil (x g a b : Int) (w : World) : Calls Try.prog 37 #[.pointer none, .int .i64 x, .int .i64 g, .agg #[.int .i64 a, .int .i64 b]] w fun e w' => e = .returned (.int .i64 1) ∧ Still w w' := by
  have hs1 : Still w (w.alloc (.cells #[.int .i64 a, .int .i64 b] 54)) := (Turned.refl _ _).alloc _
  have HH := Lib.hid (nbhas_any x a b (show NilB none (w.alloc (.cells #[.int .i64 a, .int .i64 b] 54)) from ⟨fun _ => False, .inl ⟨rfl, fun _ h => h⟩⟩))
  have HR := Lib.hid hs1
  clear hs1
  go_enter Try.func37, Try.ntmps37
  go_wp2_with (go_at_call 66; ((with_reducible refine HH.out.mono ?_)); rintro e w1 ⟨rfl, hs⟩; have S1 := Lib.hid (HR.out.trans hs); clear hs)
  go_ret
  exact ⟨rfl, S1.out⟩
theorem fnjudge_any {q K : Nat} {M : TbM} {w : World} {W : Nat → Prop} (h : (rbT q M).at_ w W) (hM : M.Ok K) (hK : K < 1000000) (x g a b : Int) (hx1 : -9223372036854775808 ≤ x) (hx2 : x ≤ 9223372036854775807) :
    Calls Try.prog 37 #[.pointer (some ⟨q, 0, none⟩), .int .i64 x, .int .i64 g, .agg #[.int .i64 a, .int .i64 b]] w fun e w' => e = .returned (.int .i64 (jdgE M x g (a, b))) ∧ Still w w' := by
  have hs1 : Still w (w.alloc (.cells #[.int .i64 a, .int .i64 b] 54)) := (Turned.refl _ _).alloc _
  have h1 := (rbT q M).keep h hs1 (fun _ _ h => h)
  have HH := Lib.hid (rebal_api.has h1 hM hK x (a, b) hx1 hx2)
  have HGn := Lib.hid (fun V (hs : Still (w.alloc (.cells #[.int .i64 a, .int .i64 b] 54)) V) => rebal_api.gen ((rbT q M).keep h1 hs (fun _ _ h => h)) hM hK)
  have HR := Lib.hid hs1
  have h0 := hasE_one M x (a, b)
  unfold jdgE
  clear h h1 hM hs1 hK hx1 hx2
  generalize M.hasE x (a, b) = e at *
  generalize ((M.G : Nat) : Int) = G at *
  by_cases hg : g = G
  · subst hg
    rw [if_pos rfl]
    by_cases he : e = 170
    · subst he
      rw [if_pos rfl]
      clear h0
      go_enter Try.func37, Try.ntmps37
      go_wp2_with (first
        | (go_at_call 66; ((with_reducible refine HH.out.mono ?_)); rintro e w1 ⟨rfl, hs⟩; have S1 := Lib.hid hs; clear hs)
        | (go_at_call 67; ((with_reducible refine (HGn.out _ S1.out).mono ?_)); rintro e w2 ⟨rfl, hs⟩; have S2 := Lib.hid (HR.out.trans (S1.out.trans hs)); clear hs))
      go_ret
      exact ⟨rfl, S2.out⟩
    · have heb : (e == 170) = false := by simpa using he
      rw [if_neg he]
      clear he
      go_enter Try.func37, Try.ntmps37
      go_wp2_with (first
        | (go_at_call 66; ((with_reducible refine HH.out.mono ?_)); rintro e w1 ⟨rfl, hs⟩; have S1 := Lib.hid hs; clear hs)
        | (go_at_call 67; ((with_reducible refine (HGn.out _ S1.out).mono ?_)); rintro e w2 ⟨rfl, hs⟩; have S2 := Lib.hid (HR.out.trans (S1.out.trans hs)); clear hs))
      go_ret
      exact ⟨rfl, S2.out⟩
  · have hgb : (g != G) = true := by simpa using hg
    rw [if_neg hg]
    clear hg
    go_enter Try.func37, Try.ntmps37
    go_wp2_with (first
      | (go_at_call 66; ((with_reducible refine HH.out.mono ?_)); rintro e w1 ⟨rfl, hs⟩; have S1 := Lib.hid hs; clear hs)
      | (go_at_call 67; ((with_reducible refine (HGn.out _ S1.out).mono ?_)); rintro e w2 ⟨rfl, hs⟩; have S2 := Lib.hid (HR.out.trans (S1.out.trans hs)); clear hs))
    go_ret
    exact ⟨rfl, S2.out⟩
theorem judge_api : JudgeApi rbT where
  nil_ := fnjudge_nil
  judge := fun h hM hK x g a b h1 h2 => fnjudge_any h hM hK x g a b h1 h2
  begin_ := fun h hM hK _ _ _ _ _ _ _ _ hn hm h1 h2 hP hA => rbbegin_any h hM hK hn hm h1 h2 hP hA
end Go.Proofs.Ytdlkdagmaeapdaa
