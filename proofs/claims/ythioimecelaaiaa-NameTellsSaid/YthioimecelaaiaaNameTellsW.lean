/- NameTells: the walk. No condition but that the program's names keep their words. -/
import Derived.Test.YthioimecelaaiaaNameApi
namespace Go.Proofs.Ythioimecelaaiaa
open Go.RowKit
set_option linter.unusedVariables false
set_option linter.unusedSimpArgs false
set_option maxRecDepth 100000

set_option maxHeartbeats 2000000 in
theorem tells_walk (A : NameApi) (l : Txt) (w : World) (hl : l.length ≤ maxLen) :
    Calls Try.prog 3 #[tx l] w fun e w' => e = .returned (.bool true) ∧ Still w w' := by
  have HS := Lib.hid (fun W => short_any l W hl)
  have hs : (l.take 300).length ≤ 300 := by rw [List.length_take]; omega
  generalize l.take 300 = s at *
  have C1 := Lib.hid (fun W => A.levels s W hs)
  have C2 := Lib.hid (fun W => znlevels_any s W _ rfl (by omega))
  have C3 := Lib.hid (fun W => A.depth s W hs)
  have C4 := Lib.hid (fun W => A.check s W hs)
  have C5 := Lib.hid (fun W => zncheck_any s W (by omega))
  have C6 := Lib.hid (fun W => A.hidden s W hs)
  have C7 := Lib.hid (fun W => znhidden_any s W (by omega))
  have C8 := Lib.hid (fun W => works8 A W)
  have hln := lvls_len s
  have C9 := Lib.hid (fun (W : World) a b (n c d : Nat) (hn : n = (lvls s).length) (h1 : TextsAt W a (lvls s)) (h2 : TextsAt W b (lvls s)) => show Calls Try.prog 13 #[.slice a n c, .slice b n d] W fun e w' => e = .returned (.bool true) ∧ Still W w' from by
    have := sameT_any (lvls s) (lvls s) W a b n n c d hn hn h1 h2 (by omega) (by omega)
    rwa [decide_eq_true rfl] at this)
  have HO := Lib.hid (fun (W : World) a (n c B : Nat) (hn : n = (lvls s).length) (h : W.ownsRow B 9 1 (.slice a n c) n (txs (lvls s))) => TextsAt.of_own h hn)
  unfold LevPost at C1
  unfold LvPost at C2
  obtain ⟨n, hn⟩ : ∃ n, n = (lvls s).length := ⟨_, rfl⟩
  rw [← hn] at C1 C2 C3
  have C9 := Lib.hid (fun (W : World) a b (c d : Nat) h1 h2 => C9.out W a b n c d hn h1 h2)
  have HO := Lib.hid (fun (W : World) a (c B : Nat) h => HO.out W a n c B hn h)
  generalize lvls s = L at *
  generalize nmE s = r at *
  generalize hdB s = hd at *
  unfold tx at *
  clear hs hl hn hln
  go_enter Try.func3, Try.ntmps3
  go_wp2_with (first
    | (go_at_call 9; ((with_reducible refine (HS.out _).mono ?_)); rintro e w0 ⟨rfl, rfl⟩)
    | (go_at_call 10; ((with_reducible refine (C1.out _).mono ?_)); rintro e w1 ⟨a1, c1, rfl, hA1, _, h1⟩)
    | (go_at_call 11; ((with_reducible refine (C2.out _).mono ?_)); rintro e w2 ⟨a2, c2, rfl, hO2, h2⟩)
    | (go_at_call 12; ((with_reducible refine (C3.out _).mono ?_)); rintro e w3 ⟨rfl, h3⟩)
    | (go_at_call 13; ((with_reducible refine (C9.out _ _ _ _ _ (hA1.still (h2.trans h3)) ((HO.out _ _ _ _ hO2).still h3)).mono ?_)); rintro e w4 ⟨rfl, h4⟩)
    | (go_at_call 14; ((with_reducible refine (C4.out _).mono ?_)); rintro e w5 ⟨rfl, h5⟩)
    | (go_at_call 15; ((with_reducible refine (C5.out _).mono ?_)); rintro e w6 ⟨rfl, h6⟩)
    | (go_at_call 16; ((with_reducible refine (C6.out _).mono ?_)); rintro e w7 ⟨rfl, h7⟩)
    | (go_at_call 17; ((with_reducible refine (C7.out _).mono ?_)); rintro e w8 ⟨rfl, h8⟩)
    | (go_at_call 18; ((with_reducible refine (C8.out _).mono ?_)); rintro e w9 ⟨rfl, h9⟩))
  go_ret
  exact ⟨by first | rfl | simp, h1.trans (h2.trans (h3.trans (h4.trans (h5.trans (h6.trans (h7.trans (h8.trans h9)))))))⟩
end Go.Proofs.Ythioimecelaaiaa
