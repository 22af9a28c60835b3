/- Texts that lie next to one another, laid into one: each says what it holds. No condition but what each states. -/
import Derived.Test.YtmmkcfiecgpkpaaGreatBdRingZ
import Derived.Test.YtmmkcfiecgpkpaaGreatBxHeld

/- What the statements of layer 6 want of the program's ring, told of the plain ring: one word for each call. The words are shown of the program in another text. No condition. -/
namespace Go.Proofs.YtmmkcfiecgpkpaaGreat
open Go.RowKit
set_option linter.unusedVariables false
set_option maxRecDepth 100000

structure RingApi (RT : Nat → RM → Thing) : Prop where
  make_no : ∀ (n p : Int) (w : World), w64 n → w64 p → ¬ (1 ≤ n ∧ n ≤ 64 ∧ (p = 0 ∨ p = 1)) → Calls Tryz.prog 91 #[.int .i64 n, .int .i64 p] w fun e w' => e = .returned (.tuple #[.pointer none, .int .i64 2]) ∧ Still w w'
  make_ok : ∀ (n : Nat) (ov : Bool) (w : World), 1 ≤ n → n ≤ 64 → Calls Tryz.prog 91 #[.int .i64 n, .int .i64 (polB ov)] w (RNew RT w n ov)
  claim : ∀ {w : World} {W : Nat → Prop} {q : Nat} {M : RM} {N : Nat}, (RT q M).at_ w W → M.Ok N → N < 1000000 → ∀ x : Int, w64 x →
    Calls Tryz.prog 73 #[.pointer (some ⟨q, 0, none⟩), .int .i64 x] w fun e w' => e = .returned (.tuple #[.int .i64 (M.claimA x), .int .i64 (M.claimW x), .int .i64 (M.claimE x)]) ∧ Goes (RT q (M.claimM x)) W w w'
  pub : ∀ {w : World} {W : Nat → Prop} {q : Nat} {M : RM} {N : Nat}, (RT q M).at_ w W → M.Ok N → N < 1000000 → ∀ x : Int, w64 x →
    Calls Tryz.prog 53 #[.pointer (some ⟨q, 0, none⟩), .int .i64 x] w fun e w' => e = .returned (.int .i64 (M.pubE x)) ∧ Goes (RT q (M.pubM x)) W w w'
  trim : ∀ {w : World} {W : Nat → Prop} {q : Nat} {M : RM} {N : Nat}, (RT q M).at_ w W → M.Ok N → N < 1000000 → ∀ x : Int, w64 x →
    Calls Tryz.prog 100 #[.pointer (some ⟨q, 0, none⟩), .int .i64 x] w (TrimPost RT w W q M x)
  ready : ∀ {w : World} {W : Nat → Prop} {q : Nat} {M : RM} {N : Nat}, (RT q M).at_ w W → M.Ok N → N < 1000000 → ∀ x : Int, w64 x →
    Calls Tryz.prog 122 #[.pointer (some ⟨q, 0, none⟩), .int .i64 x] w fun e w' => e = .returned (.int .i64 (M.ready x)) ∧ Still w w'
  head : ∀ {w : World} {W : Nat → Prop} {q : Nat} {M : RM} {N : Nat}, (RT q M).at_ w W → M.Ok N → N < 1000000 →
    Calls Tryz.prog 85 #[.pointer (some ⟨q, 0, none⟩)] w fun e w' => e = .returned (.int .i64 M.h) ∧ Still w w'
  tail : ∀ {w : World} {W : Nat → Prop} {q : Nat} {M : RM} {N : Nat}, (RT q M).at_ w W → M.Ok N → N < 1000000 →
    Calls Tryz.prog 61 #[.pointer (some ⟨q, 0, none⟩)] w fun e w' => e = .returned (.int .i64 M.tail) ∧ Still w w'
  room : ∀ {w : World} {W : Nat → Prop} {q : Nat} {M : RM} {N : Nat}, (RT q M).at_ w W → M.Ok N → N < 1000000 →
    Calls Tryz.prog 99 #[.pointer (some ⟨q, 0, none⟩)] w fun e w' => e = .returned (.int .i64 M.n) ∧ Still w w'
  refs : ∀ {w : World} {W : Nat → Prop} {q : Nat} {M : RM} {N : Nat}, (RT q M).at_ w W → M.Ok N → N < 1000000 → ∀ n : Nat, n = M.l.length →
    Calls Tryz.prog 113 #[.pointer (some ⟨q, 0, none⟩)] w (OutNums w M.refs n)
theorem Held.ring {RT : Nat → RM → Thing} {w0 w w' : World} {n : Nat} {ov : Bool} {e : Ending} (H : Still w0 w) (h : RNew RT w n ov e w') : ∃ q, e = .returned (.tuple #[.pointer (some ⟨q, 0, none⟩), .int .i64 0]) ∧ Held w0 w' ((RT q (RM.new n ov)).sep Thing.none) := by
  obtain ⟨q, he, hW⟩ := h
  exact ⟨q, he, (Held.start H).new hW⟩
/-- What Trim hands out is held with the ring. -/
theorem held_trim {RT : Nat → RM → Thing} {w0 w : World} {q : Nat} {M : RM} {R : Thing} {f : FuncId} {args : Array Value} {x : Int} (H : Held w0 w ((RT q M).sep R))
    (hc : ∀ W, (RT q M).at_ w W → Calls Tryz.prog f args w (TrimPost RT w W q M x)) :
    Calls Tryz.prog f args w fun e w' => ∃ a c, e = .returned (.tuple #[.slice a (M.trimL x).length c, .int .i64 (M.trimE x)]) ∧ Held w0 w' ((numsT (RT q (M.trimM x)) a (M.trimL x)).sep R) := by
  obtain ⟨W, h1, h2⟩ := H.fst
  exact (hc W h1).mono fun e w' ⟨a, c, he, hg⟩ => ⟨a, c, he, h2 _ _ hg⟩
end Go.Proofs.YtmmkcfiecgpkpaaGreat
