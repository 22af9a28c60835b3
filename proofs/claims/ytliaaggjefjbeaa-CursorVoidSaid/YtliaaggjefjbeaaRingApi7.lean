/- What the statements of layer 7 want of the program's ring, and of its readers, told of the plain ring. The words are shown of the program in another text. No condition. -/
import Derived.Test.YtliaaggjefjbeaaCursorNext
import Derived.Test.YtliaaggjefjbeaaCursorApi
import Derived.Test.YtliaaggjefjbeaaRingRefClaim
import Derived.Test.YtliaaggjefjbeaaHeld
import Derived.Test.YtliaaggjefjbeaaReadInts
namespace Go.Proofs.Ytliaaggjefjbeaa
open Go.RowKit
set_option linter.unusedVariables false
set_option maxRecDepth 100000

def RM.lsF (M : RM) (a : Int) : Int := mvF a (M.h : Int) (M.tail : Nat)
def RM.lsT (M : RM) (a : Int) : Int := mvT a (M.h : Int) (M.tail : Nat)

structure RingApi7 (RT : Nat → RM → Thing) : Prop where
  make_ok : ∀ (n : Nat) (ov : Bool) (w : World), 1 ≤ n → n ≤ 64 → Calls Try.prog 26 #[.int .i64 n, .int .i64 (polB ov)] w (RNew RT w n ov)
  claim : ∀ {w : World} {W : Nat → Prop} {q : Nat} {M : RM} {N : Nat}, (RT q M).at_ w W → M.Ok N → N < 1000000 → ∀ x : Int, w64 x →
    Calls Try.prog 28 #[.pointer (some ⟨q, 0, none⟩), .int .i64 x] w fun e w' => e = .returned (.tuple #[.int .i64 (M.claimA x), .int .i64 (M.claimW x), .int .i64 (M.claimE x)]) ∧ Goes (RT q (M.claimM x)) W w w'
  pub : ∀ {w : World} {W : Nat → Prop} {q : Nat} {M : RM} {N : Nat}, (RT q M).at_ w W → M.Ok N → N < 1000000 → ∀ x : Int, w64 x →
    Calls Try.prog 30 #[.pointer (some ⟨q, 0, none⟩), .int .i64 x] w fun e w' => e = .returned (.int .i64 (M.pubE x)) ∧ Goes (RT q (M.pubM x)) W w w'
  head : ∀ {w : World} {W : Nat → Prop} {q : Nat} {M : RM} {N : Nat}, (RT q M).at_ w W → M.Ok N → N < 1000000 →
    Calls Try.prog 31 #[.pointer (some ⟨q, 0, none⟩)] w fun e w' => e = .returned (.int .i64 M.h) ∧ Still w w'
  tail : ∀ {w : World} {W : Nat → Prop} {q : Nat} {M : RM} {N : Nat}, (RT q M).at_ w W → M.Ok N → N < 1000000 →
    Calls Try.prog 29 #[.pointer (some ⟨q, 0, none⟩)] w fun e w' => e = .returned (.int .i64 M.tail) ∧ Still w w'
  lost : ∀ {w : World} {W : Nat → Prop} {q : Nat} {M : RM} {N : Nat}, (RT q M).at_ w W → M.Ok N → N < 1000000 → ∀ x : Int, w64 x →
    Calls Try.prog 24 #[.int .i64 x, .pointer (some ⟨q, 0, none⟩)] w fun e w' => e = .returned (.tuple #[.agg #[.int .i64 (M.lsF x), .int .i64 (M.lsT x)], .int .i64 (M.mvE x)]) ∧ Still w w'
  next : ∀ {w : World} {W : Nat → Prop} {q : Nat} {M : RM} {N : Nat}, (RT q M).at_ w W → M.Ok N → N < 1000000 → ∀ x : Int, w64 x →
    Calls Try.prog 22 #[.int .i64 x, .pointer (some ⟨q, 0, none⟩)] w fun e w' => e = .returned (.tuple #[.int .i64 (M.nxR x), .int .i64 (M.nxT x), .int .i64 (M.nxE x)]) ∧ Still w w'

theorem zrtail_t {w : World} {W : Nat → Prop} {q : Nat} {M : RM} {N : Nat} (H : (zrT q M).at_ w W) (hM : M.Ok N) (hN : N < 1000000) :
    Calls Try.prog 25 #[.pointer (some ⟨q, 0, none⟩)] w fun e w' => e = .returned (.int .i64 (M.tail : Nat)) ∧ Still w w' := by
  obtain ⟨la, lc, H⟩ := H
  exact zrtail_any H hM hN

theorem held_new {RT : Nat → RM → Thing} {w0 w w' : World} {n : Nat} {ov : Bool} {e : Ending} (H : Still w0 w) (h : RNew RT w n ov e w') : ∃ q, e = .returned (.tuple #[.pointer (some ⟨q, 0, none⟩), .int .i64 0]) ∧ Held w0 w' ((RT q (RM.new n ov)).sep Thing.none) := by
  obtain ⟨q, he, hW⟩ := h
  exact ⟨q, he, (Held.start H).new hW⟩

/- The acts of the statements of layer 7 as arguments: two numbers each. -/
abbrev Act7 := Int × Int
def encAct7 (a : Act7) : List Value := encI a.1 ++ encI a.2
def okAct7 (w : World) (a : Act7) : Prop := okI .i64 w a.1 ∧ okI .i64 w a.2
theorem encAct7_len (a : Act7) : (encAct7 a).length = 2 := rfl

theorem cellsAct7 : Try.prog.cellsOf 56 = 2 := by kernel_rfl
theorem rdAct7 : Rd Try.prog 56 encAct7 okAct7 :=
  rd_struct2 (m0 := 1) (m1 := 1) Try.underlying56 cellsAct7 cellsInt cellsInt rfl rfl rdInt rdInt
theorem rdActs7 : Rd Try.prog 36 encSl (SlOk encAct7 okAct7 2) := rd_slice Try.underlying36 cellsAct7 (by omega) encAct7_len rdAct7

theorem i64_of7 {w : World} {a : Int} (h : okI .i64 w a) : w64 a := by
  have : (Lit.int .i64 a).wf = true := h
  simp [Lit.wf, IntKind.min, IntKind.max, IntKind.signed, IntKind.bits] at this
  exact ⟨by omega, by omega⟩
end Go.Proofs.Ytliaaggjefjbeaa
