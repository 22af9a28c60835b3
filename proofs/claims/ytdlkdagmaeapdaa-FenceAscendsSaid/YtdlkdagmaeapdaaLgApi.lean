/- What the statements of layer 14 want of the program's ledger, told of the plain one: one word for each call; what works does. The words are shown of the program in another text. No condition but the words. -/
import Derived.Test.YtdlkdagmaeapdaaLgRefBack
import Derived.Test.YtdlkdagmaeapdaaHeld
namespace Go.Proofs.Ytdlkdagmaeapdaa
open Go.RowKit
set_option linter.unusedVariables false
set_option linter.unusedSimpArgs false
set_option maxRecDepth 100000

structure LedgerApi (LT : Nat → LgM → Thing) : Prop where
  make_no : ∀ (b : Int) (w : World), ¬ (0 ≤ b ∧ b ≤ 1099511627776) → Calls Try.prog 39 #[.int .i64 b] w fun e w' => e = .returned (.tuple #[.pointer none, .int .i64 2]) ∧ Still w w'
  make_ok : ∀ (b : Int) (w : World), 0 ≤ b → b ≤ 1099511627776 → Calls Try.prog 39 #[.int .i64 b] w fun e w' => ∃ q, e = .returned (.tuple #[.pointer (some ⟨q, 0, none⟩), .int .i64 0]) ∧ LNew LT w (LgM.new b) q w'
  accept : ∀ {w : World} {W : Nat → Prop} {q : Nat} {M : LgM}, (LT q M).at_ w W → M.Ok → ∀ x : Int, -9223372036854775808 ≤ x → x ≤ 9223372036854775807 →
    Calls Try.prog 45 #[.pointer (some ⟨q, 0, none⟩), .int .i64 x] w fun e w' => e = .returned (.int .i64 (addE M x true)) ∧ Goes (LT q (M.add x true)) W w w'
  skip : ∀ {w : World} {W : Nat → Prop} {q : Nat} {M : LgM}, (LT q M).at_ w W → M.Ok → ∀ x : Int, -9223372036854775808 ≤ x → x ≤ 9223372036854775807 →
    Calls Try.prog 70 #[.pointer (some ⟨q, 0, none⟩), .int .i64 x] w fun e w' => e = .returned (.int .i64 (addE M x false)) ∧ Goes (LT q (M.add x false)) W w w'
  from_ : ∀ {w : World} {W : Nat → Prop} {q : Nat} {M : LgM}, (LT q M).at_ w W → M.Ok →
    Calls Try.prog 27 #[.pointer (some ⟨q, 0, none⟩)] w fun e w' => e = .returned (.int .i64 M.b) ∧ Still w w'
  end_ : ∀ {w : World} {W : Nat → Prop} {q : Nat} {M : LgM}, (LT q M).at_ w W → M.Ok →
    Calls Try.prog 28 #[.pointer (some ⟨q, 0, none⟩)] w fun e w' => e = .returned (.int .i64 M.fin) ∧ Still w w'
  accepted : ∀ {w : World} {W : Nat → Prop} {q : Nat} {M : LgM}, (LT q M).at_ w W → M.Ok → ∀ m, m = (spOf M.L true).length →
    Calls Try.prog 29 #[.pointer (some ⟨q, 0, none⟩)] w (OutSp w (spOf M.L true) m)
  skipped : ∀ {w : World} {W : Nat → Prop} {q : Nat} {M : LgM}, (LT q M).at_ w W → M.Ok → ∀ m, m = (spOf M.L false).length →
    Calls Try.prog 30 #[.pointer (some ⟨q, 0, none⟩)] w (OutSp w (spOf M.L false) m)
  copy : ∀ {w : World} {W : Nat → Prop} {q : Nat} {M : LgM}, (LT q M).at_ w W → M.Ok →
    Calls Try.prog 51 #[.pointer (some ⟨q, 0, none⟩)] w fun e w' => ∃ q', e = .returned (.pointer (some ⟨q', 0, none⟩)) ∧ LNew LT w M q' w'
section
variable {LT : Nat → LgM → Thing} {w0 w : World} {q : Nat} {M : LgM} {R : Thing}
theorem Held.accL (A : LedgerApi LT) (H : Held w0 w ((LT q M).sep R)) (hM : M.Ok) {x r : Int} {M' : LgM} (h1 : -9223372036854775808 ≤ x) (h2 : x ≤ 9223372036854775807) (he : addE M x true = r) (hm : M.add x true = M') :
    Calls Try.prog 45 #[.pointer (some ⟨q, 0, none⟩), .int .i64 x] w fun e w' => e = .returned (.int .i64 r) ∧ Held w0 w' ((LT q M').sep R) := by
  subst he hm; exact H.call (fun _ h => A.accept h hM x h1 h2)
theorem Held.skpL (A : LedgerApi LT) (H : Held w0 w ((LT q M).sep R)) (hM : M.Ok) {x r : Int} {M' : LgM} (h1 : -9223372036854775808 ≤ x) (h2 : x ≤ 9223372036854775807) (he : addE M x false = r) (hm : M.add x false = M') :
    Calls Try.prog 70 #[.pointer (some ⟨q, 0, none⟩), .int .i64 x] w fun e w' => e = .returned (.int .i64 r) ∧ Held w0 w' ((LT q M').sep R) := by
  subst he hm; exact H.call (fun _ h => A.skip h hM x h1 h2)
theorem Held.endL (A : LedgerApi LT) (H : Held w0 w ((LT q M).sep R)) (hM : M.Ok) {f : Int} (hf : M.fin = f) :
    Calls Try.prog 28 #[.pointer (some ⟨q, 0, none⟩)] w fun e w' => e = .returned (.int .i64 f) ∧ Still w w' := by
  subst hf; obtain ⟨_, h, _⟩ := H.fst; exact A.end_ h hM
theorem Held.fromL (A : LedgerApi LT) (H : Held w0 w ((LT q M).sep R)) (hM : M.Ok) {f : Int} (hf : M.b = f) :
    Calls Try.prog 27 #[.pointer (some ⟨q, 0, none⟩)] w fun e w' => e = .returned (.int .i64 f) ∧ Still w w' := by
  subst hf; obtain ⟨_, h, _⟩ := H.fst; exact A.from_ h hM
theorem Held.acdL (A : LedgerApi LT) (H : Held w0 w ((LT q M).sep R)) (hM : M.Ok) {l : List (Int × Int)} {m : Nat} (hl : spOf M.L true = l) (hm : m = l.length) :
    Calls Try.prog 29 #[.pointer (some ⟨q, 0, none⟩)] w fun e w' => ∃ a c, e = .returned (.slice a m c) ∧ SpAt w' a l ∧ Still w w' := by
  subst hl; obtain ⟨_, h, _⟩ := H.fst; exact (A.accepted h hM m hm).mono fun e w' ho => ho.at hm
theorem Held.skdL (A : LedgerApi LT) (H : Held w0 w ((LT q M).sep R)) (hM : M.Ok) {l : List (Int × Int)} {m : Nat} (hl : spOf M.L false = l) (hm : m = l.length) :
    Calls Try.prog 30 #[.pointer (some ⟨q, 0, none⟩)] w fun e w' => ∃ a c, e = .returned (.slice a m c) ∧ SpAt w' a l ∧ Still w w' := by
  subst hl; obtain ⟨_, h, _⟩ := H.fst; exact (A.skipped h hM m hm).mono fun e w' ho => ho.at hm
end
theorem SpAt.still {w w' : World} {a : Option Addr} {l : List (Int × Int)} (h : SpAt w a l) (ht : Still w w') : SpAt w' a l := RowAt.stays h ht

end Go.Proofs.Ytdlkdagmaeapdaa
