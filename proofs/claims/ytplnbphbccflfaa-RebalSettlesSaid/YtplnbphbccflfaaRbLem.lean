/- What the walks of layer 17 share. No condition but the words. -/
import Derived.Test.YtplnbphbccflfaaRbApi
import Derived.Test.YtplnbphbccflfaaRbRan
import Derived.Test.YtplnbphbccflfaaActs17
import Derived.Test.YtplnbphbccflfaaAllT
namespace Go.Proofs.Ytplnbphbccflfaa
open Go.RowKit
set_option linter.unusedVariables false
set_option linter.unusedSimpArgs false
set_option maxRecDepth 100000

theorem Held.imp2 {w0 w : World} {A B : Thing} (h : Held w0 w A) (f : ∀ {w : World} {W : Nat → Prop}, A.at_ w W → B.at_ w W) : Held w0 w B := by
  obtain ⟨W, h1, h2⟩ := h; exact ⟨W, f h1, h2⟩
theorem Held.ownersR {BT : Nat → TbM → Thing} {w0 w : World} {q K : Nat} {M : TbM} {R : Thing} (A : RebalApi BT) (hM : M.Ok K) (hK : K < 1000000) {l : List Own} {n : Nat} (hl : M.O = l) (hn : n = l.length) (H : Held w0 w ((BT q M).sep R)) :
    Calls Try.prog 19 #[.pointer (some ⟨q, 0, none⟩)] w fun e w' => ∃ a c, e = .returned (.slice a n c) ∧ OwAt w' a l ∧ Still w w' := by
  subst hl; obtain ⟨_, h, _⟩ := H.fst
  exact (A.owners h hM hK n hn).mono fun e w' ⟨a, c, he, ho, hs⟩ => ⟨a, c, he, RowAt.of_own encOw_len ho hn, hs⟩
theorem Held.targetR {BT : Nat → TbM → Thing} {w0 w : World} {q K : Nat} {M : TbM} {R : Thing} (A : RebalApi BT) (hM : M.Ok K) (hK : K < 1000000) {l : List Own} {n : Nat} (hl : M.T = l) (hn : n = l.length) (H : Held w0 w ((BT q M).sep R)) :
    Calls Try.prog 26 #[.pointer (some ⟨q, 0, none⟩)] w fun e w' => ∃ a c, e = .returned (.slice a n c) ∧ OwAt w' a l ∧ Still w w' := by
  subst hl; obtain ⟨_, h, _⟩ := H.fst
  exact (A.target h hM hK n hn).mono fun e w' ⟨a, c, he, ho, hs⟩ => ⟨a, c, he, RowAt.of_own encOw_len ho hn, hs⟩
/-- Begin, of places and members made for it. -/
theorem Held.begG {BT : Nat → TbM → Thing} {w0 w : World} {q K : Nat} {M : TbM} {R : Thing} (A : RebalApi BT) (hM : M.Ok K) (hK : K < 1000000) {bo ao : Option Addr} {n d c1 c2 : Nat} (l : List Int) (hn : n ≤ 100) (hd : d = (risN l 8).length)
    (H : Held w0 w ((((BT q M).sep R).sep (plsT bo n c1 (plN n))).sep (intsT ao d c2 (risN l 8)))) :
    Calls Try.prog 12 #[.pointer (some ⟨q, 0, none⟩), .slice bo n c1, .slice ao d c2] w fun e w' => e = .returned (.tuple #[.bool (M.beginV (plN n) (risN l 8)), .int .i64 0]) ∧ Held w0 w' ((BT q (M.begin_ (plN n) (risN l 8))).sep R) :=
  Held.beginB A hM hK (by rw [plN_len]) hd (by omega) (by have := risN_len l 8; omega) rfl (beg_pl n (by omega) l) rfl H
end Go.Proofs.Ytplnbphbccflfaa
