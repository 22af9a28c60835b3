/- The calls of a tree that is held beside other things; texts that were handed out as a thing. No condition. -/
import Derived.Test.YtpmkokckjieidaaGreatDoorTrieWorks
namespace Go.Proofs.YtpmkokckjieidaaGreatDoor
open Go.RowKit
set_option linter.unusedVariables false
set_option linter.unusedSimpArgs false

variable {tT : Nat → List Pr → Thing}
theorem TrieApi.hput (A : TrieApi tT) {w V : World} {q : Nat} {L : List Pr} {R : Thing} (h : Held w V ((tT q L).sep R)) (hL : TOk L) (f : Txt) (n : Int) (hf : f.length ≤ 300) (hn : i64w n) :
    Calls Tryz.prog 13 #[.pointer (some ⟨q, 0, none⟩), tx f, .int .i64 n] V fun e w' => e = .returned (.int .i64 (ptE L f n)) ∧ Held w w' ((tT q (putL L f n)).sep R) := h.call (fun W hW => A.put hW hL f n hf hn)
theorem TrieApi.htake (A : TrieApi tT) {w V : World} {q : Nat} {L : List Pr} {R : Thing} (h : Held w V ((tT q L).sep R)) (hL : TOk L) (f : Txt) (n : Int) (hf : f.length ≤ 300) (hn : i64w n) :
    Calls Tryz.prog 15 #[.pointer (some ⟨q, 0, none⟩), tx f, .int .i64 n] V fun e w' => e = .returned (.int .i64 (tkE L f n)) ∧ Held w w' ((tT q (takeL L f n)).sep R) := h.call (fun W hW => A.take hW hL f n hf hn)
theorem TrieApi.hdrop (A : TrieApi tT) {w V : World} {q : Nat} {L : List Pr} {R : Thing} (h : Held w V ((tT q L).sep R)) (hL : TOk L) (n : Int) (hn : i64w n) :
    Calls Tryz.prog 17 #[.pointer (some ⟨q, 0, none⟩), .int .i64 n] V fun e w' => e = .returned (.int .i64 (dropN L n : Nat)) ∧ Held w w' ((tT q (dropL L n)).sep R) := h.call (fun W hW => A.drop hW hL n hn)
theorem TrieApi.hpairs (A : TrieApi tT) {w V : World} {q : Nat} {L : List Pr} {R : Thing} (h : Held w V ((tT q L).sep R)) (hL : TOk L) :
    Calls Tryz.prog 24 #[.pointer (some ⟨q, 0, none⟩)] V fun e w' => e = .returned (.int .i64 (L.length : Nat)) ∧ Held w w' ((tT q L).sep R) := h.read (fun W hW => A.pairs hW hL)
theorem TrieApi.hnodes (A : TrieApi tT) {w V : World} {q : Nat} {L : List Pr} {R : Thing} (h : Held w V ((tT q L).sep R)) (hL : TOk L) :
    Calls Tryz.prog 29 #[.pointer (some ⟨q, 0, none⟩)] V fun e w' => e = .returned (.int .i64 (ndL L : Nat)) ∧ Held w w' ((tT q L).sep R) := h.read (fun W hW => A.nodes hW hL)
theorem TrieApi.hfilters (A : TrieApi tT) {w V : World} {q : Nat} {L : List Pr} {R : Thing} (h : Held w V ((tT q L).sep R)) (hL : TOk L) :
    Calls Tryz.prog 28 #[.pointer (some ⟨q, 0, none⟩)] V (OutT V (flL L)) := by
  obtain ⟨W, h1, _⟩ := h.fst
  exact A.filters h1 hL
theorem TrieApi.hmtch (A : TrieApi tT) {w V : World} {q : Nat} {L : List Pr} {R : Thing} (h : Held w V ((tT q L).sep R)) (hL : TOk L) (s : Txt) (hs : s.length ≤ 300) :
    Calls Tryz.prog 22 #[.pointer (some ⟨q, 0, none⟩), tx s] V (OutE V (ni (mtL L s)) (nmE s)) := by
  obtain ⟨W, h1, _⟩ := h.fst
  exact A.mtch h1 hL s hs
theorem TrieApi.hof (A : TrieApi tT) {w V : World} {q : Nat} {L : List Pr} {R : Thing} (h : Held w V ((tT q L).sep R)) (hL : TOk L) (s : Txt) (hs : s.length ≤ 300) :
    Calls Tryz.prog 19 #[.pointer (some ⟨q, 0, none⟩), tx s] V (OutE V (ni (ofL L s)) (fcE s)) := by
  obtain ⟨W, h1, _⟩ := h.fst
  exact A.of h1 hL s hs

/-- Texts that can be read as long as their blocks stay. -/
def txT (a : Option Addr) (l : List Txt) : Thing where
  at_ w W := TextsAt w a l ∧ (∀ k, W k → k < w.heap.size) ∧ ∀ x, a = some x → l ≠ [] → W x.block
  lt := fun h => h.2.1
  keep := by
    rintro w w' W S ⟨h1, h2, h3⟩ ht hs
    refine ⟨?_, fun k hk => Nat.lt_of_lt_of_le (h2 k hk) ht.size, h3⟩
    by_cases hl : l = []
    · subst hl; exact TextsAt.nil _ _
    · exact h1.turned ht (fun a ha => hs _ (h3 a ha hl))
theorem Held.texts {w0 w : World} {a : Option Addr} {l : List Txt} (h : Held w0 w (txT a l)) : TextsAt w a l := by
  obtain ⟨W, h1, _⟩ := h
  exact h1.1
/-- Texts that a call handed out. -/
theorem Held.gotT {w0 w w' : World} {A : Thing} (H : Held w0 w A) {l : List Txt} {e : Ending} (h : OutT w l e w') : ∃ a n c, e = .returned (.slice a n c) ∧ n = l.length ∧ SlW a n c ∧ Held w0 w' (A.sep (txT a l)) := by
  obtain ⟨a, n, c, h1, h2, h3, h4, h5, h6⟩ := h
  refine ⟨a, n, c, h1, h2, h4, (H.new (B := txT a l) ⟨fun k => ∃ x, a = some x ∧ l ≠ [] ∧ x.block = k, ⟨h3, ?_, fun x hx hl => ⟨x, hx, hl, rfl⟩⟩, h5, ?_⟩).swap⟩
  · rintro k ⟨x, hx, hl, rfl⟩
    cases l with
    | nil => exact absurd rfl hl
    | cons y l =>
      obtain ⟨b, o, e, hc⟩ := h3 0 y rfl
      rw [hx] at e; cases e
      exact cell_lt hc
  · rintro k ⟨x, hx, hl, rfl⟩
    exact h6 x hx hl
theorem Held.texts3 {w0 w : World} {A B : Thing} {a : Option Addr} {l : List Txt} (h : Held w0 w (A.sep (B.sep (txT a l)))) : TextsAt w a l := h.snd.snd.texts
/-- What a call made, beside what is held. -/
theorem Held.made {w0 w w' : World} {A B : Thing} (H : Held w0 w A) (h : Held w w' B) : Held w0 w' (B.sep A) := by
  obtain ⟨W, h1, h2, h3⟩ := h
  exact H.new ⟨W, h1, h3, h2⟩
end Go.Proofs.YtpmkokckjieidaaGreatDoor
