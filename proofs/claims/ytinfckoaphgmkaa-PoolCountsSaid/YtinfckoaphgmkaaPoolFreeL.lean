/- What Free of the program's pool answers. No condition but that the pool is one. -/
import Derived.Test.YtinfckoaphgmkaaPoolFind
import Derived.Test.YtinfckoaphgmkaaReverse
namespace Go.Proofs.Ytinfckoaphgmkaa
open Go.RowKit
set_option linter.unusedVariables false
set_option linter.unusedSimpArgs false
set_option maxRecDepth 100000

theorem ow_addr {w : World} {B : Nat} {e : TypeId} {m n cc : Nat} {a : Addr} {xs : List Value} (h : w.ownsRow B e m (.slice (some a) n cc) n xs) : ∃ g, a = ⟨g, 0, none⟩ := by
  rcases h.2 with ⟨h', _⟩ | ⟨g, cap, cur, h', _⟩
  · simp at h'
  · simp only [Value.slice.injEq, Option.some.injEq] at h'
    exact ⟨g, h'.1⟩

theorem free_any {w : World} {W : Nat → Prop} {q : Nat} {M : PM} {N : Nat} (H0 : (pT q M).at_ w W) (hM : M.Ok N) (n : Nat) (hn : n = M.fr.length) :
    Calls Try.prog 27 #[.pointer (some ⟨q, 0, none⟩)] w (GotNums w (nums M.fr) n) := by
  obtain ⟨L, H⟩ := H0
  have HA := Lib.hid (made_any H hM.pos)
  have hfl := hM.frlen
  have c3 : w.cell? ⟨q, 3, none⟩ = some (.slice (some ⟨L.sb, 0, none⟩) n L.sc) := hn ▸ H.hd.cell rfl
  have HC := Lib.hid (clone_ints w ⟨L.sb, 0, none⟩ (nums M.fr.reverse) n L.sc (by simp [nums, hn]) (NumsAt.of_own (hn ▸ H.ss) (by simp [nums, hn])) (by omega))
  have HR := Lib.hid (fun (w' : World) (g c : Nat) (ho : w'.ownsRow w.heap.size 3 1 (.slice (some ⟨g, 0, none⟩) n c) n (ints (nums M.fr.reverse))) => show ∃ r, Blk w' g (ints (nums M.fr.reverse) ++ r) 3 ∧ (ints (nums M.fr.reverse) ++ r).length = c ∧ c ≤ maxLen ∧ w.heap.size ≤ g by
    obtain ⟨r, h1, _, h2, _, h3, h4⟩ := ow_parts ho
    exact ⟨r, h1, h2, h3, h4⟩)
  have HE := Lib.hid (fun (w' w2 : World) (g c : Nat) (r : List Value) (hst : Still w w') (h2 : (ints (nums M.fr.reverse) ++ r).length = c) (h3 : c ≤ maxLen) (h4 : w.heap.size ≤ g) (hb : Blk w2 g (ints (nums M.fr.reverse).reverse ++ r) 3) (ht : Turned (· = g) w' w2) => show GotNums w (nums M.fr) n (.returned (.slice (some ⟨g, 0, none⟩) n c)) w2 by
    have e : (nums M.fr.reverse).reverse = nums M.fr := by simp [nums]
    rw [e] at hb
    refine ⟨_, _, rfl, ow_of_parts hb (by simp [ints, nums, hn]) (by simpa [ints, nums] using h2) h3 h4, hst.past ht (fun i e => .inr (by omega))⟩)
  have HRev := Lib.hid (fun (w' : World) (g c : Nat) (r : List Value) (hb : Blk w' g (ints (nums M.fr.reverse) ++ r) 3) => reverse_any (c := c) hb (n := n) (by simp [nums, hn]) (by omega))
  clear H hM hn hfl
  go_enter Try.func27, Try.ntmps27
  go_wp2_with (first
    | (go_at_call 34; refine HA.out.mono ?_; rintro e w' ⟨rfl, rfl⟩)
    | (go_at_call 45; refine HC.out.mono ?_; rintro e w1 ⟨a, c, rfl, hown, hst⟩; obtain ⟨g, rfl⟩ := ow_addr hown; obtain ⟨r, r1, r2, r3, r4⟩ := HR.out w1 g c hown)
    | (go_at_call 46; refine (HRev.out _ _ _ r r1).mono ?_; rintro e w2 ⟨⟨v, rfl⟩, hb2, ht2⟩))
  go_ret
  exact HE.out _ _ _ _ r hst r2 r3 r4 hb2 ht2
end Go.Proofs.Ytinfckoaphgmkaa
