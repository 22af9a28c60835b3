/- What Copy of the program's ledger makes. No condition but that it is one. -/
import Derived.Test.YtdlkdagmaeapdaaLgDo
import Derived.Test.YtdlkdagmaeapdaaCloneI
namespace Go.Proofs.Ytdlkdagmaeapdaa
open Go.RowKit
set_option linter.unusedVariables false
set_option linter.unusedSimpArgs false
set_option maxRecDepth 100000

section
variable {q : Nat} {a a6 : Option Addr} {c c6 N n : Nat} {f : Bool} {M : LgM} {w V w6 w' : World} {W : Nat → Prop}
theorem lgcopied {V w5 U : World} {a5 : Addr} {c5 : Nat} (hN : N = M.L.length + 1) (hf : ∀ x, M.L[0]? = some x → x.2.2 = f) (hs : Still w V) (ho : w5.ownsRow V.heap.size 3 1 (.slice (some a5) N c5) N (ints (marks M))) (ht : Still V w5) (hu : Still w5 U) :
    LNew lgT w M U.heap.size (U.alloc (.cells #[.slice (some a5) N c5, .bool f] 87)) := by
  obtain ⟨g, rfl⟩ := owm_addr' ho
  have hlt := ow_lt ho ⟨g, 0, none⟩ rfl
  have h5 := hu.size
  have h6 := hs.size
  have hlt1 : V.heap.size ≤ g := hlt.1
  have hlt2 : g < w5.heap.size := hlt.2
  refine ⟨fun k => k = U.heap.size ∨ k = g, ⟨some ⟨g, 0, none⟩, c5, f, ?_, hf⟩, ((hs.trans ht).trans hu).alloc _, fun k hk => ?_⟩
  · rw [← hN]
    refine ⟨(· = U.heap.size), (· = g), ⟨Blk.new U [.slice (some ⟨g, 0, none⟩) N c5, .bool f] 87, fun _ => Iff.rfl⟩, ⟨ow_base (ow_still ho (hu.alloc _)) (Nat.zero_le _), fun k => ⟨fun h => by rw [h]; rfl, fun h => by cases h; rfl⟩⟩, fun k h1 h2 => by omega, fun _ => Iff.rfl⟩
  · rcases hk with hk | hk
    · have := ht.size; omega
    · omega

set_option maxHeartbeats 4000000 in
theorem lgcopy_any (h : (lgT q M).at_ w W) (hM : M.Ok) :
    Calls Try.prog 51 #[.pointer (some ⟨q, 0, none⟩)] w fun e w' => ∃ q', e = .returned (.pointer (some ⟨q', 0, none⟩)) ∧ LNew lgT w M q' w' := by
  obtain ⟨a, c, f, h, hf⟩ := h
  have hr := lgX_rd rfl h
  obtain ⟨N, hN⟩ : ∃ N, N = M.L.length + 1 := ⟨_, rfl⟩
  rw [← hN] at hr
  have hn : N ≤ 257 := by have := hM.len; omega
  have HMd := Lib.hid (lgmade_any hr.c0 (by omega))
  obtain ⟨g, rfl, _⟩ := hr.row 0 _ rfl
  have HR := Lib.hid (fun V (hs : Still w V) => (⟨(hr.still hs).c0, (hr.still hs).c1⟩ : V.cell? ⟨q, 0, none⟩ = some (.slice (some ⟨g, 0, none⟩) N c) ∧ V.cell? ⟨q, 1, none⟩ = some (.bool f)))
  have HC := Lib.hid (fun V (hs : Still w V) => show Calls Try.prog 72 #[.slice (some ⟨g, 0, none⟩) N c] V fun e w' => ∃ a5 c5, e = .returned (.slice (some a5) N c5) ∧ V.heap.size ≤ w'.heap.size ∧ Still w w' ∧ Hid (∀ U, Still w' U → LNew lgT w M U.heap.size (U.alloc (.cells #[.slice (some a5) N c5, .bool f] 87))) from
    (clone_ints V ⟨g, 0, none⟩ (marks M) N c (by rw [marks_len]; exact hN) (fun i x hx => by
      obtain ⟨g', eg, h1⟩ := (hr.still hs).row i x hx
      cases eg
      exact ⟨g, 0, rfl, by rw [Nat.zero_add]; exact h1⟩) (by omega)).mono fun e w' ⟨a5, c5, he, ho, ht⟩ => ⟨a5, c5, he, ht.size, hs.trans ht, Lib.hid (fun U hu => lgcopied hN hf hs ho ht hu)⟩)
  have hT0 : Still w w := Turned.refl _ _
  have hTd : Still w w.drew := hT0.drew
  obtain ⟨c0, c1⟩ := HR.out w hT0
  clear h hr hM hN hf
  go_enter Try.func51, Try.ntmps51
  go_wp2_with (go_at_call 52; ((with_reducible refine HMd.out.mono ?_)); rintro e w1 ⟨rfl, rfl⟩)
  go_region_held3 (fun V => V.cell? ⟨q, 0, none⟩ = some (.slice (some ⟨g, 0, none⟩) N c) ∧ V.cell? ⟨q, 1, none⟩ = some (.bool f)) (first | assumption | exact ⟨by assumption, by assumption⟩ | go_keep)
    (first | (go_at_call 72; ((with_reducible refine (HC.out _ (by assumption)).mono ?_)); rintro e w5 ⟨a5, c5, rfl, hz5, hs5, HN5⟩; obtain ⟨d0, d1⟩ := HR.out w5 hs5))
  go_wp2_with fail
  go_ret
  exact ⟨_, rfl, HN5.out _ (Turned.refl _ _)⟩
end
end Go.Proofs.Ytdlkdagmaeapdaa
