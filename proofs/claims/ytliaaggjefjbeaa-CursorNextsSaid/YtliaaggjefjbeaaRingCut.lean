/- What cut of the program's ring does: the first so many places go off the window. No condition but that there are so many. -/
import Derived.Test.YtliaaggjefjbeaaRingDo
namespace Go.Proofs.Ytliaaggjefjbeaa
open Go.RowKit
set_option linter.unusedVariables false
set_option linter.unusedSimpArgs false
set_option maxRecDepth 100000

theorem RgIn.cutN {w : World} {W : Nat → Prop} {q lc pc n h : Nat} {la pa : Option Addr} {ov : Bool} {R : List Int} {D : List Bool} (H : RgIn w W q la lc pa pc n ov h R D) (c m d : Nat) (hR : c ≤ R.length) (hD : c ≤ D.length) (hm : m = R.length - c) (hd : d = D.length - c) :
    RgIn (((w.setCell ⟨q, 3, none⟩ (.slice (if lc = c then la else la.map (fun x => x.add c)) m (lc - c))).setCell ⟨q, 4, none⟩ (.slice (if pc = c then pa else pa.map (fun x => x.add c)) d (pc - c))).setCell ⟨q, 2, none⟩ (.int .i64 ((h : Int) + (c : Int))))
      W q (if lc = c then la else la.map (fun x => x.add c)) (lc - c) (if pc = c then pa else pa.map (fun x => x.add c)) (pc - c) n ov (h + c) (R.drop c) (D.drop c) := by
  have h1 := H.ls.drop hR
  have h2 := H.setR (w' := w) (la' := if lc = c then la else la.map (fun x => x.add c)) (lc' := lc - c) (m := m) (R' := R.drop c) (by rw [List.length_drop]; exact hm) (Turned.refl _ _) (by rw [hm]; simpa [ints, List.map_drop] using h1) (fun k hk => .inl (Part.drop_pb hk))
  have h3 := h2.ps.drop hD
  have h4 := h2.setP (w' := w.setCell ⟨q, 3, none⟩ (.slice (if lc = c then la else la.map (fun x => x.add c)) m (lc - c))) (pa' := if pc = c then pa else pa.map (fun x => x.add c)) (pc' := pc - c) (m := d) (D' := D.drop c) (by rw [List.length_drop]; exact hd) (Turned.refl _ _) (by rw [hd]; simpa [bools, List.map_drop] using h3) (fun k hk => .inl (Part.drop_pb hk))
  have h5 := h4.setH (h + c)
  rw [show ((h + c : Nat) : Int) = (h : Int) + (c : Int) by omega] at h5
  refine h5.less H.own (fun k hk => (H.lW k (Part.drop_pb hk)).1) (fun k hk => (H.pW k (Part.drop_pb hk)).1) (fun k hk => ?_)
  have := H.lt k hk
  simpa [World.setCell] using this

set_option maxHeartbeats 1000000 in
theorem rcut_any {w : World} {W : Nat → Prop} {q lc pc n h : Nat} {la pa : Option Addr} {ov : Bool} {R : List Int} {D : List Bool} (H : RgIn w W q la lc pa pc n ov h R D) (c : Nat) (hR : c ≤ R.length) (hD : c ≤ D.length) (h64 : R.length ≤ 64) (hD64 : D.length ≤ 64) (hh : h < 1000000) :
    Calls Try.prog 42 #[.pointer (some ⟨q, 0, none⟩), .int .i64 c] w fun e w' => e = .returned (.slice la c c) ∧ (∃ la' pa', RgIn w' W q la' (lc - c) pa' (pc - c) n ov (h + c) (R.drop c) (D.drop c)) ∧ Turned (· = q) w w' := by
  obtain ⟨_, _, c2, c3, c4⟩ := H.cells
  have f2 := H.hd.free 2
  have f3 := H.hd.free 3
  have f4 := H.hd.free 4
  have hl := H.ls.le
  have hp := H.ps.le
  obtain ⟨m, hm⟩ : ∃ m, m = R.length := ⟨_, rfl⟩
  obtain ⟨d, hd⟩ : ∃ d, d = D.length := ⟨_, rfl⟩
  have HP := Lib.hid (H.cutN c (m - c) (d - c) hR hD (by rw [hm]) (by rw [hd]))
  rw [← hm] at c3 hl hR h64
  rw [← hd] at c4 hp hD hD64
  have hc1 : (c : Int) ≤ (m : Int) := by omega
  have hc2 : (c : Int) ≤ (d : Int) := by omega
  have hh1 : (h : Int) < 1000000 := by omega
  have hh0 : (0 : Int) ≤ (h : Int) := by omega
  have hT : ∀ u v x, Turned (· = q) w (((w.setCell ⟨q, 3, none⟩ u).setCell ⟨q, 4, none⟩ v).setCell ⟨q, 2, none⟩ x) := fun u v x => turned_set (turned_set (turned_set (Turned.refl _ _) _ _) _ _) _ _
  have HT := Lib.hid hT
  clear H hm hd hT
  by_cases e1 : lc = c
  · subst e1
    obtain rfl : m = lc := by omega
    rw [if_pos rfl, Nat.sub_self] at HP; rw [Nat.sub_self]
    by_cases e2 : pc = m
    · subst e2
      obtain rfl : d = pc := by omega
      rw [if_pos rfl, Nat.sub_self] at HP; rw [Nat.sub_self]
      go_enter Try.func42, Try.ntmps42
      go_wp2_with fail
      go_ret
      exact ⟨rfl, ⟨_, _, HP.out⟩, HT.out _ _ _⟩
    · rw [if_neg e2] at HP
      go_enter Try.func42, Try.ntmps42
      go_wp2_with fail
      go_ret
      exact ⟨rfl, ⟨_, _, HP.out⟩, HT.out _ _ _⟩
  · rw [if_neg e1] at HP
    by_cases e2 : pc = c
    · subst e2
      obtain rfl : d = pc := by omega
      rw [if_pos rfl, Nat.sub_self] at HP; rw [Nat.sub_self]
      go_enter Try.func42, Try.ntmps42
      go_wp2_with fail
      go_ret
      exact ⟨rfl, ⟨_, _, HP.out⟩, HT.out _ _ _⟩
    · rw [if_neg e2] at HP
      go_enter Try.func42, Try.ntmps42
      go_wp2_with fail
      go_ret
      exact ⟨rfl, ⟨_, _, HP.out⟩, HT.out _ _ _⟩
end Go.Proofs.Ytliaaggjefjbeaa
