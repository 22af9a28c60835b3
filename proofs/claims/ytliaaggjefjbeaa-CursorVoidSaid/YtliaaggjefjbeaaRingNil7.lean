/- The program's ring that no call made: what the calls answer that layers above it use. No condition. (Out of XRingNil.) -/
import Derived.Test.YtliaaggjefjbeaaRingDo
import Derived.Shelf.RegionOpen
import Derived.OrdersIn
namespace Go.Proofs.Ytliaaggjefjbeaa
open Go.RowKit Go.Shelf
attribute [local go_sem] Oper.semAt_some
set_option linter.unusedVariables false
set_option linter.unusedSimpArgs false
set_option maxRecDepth 100000

/-- A pointer to a ring that no call made. -/
def NilR (p : Option Addr) (W : World) : Prop := p = none ∨ ∃ b, p = some ⟨b, 0, none⟩ ∧ Blk W b [.int .i64 0, .int .i64 0, .int .i64 0, .slice none 0 0, .slice none 0 0] 63
theorem NilR.still {p : Option Addr} {W W' : World} (h : NilR p W) (ht : Still W W') : NilR p W' := by
  rcases h with rfl | ⟨b, rfl, hb⟩
  · exact .inl rfl
  · exact .inr ⟨b, rfl, hb.turned ht (fun h => h)⟩

theorem nrmade_in (F : Fence) (n : Nat) {p : Option Addr} {W : World} (hp : NilR p W) (h : F.fn 43) (hro : F.round = none) :
    CallsIn F n Try.prog 43 #[.pointer p] W fun e w' => e = .returned (.bool false) ∧ W = w' := by
  refine callsIn_of_wp Try.func43 rfl h ?_ hro
  simp only [Try.ntmps43, List.size_toArray, List.length_cons, List.length_nil, Nat.reduceAdd, Nat.reduceSub, Array.replicate_succ, Array.replicate_zero, List.push_toArray, List.append_toArray, List.nil_append, List.cons_append]
  rcases hp with rfl | ⟨b, rfl, hb⟩
  · gi_wp2
    go_ret
    exact ⟨rfl, rfl⟩
  · have c1 : W.cell? ⟨b, 0, none⟩ = some (.int .i64 0) := hb.cell rfl
    clear hb
    gi_wp2
    go_ret
    exact ⟨rfl, rfl⟩
theorem nrmade_any {p : Option Addr} {W : World} (hp : NilR p W) : Calls Try.prog 43 #[.pointer p] W fun e w' => e = .returned (.bool false) ∧ W = w' :=
  (callsIn_wide (n := 1)).1 (nrmade_in Fence.wide 1 hp trivial rfl)

section
variable {p : Option Addr} {W : World}

theorem nrhead (hp : NilR p W) : Calls Try.prog 31 #[.pointer p] W fun e w' => e = .returned (.int .i64 0) ∧ Still W w' := by
  have HM := Lib.hid (nrmade_any hp)
  clear hp
  go_enter Try.func31, Try.ntmps31
  go_wp2_with (go_at_call 43; refine HM.out.mono ?_; rintro e w' ⟨rfl, rfl⟩)
  go_ret
  exact ⟨rfl, Turned.refl _ _⟩

theorem nrtail (hp : NilR p W) : Calls Try.prog 29 #[.pointer p] W fun e w' => e = .returned (.int .i64 0) ∧ Still W w' := by
  have HM := Lib.hid (nrmade_any hp)
  clear hp
  go_enter Try.func29, Try.ntmps29
  go_wp2_with (go_at_call 43; refine HM.out.mono ?_; rintro e w' ⟨rfl, rfl⟩)
  go_ret
  exact ⟨rfl, Turned.refl _ _⟩

theorem nrroom (hp : NilR p W) : Calls Try.prog 46 #[.pointer p] W fun e w' => e = .returned (.int .i64 0) ∧ Still W w' := by
  have HM := Lib.hid (nrmade_any hp)
  clear hp
  go_enter Try.func46, Try.ntmps46
  go_wp2_with (go_at_call 43; refine HM.out.mono ?_; rintro e w' ⟨rfl, rfl⟩)
  go_ret
  exact ⟨rfl, Turned.refl _ _⟩

theorem nrrefuse (n : Int) (hp : NilR p W) : Calls Try.prog 44 #[.pointer p, .int .i64 n] W fun e w' => e = .returned (.int .i64 1) ∧ W = w' := by
  have HM := Lib.hid (nrmade_any hp)
  clear hp
  go_enter Try.func44, Try.ntmps44
  go_wp2_with (go_at_call 43; refine HM.out.mono ?_; rintro e w' ⟨rfl, rfl⟩)
  go_ret
  exact ⟨rfl, rfl⟩

theorem nrget (n : Int) (hp : NilR p W) : Calls Try.prog 38 #[.pointer p, .int .i64 n] W fun e w' => e = .returned (.tuple #[.int .i64 0, .int .i64 1]) ∧ Still W w' := by
  have HM := Lib.hid (nrrefuse n hp)
  clear hp
  go_enter Try.func38, Try.ntmps38
  go_wp2_with (go_at_call 44; refine HM.out.mono ?_; rintro e w' ⟨rfl, rfl⟩)
  go_ret2
  exact ⟨rfl, Turned.refl _ _⟩

end
end Go.Proofs.Ytliaaggjefjbeaa
