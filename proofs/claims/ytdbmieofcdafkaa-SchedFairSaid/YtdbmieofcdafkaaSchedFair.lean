/- What Run and Fair of package sched do: the plain machine's steps of the picks, of the turns. Conditions: the machine was made by Make; the picks lie outside it. -/
import Derived.Test.YtdbmieofcdafkaaSchedRun
namespace Go.Proofs.Ytdbmieofcdafkaa
open Go.RowKit Go.Shelf
set_option linter.unusedVariables false
set_option maxRecDepth 100000
variable {w w' : World} {L : Lay} {M : Mach}

theorem mrun_any (H : SM w L M) (hhi : L.hi ≤ w.heap.size) (a : Option Addr) (len cap : Nat) (xs : List Int) (hlen : xs.length = len) (hmax : len ≤ 4611686018427387904)
    (hS : xs ≠ [] → ∀ x, a = some x → ¬ L.W x.block) (hX : NumsAt w a xs) :
    Calls Try.prog 38 #[.pointer (some ⟨L.hb, 0, none⟩), .slice a len cap] w fun e w' => e = .returned (.int .i64 (M.cnt xs : Nat)) ∧ SM w' L (M.run xs) ∧ Turned L.W w w' := by
  have HT : Turned (fun _ => False) w (w.alloc (.cells #[.slice a len cap] 23)) := (Turned.refl _ _).alloc _
  have H1 := H.still HT
  have hX1 : NumsAt (w.alloc (.cells #[.slice a len cap] 23)) a xs := hX.still HT
  have hc : (w.alloc (.cells #[.slice a len cap] 23)).cell? ⟨w.heap.size, 0, none⟩ = some (.slice a len cap) := (Boxed.new w 23 (.slice a len cap)).cell
  have hsz : (w.alloc (.cells #[.slice a len cap] 23)).heap.size = w.heap.size + 1 := by simp
  have HR := Lib.hid (run_any H1 (by omega) 78 #[.pointer (some ⟨w.heap.size, 0, none⟩)] xs xs.length (by omega) (enters_of Try.func78 (by kernel_rfl) rfl)
    (values_stops Fence.wide 2 trivial rfl (by omega) w.heap.size (w.alloc (.cells #[.slice a len cap] 23)).heap.size L.W a len cap xs hlen hmax _
      (fun hne x hx => by
        intro h
        rcases h with h | h
        · exact hS hne x hx h
        · obtain ⟨z, hz⟩ := get_some (l := xs) (i := 0) (by cases xs with | nil => exact absurd rfl hne | cons _ _ => simp)
          obtain ⟨b, o, e, hcc⟩ := hX1 0 z hz
          have e : x = ⟨b, o, none⟩ := Option.some.inj (hx.symm.trans e)
          subst e
          have := cell_lt hcc
          exact absurd h (by dsimp only at this ⊢; omega)) hc hX1))
  have HT := Lib.hid (HT.mono (T := L.W) (fun _ _ h => h.elim))
  clear H H1 hX hX1 hc hS hsz
  go_enter Try.func38, Try.ntmps38
  go_wp2_with fail
  refine (values_any a len cap _).mono ?_
  rintro e w1 ⟨rfl, rfl⟩
  go_wp2_with fail
  refine HR.out.mono ?_
  rintro e w2 ⟨rfl, hM, hT⟩
  have HM := Lib.hid hM
  have HT2 := Lib.hid (HT.out.trans hT)
  clear hM hT HR
  go_wp2_with fail
  go_ret
  exact ⟨rfl, HM.out, HT2.out⟩

theorem fairL_len (n m : Nat) : (fairL n m).length = m := by unfold fairL; simp

theorem fair_any (H : SM w L M) (hhi : L.hi ≤ w.heap.size) (most : Nat) (hmax : most ≤ 4611686018427387904) :
    Calls Try.prog 17 #[.pointer (some ⟨L.hb, 0, none⟩), .int .i64 most] w fun e w' =>
      e = .returned (.tuple #[.int .i64 (M.cnt (fairL M.ss.length most) : Nat), .bool (M.run (fairL M.ss.length most)).done]) ∧ SM w' L (M.run (fairL M.ss.length most)) ∧ Turned L.W w w' := by
  have HT : Turned (fun _ => False) w ((w.alloc (.cells #[.pointer (some ⟨L.hb, 0, none⟩)] 25)).alloc (.cells #[.int .i64 most] 3)) := ((Turned.refl _ _).alloc _).alloc _
  have H1 := H.still HT
  have hc1 : ((w.alloc (.cells #[.pointer (some ⟨L.hb, 0, none⟩)] 25)).alloc (.cells #[.int .i64 most] 3)).cell? ⟨w.heap.size, 0, none⟩ = some (.pointer (some ⟨L.hb, 0, none⟩)) := ((Boxed.new w 25 _).alloc _).cell
  have hc2 : ((w.alloc (.cells #[.pointer (some ⟨L.hb, 0, none⟩)] 25)).alloc (.cells #[.int .i64 most] 3)).cell? ⟨w.heap.size + 1, 0, none⟩ = some (.int .i64 most) := by
    have := (Boxed.new (w.alloc (.cells #[.pointer (some ⟨L.hb, 0, none⟩)] 25)) 3 (.int .i64 (most : Int))).cell
    rwa [World.size_alloc] at this
  have hsz : ((w.alloc (.cells #[.pointer (some ⟨L.hb, 0, none⟩)] 25)).alloc (.cells #[.int .i64 most] 3)).heap.size = w.heap.size + 2 := by simp
  have i1 := H.i1
  have i4 := H.i4
  have hWlt : ∀ b, L.W b → b < L.hi := fun b hb => (H.W_in hb).2
  have HR := Lib.hid (run_any H1 (by omega) 74 #[.pointer (some ⟨w.heap.size + 1, 0, none⟩), .pointer (some ⟨w.heap.size, 0, none⟩)] (fairL M.ss.length most) most hmax (enters_of Try.func74 (by kernel_rfl) rfl)
    (turns_stops 2 (by omega) w.heap.size (w.heap.size + 1) ((w.alloc (.cells #[.pointer (some ⟨L.hb, 0, none⟩)] 25)).alloc (.cells #[.int .i64 most] 3)).heap.size L.W L M.ss.length most H.ok.n0 hmax H.ok.n1 _
      (fun h => h.elim (fun h => h.elim H.n5 H.n1) (fun h => by omega)) (fun h => h.elim (fun h => h.elim H.n6 H.n4) (fun h => by omega)) (fun h => h.elim (fun h => by have := hWlt _ h; omega) (fun h => by omega)) hc2 hc1 H1.nav))
  have HTT := Lib.hid (HT.mono (T := L.W) (fun _ _ h => h.elim))
  clear H H1 hc1 hc2 hsz i1 i4 hWlt HT
  generalize fairL M.ss.length most = xs at *
  generalize M.cnt xs = c at *
  generalize M.run xs = M' at *
  go_enter Try.func17, Try.ntmps17
  go_wp2_with fail
  refine (turns_any _ _ _).mono ?_
  rintro e w1 ⟨rfl, rfl⟩
  go_wp2_with fail
  refine HR.out.mono ?_
  rintro e w2 ⟨rfl, hM, hT⟩
  have HM := Lib.hid hM
  have HT2 := Lib.hid (HTT.out.trans hT)
  have HA := Lib.hid (allOver_any hM)
  clear hM hT HR
  go_wp2_with fail
  refine HA.out.mono ?_
  rintro e w3 ⟨rfl, q, rfl⟩
  go_wp2_with fail
  go_ret2
  exact ⟨rfl, HM.out.drewN q, HT2.out.drewN q⟩
end Go.Proofs.Ytdbmieofcdafkaa
