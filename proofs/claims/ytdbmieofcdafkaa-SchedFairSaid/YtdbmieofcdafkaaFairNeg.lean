/- Picks in turn, so many times at most, for a number below 0: no pick at all. No condition but that the machine was made by Make. -/
import Derived.Test.YtdbmieofcdafkaaSchedFair
namespace Go.Proofs.Ytdbmieofcdafkaa
open Go.RowKit Go.Shelf
attribute [local go_sem] Oper.semAt_some
set_option linter.unusedVariables false
set_option maxRecDepth 100000

theorem turns1_neg (n : Nat) (hn : 1 ≤ n) (l Bm Bt n₀ : Nat) (S : Nat → Prop) (most : Int) (hneg : most < 0)
    (J Jx : List Int → World → Prop) (W : World) (hJ : AbidesFrom W.heap.size J)
    (hBt : W.cell? ⟨Bt, 0, none⟩ = some (.int .i64 most)) (h0 : J [] W) :
    CallsIn Fence.wide n Try.prog 74 #[.func (.yield l) #[] #[], .pointer (some ⟨Bt, 0, none⟩), .pointer (some ⟨Bm, 0, none⟩)] W fun e W' => (∃ v, e = .returned v) ∧
      ((∃ ys, ys = ([] : List Int) ∧ J ys W') ∨ (∃ pre, pre <+: ([] : List Int) ∧ Jx pre W')) := by
  have HJ := Lib.hid hJ
  have H0 := Lib.hid h0
  clear hJ h0
  refine callsIn_of_wp Try.func74 rfl trivial ?_ rfl
  simp only [Try.ntmps74, List.size_toArray, List.length_cons, List.length_nil, Nat.reduceAdd, Nat.reduceSub, Array.replicate_succ, Array.replicate_zero, List.push_toArray, List.append_toArray, List.nil_append, List.cons_append]
  gi_wp2
  gi_loopw [4, 6] (fun pk i wr => i = .int .i64 0 ∧ wr = W) (fun pk i _ => 0)
  case atStart => exact ⟨rfl, rfl⟩
  case round =>
    obtain ⟨rfl, rfl⟩ := hrel
    have hle : ¬ ((0 : Int) < most) := by omega
    gi_wp2
    go_end0
    exact ⟨⟨_, rfl⟩, .inl H0.out⟩

theorem turns_neg (n : Nat) (hn : 1 ≤ n) (Bm Bt n₀ : Nat) (S : Nat → Prop) (most : Int) (hneg : most < 0) (w : World)
    (hBt : w.cell? ⟨Bt, 0, none⟩ = some (.int .i64 most)) :
    SeqStopsK Fence.wide n Try.prog 74 #[.pointer (some ⟨Bt, 0, none⟩), .pointer (some ⟨Bm, 0, none⟩)] (fun x : Int => #[.int .i64 x]) (Kp S n₀) (fun ys => ys = []) (fun pre => pre <+: []) 0 w := fun l J Jx W hW hJ _ hY h0 =>
  turns1_neg n hn l Bm Bt n₀ S most hneg J Jx W hJ ((hW.cell (p := ⟨Bt, 0, none⟩) (cell_lt hBt)).trans hBt) h0

variable {w w' : World} {L : Lay} {M : Mach}

theorem fair_neg (H : SM w L M) (hhi : L.hi ≤ w.heap.size) (most : Int) (hneg : most < 0) :
    Calls Try.prog 17 #[.pointer (some ⟨L.hb, 0, none⟩), .int .i64 most] w fun e w' =>
      e = .returned (.tuple #[.int .i64 (M.cnt [] : Nat), .bool (M.run []).done]) ∧ SM w' L (M.run []) ∧ Turned L.W w w' := by
  have HT : Turned (fun _ => False) w ((w.alloc (.cells #[.pointer (some ⟨L.hb, 0, none⟩)] 25)).alloc (.cells #[.int .i64 most] 3)) := ((Turned.refl _ _).alloc _).alloc _
  have H1 := H.still HT
  have hc2 : ((w.alloc (.cells #[.pointer (some ⟨L.hb, 0, none⟩)] 25)).alloc (.cells #[.int .i64 most] 3)).cell? ⟨w.heap.size + 1, 0, none⟩ = some (.int .i64 most) := by
    have := (Boxed.new (w.alloc (.cells #[.pointer (some ⟨L.hb, 0, none⟩)] 25)) 3 (.int .i64 most)).cell
    rwa [World.size_alloc] at this
  have hsz : ((w.alloc (.cells #[.pointer (some ⟨L.hb, 0, none⟩)] 25)).alloc (.cells #[.int .i64 most] 3)).heap.size = w.heap.size + 2 := by simp
  have HR := Lib.hid (run_any H1 (by omega) 74 #[.pointer (some ⟨w.heap.size + 1, 0, none⟩), .pointer (some ⟨w.heap.size, 0, none⟩)] [] 0 (by omega) (enters_of Try.func74 (by kernel_rfl) rfl)
    (turns_neg 2 (by omega) w.heap.size (w.heap.size + 1) ((w.alloc (.cells #[.pointer (some ⟨L.hb, 0, none⟩)] 25)).alloc (.cells #[.int .i64 most] 3)).heap.size L.W most hneg _ hc2))
  have HTT := Lib.hid (HT.mono (T := L.W) (fun _ _ h => h.elim))
  clear H H1 hc2 hsz HT
  generalize M.cnt [] = c at *
  generalize M.run [] = M' at *
  go_enter Try.func17, Try.ntmps17
  go_wp2_with fail
  refine (turns_any _ _ _).mono ?_
  rintro e w1 ⟨rfl, rfl⟩
  go_wp2_with fail
  refine HR.out.mono ?_
  rintro e w2 ⟨rfl, hM, hT⟩
  have HM := Lib.hid hM
  have HT2 := Lib.hid (HTT.out.trans hT)
  have HA := Lib.hid (allOver_any hM)
  clear hM hT HR
  go_wp2_with fail
  refine HA.out.mono ?_
  rintro e w3 ⟨rfl, q, rfl⟩
  go_wp2_with fail
  go_ret2
  exact ⟨rfl, HM.out.drewN q, HT2.out.drewN q⟩

def FairPost (w : World) (L : Lay) (M : Mach) (xs : List Int) (e : Ending) (w' : World) : Prop :=
  e = .returned (.tuple #[.int .i64 (M.cnt xs : Nat), .bool (M.run xs).done]) ∧ SM w' L (M.run xs) ∧ Turned L.W w w'

theorem fair_all (H : SM w L M) (hhi : L.hi ≤ w.heap.size) (most : Int) (hmax : most ≤ 4611686018427387904) :
    Calls Try.prog 17 #[.pointer (some ⟨L.hb, 0, none⟩), .int .i64 most] w (FairPost w L M (fairL M.ss.length most.toNat)) := by
  by_cases h : most < 0
  · rw [show most.toNat = 0 by omega]
    exact fair_neg H hhi most h
  · obtain ⟨k, rfl⟩ : ∃ k : Nat, most = k := ⟨most.toNat, by omega⟩
    exact fair_any H hhi k (by omega)
end Go.Proofs.Ytdbmieofcdafkaa
