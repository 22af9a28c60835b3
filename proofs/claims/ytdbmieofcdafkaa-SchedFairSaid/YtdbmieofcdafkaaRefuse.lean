/- Whether package sched takes a program: too long, an instruction that is not right, or taken. No condition but that the program reads as its instructions. -/
import Derived.Test.YtdbmieofcdafkaaRight
namespace Go.Proofs.Ytdbmieofcdafkaa
open Go.RowKit
set_option linter.unusedVariables false
set_option maxRecDepth 100000

def refuseV (p : List Ins) (c : Int) : Int := if 64 < p.length then 3 else if p.all (fun i => rightB i c p.length) then 0 else 5

theorem refuse_any (x : Sl Ins) (c : Int) (w : World) (hx : ProgOk w x) :
    Calls Try.prog 34 #[.slice x.a x.len x.cap, .int .i64 c] w fun e w' => e = .returned (.int .i64 (refuseV x.xs c)) ∧ Still w w' := by
  obtain ⟨a, len, cap, xs⟩ := x
  have hlen : xs.length = len := hx.len
  have hrow : RowAt insEnc 4 w a xs := hx.row
  have hmax : len ≤ 4611686018427 := hx.max
  dsimp only at hmax ⊢
  clear hx
  by_cases h64 : 64 < len
  · rw [show refuseV xs c = 3 by unfold refuseV; rw [if_pos (by omega)]]
    clear hlen hrow
    go_enter Try.func34, Try.ntmps34
    go_wp2_with fail
    go_ret
    exact ⟨rfl, Turned.refl _ _⟩
  · have HV := Lib.hid (show refuseV xs c = if xs.all (fun i => rightB i c xs.length) then 0 else 5 by unfold refuseV; rw [if_neg (by omega)])
    have HL := Lib.hid hlen
    have HR := Lib.hid hrow
    have hle : len ≤ 64 := by omega
    clear hlen hrow h64 hmax
    generalize refuseV xs c = rv at *
    go_enter Try.func34, Try.ntmps34
    go_wp2_with fail
    go_loopw [12] (fun i wr => ∃ k : Nat, k ≤ len ∧ i = .int .i64 k ∧ (xs.take k).all (fun i => rightB i c xs.length) = true ∧ Still w wr) (fun i _ => len - (intOf i).toNat)
    case atStart => exact ⟨0, Nat.zero_le _, rfl, by simp, Turned.refl _ _⟩
    case round =>
      obtain ⟨k, hk, rfl, hall, hT⟩ := hrel
      have HA := Lib.hid hall
      clear hall
      by_cases hlt : k < len
      · obtain ⟨i, hi⟩ := get_some (l := xs) (i := k) (by rw [HL.out]; exact hlt)
        obtain ⟨b, o, rfl, hc⟩ := HR.out k i hi
        have c0 : wr.cell? ⟨b, o + k * 4, none⟩ = some (.int .i64 i.op) := still_cell hT (hc 0 _ rfl) (by omega)
        have c1 : wr.cell? ⟨b, o + k * 4 + 1, none⟩ = some (.int .i64 i.cell) := still_cell hT (hc 1 _ rfl) (by omega)
        have c2 : wr.cell? ⟨b, o + k * 4 + 2, none⟩ = some (.int .i64 i.a) := still_cell hT (hc 2 _ rfl) (by omega)
        have c3 : wr.cell? ⟨b, o + k * 4 + 3, none⟩ = some (.int .i64 i.b) := still_cell hT (hc 3 _ rfl) (by omega)
        have HI := Lib.hid hi
        have HT := Lib.hid (hT.alloc (.cells #[.int .i64 i.op, .int .i64 i.cell, .int .i64 i.a, .int .i64 i.b] 70))
        have HG := Lib.hid (fun W => right_any i c len hle W)
        have hv : Hid (rightB i c xs.length = rightB i c len) := Lib.hid (by rw [HL.out])
        cases hr : rightB i c len with
        | true =>
          rw [hr] at HG hv
          clear hi hc hr hT
          obtain ⟨op, ce, a, bb⟩ := i
          unfold Ins.val at HG
          dsimp only at HG c0 c1 c2 c3 HT
          go_wp2_with fail
          refine (HG.out _).mono ?_
          rintro e w' ⟨rfl, hT2⟩
          have HT2 := Lib.hid (HT.out.trans hT2)
          clear hT2
          go_wp2_with fail
          go_roundw
          case rel =>
            refine ⟨k + 1, by omega, by go_num, ?_, HT2.out⟩
            rw [List.take_add_one, HI.out, List.all_append, HA.out]
            simp [hv.out]
          case measure => simp [intOf]; omega
        | false =>
          rw [hr] at HG hv
          clear hi hc hr hT
          obtain ⟨op, ce, a, bb⟩ := i
          unfold Ins.val at HG
          dsimp only at HG c0 c1 c2 c3 HT
          go_wp2_with fail
          refine (HG.out _).mono ?_
          rintro e w' ⟨rfl, hT2⟩
          have HT2 := Lib.hid (HT.out.trans hT2)
          clear hT2
          go_wp2_with fail
          go_ret
          refine ⟨ret_int ?_, HT2.out⟩
          rw [HV.out, if_neg]
          intro h
          rw [List.all_eq_true] at h
          have := h _ (List.mem_of_getElem? HI.out)
          rw [hv.out] at this
          cases this
      · obtain rfl : k = len := by omega
        have HT := Lib.hid hT
        clear hT
        go_wp2_with fail
        go_ret
        refine ⟨ret_int ?_, HT.out⟩
        have h1 := HA.out
        rw [List.take_of_length_le (by rw [HL.out]; omega)] at h1
        rw [HV.out, if_pos h1]
end Go.Proofs.Ytdbmieofcdafkaa
