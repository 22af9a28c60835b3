/- What the statements of layer 5 want of the program's pool, told of the plain pool: one word for each call. The words are shown of the program in another text. No condition. -/
import Derived.Test.YtbljjmehjkmjaaaGreatBdPoolZ
import Derived.Test.YtbljjmehjkmjaaaGreatHeld
namespace Go.Proofs.YtbljjmehjkmjaaaGreat
open Go.RowKit
set_option linter.unusedVariables false
set_option maxRecDepth 100000

/-- A new pool. -/
def PNew (PT : Nat → PM → Thing) (w : World) (n size : Nat) (e : Ending) (w' : World) : Prop :=
  ∃ q, e = .returned (.tuple #[.pointer (some ⟨q, 0, none⟩), .int .i64 0]) ∧ ∃ W, (PT q (PM.new n size)).at_ w' W ∧ Still w w' ∧ ∀ k, W k → w.heap.size ≤ k

/-- Numbers that are handed out. -/
def GotNums (w : World) (l : List Int) (n : Nat) (e : Ending) (w' : World) : Prop := ∃ a c, e = .returned (.slice a n c) ∧ w'.ownsRow w.heap.size 3 1 (.slice a n c) n (ints l) ∧ Still w w'

def cntOf (M : PM) (k : Int) : Int := if 0 ≤ k ∧ k < M.sl.length then ((M.sl[k.toNat]?.getD ⟨0, 0, []⟩).c : Int) else 0
def genOf (M : PM) (k : Int) : Int := if 0 ≤ k ∧ k < M.sl.length then ((M.sl[k.toNat]?.getD ⟨0, 0, []⟩).g : Int) else 0

structure PoolApi (PT : Nat → PM → Thing) : Prop where
  make_no : ∀ (n s : Int) (w : World), i64 n → i64 s → ¬ (1 ≤ n ∧ n ≤ 128 ∧ 1 ≤ s ∧ s ≤ 256) → Calls Tryz.prog 21 #[.int .i64 n, .int .i64 s] w fun e w' => e = .returned (.tuple #[.pointer none, .int .i64 2]) ∧ Still w w'
  make_ok : ∀ (n s : Nat) (w : World), 1 ≤ n → n ≤ 128 → 1 ≤ s → s ≤ 256 → Calls Tryz.prog 21 #[.int .i64 n, .int .i64 s] w (PNew PT w n s)
  take : ∀ {w : World} {W : Nat → Prop} {q : Nat} {M : PM} {N : Nat}, (PT q M).at_ w W → M.Ok N → N < 1000000 → ∀ n : Int, i64 n →
    Calls Tryz.prog 58 #[.pointer (some ⟨q, 0, none⟩), .int .i64 n] w fun e w' => e = .returned (.tuple #[.int .i64 (M.takeH n), .int .i64 (M.takeE n)]) ∧ Goes (PT q (M.takeM n)) W w w'
  fill : ∀ {w : World} {W : Nat → Prop} {q : Nat} {M : PM} {N : Nat}, (PT q M).at_ w W → M.Ok N → N < 1000000 → ∀ (h : Int), i64 h → ∀ (ao : Option Addr) (b : List UInt8) (m cap : Nat), m = b.length → BytesAt w ao b → b.length ≤ 70368744177664 → m ≤ cap → cap ≤ maxLen → (ao = none → cap = 0) →
    Calls Tryz.prog 65 #[.pointer (some ⟨q, 0, none⟩), .int .i64 h, .slice ao m cap] w fun e w' => e = .returned (.int .i64 (M.fillE h b)) ∧ Goes (PT q (M.fillM h b)) W w w'
  keep : ∀ {w : World} {W : Nat → Prop} {q : Nat} {M : PM} {N : Nat}, (PT q M).at_ w W → M.Ok N → N < 1000000 → ∀ h : Int, i64 h →
    Calls Tryz.prog 71 #[.pointer (some ⟨q, 0, none⟩), .int .i64 h] w fun e w' => e = .returned (.int .i64 (M.err h)) ∧ Goes (PT q (M.keepM h)) W w w'
  drop : ∀ {w : World} {W : Nat → Prop} {q : Nat} {M : PM} {N : Nat}, (PT q M).at_ w W → M.Ok N → N < 1000000 → ∀ h : Int, i64 h →
    Calls Tryz.prog 33 #[.pointer (some ⟨q, 0, none⟩), .int .i64 h] w fun e w' => e = .returned (.tuple #[.int .i64 (M.dropN h), .int .i64 (M.err h)]) ∧ Goes (PT q (M.dropM h)) W w w'
  bytes : ∀ {w : World} {W : Nat → Prop} {q : Nat} {M : PM} {N : Nat}, (PT q M).at_ w W → M.Ok N → N < 1000000 → ∀ h : Int, i64 h →
    Calls Tryz.prog 45 #[.pointer (some ⟨q, 0, none⟩), .int .i64 h] w (GotBytes w (M.bytes h) (M.err h))
  count : ∀ {w : World} {W : Nat → Prop} {q : Nat} {M : PM} {N : Nat}, (PT q M).at_ w W → M.Ok N → N < 1000000 → ∀ k : Int, i64 k →
    Calls Tryz.prog 15 #[.pointer (some ⟨q, 0, none⟩), .int .i64 k] w fun e w' => e = .returned (.int .i64 (cntOf M k)) ∧ Still w w'
  gen : ∀ {w : World} {W : Nat → Prop} {q : Nat} {M : PM} {N : Nat}, (PT q M).at_ w W → M.Ok N → N < 1000000 → ∀ k : Int, i64 k →
    Calls Tryz.prog 112 #[.pointer (some ⟨q, 0, none⟩), .int .i64 k] w fun e w' => e = .returned (.int .i64 (genOf M k)) ∧ Still w w'
  free : ∀ {w : World} {W : Nat → Prop} {q : Nat} {M : PM} {N : Nat}, (PT q M).at_ w W → M.Ok N → N < 1000000 → ∀ n : Nat, n = M.fr.length →
    Calls Tryz.prog 14 #[.pointer (some ⟨q, 0, none⟩)] w (GotNums w (nums M.fr) n)
  slots : ∀ {w : World} {W : Nat → Prop} {q : Nat} {M : PM} {N : Nat}, (PT q M).at_ w W → M.Ok N → N < 1000000 →
    Calls Tryz.prog 43 #[.pointer (some ⟨q, 0, none⟩)] w fun e w' => e = .returned (.int .i64 M.sl.length) ∧ Still w w'
  size : ∀ {w : World} {W : Nat → Prop} {q : Nat} {M : PM} {N : Nat}, (PT q M).at_ w W → M.Ok N → N < 1000000 →
    Calls Tryz.prog 85 #[.pointer (some ⟨q, 0, none⟩)] w fun e w' => e = .returned (.int .i64 M.size) ∧ Still w w'

/-- HasInt. -/
theorem hasInt_any (w : World) (ao : Option Addr) (l : List Int) (n cap : Nat) (x : Int) (hn : n = l.length) (hmax : n ≤ 4611686018427387904) (hA : NumsAt w ao l) :
    Calls Tryz.prog 16 #[.slice ao n cap, .int .i64 x] w fun e w' => e = .returned (.bool (decide (x ∈ l))) ∧ w = w' := by
  have HA := Lib.hid hA
  have HN := Lib.hid hn
  clear hA hn
  go_enter Tryz.func16, Tryz.ntmps16
  go_wp2
  go_loopw [5] (fun i wr => ∃ k : Nat, k ≤ n ∧ i = .int .i64 k ∧ x ∉ l.take k ∧ w = wr) (fun i _ => n - (intOf i).toNat)
  case atStart => exact ⟨0, Nat.zero_le _, rfl, by simp, rfl⟩
  case round =>
    obtain ⟨k, hk, rfl, hno, hw⟩ := hrel
    subst hw
    have HNO := Lib.hid hno
    clear hno
    by_cases hlt : k < n
    · obtain ⟨y, hy⟩ := get_some (l := l) (i := k) (by rw [← HN.out]; exact hlt)
      obtain ⟨b, o, rfl, hc⟩ := HA.out k y hy
      have HY := Lib.hid hy
      clear hy
      by_cases hxy : y = x
      · have HR := Lib.hid (show decide (x ∈ l) = true by rw [decide_eq_true_eq, ← hxy]; exact List.mem_of_getElem? HY.out)
        subst hxy
        go_wp2
        go_ret
        exact ⟨ret_bool HR.out.symm, rfl⟩
      · have hb : (y == x) = false := by rw [beq_eq_false_iff_ne]; exact hxy
        have HXY := Lib.hid hxy
        clear hxy
        go_wp2
        go_roundw
        case rel =>
          refine ⟨k + 1, by omega, by go_num, ?_, trivial⟩
          rw [take_step HY.out]
          simp only [List.mem_append, List.mem_singleton, not_or]
          exact ⟨HNO.out, fun e => HXY.out e.symm⟩
        case measure => simp [intOf]; omega
    · obtain rfl : k = n := by omega
      have HR := Lib.hid (show decide (x ∈ l) = false by
        rw [decide_eq_false_iff_not]
        have := HNO.out
        rwa [List.take_of_length_le (by rw [HN.out]; exact Nat.le_refl _)] at this)
      go_wp2
      go_ret
      exact ⟨ret_bool HR.out.symm, rfl⟩
end Go.Proofs.YtbljjmehjkmjaaaGreat
