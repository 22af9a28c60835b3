/- What the statements of layer 5 want of the program's pool, told of the plain pool: one word for each call. The words are shown of the program in another text. No condition. -/
import Derived.Test.YtinfckoaphgmkaaPoolRefMake
namespace Go.Proofs.Ytinfckoaphgmkaa
open Go.RowKit
set_option linter.unusedVariables false
set_option maxRecDepth 100000

/-- A new pool. -/
def PNew (PT : Nat → PM → Thing) (w : World) (n size : Nat) (e : Ending) (w' : World) : Prop :=
  ∃ q, e = .returned (.tuple #[.pointer (some ⟨q, 0, none⟩), .int .i64 0]) ∧ ∃ W, (PT q (PM.new n size)).at_ w' W ∧ Still w w' ∧ ∀ k, W k → w.heap.size ≤ k

/-- Numbers that are handed out. -/
def GotNums (w : World) (l : List Int) (n : Nat) (e : Ending) (w' : World) : Prop := ∃ a c, e = .returned (.slice a n c) ∧ w'.ownsRow w.heap.size 3 1 (.slice a n c) n (ints l) ∧ Still w w'

def cntOf (M : PM) (k : Int) : Int := if 0 ≤ k ∧ k < M.sl.length then ((M.sl[k.toNat]?.getD ⟨0, 0, []⟩).c : Int) else 0
def genOf (M : PM) (k : Int) : Int := if 0 ≤ k ∧ k < M.sl.length then ((M.sl[k.toNat]?.getD ⟨0, 0, []⟩).g : Int) else 0

structure PoolApi (PT : Nat → PM → Thing) : Prop where
  make_no : ∀ (n s : Int) (w : World), i64 n → i64 s → ¬ (1 ≤ n ∧ n ≤ 128 ∧ 1 ≤ s ∧ s ≤ 256) → Calls Try.prog 9 #[.int .i64 n, .int .i64 s] w fun e w' => e = .returned (.tuple #[.pointer none, .int .i64 2]) ∧ Still w w'
  make_ok : ∀ (n s : Nat) (w : World), 1 ≤ n → n ≤ 128 → 1 ≤ s → s ≤ 256 → Calls Try.prog 9 #[.int .i64 n, .int .i64 s] w (PNew PT w n s)
  take : ∀ {w : World} {W : Nat → Prop} {q : Nat} {M : PM} {N : Nat}, (PT q M).at_ w W → M.Ok N → N < 1000000 → ∀ n : Int, i64 n →
    Calls Try.prog 14 #[.pointer (some ⟨q, 0, none⟩), .int .i64 n] w fun e w' => e = .returned (.tuple #[.int .i64 (M.takeH n), .int .i64 (M.takeE n)]) ∧ Goes (PT q (M.takeM n)) W w w'
  fill : ∀ {w : World} {W : Nat → Prop} {q : Nat} {M : PM} {N : Nat}, (PT q M).at_ w W → M.Ok N → N < 1000000 → ∀ (h : Int), i64 h → ∀ (ao : Option Addr) (b : List UInt8) (m cap : Nat), m = b.length → BytesAt w ao b → b.length ≤ 70368744177664 → m ≤ cap → cap ≤ maxLen → (ao = none → cap = 0) →
    Calls Try.prog 17 #[.pointer (some ⟨q, 0, none⟩), .int .i64 h, .slice ao m cap] w fun e w' => e = .returned (.int .i64 (M.fillE h b)) ∧ Goes (PT q (M.fillM h b)) W w w'
  keep : ∀ {w : World} {W : Nat → Prop} {q : Nat} {M : PM} {N : Nat}, (PT q M).at_ w W → M.Ok N → N < 1000000 → ∀ h : Int, i64 h →
    Calls Try.prog 19 #[.pointer (some ⟨q, 0, none⟩), .int .i64 h] w fun e w' => e = .returned (.int .i64 (M.err h)) ∧ Goes (PT q (M.keepM h)) W w w'
  drop : ∀ {w : World} {W : Nat → Prop} {q : Nat} {M : PM} {N : Nat}, (PT q M).at_ w W → M.Ok N → N < 1000000 → ∀ h : Int, i64 h →
    Calls Try.prog 21 #[.pointer (some ⟨q, 0, none⟩), .int .i64 h] w fun e w' => e = .returned (.tuple #[.int .i64 (M.dropN h), .int .i64 (M.err h)]) ∧ Goes (PT q (M.dropM h)) W w w'
  bytes : ∀ {w : World} {W : Nat → Prop} {q : Nat} {M : PM} {N : Nat}, (PT q M).at_ w W → M.Ok N → N < 1000000 → ∀ h : Int, i64 h →
    Calls Try.prog 23 #[.pointer (some ⟨q, 0, none⟩), .int .i64 h] w (GotBytes w (M.bytes h) (M.err h))
  count : ∀ {w : World} {W : Nat → Prop} {q : Nat} {M : PM} {N : Nat}, (PT q M).at_ w W → M.Ok N → N < 1000000 → ∀ k : Int, i64 k →
    Calls Try.prog 30 #[.pointer (some ⟨q, 0, none⟩), .int .i64 k] w fun e w' => e = .returned (.int .i64 (cntOf M k)) ∧ Still w w'
  gen : ∀ {w : World} {W : Nat → Prop} {q : Nat} {M : PM} {N : Nat}, (PT q M).at_ w W → M.Ok N → N < 1000000 → ∀ k : Int, i64 k →
    Calls Try.prog 31 #[.pointer (some ⟨q, 0, none⟩), .int .i64 k] w fun e w' => e = .returned (.int .i64 (genOf M k)) ∧ Still w w'
  free : ∀ {w : World} {W : Nat → Prop} {q : Nat} {M : PM} {N : Nat}, (PT q M).at_ w W → M.Ok N → N < 1000000 → ∀ n : Nat, n = M.fr.length →
    Calls Try.prog 27 #[.pointer (some ⟨q, 0, none⟩)] w (GotNums w (nums M.fr) n)
  slots : ∀ {w : World} {W : Nat → Prop} {q : Nat} {M : PM} {N : Nat}, (PT q M).at_ w W → M.Ok N → N < 1000000 →
    Calls Try.prog 28 #[.pointer (some ⟨q, 0, none⟩)] w fun e w' => e = .returned (.int .i64 M.sl.length) ∧ Still w w'
  size : ∀ {w : World} {W : Nat → Prop} {q : Nat} {M : PM} {N : Nat}, (PT q M).at_ w W → M.Ok N → N < 1000000 →
    Calls Try.prog 29 #[.pointer (some ⟨q, 0, none⟩)] w fun e w' => e = .returned (.int .i64 M.size) ∧ Still w w'

/-- A call that changes the first of two things that are held. -/
theorem Held.call {w0 w : World} {A R A' : Thing} (H : Held w0 w (A.sep R)) {f : FuncId} {args : Array Value} {v : Value}
    (hc : ∀ W, A.at_ w W → Calls Try.prog f args w fun e w' => e = .returned v ∧ Goes A' W w w') : Calls Try.prog f args w fun e w' => e = .returned v ∧ Held w0 w' (A'.sep R) := by
  obtain ⟨W, h1, h2⟩ := H.fst
  exact (hc W h1).mono fun e w' ⟨he, hg⟩ => ⟨he, h2 _ _ hg⟩
/-- A call that only reads the first. -/
theorem Held.read {w0 w : World} {A R : Thing} (H : Held w0 w (A.sep R)) {f : FuncId} {args : Array Value} {v : Value}
    (hc : ∀ W, A.at_ w W → Calls Try.prog f args w fun e w' => e = .returned v ∧ Still w w') : Calls Try.prog f args w fun e w' => e = .returned v ∧ Held w0 w' (A.sep R) := by
  obtain ⟨W, h1, h2⟩ := H.fst
  exact (hc W h1).mono fun e w' ⟨he, hg⟩ => ⟨he, H.still hg⟩

/-- Bytes of one's own: told of by a base. -/
theorem ownT_ints {w : World} {W : Nat → Prop} {ao : Option Addr} {n cc : Nat} {l : List Int} (h : (ownT 3 1 ao n cc (ints l)).at_ w W) (hn : n = l.length) : NumsAt w ao l := NumsAt.of_own h.1 hn
theorem Held.ints {w0 w : World} {A : Thing} {ao : Option Addr} {n cc : Nat} {l : List Int} (H : Held w0 w (A.sep (ownT 3 1 ao n cc (ints l)))) (hn : n = l.length) : NumsAt w ao l := by
  obtain ⟨W, ⟨W1, W2, _, h2, _, _⟩, _, _⟩ := H
  exact ownT_ints h2 hn
theorem Held.own {w0 w : World} {A : Thing} {e : TypeId} {m : Nat} {ao : Option Addr} {n cc : Nat} {xs : List Value} (H : Held w0 w (A.sep (ownT e m ao n cc xs))) : w.ownsRow 0 e m (.slice ao n cc) n xs := by
  obtain ⟨W, ⟨W1, W2, _, h2, _, _⟩, _, _⟩ := H
  exact h2.1
/-- append to one's own, the second of what is held. -/
theorem Held.grown {w0 w w' : World} {A : Thing} {e : TypeId} {m : Nat} {ao a' : Option Addr} {n cc n' c' : Nat} {xs ys : List Value} {o : Obj} (H : Held w0 w (A.sep (ownT e m ao n cc xs)))
    (hown : w'.ownsRow 0 e m (.slice a' n' c') n' ys) (hg : (w.alloc o).grownBy w' (Value.slice ao n cc).ownBlock)
    (hat : (Value.slice a' n' c').ownBlock = (Value.slice ao n cc).ownBlock ∨ (Value.slice a' n' c').ownBlock = some (w.alloc o).heap.size) : Held w0 w' (A.sep (ownT e m a' n' c' ys)) := by
  obtain ⟨W, h1, h2⟩ := H.swap.fst
  exact (h2 _ _ (ownT_grown h1 hown hg hat)).swap
theorem Held.new2 {w0 w : World} {A : Thing} (H : Held w0 w A) (e : TypeId) (m : Nat) : Held w0 (w.alloc (.cells #[] e)) (A.sep (ownT e m (some ⟨w.heap.size, 0, none⟩) 0 0 [])) := (H.new (ownT_new w e m)).swap

/-- A slice of one's own that a call handed out. -/
theorem Held.got {w0 w w' : World} {A : Thing} (H : Held w0 w A) {e : TypeId} {m : Nat} {a : Option Addr} {n c : Nat} {xs : List Value} (hown : w'.ownsRow w.heap.size e m (.slice a n c) n xs) (hT : Still w w') : Held w0 w' (A.sep (ownT e m a n c xs)) := by
  refine (H.new (B := ownT e m a n c xs) ⟨fun k => (Value.slice a n c).ownBlock = some k, ⟨ow_base hown (Nat.zero_le _), fun k => Iff.rfl⟩, hT, fun k hk => ?_⟩).swap
  cases a with
  | none => cases hk
  | some x => have := (ow_lt hown x rfl).1
              have e : x.block = k := by simpa [Value.ownBlock] using hk
              omega

/-- HasInt. -/
theorem hasInt_any (w : World) (ao : Option Addr) (l : List Int) (n cap : Nat) (x : Int) (hn : n = l.length) (hmax : n ≤ 4611686018427387904) (hA : NumsAt w ao l) :
    Calls Try.prog 33 #[.slice ao n cap, .int .i64 x] w fun e w' => e = .returned (.bool (decide (x ∈ l))) ∧ w = w' := by
  have HA := Lib.hid hA
  have HN := Lib.hid hn
  clear hA hn
  go_enter Try.func33, Try.ntmps33
  go_wp2
  go_loopw [5] (fun i wr => ∃ k : Nat, k ≤ n ∧ i = .int .i64 k ∧ x ∉ l.take k ∧ w = wr) (fun i _ => n - (intOf i).toNat)
  case atStart => exact ⟨0, Nat.zero_le _, rfl, by simp, rfl⟩
  case round =>
    obtain ⟨k, hk, rfl, hno, hw⟩ := hrel
    subst hw
    have HNO := Lib.hid hno
    clear hno
    by_cases hlt : k < n
    · obtain ⟨y, hy⟩ := get_some (l := l) (i := k) (by rw [← HN.out]; exact hlt)
      obtain ⟨b, o, rfl, hc⟩ := HA.out k y hy
      have HY := Lib.hid hy
      clear hy
      by_cases hxy : y = x
      · have HR := Lib.hid (show decide (x ∈ l) = true by rw [decide_eq_true_eq, ← hxy]; exact List.mem_of_getElem? HY.out)
        subst hxy
        go_wp2
        go_ret
        exact ⟨ret_bool HR.out.symm, rfl⟩
      · have hb : (y == x) = false := by rw [beq_eq_false_iff_ne]; exact hxy
        have HXY := Lib.hid hxy
        clear hxy
        go_wp2
        go_roundw
        case rel =>
          refine ⟨k + 1, by omega, by go_num, ?_, trivial⟩
          rw [take_step HY.out]
          simp only [List.mem_append, List.mem_singleton, not_or]
          exact ⟨HNO.out, fun e => HXY.out e.symm⟩
        case measure => simp [intOf]; omega
    · obtain rfl : k = n := by omega
      have HR := Lib.hid (show decide (x ∈ l) = false by
        rw [decide_eq_false_iff_not]
        have := HNO.out
        rwa [List.take_of_length_le (by rw [HN.out]; exact Nat.le_refl _)] at this)
      go_wp2
      go_ret
      exact ⟨ret_bool HR.out.symm, rfl⟩
end Go.Proofs.Ytinfckoaphgmkaa
