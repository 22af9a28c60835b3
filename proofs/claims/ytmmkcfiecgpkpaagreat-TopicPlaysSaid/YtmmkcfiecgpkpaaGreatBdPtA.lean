/- Texts that lie next to one another, laid into one: each says what it holds. No condition but what each states. -/
import Derived.Test.YtmmkcfiecgpkpaaGreatBxSit
import Derived.Test.YtmmkcfiecgpkpaaGreatBdPoolZ
import Derived.Test.YtmmkcfiecgpkpaaGreatBxHeld
import Derived.Test.YtmmkcfiecgpkpaaGreatBdPtRef

/- Two partitions over a pool, the document's beside the program's: things that lie apart, in several orders. No condition. -/
namespace Go.Proofs.YtmmkcfiecgpkpaaGreat
open Go.RowKit
set_option linter.unusedVariables false

theorem sep_mono {A A' B B' : Thing} (f : ∀ {w : World} {W : Nat → Prop}, A.at_ w W → A'.at_ w W) (g : ∀ {w : World} {W : Nat → Prop}, B.at_ w W → B'.at_ w W) {w : World} {W : Nat → Prop} (h : (A.sep B).at_ w W) : (A'.sep B').at_ w W := by
  obtain ⟨W1, W2, h1, h2, hd, hW⟩ := h
  exact ⟨W1, W2, f h1, g h2, hd, hW⟩
theorem Held.imp {w0 w : World} {A B : Thing} (h : Held w0 w A) (f : ∀ {w : World} {W : Nat → Prop}, A.at_ w W → B.at_ w W) : Held w0 w B := by
  obtain ⟨W, h1, h2, h3⟩ := h; exact ⟨W, f h1, h2, h3⟩

/-- The program's pool and one partition, the document's, the other partitions, and what else lies there. -/
def sysT (A X Z Y X' Y' R : Thing) : Thing := (A.sep X).sep ((Z.sep Y).sep (X'.sep (Y'.sep R)))
/-- The same with what else lies there ahead. -/
def sysU (A X Z Y X' Y' : Thing) : Thing := (A.sep X).sep ((Z.sep Y).sep (X'.sep Y'))
theorem sys_ur {A X Z Y X' Y' R : Thing} {w : World} {W : Nat → Prop} (h : (sysT A X Z Y X' Y' R).at_ w W) : (R.sep (sysU A X Z Y X' Y')).at_ w W := by
  refine sep_swap (sep_assoc' ?_)
  exact sep_mono id (fun h => sep_assoc' (sep_mono id sep_assoc' h)) h
theorem sys_ru {A X Z Y X' Y' R : Thing} {w : World} {W : Nat → Prop} (h : (R.sep (sysU A X Z Y X' Y')).at_ w W) : (sysT A X Z Y X' Y' R).at_ w W := by
  exact sep_mono id (fun h => sep_mono id sep_assoc (sep_assoc h)) (sep_assoc (sep_swap h))
/-- The other partitions. -/
theorem sys_swap {A X Z Y X' Y' R : Thing} {w : World} {W : Nat → Prop} (h : (sysT A X Z Y X' Y' R).at_ w W) : (sysT A X' Z Y' X Y R).at_ w W := by
  obtain ⟨U1, U2, ⟨a, x, ha, hx, dax, iax⟩, ⟨V1, V2, ⟨z, y, hz, hy, dzy, izy⟩, ⟨x', T2, hx', ⟨y', r, hy', hr, dyr, iyr⟩, dxt, ixt⟩, dv, iv⟩, du, iu⟩ := h
  have e1 : ∀ k, U1 k ↔ a k ∨ x k := iax
  have e2 : ∀ k, U2 k ↔ (z k ∨ y k) ∨ (x' k ∨ (y' k ∨ r k)) := fun k => by rw [iv, izy, ixt, iyr]
  have d1 : ∀ k, (a k ∨ x k) → ¬ ((z k ∨ y k) ∨ (x' k ∨ (y' k ∨ r k))) := fun k h1 h2 => du k ((e1 k).2 h1) ((e2 k).2 h2)
  have d2 : ∀ k, (z k ∨ y k) → ¬ (x' k ∨ (y' k ∨ r k)) := fun k h1 h2 => dv k ((izy k).2 h1) ((ixt k).2 (h2.imp id (fun h => (iyr k).2 h)))
  have d3 : ∀ k, x' k → ¬ (y' k ∨ r k) := fun k h1 h2 => dxt k h1 ((iyr k).2 h2)
  refine ⟨fun k => a k ∨ x' k, fun k => (z k ∨ y' k) ∨ (x k ∨ (y k ∨ r k)), ⟨a, x', ha, hx', fun k h1 h2 => d1 k (.inl h1) (.inr (.inl h2)), fun _ => Iff.rfl⟩,
    ⟨fun k => z k ∨ y' k, fun k => x k ∨ (y k ∨ r k), ⟨z, y', hz, hy', fun k h1 h2 => d2 k (.inl h1) (.inr (.inl h2)), fun _ => Iff.rfl⟩,
      ⟨x, fun k => y k ∨ r k, hx, ⟨y, r, hy, hr, fun k h1 h2 => d2 k (.inr h1) (.inr (.inr h2)), fun _ => Iff.rfl⟩, fun k h1 h2 => d1 k (.inr h1) (h2.elim (fun h => .inl (.inr h)) (fun h => .inr (.inr (.inr h)))), fun _ => Iff.rfl⟩, fun k h1 h2 => ?_, fun _ => Iff.rfl⟩, fun k h1 h2 => ?_, fun k => ?_⟩
  · rcases h1 with h1 | h1
    · rcases h2 with h2 | h2 | h2
      · exact d1 k (.inr h2) (.inl (.inl h1))
      · exact dzy k h1 h2
      · exact d2 k (.inl h1) (.inr (.inr h2))
    · rcases h2 with h2 | h2 | h2
      · exact d1 k (.inr h2) (.inr (.inr (.inl h1)))
      · exact d2 k (.inr h2) (.inr (.inl h1))
      · exact dyr k h1 h2
  · rcases h1 with h1 | h1
    · rcases h2 with (h2 | h2) | h2 | h2 | h2
      · exact d1 k (.inl h1) (.inl (.inl h2))
      · exact d1 k (.inl h1) (.inr (.inr (.inl h2)))
      · exact dax k h1 h2
      · exact d1 k (.inl h1) (.inl (.inr h2))
      · exact d1 k (.inl h1) (.inr (.inr (.inr h2)))
    · rcases h2 with (h2 | h2) | h2 | h2 | h2
      · exact d2 k (.inl h2) (.inl h1)
      · exact d3 k h1 (.inl h2)
      · exact d1 k (.inr h2) (.inr (.inl h1))
      · exact d2 k (.inr h2) (.inl h1)
      · exact d3 k h1 (.inr h2)
  · rw [iu, e1, e2]
    constructor
    · rintro ((h | h) | (h | h) | h | h | h) <;> simp [h]
    · rintro ((h | h) | (h | h) | h | h | h) <;> simp [h]

section
variable {w0 w w' : World} {A X Z Y X' Y' R A2 X2 : Thing}
theorem Held.sysSwap (h : Held w0 w (sysT A X Z Y X' Y' R)) : Held w0 w (sysT A X' Z Y' X Y R) := h.imp sys_swap
theorem Held.sysR (h : Held w0 w (sysT A X Z Y X' Y' R)) : Held w0 w (R.sep (sysU A X Z Y X' Y')) := h.imp sys_ur
theorem Held.sysOf (h : Held w0 w (R.sep (sysU A X Z Y X' Y'))) : Held w0 w (sysT A X Z Y X' Y' R) := h.imp sys_ru
theorem Held.rest (h : Held w0 w (sysT A X Z Y X' Y' R)) : Held w0 w R := h.sysR.drop
/-- A call on the program's side. -/
theorem Held.sysCall (H : Held w0 w (sysT A X Z Y X' Y' R)) {f : FuncId} {args : Array Value} {v : Value}
    (hc : ∀ W, (A.sep X).at_ w W → Calls Tryz.prog f args w fun e w' => e = .returned v ∧ Goes (A2.sep X2) W w w') : Calls Tryz.prog f args w fun e w' => e = .returned v ∧ Held w0 w' (sysT A2 X2 Z Y X' Y' R) :=
  Held.call H hc
theorem Held.sysRead (H : Held w0 w (sysT A X Z Y X' Y' R)) {f : FuncId} {args : Array Value} {v : Value}
    (hc : ∀ W, (A.sep X).at_ w W → Calls Tryz.prog f args w fun e w' => e = .returned v ∧ Still w w') : Calls Tryz.prog f args w fun e w' => e = .returned v ∧ Held w0 w' (sysT A X Z Y X' Y' R) :=
  Held.read H hc
/-- A call on the document's side. -/
theorem Held.sysCallZ (H : Held w0 w (sysT A X Z Y X' Y' R)) {f : FuncId} {args : Array Value} {v : Value}
    (hc : ∀ W, (Z.sep Y).at_ w W → Calls Tryz.prog f args w fun e w' => e = .returned v ∧ Goes (A2.sep X2) W w w') : Calls Tryz.prog f args w fun e w' => e = .returned v ∧ Held w0 w' (sysT A X A2 X2 X' Y' R) :=
  (Held.call (Held.turn H) hc).mono fun e w' ⟨he, h⟩ => ⟨he, Held.turn h⟩
theorem Held.sysReadZ (H : Held w0 w (sysT A X Z Y X' Y' R)) {f : FuncId} {args : Array Value} {v : Value}
    (hc : ∀ W, (Z.sep Y).at_ w W → Calls Tryz.prog f args w fun e w' => e = .returned v ∧ Still w w') : Calls Tryz.prog f args w fun e w' => e = .returned v ∧ Held w0 w' (sysT A X Z Y X' Y' R) :=
  (Held.read (Held.turn H) hc).mono fun e w' ⟨he, h⟩ => ⟨he, Held.turn h⟩
/-- What the first two things are. -/
theorem Held.prog (h : Held w0 w (sysT A X Z Y X' Y' R)) : ∃ W, (A.sep X).at_ w W := by
  obtain ⟨W, ⟨W1, W2, h1, _⟩, _⟩ := h; exact ⟨W1, h1⟩
theorem Held.docu (h : Held w0 w (sysT A X Z Y X' Y' R)) : ∃ W, (Z.sep Y).at_ w W := Held.prog (Held.turn h)
end

/-- A new thing between one and nothing. -/
theorem Held.turn_none {w0 w w' : World} {A B : Thing} (h : Held w0 w (A.sep Thing.none)) (hB : ∃ W, B.at_ w' W ∧ Still w w' ∧ ∀ k, W k → w.heap.size ≤ k) : Held w0 w' ((A.sep B).sep Thing.none) := (Held.turn (h.new hB)).assoc'

/-- A thing more among what else lies there. -/
theorem sys_push {A X Z Y X' Y' R B : Thing} {w : World} {W : Nat → Prop} (h : ((sysT A X Z Y X' Y' R).sep B).at_ w W) : (sysT A X Z Y X' Y' (R.sep B)).at_ w W :=
  sys_ru (sep_assoc' (sep_mono id sep_swap (sep_assoc (sep_mono sys_ur id h))))
theorem Held.sysBox {w0 w : World} {A X Z Y X' Y' R : Thing} (h : Held w0 w (sysT A X Z Y X' Y' R)) (xs : List Value) (e : TypeId) : Held w0 (w.alloc (.cells xs.toArray e)) (sysT A X Z Y X' Y' (R.sep (blkT w.heap.size xs e))) := (h.box xs e).imp sys_push
theorem Held.sysNew {w0 w w' : World} {A X Z Y X' Y' R B : Thing} (h : Held w0 w (sysT A X Z Y X' Y' R)) (hB : ∃ W, B.at_ w' W ∧ Still w w' ∧ ∀ k, W k → w.heap.size ≤ k) : Held w0 w' (sysT A X Z Y X' Y' (R.sep B)) := (h.new hB).swap.imp sys_push
theorem Held.sysPop {w0 w : World} {A X Z Y X' Y' R B : Thing} (h : Held w0 w (sysT A X Z Y X' Y' (R.sep B))) : Held w0 w (sysT A X Z Y X' Y' R) := (Held.turn (Held.assoc h.sysR)).snd.sysOf
end Go.Proofs.YtmmkcfiecgpkpaaGreat

/- What the statements of layer 5 want of the program's pool, told of the plain pool: one word for each call. The words are shown of the program in another text. No condition. -/
namespace Go.Proofs.YtmmkcfiecgpkpaaGreat
open Go.RowKit
set_option linter.unusedVariables false
set_option maxRecDepth 100000

/-- A new pool. -/
def PNew (PT : Nat → PM → Thing) (w : World) (n size : Nat) (e : Ending) (w' : World) : Prop :=
  ∃ q, e = .returned (.tuple #[.pointer (some ⟨q, 0, none⟩), .int .i64 0]) ∧ ∃ W, (PT q (PM.new n size)).at_ w' W ∧ Still w w' ∧ ∀ k, W k → w.heap.size ≤ k

/-- Numbers that are handed out. -/
def GotNums (w : World) (l : List Int) (n : Nat) (e : Ending) (w' : World) : Prop := ∃ a c, e = .returned (.slice a n c) ∧ w'.ownsRow w.heap.size 3 1 (.slice a n c) n (ints l) ∧ Still w w'

def cntOf (M : PM) (k : Int) : Int := if 0 ≤ k ∧ k < M.sl.length then ((M.sl[k.toNat]?.getD ⟨0, 0, []⟩).c : Int) else 0
def genOf (M : PM) (k : Int) : Int := if 0 ≤ k ∧ k < M.sl.length then ((M.sl[k.toNat]?.getD ⟨0, 0, []⟩).g : Int) else 0

structure PoolApi (PT : Nat → PM → Thing) : Prop where
  make_no : ∀ (n s : Int) (w : World), i64 n → i64 s → ¬ (1 ≤ n ∧ n ≤ 128 ∧ 1 ≤ s ∧ s ≤ 256) → Calls Tryz.prog 36 #[.int .i64 n, .int .i64 s] w fun e w' => e = .returned (.tuple #[.pointer none, .int .i64 2]) ∧ Still w w'
  make_ok : ∀ (n s : Nat) (w : World), 1 ≤ n → n ≤ 128 → 1 ≤ s → s ≤ 256 → Calls Tryz.prog 36 #[.int .i64 n, .int .i64 s] w (PNew PT w n s)
  take : ∀ {w : World} {W : Nat → Prop} {q : Nat} {M : PM} {N : Nat}, (PT q M).at_ w W → M.Ok N → N < 1000000 → ∀ n : Int, i64 n →
    Calls Tryz.prog 72 #[.pointer (some ⟨q, 0, none⟩), .int .i64 n] w fun e w' => e = .returned (.tuple #[.int .i64 (M.takeH n), .int .i64 (M.takeE n)]) ∧ Goes (PT q (M.takeM n)) W w w'
  drop : ∀ {w : World} {W : Nat → Prop} {q : Nat} {M : PM} {N : Nat}, (PT q M).at_ w W → M.Ok N → N < 1000000 → ∀ h : Int, i64 h →
    Calls Tryz.prog 101 #[.pointer (some ⟨q, 0, none⟩), .int .i64 h] w fun e w' => e = .returned (.tuple #[.int .i64 (M.dropN h), .int .i64 (M.err h)]) ∧ Goes (PT q (M.dropM h)) W w w'
  count : ∀ {w : World} {W : Nat → Prop} {q : Nat} {M : PM} {N : Nat}, (PT q M).at_ w W → M.Ok N → N < 1000000 → ∀ k : Int, i64 k →
    Calls Tryz.prog 139 #[.pointer (some ⟨q, 0, none⟩), .int .i64 k] w fun e w' => e = .returned (.int .i64 (cntOf M k)) ∧ Still w w'
  gen : ∀ {w : World} {W : Nat → Prop} {q : Nat} {M : PM} {N : Nat}, (PT q M).at_ w W → M.Ok N → N < 1000000 → ∀ k : Int, i64 k →
    Calls Tryz.prog 135 #[.pointer (some ⟨q, 0, none⟩), .int .i64 k] w fun e w' => e = .returned (.int .i64 (genOf M k)) ∧ Still w w'
  free : ∀ {w : World} {W : Nat → Prop} {q : Nat} {M : PM} {N : Nat}, (PT q M).at_ w W → M.Ok N → N < 1000000 → ∀ n : Nat, n = M.fr.length →
    Calls Tryz.prog 56 #[.pointer (some ⟨q, 0, none⟩)] w (GotNums w (nums M.fr) n)
  slots : ∀ {w : World} {W : Nat → Prop} {q : Nat} {M : PM} {N : Nat}, (PT q M).at_ w W → M.Ok N → N < 1000000 →
    Calls Tryz.prog 90 #[.pointer (some ⟨q, 0, none⟩)] w fun e w' => e = .returned (.int .i64 M.sl.length) ∧ Still w w'
  size : ∀ {w : World} {W : Nat → Prop} {q : Nat} {M : PM} {N : Nat}, (PT q M).at_ w W → M.Ok N → N < 1000000 →
    Calls Tryz.prog 96 #[.pointer (some ⟨q, 0, none⟩)] w fun e w' => e = .returned (.int .i64 M.size) ∧ Still w w'
end Go.Proofs.YtmmkcfiecgpkpaaGreat

/- What the statements of layer 12 want of the program's partitions and pool, told of the plain ones: one word for each call. The words are shown of the program in another text. No condition. -/
namespace Go.Proofs.YtmmkcfiecgpkpaaGreat
open Go.RowKit
set_option linter.unusedVariables false
set_option linter.unusedSimpArgs false
set_option maxRecDepth 100000

/-- A new partition over a pool that is there. -/
def XNew (XT : Nat → Nat → RM → Thing) (w : World) (q n : Nat) (ov : Bool) (e : Ending) (w' : World) : Prop :=
  ∃ x, e = .returned (.tuple #[.pointer (some ⟨x, 0, none⟩), .int .i64 0]) ∧ ∃ V, (XT x q (RM.new n ov)).at_ w' V ∧ Still w w' ∧ ∀ k, V k → w.heap.size ≤ k

structure PartActs (PT : Nat → PM → Thing) (XT : Nat → Nat → RM → Thing) : Prop where
  claim : ∀ {w : World} {W : Nat → Prop} {x q : Nat} {P : PM} {M : RM} {N K : Nat} {X : List Int}, ((PT q P).sep (XT x q M)).at_ w W → PtInv P (M.refs ++ X) → P.Ok N → M.Ok K → N < 900000 → K < 900000 → ∀ n : Int, w64 n →
    Calls Tryz.prog 48 #[.pointer (some ⟨x, 0, none⟩), .int .i64 n] w fun e w' => e = .returned (.tuple #[.int .i64 (ptClA P M n), .int .i64 (ptClH P M n), .int .i64 (ptClE P M n)]) ∧ Goes ((PT q (ptClP P M n)).sep (XT x q (ptClM P M n))) W w w'
  pub : ∀ {w : World} {W : Nat → Prop} {x q : Nat} {P : PM} {M : RM} {N K : Nat} {X : List Int}, ((PT q P).sep (XT x q M)).at_ w W → PtInv P (M.refs ++ X) → P.Ok N → M.Ok K → N < 900000 → K < 900000 → ∀ a : Int, w64 a →
    Calls Tryz.prog 24 #[.pointer (some ⟨x, 0, none⟩), .int .i64 a] w fun e w' => e = .returned (.int .i64 (M.pubE a)) ∧ Goes ((PT q P).sep (XT x q (M.pubM a))) W w w'
  trim : ∀ {w : World} {W : Nat → Prop} {x q : Nat} {P : PM} {M : RM} {N K : Nat} {X : List Int}, ((PT q P).sep (XT x q M)).at_ w W → PtInv P (M.refs ++ X) → P.Ok N → M.Ok K → N < 900000 → K < 900000 → ∀ a : Int, w64 a →
    Calls Tryz.prog 71 #[.pointer (some ⟨x, 0, none⟩), .int .i64 a] w fun e w' => e = .returned (.tuple #[.int .i64 ((M.trimL a).length : Nat), .int .i64 (M.trimE a)]) ∧ Goes ((PT q (ptTrP P M a)).sep (XT x q (M.trimM a))) W w w'
  head : ∀ {w : World} {W : Nat → Prop} {x q : Nat} {P : PM} {M : RM} {N K : Nat}, ((PT q P).sep (XT x q M)).at_ w W → P.Ok N → M.Ok K → N < 900000 → K < 900000 →
    Calls Tryz.prog 57 #[.pointer (some ⟨x, 0, none⟩)] w fun e w' => e = .returned (.int .i64 M.h) ∧ Still w w'
  tail : ∀ {w : World} {W : Nat → Prop} {x q : Nat} {P : PM} {M : RM} {N K : Nat}, ((PT q P).sep (XT x q M)).at_ w W → P.Ok N → M.Ok K → N < 900000 → K < 900000 →
    Calls Tryz.prog 32 #[.pointer (some ⟨x, 0, none⟩)] w fun e w' => e = .returned (.int .i64 M.tail) ∧ Still w w'
  ready : ∀ {w : World} {W : Nat → Prop} {x q : Nat} {P : PM} {M : RM} {N K : Nat}, ((PT q P).sep (XT x q M)).at_ w W → P.Ok N → M.Ok K → N < 900000 → K < 900000 → ∀ a : Int, w64 a →
    Calls Tryz.prog 118 #[.pointer (some ⟨x, 0, none⟩), .int .i64 a] w fun e w' => e = .returned (.int .i64 (M.ready a)) ∧ Still w w'
  handles : ∀ {w : World} {W : Nat → Prop} {x q : Nat} {P : PM} {M : RM} {N K : Nat}, ((PT q P).sep (XT x q M)).at_ w W → P.Ok N → M.Ok K → N < 900000 → K < 900000 → ∀ n : Nat, n = M.l.length →
    Calls Tryz.prog 59 #[.pointer (some ⟨x, 0, none⟩)] w (OutNums w M.refs n)
structure PartApi (PT : Nat → PM → Thing) (XT : Nat → Nat → RM → Thing) : Prop extends PartActs PT XT where
  make_no : ∀ {w : World} {W : Nat → Prop} {q : Nat} {P : PM} {N : Nat}, (PT q P).at_ w W → P.Ok N → N < 900000 → ∀ n p : Int, w64 n → w64 p → ¬ (1 ≤ n ∧ n ≤ 64 ∧ (p = 0 ∨ p = 1)) →
    Calls Tryz.prog 63 #[.pointer (some ⟨q, 0, none⟩), .int .i64 n, .int .i64 p] w fun e w' => e = .returned (.tuple #[.pointer none, .int .i64 2]) ∧ Still w w'
  make_ok : ∀ {w : World} {W : Nat → Prop} {q : Nat} {P : PM} {N : Nat}, (PT q P).at_ w W → P.Ok N → N < 900000 → ∀ (n : Nat) (ov : Bool), 1 ≤ n → n ≤ 64 →
    Calls Tryz.prog 63 #[.pointer (some ⟨q, 0, none⟩), .int .i64 n, .int .i64 (polB ov)] w (XNew XT w q n ov)
/-- What these statements want of the program's pool. -/
structure PoolActs (PT : Nat → PM → Thing) : Prop where
  drop : ∀ {w : World} {W : Nat → Prop} {q : Nat} {M : PM} {N : Nat}, (PT q M).at_ w W → M.Ok N → N < 1000000 → ∀ h : Int, i64 h →
    Calls Tryz.prog 101 #[.pointer (some ⟨q, 0, none⟩), .int .i64 h] w fun e w' => e = .returned (.tuple #[.int .i64 (M.dropN h), .int .i64 (M.err h)]) ∧ Goes (PT q (M.dropM h)) W w w'
  count : ∀ {w : World} {W : Nat → Prop} {q : Nat} {M : PM} {N : Nat}, (PT q M).at_ w W → M.Ok N → N < 1000000 → ∀ k : Int, i64 k →
    Calls Tryz.prog 139 #[.pointer (some ⟨q, 0, none⟩), .int .i64 k] w fun e w' => e = .returned (.int .i64 (cntOf M k)) ∧ Still w w'
  free : ∀ {w : World} {W : Nat → Prop} {q : Nat} {M : PM} {N : Nat}, (PT q M).at_ w W → M.Ok N → N < 1000000 → ∀ n : Nat, n = M.fr.length →
    Calls Tryz.prog 56 #[.pointer (some ⟨q, 0, none⟩)] w (GotNums w (nums M.fr) n)
structure PoolApi12 (PT : Nat → PM → Thing) : Prop extends PoolActs PT where
  make_ok : ∀ (n s : Nat) (w : World), 1 ≤ n → n ≤ 128 → 1 ≤ s → s ≤ 256 → Calls Tryz.prog 36 #[.int .i64 n, .int .i64 s] w (PNew PT w n s)
/-- The document's own Make. -/
theorem zxmake_ok (q n : Nat) (ov : Bool) (w : World) (h1 : 1 ≤ n) (h2 : n ≤ 64) :
    Calls Tryz.prog 42 #[.pointer (some ⟨q, 0, none⟩), .int .i64 n, .int .i64 (polB ov)] w fun e w' => ∃ x r, e = .returned (.tuple #[.pointer (some ⟨x, 0, none⟩), .int .i64 0]) ∧ ∃ V, (zxT x q r (RM.new n ov)).at_ w' V ∧ Still w w' ∧ ∀ k, V k → w.heap.size ≤ k := by
  have HM := Lib.hid (zrmake_ok n ov w h1 h2)
  unfold RNew at HM
  generalize (n : Int) = nn at *
  generalize polB ov = pb at *
  go_enter Tryz.func42, Tryz.ntmps42
  go_wp2_with (go_at_call 65; ((with_reducible refine HM.out.mono ?_)); rintro e w1 ⟨r, rfl, V, hV, hs, hlo⟩; have H1 := Lib.hid hV; have H2 := Lib.hid hs; have H3 := Lib.hid hlo; clear hV hs hlo)
  go_ret2
  have hr := (zrT r (RM.new n ov)).lt H1.out
  refine ⟨_, r, rfl, fun k => k = w1.heap.size ∨ V k, ⟨(· = w1.heap.size), V, ⟨Blk.new w1 [.pointer (some ⟨q, 0, none⟩), .pointer (some ⟨r, 0, none⟩)] 57, fun _ => Iff.rfl⟩, (zrT r (RM.new n ov)).keep H1.out ((Turned.refl _ w1).alloc _) (fun _ _ h => h), fun k e hk => by have := hr k hk; omega, fun _ => Iff.rfl⟩, H2.out.alloc _, fun k hk => ?_⟩
  rcases hk with rfl | hk
  · exact H2.out.size
  · exact H3.out k hk
end Go.Proofs.YtmmkcfiecgpkpaaGreat

/- What each call leaves of the counts and of the bounds. No condition. -/
namespace Go.Proofs.YtmmkcfiecgpkpaaGreat
open Go.RowKit
set_option linter.unusedVariables false
set_option linter.unusedSimpArgs false

/-- Handles that are counted are small. -/
theorem PtInv.small {P : PM} {R : List Int} {N : Nat} (h : PtInv P R) (hO : P.Ok N) (hN : N < 900000) {x : Int} (hx : x ∈ R) : 1 ≤ x ∧ x ≤ 200000000 := by
  obtain ⟨a1, a2, a3, a4, _⟩ := PM.live (h.live x hx)
  have h1 := (hO.low _ _ a3).1
  unfold hGen at a4
  unfold haIs at a1
  omega

theorem inv_claim {P : PM} {M : RM} {X : List Int} {N K : Nat} (h : PtInv P (M.refs ++ X)) (hO : P.Ok N) (hM : M.Ok K) (hN : N < 900000) (n : Int) : PtInv (ptClP P M n) ((ptClM P M n).refs ++ X) := by
  by_cases he : ptClE P M n = 0
  · exact (pt_claim h hO hM hN he).1
  · rw [show ptClP P M n = P from if_pos he, show ptClM P M n = M from if_pos he]; exact h
theorem inv_fill {P : PM} {M : RM} {X : List Int} (h : PtInv P (M.refs ++ X)) (a : Int) (b : List UInt8) : PtInv (ptFiP P M a b) (M.refs ++ X) := by
  unfold ptFiP
  split
  · exact (h.fill _ b).1
  · exact h
theorem inv_pub {P : PM} {M : RM} {X : List Int} (h : PtInv P (M.refs ++ X)) (a : Int) : PtInv P ((M.pubM a).refs ++ X) := by rw [pub_refs]; exact h
theorem inv_read {P : PM} {M : RM} {X : List Int} (h : PtInv P (M.refs ++ X)) (a : Int) : PtInv (ptRdP P M a) (M.refs ++ (X ++ if M.getE a = 0 then [M.getR a] else [])) := by
  unfold ptRdP
  split
  · rename_i he
    rw [← List.append_assoc]
    have hl : P.err (M.getR a) = 0 := by rw [getR_pl he]; exact h.live _ (List.mem_append_left _ (get_refs (.inl he)))
    exact (h.keep hl).1.perm (List.perm_append_comm (l₁ := [M.getR a]))
  · rw [List.append_nil]; exact h
theorem inv_trim {P : PM} {M : RM} {X : List Int} {N : Nat} (h : PtInv P (M.refs ++ X)) (hO : P.Ok N) (a : Int) : PtInv (ptTrP P M a) ((M.trimM a).refs ++ X) := by
  rw [refs_trim (M := M) (a := a), List.append_assoc] at h
  exact (pt_drops h hO).1
theorem erase_perm : ∀ {X : List Int} {k : Nat} {x : Int}, X[k]? = some x → X.Perm (x :: X.eraseIdx k)
  | [], k, x, h => by simp at h
  | y :: X, 0, x, h => by
    obtain rfl : y = x := by simpa using h
    exact List.Perm.refl _
  | y :: X, k + 1, x, h => by
    have := erase_perm (X := X) (k := k) (x := x) (by simpa using h)
    exact (List.Perm.cons y this).trans (List.Perm.swap _ _ _)
theorem inv_drop {P : PM} {R X : List Int} {k : Nat} {x : Int} (h : PtInv P (R ++ X)) (hx : X[k]? = some x) : PtInv (P.dropM x) (R ++ X.eraseIdx k) := by
  have hp : (R ++ X).Perm (x :: (R ++ X.eraseIdx k)) := by
    have h1 : X.Perm (x :: X.eraseIdx k) := erase_perm hx
    exact (List.Perm.append_left R h1).trans List.perm_middle
  exact (h.perm hp).drop.1

theorem trimL_len {M : RM} {K : Nat} (hM : M.Ok K) (a : Int) : (M.trimL a).length ≤ 64 := by
  have h1 := hM.len
  have h2 := hM.max
  unfold RM.trimL
  split
  · simp
  · rw [List.length_map, List.length_take]; omega
theorem ok_read {P : PM} {M : RM} {N : Nat} (hO : P.Ok N) (a : Int) : (ptRdP P M a).Ok (N + 1) := by
  unfold ptRdP
  split
  · exact hO.keep _
  · exact hO.mono (by omega)
theorem ok_fill {P : PM} {M : RM} {N : Nat} (hO : P.Ok N) (a : Int) (b : List UInt8) : (ptFiP P M a b).Ok N := by
  unfold ptFiP
  split
  · exact hO.fill _ _
  · exact hO
theorem ok_trim {P : PM} {M : RM} {N K : Nat} (hO : P.Ok N) (hM : M.Ok K) (a : Int) : (ptTrP P M a).Ok (N + 64) :=
  (ptDrops_ok hO).mono (by have := trimL_len hM a; omega)

/-- Slots and their size stay. -/
structure SameSz (P P' : PM) : Prop where
  sl : P'.sl.length = P.sl.length
  sz : P'.size = P.size
theorem SameSz.refl (P : PM) : SameSz P P := ⟨rfl, rfl⟩
theorem SameSz.trans {a b c : PM} (h : SameSz a b) (k : SameSz b c) : SameSz a c := ⟨k.sl.trans h.sl, k.sz.trans h.sz⟩
theorem sz_drop (P : PM) (x : Int) : SameSz P (P.dropM x) := ⟨(PM.drop_le P x).len, by unfold PM.dropM; split <;> (try split) <;> rfl⟩
theorem sz_keep (P : PM) (x : Int) : SameSz P (P.keepM x) := ⟨(PM.keep_le P x).len, by unfold PM.keepM; split <;> rfl⟩
theorem sz_fill (P : PM) (x : Int) (b : List UInt8) : SameSz P (P.fillM x b) := ⟨(PM.fill_le P x b).len, by unfold PM.fillM; split <;> rfl⟩
theorem sz_claim {P : PM} {M : RM} {N K : Nat} (hO : P.Ok N) (hM : M.Ok K) (n : Int) : SameSz P (ptClP P M n) := ⟨(ptCl_ok hO hM n).2.2.1, (ptCl_ok hO hM n).2.2.2⟩
theorem sz_ptfill (P : PM) (M : RM) (a : Int) (b : List UInt8) : SameSz P (ptFiP P M a b) := by unfold ptFiP; split; exact sz_fill _ _ _; exact SameSz.refl _
theorem sz_read (P : PM) (M : RM) (a : Int) : SameSz P (ptRdP P M a) := by unfold ptRdP; split; exact sz_keep _ _; exact SameSz.refl _
theorem sz_drops : ∀ (l : List Int) (P : PM), SameSz P (ptDrops P l)
  | [], P => SameSz.refl P
  | x :: l, P => (sz_drop P x).trans (sz_drops l (P.dropM x))
theorem sz_trim (P : PM) (M : RM) (a : Int) : SameSz P (ptTrP P M a) := sz_drops _ _
theorem n_claim (P : PM) (M : RM) (n : Int) : (ptClM P M n).n = M.n ∧ (ptClM P M n).ov = M.ov := by
  unfold ptClM
  split
  · exact ⟨rfl, rfl⟩
  · unfold ptWin; split <;> exact ⟨rfl, rfl⟩
theorem n_pub (M : RM) (a : Int) : (M.pubM a).n = M.n ∧ (M.pubM a).ov = M.ov := by unfold RM.pubM; split <;> exact ⟨rfl, rfl⟩
theorem n_trim (M : RM) (a : Int) : (M.trimM a).n = M.n ∧ (M.trimM a).ov = M.ov := by unfold RM.trimM; split <;> exact ⟨rfl, rfl⟩
end Go.Proofs.YtmmkcfiecgpkpaaGreat
