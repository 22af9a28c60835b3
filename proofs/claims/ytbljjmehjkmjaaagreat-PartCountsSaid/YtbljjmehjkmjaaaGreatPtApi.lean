/- What the statements of layer 12 want of the program's partitions and pool, told of the plain ones: one word for each call. The words are shown of the program in another text. No condition. -/
import Derived.Test.YtbljjmehjkmjaaaGreatBdPtRef
import Derived.Test.YtbljjmehjkmjaaaGreatPtSys
import Derived.Test.YtbljjmehjkmjaaaGreatPoolApi
namespace Go.Proofs.YtbljjmehjkmjaaaGreat
open Go.RowKit
set_option linter.unusedVariables false
set_option linter.unusedSimpArgs false
set_option maxRecDepth 100000

/-- A new partition over a pool that is there. -/
def XNew (XT : Nat → Nat → RM → Thing) (w : World) (q n : Nat) (ov : Bool) (e : Ending) (w' : World) : Prop :=
  ∃ x, e = .returned (.tuple #[.pointer (some ⟨x, 0, none⟩), .int .i64 0]) ∧ ∃ V, (XT x q (RM.new n ov)).at_ w' V ∧ Still w w' ∧ ∀ k, V k → w.heap.size ≤ k

structure PartActs (PT : Nat → PM → Thing) (XT : Nat → Nat → RM → Thing) : Prop where
  claim : ∀ {w : World} {W : Nat → Prop} {x q : Nat} {P : PM} {M : RM} {N K : Nat} {X : List Int}, ((PT q P).sep (XT x q M)).at_ w W → PtInv P (M.refs ++ X) → P.Ok N → M.Ok K → N < 900000 → K < 900000 → ∀ n : Int, w64 n →
    Calls Tryz.prog 24 #[.pointer (some ⟨x, 0, none⟩), .int .i64 n] w fun e w' => e = .returned (.tuple #[.int .i64 (ptClA P M n), .int .i64 (ptClH P M n), .int .i64 (ptClE P M n)]) ∧ Goes ((PT q (ptClP P M n)).sep (XT x q (ptClM P M n))) W w w'
  fill : ∀ {w : World} {W : Nat → Prop} {x q : Nat} {P : PM} {M : RM} {N K : Nat} {X : List Int}, ((PT q P).sep (XT x q M)).at_ w W → PtInv P (M.refs ++ X) → P.Ok N → M.Ok K → N < 900000 → K < 900000 → ∀ a : Int, w64 a → ∀ (ao : Option Addr) (b : List UInt8) (m cap : Nat), m = b.length → BytesAt w ao b → b.length ≤ 100000 → m ≤ cap → cap ≤ maxLen → (ao = none → cap = 0) →
    Calls Tryz.prog 26 #[.pointer (some ⟨x, 0, none⟩), .int .i64 a, .slice ao m cap] w fun e w' => e = .returned (.int .i64 (ptFiE P M a b)) ∧ Goes ((PT q (ptFiP P M a b)).sep (XT x q M)) W w w'
  pub : ∀ {w : World} {W : Nat → Prop} {x q : Nat} {P : PM} {M : RM} {N K : Nat} {X : List Int}, ((PT q P).sep (XT x q M)).at_ w W → PtInv P (M.refs ++ X) → P.Ok N → M.Ok K → N < 900000 → K < 900000 → ∀ a : Int, w64 a →
    Calls Tryz.prog 29 #[.pointer (some ⟨x, 0, none⟩), .int .i64 a] w fun e w' => e = .returned (.int .i64 (M.pubE a)) ∧ Goes ((PT q P).sep (XT x q (M.pubM a))) W w w'
  read : ∀ {w : World} {W : Nat → Prop} {x q : Nat} {P : PM} {M : RM} {N K : Nat} {X : List Int}, ((PT q P).sep (XT x q M)).at_ w W → PtInv P (M.refs ++ X) → P.Ok N → M.Ok K → N < 900000 → K < 900000 → ∀ a : Int, w64 a →
    Calls Tryz.prog 31 #[.pointer (some ⟨x, 0, none⟩), .int .i64 a] w fun e w' => e = .returned (.tuple #[.int .i64 (M.getR a), .int .i64 (M.getE a)]) ∧ Goes ((PT q (ptRdP P M a)).sep (XT x q M)) W w w'
  peek : ∀ {w : World} {W : Nat → Prop} {x q : Nat} {P : PM} {M : RM} {N K : Nat} {X : List Int}, ((PT q P).sep (XT x q M)).at_ w W → PtInv P (M.refs ++ X) → P.Ok N → M.Ok K → N < 900000 → K < 900000 → ∀ a : Int, w64 a →
    Calls Tryz.prog 37 #[.pointer (some ⟨x, 0, none⟩), .int .i64 a] w (GotBytes w (ptPk P M a) (M.getE a))
  trim : ∀ {w : World} {W : Nat → Prop} {x q : Nat} {P : PM} {M : RM} {N K : Nat} {X : List Int}, ((PT q P).sep (XT x q M)).at_ w W → PtInv P (M.refs ++ X) → P.Ok N → M.Ok K → N < 900000 → K < 900000 → ∀ a : Int, w64 a →
    Calls Tryz.prog 35 #[.pointer (some ⟨x, 0, none⟩), .int .i64 a] w fun e w' => e = .returned (.tuple #[.int .i64 ((M.trimL a).length : Nat), .int .i64 (M.trimE a)]) ∧ Goes ((PT q (ptTrP P M a)).sep (XT x q (M.trimM a))) W w w'
  head : ∀ {w : World} {W : Nat → Prop} {x q : Nat} {P : PM} {M : RM} {N K : Nat}, ((PT q P).sep (XT x q M)).at_ w W → P.Ok N → M.Ok K → N < 900000 → K < 900000 →
    Calls Tryz.prog 17 #[.pointer (some ⟨x, 0, none⟩)] w fun e w' => e = .returned (.int .i64 M.h) ∧ Still w w'
  tail : ∀ {w : World} {W : Nat → Prop} {x q : Nat} {P : PM} {M : RM} {N K : Nat}, ((PT q P).sep (XT x q M)).at_ w W → P.Ok N → M.Ok K → N < 900000 → K < 900000 →
    Calls Tryz.prog 18 #[.pointer (some ⟨x, 0, none⟩)] w fun e w' => e = .returned (.int .i64 M.tail) ∧ Still w w'
  ready : ∀ {w : World} {W : Nat → Prop} {x q : Nat} {P : PM} {M : RM} {N K : Nat}, ((PT q P).sep (XT x q M)).at_ w W → P.Ok N → M.Ok K → N < 900000 → K < 900000 → ∀ a : Int, w64 a →
    Calls Tryz.prog 19 #[.pointer (some ⟨x, 0, none⟩), .int .i64 a] w fun e w' => e = .returned (.int .i64 (M.ready a)) ∧ Still w w'
  handles : ∀ {w : World} {W : Nat → Prop} {x q : Nat} {P : PM} {M : RM} {N K : Nat}, ((PT q P).sep (XT x q M)).at_ w W → P.Ok N → M.Ok K → N < 900000 → K < 900000 → ∀ n : Nat, n = M.l.length →
    Calls Tryz.prog 13 #[.pointer (some ⟨x, 0, none⟩)] w (OutNums w M.refs n)

structure PartApi (PT : Nat → PM → Thing) (XT : Nat → Nat → RM → Thing) : Prop extends PartActs PT XT where
  make_no : ∀ {w : World} {W : Nat → Prop} {q : Nat} {P : PM} {N : Nat}, (PT q P).at_ w W → P.Ok N → N < 900000 → ∀ n p : Int, w64 n → w64 p → ¬ (1 ≤ n ∧ n ≤ 64 ∧ (p = 0 ∨ p = 1)) →
    Calls Tryz.prog 10 #[.pointer (some ⟨q, 0, none⟩), .int .i64 n, .int .i64 p] w fun e w' => e = .returned (.tuple #[.pointer none, .int .i64 2]) ∧ Still w w'
  make_ok : ∀ {w : World} {W : Nat → Prop} {q : Nat} {P : PM} {N : Nat}, (PT q P).at_ w W → P.Ok N → N < 900000 → ∀ (n : Nat) (ov : Bool), 1 ≤ n → n ≤ 64 →
    Calls Tryz.prog 10 #[.pointer (some ⟨q, 0, none⟩), .int .i64 n, .int .i64 (polB ov)] w (XNew XT w q n ov)

/-- What these statements want of the program's pool. -/
structure PoolActs (PT : Nat → PM → Thing) : Prop where
  drop : ∀ {w : World} {W : Nat → Prop} {q : Nat} {M : PM} {N : Nat}, (PT q M).at_ w W → M.Ok N → N < 1000000 → ∀ h : Int, i64 h →
    Calls Tryz.prog 33 #[.pointer (some ⟨q, 0, none⟩), .int .i64 h] w fun e w' => e = .returned (.tuple #[.int .i64 (M.dropN h), .int .i64 (M.err h)]) ∧ Goes (PT q (M.dropM h)) W w w'
  bytes : ∀ {w : World} {W : Nat → Prop} {q : Nat} {M : PM} {N : Nat}, (PT q M).at_ w W → M.Ok N → N < 1000000 → ∀ h : Int, i64 h →
    Calls Tryz.prog 45 #[.pointer (some ⟨q, 0, none⟩), .int .i64 h] w (GotBytes w (M.bytes h) (M.err h))
  count : ∀ {w : World} {W : Nat → Prop} {q : Nat} {M : PM} {N : Nat}, (PT q M).at_ w W → M.Ok N → N < 1000000 → ∀ k : Int, i64 k →
    Calls Tryz.prog 15 #[.pointer (some ⟨q, 0, none⟩), .int .i64 k] w fun e w' => e = .returned (.int .i64 (cntOf M k)) ∧ Still w w'
  free : ∀ {w : World} {W : Nat → Prop} {q : Nat} {M : PM} {N : Nat}, (PT q M).at_ w W → M.Ok N → N < 1000000 → ∀ n : Nat, n = M.fr.length →
    Calls Tryz.prog 14 #[.pointer (some ⟨q, 0, none⟩)] w (GotNums w (nums M.fr) n)

structure PoolApi12 (PT : Nat → PM → Thing) : Prop extends PoolActs PT where
  make_ok : ∀ (n s : Nat) (w : World), 1 ≤ n → n ≤ 128 → 1 ≤ s → s ≤ 256 → Calls Tryz.prog 21 #[.int .i64 n, .int .i64 s] w (PNew PT w n s)

/-- The document's own Make. -/
theorem zxmake_ok (q n : Nat) (ov : Bool) (w : World) (h1 : 1 ≤ n) (h2 : n ≤ 64) :
    Calls Tryz.prog 23 #[.pointer (some ⟨q, 0, none⟩), .int .i64 n, .int .i64 (polB ov)] w fun e w' => ∃ x r, e = .returned (.tuple #[.pointer (some ⟨x, 0, none⟩), .int .i64 0]) ∧ ∃ V, (zxT x q r (RM.new n ov)).at_ w' V ∧ Still w w' ∧ ∀ k, V k → w.heap.size ≤ k := by
  have HM := Lib.hid (zrmake_ok n ov w h1 h2)
  unfold RNew at HM
  generalize (n : Int) = nn at *
  generalize polB ov = pb at *
  go_enter Tryz.func23, Tryz.ntmps23
  go_wp2_with (go_at_call 55; ((with_reducible refine HM.out.mono ?_)); rintro e w1 ⟨r, rfl, V, hV, hs, hlo⟩; have H1 := Lib.hid hV; have H2 := Lib.hid hs; have H3 := Lib.hid hlo; clear hV hs hlo)
  go_ret2
  have hr := (zrT r (RM.new n ov)).lt H1.out
  refine ⟨_, r, rfl, fun k => k = w1.heap.size ∨ V k, ⟨(· = w1.heap.size), V, ⟨Blk.new w1 [.pointer (some ⟨q, 0, none⟩), .pointer (some ⟨r, 0, none⟩)] 65, fun _ => Iff.rfl⟩, (zrT r (RM.new n ov)).keep H1.out ((Turned.refl _ w1).alloc _) (fun _ _ h => h), fun k e hk => by have := hr k hk; omega, fun _ => Iff.rfl⟩, H2.out.alloc _, fun k hk => ?_⟩
  rcases hk with rfl | hk
  · exact H2.out.size
  · exact H3.out k hk
end Go.Proofs.YtbljjmehjkmjaaaGreat
