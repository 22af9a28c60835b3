/- Texts that lie next to one another, laid into one: each says what it holds. No condition but what each states. -/
import Derived.Test.YtmmkcfiecgpkpaaGreatBdWk
import Derived.Test.YtmmkcfiecgpkpaaGreatBdRead
import Derived.Test.YtmmkcfiecgpkpaaGreatBdPool

/- The acts of the statements of layer 12; the pair of partitions beside the document's. No condition. -/
namespace Go.Proofs.YtmmkcfiecgpkpaaGreat
open Go.RowKit
set_option linter.unusedVariables false
set_option linter.unusedSimpArgs false
set_option maxRecDepth 100000

abbrev Act12 := Int × Int × Int × Sl UInt8
def encAct12 (a : Act12) : List Value := encI a.1 ++ encI a.2.1 ++ encI a.2.2.1 ++ encSl a.2.2.2
def okAct12 (w : World) (a : Act12) : Prop := okI .i64 w a.1 ∧ okI .i64 w a.2.1 ∧ okI .i64 w a.2.2.1 ∧ SlOk encB okB 1 w a.2.2.2
theorem encAct12_len (a : Act12) : (encAct12 a).length = 4 := rfl
theorem cellsBytes12 : Tryz.prog.cellsOf 35 = 1 := by kernel_rfl
theorem okB_stays12 : Stays okB := fun _ _ _ _ h => h
theorem okAct12_stays : Stays okAct12 := fun w w' a ht h => ⟨h.1, h.2.1, h.2.2.1, SlOk.stays okB_stays12 w w' _ ht h.2.2.2⟩
def Act12.val (a : Act12) : Value := .agg #[.int .i64 a.1, .int .i64 a.2.1, .int .i64 a.2.2.1, .slice a.2.2.2.a a.2.2.2.len a.2.2.2.cap]

/-- What the statement's own struct holds, seen from one of its two partitions. -/
def twoV (q zq i xi xj yi yj : Nat) (ao : Option Addr) (n cc : Nat) : List Value :=
  [.pointer (some ⟨q, 0, none⟩), .pointer (some ⟨zq, 0, none⟩), .pointer (some ⟨if i = 0 then xi else xj, 0, none⟩), .pointer (some ⟨if i = 0 then xj else xi, 0, none⟩), .pointer (some ⟨if i = 0 then yi else yj, 0, none⟩), .pointer (some ⟨if i = 0 then yj else yi, 0, none⟩), .slice ao n cc, .bool true]
theorem twoV_x {q zq i xi xj yi yj : Nat} {ao : Option Addr} {n cc : Nat} (hi : i < 2) : (twoV q zq i xi xj yi yj ao n cc)[2 + i]? = some (.pointer (some ⟨xi, 0, none⟩)) ∧ (twoV q zq i xi xj yi yj ao n cc)[4 + i]? = some (.pointer (some ⟨yi, 0, none⟩)) := by
  rcases (show i = 0 ∨ i = 1 by omega) with rfl | rfl <;> exact ⟨rfl, rfl⟩
theorem twoV_swap (q zq i xi xj yi yj : Nat) (ao : Option Addr) (n cc : Nat) (hi : i < 2) : twoV q zq (1 - i) xj xi yj yi ao n cc = twoV q zq i xi xj yi yj ao n cc := by
  rcases (show i = 0 ∨ i = 1 by omega) with rfl | rfl <;> rfl

theorem blkT_set {b : Nat} {xs : List Value} {e : TypeId} {w : World} {W : Nat → Prop} (h : (blkT b xs e).at_ w W) (o : Nat) (v : Value) : Goes (blkT b (xs.set o v) e) W w (w.setCell ⟨b, o, none⟩ v) :=
  ⟨W, ⟨h.1.set o v, h.2⟩, (Turned.refl W w).setCell (p := ⟨b, o, none⟩) (.inl ((h.2 b).2 rfl)) v, fun _ hk => .inl hk⟩
theorem two_y {w W : World} {A X X' Y' R : Thing} {zq yi ri : Nat} {P : PM} {M : RM} (h : Held w W (sysT A X (zT zq P) (zxT yi zq ri M) X' Y' R)) : W.cell? ⟨yi, 0, none⟩ = some (.pointer (some ⟨zq, 0, none⟩)) ∧ W.cell? ⟨yi, 1, none⟩ = some (.pointer (some ⟨ri, 0, none⟩)) := by
  obtain ⟨_, h⟩ := h.docu
  exact zs_cells (Sit.start h)
end Go.Proofs.YtmmkcfiecgpkpaaGreat
