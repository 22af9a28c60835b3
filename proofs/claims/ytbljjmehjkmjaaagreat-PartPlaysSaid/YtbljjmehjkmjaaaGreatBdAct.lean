import Derived.Test.YtbljjmehjkmjaaaGreatPtWorks
import Derived.Test.YtbljjmehjkmjaaaGreatReadInts
import Derived.Test.YtbljjmehjkmjaaaGreatBdPool
import Derived.Test.YtbljjmehjkmjaaaGreatSlW
import Derived.Deep.RegionHeld3
import Derived.Deep.DeepCutAuto
import Derived.Deep.CutBlock
import Derived.BigQuiet
import Derived.Test.YtbljjmehjkmjaaaGreatStepApp

/- The acts of the statements of layer 12; the pair of partitions beside the document's. No condition. -/
namespace Go.Proofs.YtbljjmehjkmjaaaGreat
open Go.RowKit
set_option linter.unusedVariables false
set_option linter.unusedSimpArgs false
set_option maxRecDepth 100000

abbrev Act12 := Int × Int × Int × Sl UInt8
def encAct12 (a : Act12) : List Value := encI a.1 ++ encI a.2.1 ++ encI a.2.2.1 ++ encSl a.2.2.2
def okAct12 (w : World) (a : Act12) : Prop := okI .i64 w a.1 ∧ okI .i64 w a.2.1 ∧ okI .i64 w a.2.2.1 ∧ SlOk encB okB 1 w a.2.2.2
theorem encAct12_len (a : Act12) : (encAct12 a).length = 4 := rfl
theorem cellsAct12 : Tryz.prog.cellsOf 38 = 4 := by kernel_rfl
theorem cellsBytes12 : Tryz.prog.cellsOf 36 = 1 := by kernel_rfl
theorem rdAct12 : Rd Tryz.prog 38 encAct12 okAct12 :=
  rd_struct4 (m0 := 1) (m1 := 1) (m2 := 1) (m3 := 1) Tryz.underlying38 cellsAct12 cellsInt cellsInt cellsInt cellsBytes12 rfl rfl rfl rfl rdInt rdInt rdInt rdBytes
theorem rdActs12 : Rd Tryz.prog 22 encSl (SlOk encAct12 okAct12 4) := rd_slice Tryz.underlying22 cellsAct12 (by omega) encAct12_len rdAct12
theorem okB_stays12 : Stays okB := fun _ _ _ _ h => h
theorem okAct12_stays : Stays okAct12 := fun w w' a ht h => ⟨h.1, h.2.1, h.2.2.1, SlOk.stays okB_stays12 w w' _ ht h.2.2.2⟩
def Act12.val (a : Act12) : Value := .agg #[.int .i64 a.1, .int .i64 a.2.1, .int .i64 a.2.2.1, .slice a.2.2.2.a a.2.2.2.len a.2.2.2.cap]

/-- What the statement's own struct holds, seen from one of its two partitions. -/
def twoV (q zq i xi xj yi yj : Nat) (ao : Option Addr) (n cc : Nat) : List Value :=
  [.pointer (some ⟨q, 0, none⟩), .pointer (some ⟨zq, 0, none⟩), .pointer (some ⟨if i = 0 then xi else xj, 0, none⟩), .pointer (some ⟨if i = 0 then xj else xi, 0, none⟩), .pointer (some ⟨if i = 0 then yi else yj, 0, none⟩), .pointer (some ⟨if i = 0 then yj else yi, 0, none⟩), .slice ao n cc, .bool true]
theorem twoV_x {q zq i xi xj yi yj : Nat} {ao : Option Addr} {n cc : Nat} (hi : i < 2) : (twoV q zq i xi xj yi yj ao n cc)[2 + i]? = some (.pointer (some ⟨xi, 0, none⟩)) ∧ (twoV q zq i xi xj yi yj ao n cc)[4 + i]? = some (.pointer (some ⟨yi, 0, none⟩)) := by
  rcases (show i = 0 ∨ i = 1 by omega) with rfl | rfl <;> exact ⟨rfl, rfl⟩
theorem twoV_swap (q zq i xi xj yi yj : Nat) (ao : Option Addr) (n cc : Nat) (hi : i < 2) : twoV q zq (1 - i) xj xi yj yi ao n cc = twoV q zq i xi xj yi yj ao n cc := by
  rcases (show i = 0 ∨ i = 1 by omega) with rfl | rfl <;> rfl

/-- The struct, and the handles that were read. -/
abbrev twoR (t q zq i xi xj yi yj : Nat) (ao : Option Addr) (n cc : Nat) (had : List Int) : Thing := (blkT t (twoV q zq i xi xj yi yj ao n cc) 34).sep (ownT 3 1 ao n cc (ints had))
/-- All of it. -/
structure Two (PT : Nat → PM → Thing) (XT : Nat → Nat → RM → Thing) (w wr : World) (t q zq i xi xj yi yj ri rj : Nat) (P : PM) (Mi Mj : RM) (had : List Int) (ao : Option Addr) (n cc N K : Nat) : Prop where
  held : Held w wr (sysT (PT q P) (XT xi q Mi) (zT zq P) (zxT yi zq ri Mi) (XT xj q Mj) (zxT yj zq rj Mj) (twoR t q zq i xi xj yi yj ao n cc had))
  len : had.length = n
  inv : PtInv P (Mi.refs ++ (Mj.refs ++ had))
  ok : P.Ok N
  mi : Mi.Ok K
  mj : Mj.Ok K
theorem Two.swap {PT : Nat → PM → Thing} {XT : Nat → Nat → RM → Thing} {w wr : World} {t q zq i xi xj yi yj ri rj : Nat} {P : PM} {Mi Mj : RM} {had : List Int} {ao : Option Addr} {n cc N K : Nat} (hi : i < 2) (h : Two PT XT w wr t q zq i xi xj yi yj ri rj P Mi Mj had ao n cc N K) :
    Two PT XT w wr t q zq (1 - i) xj xi yj yi rj ri P Mj Mi had ao n cc N K := by
  refine ⟨?_, h.len, h.inv.perm ?_, h.ok, h.mj, h.mi⟩
  · have := h.held.sysSwap
    unfold twoR
    rw [twoV_swap _ _ _ _ _ _ _ _ _ _ hi]
    exact this
  · rw [← List.append_assoc, ← List.append_assoc]
    exact List.Perm.append_right had List.perm_append_comm
theorem Two.still {PT : Nat → PM → Thing} {XT : Nat → Nat → RM → Thing} {w wr w' : World} {t q zq i xi xj yi yj ri rj : Nat} {P : PM} {Mi Mj : RM} {had : List Int} {ao : Option Addr} {n cc N K : Nat} (h : Two PT XT w wr t q zq i xi xj yi yj ri rj P Mi Mj had ao n cc N K) (ht : Still wr w') :
    Two PT XT w w' t q zq i xi xj yi yj ri rj P Mi Mj had ao n cc N K := ⟨h.held.still ht, h.len, h.inv, h.ok, h.mi, h.mj⟩
theorem Two.mono {PT : Nat → PM → Thing} {XT : Nat → Nat → RM → Thing} {w wr : World} {t q zq i xi xj yi yj ri rj : Nat} {P : PM} {Mi Mj : RM} {had : List Int} {ao : Option Addr} {n cc N K N' K' : Nat} (h : Two PT XT w wr t q zq i xi xj yi yj ri rj P Mi Mj had ao n cc N K) (hN : N ≤ N') (hK : K ≤ K') :
    Two PT XT w wr t q zq i xi xj yi yj ri rj P Mi Mj had ao n cc N' K' := ⟨h.held, h.len, h.inv, h.ok.mono hN, h.mi.mono hK, h.mj.mono hK⟩

/-- What an act leaves. -/
def ActPost (PT : Nat → PM → Thing) (XT : Nat → Nat → RM → Thing) (w : World) (t q zq i xi xj yi yj ri rj : Nat) (P : PM) (Mi Mj : RM) (n N K : Nat) (e : Ending) (w' : World) : Prop :=
  e = .returned (.bool true) ∧ ∃ (P' : PM) (Mi' : RM) (had' : List Int) (ao' : Option Addr) (n' cc' : Nat), Two PT XT w w' t q zq i xi xj yi yj ri rj P' Mi' Mj had' ao' n' cc' (N + 66) (K + 1) ∧ SameSz P P' ∧ n' ≤ n + 1 ∧ Mi'.n = Mi.n

/-- With a box beside. -/
abbrev twoB (t q zq i xi xj yi yj : Nat) (ao : Option Addr) (n cc : Nat) (had : List Int) (bx : Nat) (a : Act12) : Thing := (twoR t q zq i xi xj yi yj ao n cc had).sep (blkT bx (encAct12 a) 38)
theorem two_cells {w W : World} {A X Z Y X' Y' : Thing} {t q zq i xi xj yi yj : Nat} {ao : Option Addr} {n cc bx : Nat} {had : List Int} {a : Act12} (h : Held w W (sysT A X Z Y X' Y' (twoB t q zq i xi xj yi yj ao n cc had bx a))) (hi : i < 2) :
    W.cell? ⟨bx, 0, none⟩ = some (.int .i64 a.1) ∧ W.cell? ⟨bx, 1, none⟩ = some (.int .i64 a.2.1) ∧ W.cell? ⟨bx, 2, none⟩ = some (.int .i64 a.2.2.1) ∧ W.cell? ⟨bx, 3, none⟩ = some (.slice a.2.2.2.a a.2.2.2.len a.2.2.2.cap) ∧
    W.cell? ⟨t, 0, none⟩ = some (.pointer (some ⟨q, 0, none⟩)) ∧ W.cell? ⟨t, 1, none⟩ = some (.pointer (some ⟨zq, 0, none⟩)) ∧ W.cell? ⟨t, 2 + i, none⟩ = some (.pointer (some ⟨xi, 0, none⟩)) ∧ W.cell? ⟨t, 4 + i, none⟩ = some (.pointer (some ⟨yi, 0, none⟩)) ∧ W.cell? ⟨t, 6, none⟩ = some (.slice ao n cc) ∧ W.frozen? ⟨t, 6, none⟩ = false := by
  have hr := h.rest
  have h1 := hr.drop.drop.blk
  have h2 := hr.snd.blk
  obtain ⟨e1, e2⟩ := twoV_x (q := q) (zq := zq) (xi := xi) (xj := xj) (yi := yi) (yj := yj) (ao := ao) (n := n) (cc := cc) hi
  exact ⟨h2.cell rfl, h2.cell rfl, h2.cell rfl, h2.cell rfl, h1.cell rfl, h1.cell rfl, h1.cell e1, h1.cell e2, h1.cell rfl, h1.free _⟩

theorem blkT_set {b : Nat} {xs : List Value} {e : TypeId} {w : World} {W : Nat → Prop} (h : (blkT b xs e).at_ w W) (o : Nat) (v : Value) : Goes (blkT b (xs.set o v) e) W w (w.setCell ⟨b, o, none⟩ v) :=
  ⟨W, ⟨h.1.set o v, h.2⟩, (Turned.refl W w).setCell (p := ⟨b, o, none⟩) (.inl ((h.2 b).2 rfl)) v, fun _ hk => .inl hk⟩
/-- Another row of handles in the struct's place, once it is there. -/
theorem two_put {w W : World} {A X Z Y X' Y' : Thing} {t q zq i xi xj yi yj : Nat} {ao a' : Option Addr} {n cc n' c' bx : Nat} {had' : List Int} {a : Act12} (h : Held w W ((ownT 3 1 a' n' c' (ints had')).sep ((blkT t (twoV q zq i xi xj yi yj ao n cc) 34).sep ((blkT bx (encAct12 a) 38).sep (sysU A X Z Y X' Y'))))) :
    Held w (W.setCell ⟨t, 6, none⟩ (.slice a' n' c')) (sysT A X Z Y X' Y' (twoB t q zq i xi xj yi yj a' n' c' had' bx a)) := by
  obtain ⟨Q, h1, h2⟩ := (Held.turn h).fst
  have h3 := h2 _ _ (blkT_set h1 6 (.slice a' n' c'))
  exact (Held.assoc' (Held.assoc' h3)).sysOf
theorem two_open {w W : World} {A X Z Y X' Y' : Thing} {t q zq i xi xj yi yj : Nat} {ao : Option Addr} {n cc bx : Nat} {had : List Int} {a : Act12} (h : Held w W (sysT A X Z Y X' Y' (twoB t q zq i xi xj yi yj ao n cc had bx a))) :
    Held w W ((ownT 3 1 ao n cc (ints had)).sep ((blkT t (twoV q zq i xi xj yi yj ao n cc) 34).sep ((blkT bx (encAct12 a) 38).sep (sysU A X Z Y X' Y')))) := Held.turn (Held.assoc (Held.assoc h.sysR))
theorem two_cell {w W : World} {O U : Thing} {t q zq i xi xj yi yj : Nat} {ao : Option Addr} {n cc : Nat} (h : Held w W (O.sep ((blkT t (twoV q zq i xi xj yi yj ao n cc) 34).sep U))) : W.cell? ⟨t, 6, none⟩ = some (.slice ao n cc) ∧ W.frozen? ⟨t, 6, none⟩ = false := by
  have := h.snd.drop.blk
  exact ⟨this.cell rfl, this.free _⟩
/-- One handle more. -/
theorem two_app {w W w6 : World} {A X Z Y X' Y' : Thing} {t q zq i xi xj yi yj : Nat} {ao a' : Option Addr} {n cc c' bx : Nat} {had : List Int} {a : Act12} {x : Int} {o : Obj} (h : Held w W (sysT A X Z Y X' Y' (twoB t q zq i xi xj yi yj ao n cc had bx a)))
    (hown : w6.ownsRow 0 3 1 (.slice a' (n + 1) c') (n + 1) (ints (had ++ [x]))) (hg : (W.alloc o).grownBy w6 (Value.slice ao n cc).ownBlock)
    (hat : (Value.slice a' (n + 1) c').ownBlock = (Value.slice ao n cc).ownBlock ∨ (Value.slice a' (n + 1) c').ownBlock = some (W.alloc o).heap.size) :
    w6.cell? ⟨t, 6, none⟩ = some (.slice ao n cc) ∧ w6.frozen? ⟨t, 6, none⟩ = false ∧ Hid (Held w (w6.setCell ⟨t, 6, none⟩ (.slice a' (n + 1) c')) (sysT A X Z Y X' Y' (twoB t q zq i xi xj yi yj a' (n + 1) c' (had ++ [x]) bx a))) := by
  have h1 := (Held.grown (two_open h).swap hown hg hat).swap
  obtain ⟨c1, c2⟩ := two_cell h1
  exact ⟨c1, c2, Lib.hid (two_put h1)⟩
theorem two_own {w W : World} {A X Z Y X' Y' : Thing} {t q zq i xi xj yi yj : Nat} {ao : Option Addr} {n cc bx : Nat} {had : List Int} {a : Act12} (h : Held w W (sysT A X Z Y X' Y' (twoB t q zq i xi xj yi yj ao n cc had bx a))) : W.ownsRow 0 3 1 (.slice ao n cc) n (ints had) := h.rest.drop.own

theorem two_y {w W : World} {A X X' Y' R : Thing} {zq yi ri : Nat} {P : PM} {M : RM} (h : Held w W (sysT A X (zT zq P) (zxT yi zq ri M) X' Y' R)) : W.cell? ⟨yi, 0, none⟩ = some (.pointer (some ⟨zq, 0, none⟩)) ∧ W.cell? ⟨yi, 1, none⟩ = some (.pointer (some ⟨ri, 0, none⟩)) := by
  obtain ⟨_, h⟩ := h.docu
  exact zs_cells (Sit.start h)
end Go.Proofs.YtbljjmehjkmjaaaGreat

/- What the statements' own 'act' does, a way each. No condition but that the program's partitions and pool keep their words. -/
namespace Go.Proofs.YtbljjmehjkmjaaaGreat
open Go.RowKit
set_option linter.unusedVariables false
set_option linter.unusedSimpArgs false
set_option maxRecDepth 100000

set_option maxHeartbeats 4000000 in
theorem act_claim {PT : Nat → PM → Thing} {XT : Nat → Nat → RM → Thing} (A : PartActs PT XT) (B : PoolActs PT) {w wr : World} {t q zq i xi xj yi yj ri rj : Nat} {P : PM} {Mi Mj : RM} {had : List Int} {ao : Option Addr} {n cc N K : Nat} (H : Two PT XT w wr t q zq i xi xj yi yj ri rj P Mi Mj had ao n cc N K) (hN : N < 800000) (hK : K < 800000) (hn : n ≤ 1000) (hi : i < 2) (a : Act12) (hai : am a.1 2 = i) (hok : okAct12 w a) {v : Nat} (hv : am a.2.1 11 = v) (hvs : v = 0 ∨ v = 1 ∨ v = 2 ∨ v = 3) : Calls Tryz.prog 8 #[.pointer (some ⟨t, 0, none⟩), a.val] wr (ActPost PT XT w t q zq i xi xj yi yj ri rj P Mi Mj n N K) := by
  obtain ⟨wh, dd, nn, ⟨ba, bl, bc, bs⟩⟩ := a
  dsimp only at hai hv
  have hnn : w64 nn := by have := i64w_of hok.2.2.1; exact ⟨this.1, this.2⟩
  have B1 := Lib.hid (fun W => among_lit wh 2 2 i rfl hai.symm (by omega) (by omega) W)
  have B2 := Lib.hid (fun W => among_lit dd 11 11 v rfl hv.symm (by omega) (by omega) W)
  have HI := Lib.hid H
  have HOk := Lib.hid hok
  obtain ⟨V, hV⟩ : ∃ V, V = wr.alloc (.cells #[.int .i64 wh, .int .i64 dd, .int .i64 nn, .slice ba bl bc] 38) := ⟨_, rfl⟩
  obtain ⟨bx, hbx⟩ : ∃ bx, bx = wr.heap.size := ⟨_, rfl⟩
  have HV := Lib.hid (show Held w V (sysT (PT q P) (XT xi q Mi) (zT zq P) (zxT yi zq ri Mi) (XT xj q Mj) (zxT yj zq rj Mj) (twoB t q zq i xi xj yi yj ao n cc had bx (wh, dd, nn, ⟨ba, bl, bc, bs⟩))) from by rw [hV, hbx]; exact H.held.sysBox (encAct12 (wh, dd, nn, ⟨ba, bl, bc, bs⟩)) 38)
  have HWV := Lib.hid (show Still wr V from by rw [hV]; exact (Turned.refl _ _).alloc _)
  have hi2 : (i : Int) < 2 := by omega
  clear H hok hai hv
  unfold Act12.val
  dsimp only
  go_enter Tryz.func8, Tryz.ntmps8
  go_upto_region 2 with (go_at_call 7; ((with_reducible refine (B1.out _).mono ?_)); rintro e w' ⟨rfl, hw⟩; rw [← hw]; clear hw)
  rw [← hV, ← hbx]
  obtain ⟨b0, b1, b2, b3, t0, t1, tx, ty, t6, tf⟩ := two_cells HV.out hi
  clear hV hbx
  go_quiet (fail)
  obtain ⟨V2, hV2⟩ : ∃ V2, V2 = V.drewN nq := ⟨_, rfl⟩
  rw [← hV2]
  have H2 := Lib.hid (HV.out.still (show Still V V2 from by rw [hV2]; exact (Turned.refl _ _).drewN _))
  have HW2 := Lib.hid (HWV.out.trans (show Still V V2 from by rw [hV2]; exact (Turned.refl _ _).drewN _))
  clear b0 b1 b2 b3 t0 t1 tx ty t6 tf hV2 HV HWV
  obtain ⟨b0, b1, b2, b3, t0, t1, tx, ty, t6, tf⟩ := two_cells H2.out hi
  have HPm := Lib.hid (ptCl_ok HI.out.ok HI.out.mi nn)
  have X1 := Lib.hid (H2.out.sysCall (fun _ h => A.claim h HI.out.inv HI.out.ok HI.out.mi (by omega) (by omega) nn hnn))
  have Y1 := Lib.hid (fun W (h : Held w W (sysT (PT q (ptClP P Mi nn)) (XT xi q (ptClM P Mi nn)) (zT zq P) (zxT yi zq ri Mi) (XT xj q Mj) (zxT yj zq rj Mj) (twoB t q zq i xi xj yi yj ao n cc had bx (wh, dd, nn, ⟨ba, bl, bc, bs⟩)))) => show Calls Tryz.prog 25 #[.pointer (some ⟨yi, 0, none⟩), .int .i64 nn] W fun e w' => e = .returned (.tuple #[.int .i64 (ptClA P Mi nn), .int .i64 (ptClH P Mi nn), .int .i64 (ptClE P Mi nn)]) ∧ Held w w' (sysT (PT q (ptClP P Mi nn)) (XT xi q (ptClM P Mi nn)) (zT zq (ptClP P Mi nn)) (zxT yi zq ri (ptClM P Mi nn)) (XT xj q Mj) (zxT yj zq rj Mj) (twoB t q zq i xi xj yi yj ao n cc had bx (wh, dd, nn, ⟨ba, bl, bc, bs⟩))) from
    h.sysCallZ (fun _ h' => zxclaim_any h' HI.out.inv HI.out.ok HI.out.mi (by omega) (by omega) nn))
  have HPost := Lib.hid (fun W (h : Held w W (sysT (PT q (ptClP P Mi nn)) (XT xi q (ptClM P Mi nn)) (zT zq (ptClP P Mi nn)) (zxT yi zq ri (ptClM P Mi nn)) (XT xj q Mj) (zxT yj zq rj Mj) (twoB t q zq i xi xj yi yj ao n cc had bx (wh, dd, nn, ⟨ba, bl, bc, bs⟩)))) => show ∃ (P' : PM) (Mi' : RM) (had' : List Int) (ao' : Option Addr) (n' cc' : Nat), Two PT XT w W t q zq i xi xj yi yj ri rj P' Mi' Mj had' ao' n' cc' (N + 66) (K + 1) ∧ SameSz P P' ∧ n' ≤ n + 1 ∧ Mi'.n = Mi.n from
    ⟨(ptClP P Mi nn), (ptClM P Mi nn), had, ao, n, cc, ⟨h.sysPop, HI.out.len, inv_claim HI.out.inv HI.out.ok HI.out.mi (by omega) nn, HPm.out.1.mono (by omega), HPm.out.2.1, HI.out.mj.mono (by omega)⟩, sz_claim HI.out.ok HI.out.mi nn, by omega, (n_claim P Mi nn).1⟩)
  clear HPm
  generalize ptClA P Mi nn = ca at *
  generalize ptClH P Mi nn = ch at *
  generalize ptClE P Mi nn = ce at *
  generalize ptClP P Mi nn = P1 at *
  generalize ptClM P Mi nn = M1 at *
  clear HOk
  rcases hvs with rfl | rfl | rfl | rfl
  all_goals (
    go_wp2_with (first
    | (go_at_call 7; ((with_reducible refine (B2.out _).mono ?_)); rintro e w' ⟨rfl, hw⟩; rw [← hw]; clear hw)
    | (go_at_call 24; ((with_reducible refine (X1.out).mono ?_)); rintro e w5 ⟨rfl, hs⟩; have H5 := Lib.hid hs; clear b0 b1 b2 b3 t0 t1 tx ty t6 tf; obtain ⟨b0, b1, b2, b3, t0, t1, tx, ty, t6, tf⟩ := two_cells hs hi; clear hs)
    | (go_at_call 25; ((with_reducible refine (Y1.out _ H5.out).mono ?_)); rintro e w6 ⟨rfl, hs⟩; have H6 := Lib.hid hs; clear b0 b1 b2 b3 t0 t1 tx ty t6 tf; obtain ⟨b0, b1, b2, b3, t0, t1, tx, ty, t6, tf⟩ := two_cells hs hi; clear hs))
    go_ret
    exact ⟨by first | rfl | simp, HPost.out _ H6.out⟩)

set_option maxHeartbeats 4000000 in
theorem act_trim {PT : Nat → PM → Thing} {XT : Nat → Nat → RM → Thing} (A : PartActs PT XT) (B : PoolActs PT) {w wr : World} {t q zq i xi xj yi yj ri rj : Nat} {P : PM} {Mi Mj : RM} {had : List Int} {ao : Option Addr} {n cc N K : Nat} (H : Two PT XT w wr t q zq i xi xj yi yj ri rj P Mi Mj had ao n cc N K) (hN : N < 800000) (hK : K < 800000) (hn : n ≤ 1000) (hi : i < 2) (a : Act12) (hai : am a.1 2 = i) (hok : okAct12 w a) {v : Nat} (hv : am a.2.1 11 = v) (hvs : v = 9) : Calls Tryz.prog 8 #[.pointer (some ⟨t, 0, none⟩), a.val] wr (ActPost PT XT w t q zq i xi xj yi yj ri rj P Mi Mj n N K) := by
  obtain ⟨wh, dd, nn, ⟨ba, bl, bc, bs⟩⟩ := a
  dsimp only at hai hv
  have hnn : w64 nn := by have := i64w_of hok.2.2.1; exact ⟨this.1, this.2⟩
  have B1 := Lib.hid (fun W => among_lit wh 2 2 i rfl hai.symm (by omega) (by omega) W)
  have B2 := Lib.hid (fun W => among_lit dd 11 11 v rfl hv.symm (by omega) (by omega) W)
  have HI := Lib.hid H
  have HOk := Lib.hid hok
  obtain ⟨V, hV⟩ : ∃ V, V = wr.alloc (.cells #[.int .i64 wh, .int .i64 dd, .int .i64 nn, .slice ba bl bc] 38) := ⟨_, rfl⟩
  obtain ⟨bx, hbx⟩ : ∃ bx, bx = wr.heap.size := ⟨_, rfl⟩
  have HV := Lib.hid (show Held w V (sysT (PT q P) (XT xi q Mi) (zT zq P) (zxT yi zq ri Mi) (XT xj q Mj) (zxT yj zq rj Mj) (twoB t q zq i xi xj yi yj ao n cc had bx (wh, dd, nn, ⟨ba, bl, bc, bs⟩))) from by rw [hV, hbx]; exact H.held.sysBox (encAct12 (wh, dd, nn, ⟨ba, bl, bc, bs⟩)) 38)
  have HWV := Lib.hid (show Still wr V from by rw [hV]; exact (Turned.refl _ _).alloc _)
  have hi2 : (i : Int) < 2 := by omega
  clear H hok hai hv
  unfold Act12.val
  dsimp only
  go_enter Tryz.func8, Tryz.ntmps8
  go_upto_region 2 with (go_at_call 7; ((with_reducible refine (B1.out _).mono ?_)); rintro e w' ⟨rfl, hw⟩; rw [← hw]; clear hw)
  rw [← hV, ← hbx]
  obtain ⟨b0, b1, b2, b3, t0, t1, tx, ty, t6, tf⟩ := two_cells HV.out hi
  clear hV hbx
  go_quiet (fail)
  obtain ⟨V2, hV2⟩ : ∃ V2, V2 = V.drewN nq := ⟨_, rfl⟩
  rw [← hV2]
  have H2 := Lib.hid (HV.out.still (show Still V V2 from by rw [hV2]; exact (Turned.refl _ _).drewN _))
  have HW2 := Lib.hid (HWV.out.trans (show Still V V2 from by rw [hV2]; exact (Turned.refl _ _).drewN _))
  clear b0 b1 b2 b3 t0 t1 tx ty t6 tf hV2 HV HWV
  obtain ⟨b0, b1, b2, b3, t0, t1, tx, ty, t6, tf⟩ := two_cells H2.out hi
  have X1 := Lib.hid (H2.out.sysCall (fun _ h => A.trim h HI.out.inv HI.out.ok HI.out.mi (by omega) (by omega) nn hnn))
  have Y1 := Lib.hid (fun W (h : Held w W (sysT (PT q (ptTrP P Mi nn)) (XT xi q (Mi.trimM nn)) (zT zq P) (zxT yi zq ri Mi) (XT xj q Mj) (zxT yj zq rj Mj) (twoB t q zq i xi xj yi yj ao n cc had bx (wh, dd, nn, ⟨ba, bl, bc, bs⟩)))) => h.sysCallZ (fun _ h' => zxtrim_any h' HI.out.ok HI.out.mi (by omega) (by omega) nn))
  have HPost := Lib.hid (fun W (h : Held w W (sysT (PT q (ptTrP P Mi nn)) (XT xi q (Mi.trimM nn)) (zT zq (ptTrP P Mi nn)) (zxT yi zq ri (Mi.trimM nn)) (XT xj q Mj) (zxT yj zq rj Mj) (twoB t q zq i xi xj yi yj ao n cc had bx (wh, dd, nn, ⟨ba, bl, bc, bs⟩)))) => show ∃ (P' : PM) (Mi' : RM) (had' : List Int) (ao' : Option Addr) (n' cc' : Nat), Two PT XT w W t q zq i xi xj yi yj ri rj P' Mi' Mj had' ao' n' cc' (N + 66) (K + 1) ∧ SameSz P P' ∧ n' ≤ n + 1 ∧ Mi'.n = Mi.n from
    ⟨(ptTrP P Mi nn), (Mi.trimM nn), had, ao, n, cc, ⟨h.sysPop, HI.out.len, inv_trim HI.out.inv HI.out.ok nn, (ok_trim HI.out.ok HI.out.mi nn).mono (by omega), (HI.out.mi.trim nn).mono (by omega), HI.out.mj.mono (by omega)⟩, sz_trim P Mi nn, by omega, (n_trim Mi nn).1⟩)
  generalize ((Mi.trimL nn).length : Nat) = tl at *
  generalize Mi.trimE nn = te at *
  generalize ptTrP P Mi nn = P1 at *
  generalize Mi.trimM nn = M1 at *
  clear HOk
  subst hvs
  go_wp2_with (first
    | (go_at_call 7; ((with_reducible refine (B2.out _).mono ?_)); rintro e w' ⟨rfl, hw⟩; rw [← hw]; clear hw)
    | (go_at_call 35; ((with_reducible refine (X1.out).mono ?_)); rintro e w5 ⟨rfl, hs⟩; have H5 := Lib.hid hs; clear b0 b1 b2 b3 t0 t1 tx ty t6 tf; obtain ⟨b0, b1, b2, b3, t0, t1, tx, ty, t6, tf⟩ := two_cells hs hi; clear hs)
    | (go_at_call 36; ((with_reducible refine (Y1.out _ H5.out).mono ?_)); rintro e w6 ⟨rfl, hs⟩; have H6 := Lib.hid hs; clear b0 b1 b2 b3 t0 t1 tx ty t6 tf; obtain ⟨b0, b1, b2, b3, t0, t1, tx, ty, t6, tf⟩ := two_cells hs hi; clear hs))
  go_ret
  exact ⟨by first | rfl | simp, HPost.out _ H6.out⟩

set_option maxHeartbeats 4000000 in
theorem act_none {PT : Nat → PM → Thing} {XT : Nat → Nat → RM → Thing} (A : PartActs PT XT) (B : PoolActs PT) {w wr : World} {t q zq i xi xj yi yj ri rj : Nat} {P : PM} {Mi Mj : RM} {had : List Int} {ao : Option Addr} {n cc N K : Nat} (H : Two PT XT w wr t q zq i xi xj yi yj ri rj P Mi Mj had ao n cc N K) (hN : N < 800000) (hK : K < 800000) (hn : n ≤ 1000) (hi : i < 2) (a : Act12) (hai : am a.1 2 = i) (hok : okAct12 w a) {v : Nat} (hv : am a.2.1 11 = v) (hvs : v = 8) (hn0 : n = 0) : Calls Tryz.prog 8 #[.pointer (some ⟨t, 0, none⟩), a.val] wr (ActPost PT XT w t q zq i xi xj yi yj ri rj P Mi Mj n N K) := by
  obtain ⟨wh, dd, nn, ⟨ba, bl, bc, bs⟩⟩ := a
  dsimp only at hai hv
  have hnn : w64 nn := by have := i64w_of hok.2.2.1; exact ⟨this.1, this.2⟩
  have B1 := Lib.hid (fun W => among_lit wh 2 2 i rfl hai.symm (by omega) (by omega) W)
  have B2 := Lib.hid (fun W => among_lit dd 11 11 v rfl hv.symm (by omega) (by omega) W)
  have HI := Lib.hid H
  have HOk := Lib.hid hok
  obtain ⟨V, hV⟩ : ∃ V, V = wr.alloc (.cells #[.int .i64 wh, .int .i64 dd, .int .i64 nn, .slice ba bl bc] 38) := ⟨_, rfl⟩
  obtain ⟨bx, hbx⟩ : ∃ bx, bx = wr.heap.size := ⟨_, rfl⟩
  have HV := Lib.hid (show Held w V (sysT (PT q P) (XT xi q Mi) (zT zq P) (zxT yi zq ri Mi) (XT xj q Mj) (zxT yj zq rj Mj) (twoB t q zq i xi xj yi yj ao n cc had bx (wh, dd, nn, ⟨ba, bl, bc, bs⟩))) from by rw [hV, hbx]; exact H.held.sysBox (encAct12 (wh, dd, nn, ⟨ba, bl, bc, bs⟩)) 38)
  have HWV := Lib.hid (show Still wr V from by rw [hV]; exact (Turned.refl _ _).alloc _)
  have hi2 : (i : Int) < 2 := by omega
  clear H hok hai hv
  unfold Act12.val
  dsimp only
  go_enter Tryz.func8, Tryz.ntmps8
  go_upto_region 2 with (go_at_call 7; ((with_reducible refine (B1.out _).mono ?_)); rintro e w' ⟨rfl, hw⟩; rw [← hw]; clear hw)
  rw [← hV, ← hbx]
  obtain ⟨b0, b1, b2, b3, t0, t1, tx, ty, t6, tf⟩ := two_cells HV.out hi
  clear hV hbx
  go_quiet (fail)
  obtain ⟨V2, hV2⟩ : ∃ V2, V2 = V.drewN nq := ⟨_, rfl⟩
  rw [← hV2]
  have H2 := Lib.hid (HV.out.still (show Still V V2 from by rw [hV2]; exact (Turned.refl _ _).drewN _))
  have HW2 := Lib.hid (HWV.out.trans (show Still V V2 from by rw [hV2]; exact (Turned.refl _ _).drewN _))
  clear b0 b1 b2 b3 t0 t1 tx ty t6 tf hV2 HV HWV
  obtain ⟨b0, b1, b2, b3, t0, t1, tx, ty, t6, tf⟩ := two_cells H2.out hi
  have HPost := Lib.hid (fun W (h : Held w W (sysT (PT q P) (XT xi q Mi) (zT zq P) (zxT yi zq ri Mi) (XT xj q Mj) (zxT yj zq rj Mj) (twoB t q zq i xi xj yi yj ao n cc had bx (wh, dd, nn, ⟨ba, bl, bc, bs⟩)))) => show ∃ (P' : PM) (Mi' : RM) (had' : List Int) (ao' : Option Addr) (n' cc' : Nat), Two PT XT w W t q zq i xi xj yi yj ri rj P' Mi' Mj had' ao' n' cc' (N + 66) (K + 1) ∧ SameSz P P' ∧ n' ≤ n + 1 ∧ Mi'.n = Mi.n from
    ⟨P, Mi, had, ao, n, cc, ⟨h.sysPop, HI.out.len, HI.out.inv, HI.out.ok.mono (by omega), HI.out.mi.mono (by omega), HI.out.mj.mono (by omega)⟩, SameSz.refl P, by omega, rfl⟩)
  clear HOk
  subst hvs
  subst hn0
  go_wp2_with (go_at_call 7; ((with_reducible refine (B2.out _).mono ?_)); rintro e w' ⟨rfl, hw⟩; rw [← hw]; clear hw)
  go_ret
  exact ⟨rfl, HPost.out _ H2.out⟩

set_option maxHeartbeats 4000000 in
theorem act_peek {PT : Nat → PM → Thing} {XT : Nat → Nat → RM → Thing} (A : PartActs PT XT) (B : PoolActs PT) {w wr : World} {t q zq i xi xj yi yj ri rj : Nat} {P : PM} {Mi Mj : RM} {had : List Int} {ao : Option Addr} {n cc N K : Nat} (H : Two PT XT w wr t q zq i xi xj yi yj ri rj P Mi Mj had ao n cc N K) (hN : N < 800000) (hK : K < 800000) (hn : n ≤ 1000) (hi : i < 2) (a : Act12) (hai : am a.1 2 = i) (hok : okAct12 w a) {v : Nat} (hv : am a.2.1 11 = v) (hvs : v = 10) : Calls Tryz.prog 8 #[.pointer (some ⟨t, 0, none⟩), a.val] wr (ActPost PT XT w t q zq i xi xj yi yj ri rj P Mi Mj n N K) := by
  obtain ⟨wh, dd, nn, ⟨ba, bl, bc, bs⟩⟩ := a
  dsimp only at hai hv
  have hnn : w64 nn := by have := i64w_of hok.2.2.1; exact ⟨this.1, this.2⟩
  have B1 := Lib.hid (fun W => among_lit wh 2 2 i rfl hai.symm (by omega) (by omega) W)
  have B2 := Lib.hid (fun W => among_lit dd 11 11 v rfl hv.symm (by omega) (by omega) W)
  have HI := Lib.hid H
  have HOk := Lib.hid hok
  obtain ⟨V, hV⟩ : ∃ V, V = wr.alloc (.cells #[.int .i64 wh, .int .i64 dd, .int .i64 nn, .slice ba bl bc] 38) := ⟨_, rfl⟩
  obtain ⟨bx, hbx⟩ : ∃ bx, bx = wr.heap.size := ⟨_, rfl⟩
  have HV := Lib.hid (show Held w V (sysT (PT q P) (XT xi q Mi) (zT zq P) (zxT yi zq ri Mi) (XT xj q Mj) (zxT yj zq rj Mj) (twoB t q zq i xi xj yi yj ao n cc had bx (wh, dd, nn, ⟨ba, bl, bc, bs⟩))) from by rw [hV, hbx]; exact H.held.sysBox (encAct12 (wh, dd, nn, ⟨ba, bl, bc, bs⟩)) 38)
  have HWV := Lib.hid (show Still wr V from by rw [hV]; exact (Turned.refl _ _).alloc _)
  have hi2 : (i : Int) < 2 := by omega
  clear H hok hai hv
  unfold Act12.val
  dsimp only
  go_enter Tryz.func8, Tryz.ntmps8
  go_upto_region 2 with (go_at_call 7; ((with_reducible refine (B1.out _).mono ?_)); rintro e w' ⟨rfl, hw⟩; rw [← hw]; clear hw)
  rw [← hV, ← hbx]
  obtain ⟨b0, b1, b2, b3, t0, t1, tx, ty, t6, tf⟩ := two_cells HV.out hi
  clear hV hbx
  go_quiet (fail)
  obtain ⟨V2, hV2⟩ : ∃ V2, V2 = V.drewN nq := ⟨_, rfl⟩
  rw [← hV2]
  have H2 := Lib.hid (HV.out.still (show Still V V2 from by rw [hV2]; exact (Turned.refl _ _).drewN _))
  have HW2 := Lib.hid (HWV.out.trans (show Still V V2 from by rw [hV2]; exact (Turned.refl _ _).drewN _))
  clear b0 b1 b2 b3 t0 t1 tx ty t6 tf hV2 HV HWV
  obtain ⟨b0, b1, b2, b3, t0, t1, tx, ty, t6, tf⟩ := two_cells H2.out hi
  have X1 := Lib.hid (show Calls Tryz.prog 37 #[.pointer (some ⟨xi, 0, none⟩), .int .i64 nn] V2 (GotBytes V2 (ptPk P Mi nn) (Mi.getE nn)) from by
    obtain ⟨_, h⟩ := H2.out.prog
    exact A.peek h HI.out.inv HI.out.ok HI.out.mi (by omega) (by omega) nn hnn)
  have Y1 := Lib.hid (fun W (h : Held w W (sysT (PT q P) (XT xi q Mi) (zT zq P) (zxT yi zq ri Mi) (XT xj q Mj) (zxT yj zq rj Mj) (twoB t q zq i xi xj yi yj ao n cc had bx (wh, dd, nn, ⟨ba, bl, bc, bs⟩)))) => show Calls Tryz.prog 38 #[.pointer (some ⟨yi, 0, none⟩), .int .i64 nn] W (GotBytes W (ptPk P Mi nn) (Mi.getE nn)) from by
    obtain ⟨_, h⟩ := h.docu
    exact zxpeek_any h HI.out.ok HI.out.mi (by omega) HI.out.inv.cpl nn)
  unfold GotBytes at X1 Y1
  have HPost := Lib.hid (fun W (h : Held w W (sysT (PT q P) (XT xi q Mi) (zT zq P) (zxT yi zq ri Mi) (XT xj q Mj) (zxT yj zq rj Mj) (twoB t q zq i xi xj yi yj ao n cc had bx (wh, dd, nn, ⟨ba, bl, bc, bs⟩)))) => show ∃ (P' : PM) (Mi' : RM) (had' : List Int) (ao' : Option Addr) (n' cc' : Nat), Two PT XT w W t q zq i xi xj yi yj ri rj P' Mi' Mj had' ao' n' cc' (N + 66) (K + 1) ∧ SameSz P P' ∧ n' ≤ n + 1 ∧ Mi'.n = Mi.n from
    ⟨P, Mi, had, ao, n, cc, ⟨h.sysPop, HI.out.len, HI.out.inv, HI.out.ok.mono (by omega), HI.out.mi.mono (by omega), HI.out.mj.mono (by omega)⟩, SameSz.refl P, by omega, rfl⟩)
  generalize ptPk P Mi nn = pk at *
  generalize Mi.getE nn = ge at *
  have SB := Lib.hid (fun W ao bo ca cb (h1 : BytesAt W ao pk) (h2 : BytesAt W bo pk) => sameBytes_any W ao bo pk pk ca cb h1 h2)
  clear HOk
  subst hvs
  go_wp2_with (first
    | (go_at_call 7; ((with_reducible refine (B2.out _).mono ?_)); rintro e w' ⟨rfl, hw⟩; rw [← hw]; clear hw)
    | (go_at_call 37; ((with_reducible refine X1.out.mono ?_)); rintro e w5 ⟨a5, c5, rfl, hown5, hst5⟩; have hs := H2.out.still hst5; have H5 := Lib.hid hs; have HB5 := Lib.hid (fun W (h : Still w5 W) => (BytesAt.of_own hown5).still h); clear hown5 hst5; clear b0 b1 b2 b3 t0 t1 tx ty t6 tf; obtain ⟨b0, b1, b2, b3, t0, t1, tx, ty, t6, tf⟩ := two_cells hs hi; clear hs)
    | (go_at_call 38; ((with_reducible refine (Y1.out _ H5.out).mono ?_)); rintro e w6 ⟨a6, c6, rfl, hown6, hst6⟩; have hs := H5.out.still hst6; have H6 := Lib.hid hs; have HB6 := Lib.hid (BytesAt.of_own hown6); have HB5' := Lib.hid (HB5.out _ hst6); clear hown6 hst6; clear b0 b1 b2 b3 t0 t1 tx ty t6 tf; obtain ⟨b0, b1, b2, b3, t0, t1, tx, ty, t6, tf⟩ := two_cells hs hi; clear hs)
    | (go_at_call 39; ((with_reducible refine (SB.out _ _ _ _ _ HB5'.out HB6.out).mono ?_)); rintro e w7 ⟨rfl, hw⟩; rw [← hw]; clear hw))
  go_ret
  exact ⟨by first | rfl | simp, HPost.out _ H6.out⟩

set_option maxHeartbeats 4000000 in
theorem act_read {PT : Nat → PM → Thing} {XT : Nat → Nat → RM → Thing} (A : PartActs PT XT) (B : PoolActs PT) {w wr : World} {t q zq i xi xj yi yj ri rj : Nat} {P : PM} {Mi Mj : RM} {had : List Int} {ao : Option Addr} {n cc N K : Nat} (H : Two PT XT w wr t q zq i xi xj yi yj ri rj P Mi Mj had ao n cc N K) (hN : N < 800000) (hK : K < 800000) (hn : n ≤ 1000) (hi : i < 2) (a : Act12) (hai : am a.1 2 = i) (hok : okAct12 w a) {v : Nat} (hv : am a.2.1 11 = v) (hvs : v = 7) : Calls Tryz.prog 8 #[.pointer (some ⟨t, 0, none⟩), a.val] wr (ActPost PT XT w t q zq i xi xj yi yj ri rj P Mi Mj n N K) := by
  obtain ⟨wh, dd, nn, ⟨ba, bl, bc, bs⟩⟩ := a
  dsimp only at hai hv
  have hnn : w64 nn := by have := i64w_of hok.2.2.1; exact ⟨this.1, this.2⟩
  have B1 := Lib.hid (fun W => among_lit wh 2 2 i rfl hai.symm (by omega) (by omega) W)
  have B2 := Lib.hid (fun W => among_lit dd 11 11 v rfl hv.symm (by omega) (by omega) W)
  have HI := Lib.hid H
  have HOk := Lib.hid hok
  obtain ⟨V, hV⟩ : ∃ V, V = wr.alloc (.cells #[.int .i64 wh, .int .i64 dd, .int .i64 nn, .slice ba bl bc] 38) := ⟨_, rfl⟩
  obtain ⟨bx, hbx⟩ : ∃ bx, bx = wr.heap.size := ⟨_, rfl⟩
  have HV := Lib.hid (show Held w V (sysT (PT q P) (XT xi q Mi) (zT zq P) (zxT yi zq ri Mi) (XT xj q Mj) (zxT yj zq rj Mj) (twoB t q zq i xi xj yi yj ao n cc had bx (wh, dd, nn, ⟨ba, bl, bc, bs⟩))) from by rw [hV, hbx]; exact H.held.sysBox (encAct12 (wh, dd, nn, ⟨ba, bl, bc, bs⟩)) 38)
  have HWV := Lib.hid (show Still wr V from by rw [hV]; exact (Turned.refl _ _).alloc _)
  have hi2 : (i : Int) < 2 := by omega
  clear H hok hai hv
  unfold Act12.val
  dsimp only
  go_enter Tryz.func8, Tryz.ntmps8
  go_upto_region 2 with (go_at_call 7; ((with_reducible refine (B1.out _).mono ?_)); rintro e w' ⟨rfl, hw⟩; rw [← hw]; clear hw)
  rw [← hV, ← hbx]
  obtain ⟨b0, b1, b2, b3, t0, t1, tx, ty, t6, tf⟩ := two_cells HV.out hi
  clear hV hbx
  go_quiet (fail)
  obtain ⟨V2, hV2⟩ : ∃ V2, V2 = V.drewN nq := ⟨_, rfl⟩
  rw [← hV2]
  have H2 := Lib.hid (HV.out.still (show Still V V2 from by rw [hV2]; exact (Turned.refl _ _).drewN _))
  have HW2 := Lib.hid (HWV.out.trans (show Still V V2 from by rw [hV2]; exact (Turned.refl _ _).drewN _))
  clear b0 b1 b2 b3 t0 t1 tx ty t6 tf hV2 HV HWV
  obtain ⟨b0, b1, b2, b3, t0, t1, tx, ty, t6, tf⟩ := two_cells H2.out hi
  have X1 := Lib.hid (H2.out.sysCall (fun _ h => A.read h HI.out.inv HI.out.ok HI.out.mi (by omega) (by omega) nn hnn))
  have Y1 := Lib.hid (fun W (h : Held w W (sysT (PT q (ptRdP P Mi nn)) (XT xi q Mi) (zT zq P) (zxT yi zq ri Mi) (XT xj q Mj) (zxT yj zq rj Mj) (twoB t q zq i xi xj yi yj ao n cc had bx (wh, dd, nn, ⟨ba, bl, bc, bs⟩)))) => h.sysCallZ (fun _ h' => zxread_any h' HI.out.ok HI.out.mi (by omega) (by omega) HI.out.inv.cpl nn))
  have HInv := Lib.hid (inv_read HI.out.inv nn)
  have HOr := Lib.hid (ok_read (M := Mi) HI.out.ok nn)
  have HSz := Lib.hid (sz_read P Mi nn)
  obtain ⟨i0, ji, jz0, jz1, jz2⟩ := info_parts infoIntW
  clear HOk
  subst hvs
  by_cases he : Mi.getE nn = 0
  · rw [if_pos he] at HInv
    rw [he] at X1 Y1
    generalize Mi.getR nn = gr at *
    generalize ptRdP P Mi nn = P1 at *
    have HPost := Lib.hid (fun W a' c' (h : Held w W (sysT (PT q P1) (XT xi q Mi) (zT zq P1) (zxT yi zq ri Mi) (XT xj q Mj) (zxT yj zq rj Mj) (twoB t q zq i xi xj yi yj a' (n + 1) c' (had ++ [gr]) bx (wh, dd, nn, ⟨ba, bl, bc, bs⟩)))) => show ∃ (P' : PM) (Mi' : RM) (had' : List Int) (ao' : Option Addr) (n' cc' : Nat), Two PT XT w W t q zq i xi xj yi yj ri rj P' Mi' Mj had' ao' n' cc' (N + 66) (K + 1) ∧ SameSz P P' ∧ n' ≤ n + 1 ∧ Mi'.n = Mi.n from
      ⟨P1, Mi, had ++ [gr], a', n + 1, c', ⟨h.sysPop, by rw [List.length_append, HI.out.len]; rfl, by have := HInv.out; rwa [List.append_assoc] at this, HOr.out.mono (by omega), HI.out.mi.mono (by omega), HI.out.mj.mono (by omega)⟩, HSz.out, Nat.le_refl _, rfl⟩)
    clear he HInv HOr HSz
    go_wp2_with (first
      | (go_at_call 7; ((with_reducible refine (B2.out _).mono ?_)); rintro e w' ⟨rfl, hw⟩; rw [← hw]; clear hw)
      | (go_at_call 31; ((with_reducible refine (X1.out).mono ?_)); rintro e w5 ⟨rfl, hs⟩; have H5 := Lib.hid hs; clear b0 b1 b2 b3 t0 t1 tx ty t6 tf; obtain ⟨b0, b1, b2, b3, t0, t1, tx, ty, t6, tf⟩ := two_cells hs hi; clear hs)
      | (go_at_call 32; ((with_reducible refine (Y1.out _ H5.out).mono ?_)); rintro e w6 ⟨rfl, hs⟩; have H6 := Lib.hid hs; clear b0 b1 b2 b3 t0 t1 tx ty t6 tf; obtain ⟨b0, b1, b2, b3, t0, t1, tx, ty, t6, tf⟩ := two_cells hs hi; have HOw := Lib.hid (two_own hs); have HAp := Lib.hid (fun w6 a' c' o hown hg hat => two_app (w6 := w6) (a' := a') (c' := c') (o := o) (x := gr) hs hown hg hat); clear hs)
      | (at_builtin; refine wpList_append_own_at _ rfl (.tmp 143) (.tmp 145) 32 rfl 0 3 i0 (.int .i64 0) 1 8 Tryz.underlying32 ji jz0 jz1 jz2 rfl (by decide) (.slice ao n cc) n (ints had) rfl (ow_still HOw.out ((Turned.refl _ _).alloc _)) ⟨w6.heap.size, 0, none⟩ 1 1 [.int .i64 gr] rfl rfl (ow_cells w6 _ _) (ow_ints rfl) (by unfold maxLen; omega) (by omega) (Nat.zero_le _) ?_; intro v7 w7 hown7 hg7 _ hat7; obtain ⟨a7, c7, rfl⟩ := ow_slice hown7; obtain ⟨f1, f2, H7⟩ := HAp.out w7 a7 c7 _ (by simpa [ints] using hown7) hg7 hat7; clear hown7 hg7 hat7))
    go_ret
    exact ⟨by first | rfl | simp, HPost.out _ _ _ H7.out⟩
  · have hx : (Mi.getE nn == 0) = false := by rw [beq_eq_false_iff_ne]; exact he
    rw [if_neg he, List.append_nil] at HInv
    generalize Mi.getR nn = gr at *
    generalize Mi.getE nn = ge at *
    generalize ptRdP P Mi nn = P1 at *
    have HPost := Lib.hid (fun W (h : Held w W (sysT (PT q P1) (XT xi q Mi) (zT zq P1) (zxT yi zq ri Mi) (XT xj q Mj) (zxT yj zq rj Mj) (twoB t q zq i xi xj yi yj ao n cc had bx (wh, dd, nn, ⟨ba, bl, bc, bs⟩)))) => show ∃ (P' : PM) (Mi' : RM) (had' : List Int) (ao' : Option Addr) (n' cc' : Nat), Two PT XT w W t q zq i xi xj yi yj ri rj P' Mi' Mj had' ao' n' cc' (N + 66) (K + 1) ∧ SameSz P P' ∧ n' ≤ n + 1 ∧ Mi'.n = Mi.n from
      ⟨P1, Mi, had, ao, n, cc, ⟨h.sysPop, HI.out.len, HInv.out, HOr.out.mono (by omega), HI.out.mi.mono (by omega), HI.out.mj.mono (by omega)⟩, HSz.out, by omega, rfl⟩)
    clear HInv HOr HSz
    go_wp2_with (first
      | (go_at_call 7; ((with_reducible refine (B2.out _).mono ?_)); rintro e w' ⟨rfl, hw⟩; rw [← hw]; clear hw)
      | (go_at_call 31; ((with_reducible refine (X1.out).mono ?_)); rintro e w5 ⟨rfl, hs⟩; have H5 := Lib.hid hs; clear b0 b1 b2 b3 t0 t1 tx ty t6 tf; obtain ⟨b0, b1, b2, b3, t0, t1, tx, ty, t6, tf⟩ := two_cells hs hi; clear hs)
      | (go_at_call 32; ((with_reducible refine (Y1.out _ H5.out).mono ?_)); rintro e w6 ⟨rfl, hs⟩; have H6 := Lib.hid hs; clear b0 b1 b2 b3 t0 t1 tx ty t6 tf; obtain ⟨b0, b1, b2, b3, t0, t1, tx, ty, t6, tf⟩ := two_cells hs hi; clear hs))
    go_ret
    exact ⟨by first | rfl | simp, HPost.out _ H6.out⟩

set_option maxHeartbeats 4000000 in
theorem act_pub {PT : Nat → PM → Thing} {XT : Nat → Nat → RM → Thing} (A : PartActs PT XT) (B : PoolActs PT) {w wr : World} {t q zq i xi xj yi yj ri rj : Nat} {P : PM} {Mi Mj : RM} {had : List Int} {ao : Option Addr} {n cc N K : Nat} (H : Two PT XT w wr t q zq i xi xj yi yj ri rj P Mi Mj had ao n cc N K) (hN : N < 800000) (hK : K < 800000) (hn : n ≤ 1000) (hi : i < 2) (a : Act12) (hai : am a.1 2 = i) (hok : okAct12 w a) {v : Nat} (hv : am a.2.1 11 = v) (hvs : v = 5 ∨ v = 6) : Calls Tryz.prog 8 #[.pointer (some ⟨t, 0, none⟩), a.val] wr (ActPost PT XT w t q zq i xi xj yi yj ri rj P Mi Mj n N K) := by
  obtain ⟨wh, dd, nn, ⟨ba, bl, bc, bs⟩⟩ := a
  dsimp only at hai hv
  have hnn : w64 nn := by have := i64w_of hok.2.2.1; exact ⟨this.1, this.2⟩
  have B1 := Lib.hid (fun W => among_lit wh 2 2 i rfl hai.symm (by omega) (by omega) W)
  have B2 := Lib.hid (fun W => among_lit dd 11 11 v rfl hv.symm (by omega) (by omega) W)
  have HI := Lib.hid H
  have HOk := Lib.hid hok
  obtain ⟨V, hV⟩ : ∃ V, V = wr.alloc (.cells #[.int .i64 wh, .int .i64 dd, .int .i64 nn, .slice ba bl bc] 38) := ⟨_, rfl⟩
  obtain ⟨bx, hbx⟩ : ∃ bx, bx = wr.heap.size := ⟨_, rfl⟩
  have HV := Lib.hid (show Held w V (sysT (PT q P) (XT xi q Mi) (zT zq P) (zxT yi zq ri Mi) (XT xj q Mj) (zxT yj zq rj Mj) (twoB t q zq i xi xj yi yj ao n cc had bx (wh, dd, nn, ⟨ba, bl, bc, bs⟩))) from by rw [hV, hbx]; exact H.held.sysBox (encAct12 (wh, dd, nn, ⟨ba, bl, bc, bs⟩)) 38)
  have HWV := Lib.hid (show Still wr V from by rw [hV]; exact (Turned.refl _ _).alloc _)
  have hi2 : (i : Int) < 2 := by omega
  clear H hok hai hv
  unfold Act12.val
  dsimp only
  go_enter Tryz.func8, Tryz.ntmps8
  go_upto_region 2 with (go_at_call 7; ((with_reducible refine (B1.out _).mono ?_)); rintro e w' ⟨rfl, hw⟩; rw [← hw]; clear hw)
  rw [← hV, ← hbx]
  obtain ⟨b0, b1, b2, b3, t0, t1, tx, ty, t6, tf⟩ := two_cells HV.out hi
  clear hV hbx
  go_quiet (fail)
  obtain ⟨V2, hV2⟩ : ∃ V2, V2 = V.drewN nq := ⟨_, rfl⟩
  rw [← hV2]
  have H2 := Lib.hid (HV.out.still (show Still V V2 from by rw [hV2]; exact (Turned.refl _ _).drewN _))
  have HW2 := Lib.hid (HWV.out.trans (show Still V V2 from by rw [hV2]; exact (Turned.refl _ _).drewN _))
  clear b0 b1 b2 b3 t0 t1 tx ty t6 tf hV2 HV HWV
  obtain ⟨b0, b1, b2, b3, t0, t1, tx, ty, t6, tf⟩ := two_cells H2.out hi
  have H2d := Lib.hid (H2.out.still (Turned.refl _ V2).drew)
  have X1 := Lib.hid (H2d.out.sysCall (fun _ h => A.pub h HI.out.inv HI.out.ok HI.out.mi (by omega) (by omega) nn hnn))
  have Y1 := Lib.hid (fun W (h : Held w W (sysT (PT q P) (XT xi q (Mi.pubM nn)) (zT zq P) (zxT yi zq ri Mi) (XT xj q Mj) (zxT yj zq rj Mj) (twoB t q zq i xi xj yi yj ao n cc had bx (wh, dd, nn, ⟨ba, bl, bc, bs⟩)))) => h.sysCallZ (fun W h' => ((Sit.start h').callLast (fun _ h'' => zrpub_any h'' HI.out.mi (by omega) nn)).mono fun e w' ⟨he, hs⟩ => ⟨he, hs.goes⟩))
  have HPost := Lib.hid (fun W (h : Held w W (sysT (PT q P) (XT xi q (Mi.pubM nn)) (zT zq P) (zxT yi zq ri (Mi.pubM nn)) (XT xj q Mj) (zxT yj zq rj Mj) (twoB t q zq i xi xj yi yj ao n cc had bx (wh, dd, nn, ⟨ba, bl, bc, bs⟩)))) => show ∃ (P' : PM) (Mi' : RM) (had' : List Int) (ao' : Option Addr) (n' cc' : Nat), Two PT XT w W t q zq i xi xj yi yj ri rj P' Mi' Mj had' ao' n' cc' (N + 66) (K + 1) ∧ SameSz P P' ∧ n' ≤ n + 1 ∧ Mi'.n = Mi.n from
    ⟨P, (Mi.pubM nn), had, ao, n, cc, ⟨h.sysPop, HI.out.len, inv_pub HI.out.inv nn, HI.out.ok.mono (by omega), (HI.out.mi.pub nn).mono (by omega), HI.out.mj.mono (by omega)⟩, SameSz.refl P, by omega, (n_pub Mi nn).1⟩)
  have k2 := (two_cells H2d.out hi).2.2.1
  have k1 := (two_y H2d.out).2
  generalize Mi.pubE nn = pe at *
  generalize Mi.pubM nn = M1 at *
  clear HOk
  rcases hvs with rfl | rfl
  all_goals (
    go_wp2_with (go_at_call 7; ((with_reducible refine (B2.out _).mono ?_)); rintro e w' ⟨rfl, hw⟩; rw [← hw]; clear hw)
    go_region_held3 (fun Z => Z.cell? ⟨bx, 2, none⟩ = some (.int .i64 nn) ∧ Z.cell? ⟨yi, 1, none⟩ = some (.pointer (some ⟨ri, 0, none⟩))) (first | exact ⟨by assumption, by assumption⟩ | go_keep) (first
      | (go_at_call 29; ((with_reducible refine X1.out.mono ?_)); rintro e w5 ⟨rfl, hs⟩; have H5 := Lib.hid hs; have m2 := (two_cells hs hi).2.2.1; have m1 := (two_y hs).2; clear hs)
      | (go_at_call 30; ((with_reducible refine (Y1.out _ H5.out).mono ?_)); rintro e w6 ⟨rfl, hs⟩; have H6 := Lib.hid hs; have p2 := (two_cells hs hi).2.2.1; have p1 := (two_y hs).2; clear hs))
    go_wp2_with fail
    go_ret
    exact ⟨by first | rfl | simp, HPost.out _ H6.out⟩)

set_option maxHeartbeats 4000000 in
theorem act_fill {PT : Nat → PM → Thing} {XT : Nat → Nat → RM → Thing} (A : PartActs PT XT) (B : PoolActs PT) {w wr : World} {t q zq i xi xj yi yj ri rj : Nat} {P : PM} {Mi Mj : RM} {had : List Int} {ao : Option Addr} {n cc N K : Nat} (H : Two PT XT w wr t q zq i xi xj yi yj ri rj P Mi Mj had ao n cc N K) (hN : N < 800000) (hK : K < 800000) (hn : n ≤ 1000) (hi : i < 2) (a : Act12) (hai : am a.1 2 = i) (hok : okAct12 w a) {v : Nat} (hv : am a.2.1 11 = v) (hvs : v = 4) : Calls Tryz.prog 8 #[.pointer (some ⟨t, 0, none⟩), a.val] wr (ActPost PT XT w t q zq i xi xj yi yj ri rj P Mi Mj n N K) := by
  obtain ⟨wh, dd, nn, ⟨ba, bl, bc, bs⟩⟩ := a
  dsimp only at hai hv
  have hnn : w64 nn := by have := i64w_of hok.2.2.1; exact ⟨this.1, this.2⟩
  have B1 := Lib.hid (fun W => among_lit wh 2 2 i rfl hai.symm (by omega) (by omega) W)
  have B2 := Lib.hid (fun W => among_lit dd 11 11 v rfl hv.symm (by omega) (by omega) W)
  have HI := Lib.hid H
  have HOk := Lib.hid hok
  obtain ⟨V, hV⟩ : ∃ V, V = wr.alloc (.cells #[.int .i64 wh, .int .i64 dd, .int .i64 nn, .slice ba bl bc] 38) := ⟨_, rfl⟩
  obtain ⟨bx, hbx⟩ : ∃ bx, bx = wr.heap.size := ⟨_, rfl⟩
  have HV := Lib.hid (show Held w V (sysT (PT q P) (XT xi q Mi) (zT zq P) (zxT yi zq ri Mi) (XT xj q Mj) (zxT yj zq rj Mj) (twoB t q zq i xi xj yi yj ao n cc had bx (wh, dd, nn, ⟨ba, bl, bc, bs⟩))) from by rw [hV, hbx]; exact H.held.sysBox (encAct12 (wh, dd, nn, ⟨ba, bl, bc, bs⟩)) 38)
  have HWV := Lib.hid (show Still wr V from by rw [hV]; exact (Turned.refl _ _).alloc _)
  have hi2 : (i : Int) < 2 := by omega
  have hb := hok.2.2.2
  have hbcap : bl ≤ bc := hb.le
  have hbmax : bc ≤ maxLen := hb.max
  unfold maxLen at hbmax
  have hbl : bs.length = bl := hb.len
  have hbn := hb.none
  have hbr := (BytesAt.of_row hb.row).take 300
  obtain ⟨fs, hfs⟩ : ∃ fs, fs = bs.take 300 := ⟨_, rfl⟩
  obtain ⟨m, hm⟩ : ∃ m, m = fs.length := ⟨_, rfl⟩
  have hmb : (m = bl ∧ bl ≤ 300) ∨ (m = 300 ∧ 300 < bl) := by rw [hm, hfs, List.length_take, hbl]; omega
  have hm2 : m ≤ 300 := by omega
  dsimp only at hbr hbn
  rw [← hfs] at hbr
  have HBA := Lib.hid (show ∀ W, Still w W → BytesAt W ba fs from fun W hT => hbr.still hT)
  have HBN := Lib.hid (show ba = none → bc = 0 from fun e => (hbn e).2)
  have HML := Lib.hid hm
  have hif : (if (300 : Int) < (bl : Int) then (300 : Int) else (bl : Int)) = (m : Int) := by
    rcases hmb with ⟨e1, e2⟩ | ⟨e1, e2⟩
    · rw [if_neg (by omega), e1]
    · rw [if_pos (by omega), e1]; rfl
  have hx1 : (m : Int) ≤ (bc : Int) := by omega
  have hx0 : (0 : Int) ≤ (m : Int) := by omega
  clear hb hbn hbr hfs hm hmb hbl
  clear H hok hai hv
  unfold Act12.val
  dsimp only
  go_enter Tryz.func8, Tryz.ntmps8
  go_upto_region 2 with (go_at_call 7; ((with_reducible refine (B1.out _).mono ?_)); rintro e w' ⟨rfl, hw⟩; rw [← hw]; clear hw)
  rw [← hV, ← hbx]
  obtain ⟨b0, b1, b2, b3, t0, t1, tx, ty, t6, tf⟩ := two_cells HV.out hi
  clear hV hbx
  go_quiet (fail)
  obtain ⟨V2, hV2⟩ : ∃ V2, V2 = V.drewN nq := ⟨_, rfl⟩
  rw [← hV2]
  have H2 := Lib.hid (HV.out.still (show Still V V2 from by rw [hV2]; exact (Turned.refl _ _).drewN _))
  have HW2 := Lib.hid (HWV.out.trans (show Still V V2 from by rw [hV2]; exact (Turned.refl _ _).drewN _))
  clear b0 b1 b2 b3 t0 t1 tx ty t6 tf hV2 HV HWV
  obtain ⟨b0, b1, b2, b3, t0, t1, tx, ty, t6, tf⟩ := two_cells H2.out hi
  have H2d := Lib.hid (H2.out.still (Turned.refl _ V2).drew)
  have BC := Lib.hid (bytes_any V2.drew ba fs bc (HBA.out _ H2d.out.ground) (by rw [← HML.out]; omega) HBN.out)
  unfold BytesPost at BC
  rw [← HML.out] at BC
  have XF := Lib.hid (fun W oa oc (h : Held w W (sysT (PT q P) (XT xi q Mi) (zT zq P) (zxT yi zq ri Mi) (XT xj q Mj) (zxT yj zq rj Mj) ((twoB t q zq i xi xj yi yj ao n cc had bx (wh, dd, nn, ⟨ba, bl, bc, bs⟩)).sep (ownT 5 1 oa m oc (byt fs))))) => h.sysCall (fun _ h' => by
    have ho := h.rest.own
    obtain ⟨q1, q2, q3⟩ := ow_le ho
    exact A.fill h' HI.out.inv HI.out.ok HI.out.mi (by omega) (by omega) nn hnn oa fs m oc HML.out (by have := ho; rw [HML.out] at this; exact BytesAt.of_own this) (by rw [← HML.out]; omega) q1 q2 (fun e => (q3 e).2)))
  have YF := Lib.hid (fun W (h : Held w W (sysT (PT q (ptFiP P Mi nn fs)) (XT xi q Mi) (zT zq P) (zxT yi zq ri Mi) (XT xj q Mj) (zxT yj zq rj Mj) (twoB t q zq i xi xj yi yj ao n cc had bx (wh, dd, nn, ⟨ba, bl, bc, bs⟩)))) => h.sysCallZ (fun _ h' => zxfill_any h' HI.out.ok HI.out.mi (by omega) nn hnn ba fs m bc HML.out (HBA.out W h.ground) (by rw [← HML.out]; omega) HBN.out))
  have HPost := Lib.hid (fun W (h : Held w W (sysT (PT q (ptFiP P Mi nn fs)) (XT xi q Mi) (zT zq (ptFiP P Mi nn fs)) (zxT yi zq ri Mi) (XT xj q Mj) (zxT yj zq rj Mj) (twoB t q zq i xi xj yi yj ao n cc had bx (wh, dd, nn, ⟨ba, bl, bc, bs⟩)))) => show ∃ (P' : PM) (Mi' : RM) (had' : List Int) (ao' : Option Addr) (n' cc' : Nat), Two PT XT w W t q zq i xi xj yi yj ri rj P' Mi' Mj had' ao' n' cc' (N + 66) (K + 1) ∧ SameSz P P' ∧ n' ≤ n + 1 ∧ Mi'.n = Mi.n from
    ⟨(ptFiP P Mi nn fs), Mi, had, ao, n, cc, ⟨h.sysPop, HI.out.len, inv_fill HI.out.inv nn fs, (ok_fill HI.out.ok nn fs).mono (by omega), HI.out.mi.mono (by omega), HI.out.mj.mono (by omega)⟩, sz_ptfill P Mi nn fs, by omega, rfl⟩)
  have k2 := (two_cells H2d.out hi).2.2.1
  have hfr : fs.length ≤ 300 := by rw [← HML.out]; exact hm2
  generalize ptFiE P Mi nn fs = fe at *
  generalize ptFiP P Mi nn fs = P1 at *
  clear HOk
  subst hvs
  go_wp2_with (go_at_call 7; ((with_reducible refine (B2.out _).mono ?_)); rintro e w' ⟨rfl, hw⟩; rw [← hw]; clear hw)
  go_region_held3 (fun Z => Z.cell? ⟨bx, 2, none⟩ = some (.int .i64 nn)) (first | assumption | go_keep) (first
    | (go_at_call 27; ((with_reducible refine BC.out.mono ?_)); rintro e w5 ⟨oa, oc, rfl, hown, hst⟩; have H5 := Lib.hid ((H2d.out.got hown hst).imp sys_push); have k5 := (two_cells H5.out.sysPop hi).2.2.1; clear hown hst)
    | (go_at_call 26; ((with_reducible refine (XF.out _ _ _ H5.out).mono ?_)); rintro e w6 ⟨rfl, hs⟩; have H6 := Lib.hid hs.sysPop; have k6 := (two_cells H6.out hi).2.2.1; clear hs)
    | (go_at_call 28; ((with_reducible refine (YF.out _ H6.out).mono ?_)); rintro e w7 ⟨rfl, hs⟩; have H7 := Lib.hid hs; have k7 := (two_cells hs hi).2.2.1; clear hs))
  go_wp2_with fail
  go_ret
  exact ⟨by first | rfl | simp, HPost.out _ H7.out⟩
end Go.Proofs.YtbljjmehjkmjaaaGreat

/- The act that gives back a handle that was read. No condition but that the program's partitions and pool keep their words. -/
namespace Go.Proofs.YtbljjmehjkmjaaaGreat
open Go.RowKit
set_option linter.unusedVariables false
set_option linter.unusedSimpArgs false
set_option maxRecDepth 100000

theorem ownT_grownP {e : TypeId} {m : Nat} {ao a' : Option Addr} {n cc n' c' : Nat} {xs ys : List Value} {W : Nat → Prop} {w w' : World} (h : (ownT e m ao n cc xs).at_ w W)
    (hown : w'.ownsRow 0 e m (.slice a' n' c') n' ys) (hg : w.grownBy w' (Value.slice ao n cc).ownBlock)
    (hat : (Value.slice a' n' c').ownBlock = (Value.slice ao n cc).ownBlock ∨ (Value.slice a' n' c').ownBlock = some w.heap.size) : Goes (ownT e m a' n' c' ys) W w w' := by
  obtain ⟨h1, hW⟩ := h
  refine ⟨fun k => (Value.slice a' n' c').ownBlock = some k, ⟨hown, fun k => Iff.rfl⟩, (Turned.refl W w).grown hg (fun k hk => .inl ((hW k).2 hk)), fun k hk => ?_⟩
  rcases hat with h | h
  · exact .inl ((hW k).2 (h ▸ hk))
  · rw [h] at hk
    have : w.heap.size = k := by simpa using hk
    exact .inr (by rw [← this]; exact Nat.le_refl _)
theorem ints_one (l : List Int) : ∀ u ∈ ints l, u.oneCell' = true := by
  intro u hu
  simp only [ints, List.mem_map] at hu
  obtain ⟨x, _, rfl⟩ := hu
  rfl
/-- The row that takes the place of the one that was there. -/
theorem two_turn {w W : World} {A X Z Y X' Y' T O Bx O' : Thing} (h : Held w W (sysT A X Z Y X' Y' (((T.sep O).sep Bx).sep O'))) : Held w W (O'.sep (T.sep (Bx.sep (sysU A X Z Y X' Y')))) := by
  have h1 := (Held.turn (Held.assoc (Held.assoc (Held.assoc h.sysR)))).snd
  exact (Held.turn (Held.assoc' h1)).imp (sep_mono id sep_assoc)
theorem two_grow {w W W' : World} {A X Z Y X' Y' R : Thing} {a a' : Option Addr} {n c n' c' : Nat} {xs ys : List Value} (h : Held w W (sysT A X Z Y X' Y' (R.sep (ownT 3 1 a n c xs)))) (hown : W'.ownsRow 0 3 1 (.slice a' n' c') n' ys) (hg : W.grownBy W' (Value.slice a n c).ownBlock)
    (hat : (Value.slice a' n' c').ownBlock = (Value.slice a n c).ownBlock ∨ (Value.slice a' n' c').ownBlock = some W.heap.size) : Held w W' (sysT A X Z Y X' Y' (R.sep (ownT 3 1 a' n' c' ys))) := by
  obtain ⟨Q, h1, h2⟩ := (Held.turn (Held.assoc h.sysR)).fst
  exact (Held.assoc' (Held.turn (h2 _ _ (ownT_grownP h1 hown hg hat)))).sysOf

set_option maxHeartbeats 8000000 in
theorem act_drop {PT : Nat → PM → Thing} {XT : Nat → Nat → RM → Thing} (A : PartActs PT XT) (B : PoolActs PT) {w wr : World} {t q zq i xi xj yi yj ri rj : Nat} {P : PM} {Mi Mj : RM} {had : List Int} {ao : Option Addr} {n cc N K : Nat} (H : Two PT XT w wr t q zq i xi xj yi yj ri rj P Mi Mj had ao n cc N K) (hN : N < 800000) (hK : K < 800000) (hn : n ≤ 1000) (hi : i < 2) (a : Act12) (hai : am a.1 2 = i) (hok : okAct12 w a) {v : Nat} (hv : am a.2.1 11 = v) (hvs : v = 8) (hn0 : 0 < n) : Calls Tryz.prog 8 #[.pointer (some ⟨t, 0, none⟩), a.val] wr (ActPost PT XT w t q zq i xi xj yi yj ri rj P Mi Mj n N K) := by
  obtain ⟨wh, dd, nn, ⟨ba, bl, bc, bs⟩⟩ := a
  dsimp only at hai hv
  have hnn : w64 nn := by have := i64w_of hok.2.2.1; exact ⟨this.1, this.2⟩
  have B1 := Lib.hid (fun W => among_lit wh 2 2 i rfl hai.symm (by omega) (by omega) W)
  have B2 := Lib.hid (fun W => among_lit dd 11 11 v rfl hv.symm (by omega) (by omega) W)
  have HI := Lib.hid H
  have HOk := Lib.hid hok
  obtain ⟨V, hV⟩ : ∃ V, V = wr.alloc (.cells #[.int .i64 wh, .int .i64 dd, .int .i64 nn, .slice ba bl bc] 38) := ⟨_, rfl⟩
  obtain ⟨bx, hbx⟩ : ∃ bx, bx = wr.heap.size := ⟨_, rfl⟩
  have HV := Lib.hid (show Held w V (sysT (PT q P) (XT xi q Mi) (zT zq P) (zxT yi zq ri Mi) (XT xj q Mj) (zxT yj zq rj Mj) (twoB t q zq i xi xj yi yj ao n cc had bx (wh, dd, nn, ⟨ba, bl, bc, bs⟩))) from by rw [hV, hbx]; exact H.held.sysBox (encAct12 (wh, dd, nn, ⟨ba, bl, bc, bs⟩)) 38)
  have HWV := Lib.hid (show Still wr V from by rw [hV]; exact (Turned.refl _ _).alloc _)
  have hi2 : (i : Int) < 2 := by omega
  clear H hok hai hv
  unfold Act12.val
  dsimp only
  go_enter Tryz.func8, Tryz.ntmps8
  go_upto_region 2 with (go_at_call 7; ((with_reducible refine (B1.out _).mono ?_)); rintro e w' ⟨rfl, hw⟩; rw [← hw]; clear hw)
  rw [← hV, ← hbx]
  obtain ⟨b0, b1, b2, b3, t0, t1, tx, ty, t6, tf⟩ := two_cells HV.out hi
  clear hV hbx
  go_quiet (fail)
  obtain ⟨V2, hV2⟩ : ∃ V2, V2 = V.drewN nq := ⟨_, rfl⟩
  rw [← hV2]
  have H2 := Lib.hid (HV.out.still (show Still V V2 from by rw [hV2]; exact (Turned.refl _ _).drewN _))
  have HW2 := Lib.hid (HWV.out.trans (show Still V V2 from by rw [hV2]; exact (Turned.refl _ _).drewN _))
  clear b0 b1 b2 b3 t0 t1 tx ty t6 tf hV2 HV HWV
  obtain ⟨b0, b1, b2, b3, t0, t1, tx, ty, t6, tf⟩ := two_cells H2.out hi
  obtain ⟨j0, ji, jz0, jz1, jz2⟩ := info_parts infoIntW
  obtain ⟨k, hk⟩ : ∃ k, k = am nn n := ⟨_, rfl⟩
  have hkn : k < n := by rw [hk]; exact am_lt _ hn0
  have B3 := Lib.hid (fun W => among_lit nn n n k rfl hk (by omega) (by omega) W)
  obtain ⟨y, hy⟩ := get_some (l := had) (i := k) (by rw [HI.out.len]; exact hkn)
  have hInv := inv_drop (R := Mi.refs ++ Mj.refs) (X := had) (by have := HI.out.inv; rwa [← List.append_assoc] at this) hy
  have hys : w64 y := by
    have := HI.out.inv.small HI.out.ok (by omega) (x := y) (List.mem_append_right _ (List.mem_append_right _ (List.mem_of_getElem? hy)))
    exact ⟨by omega, by omega⟩
  obtain ⟨g, rr, rfl, _, _⟩ := ow_blk (two_own H2.out) hn0
  have HY := Lib.hid (fun W (h : Still V2 W) => show W.cell? ⟨g, k, none⟩ = some (.int .i64 y) from by
    obtain ⟨b, o, e, hc⟩ := NumsAt.of_own (two_own (H2.out.still h)) HI.out.len.symm k y hy
    cases e
    rw [Nat.zero_add] at hc; exact hc)
  have hb1 : ((n : Int) == 0) = false := by rw [beq_eq_false_iff_ne]; omega
  have hb2 : (n == 0) = false := by rw [beq_eq_false_iff_ne]; omega
  have hki : (k : Int) < (n : Int) := by omega
  clear hk HOk
  subst hvs
  go_wp2_with (go_at_call 7; ((with_reducible refine (B2.out _).mono ?_)); rintro e w' ⟨rfl, hw⟩; rw [← hw]; clear hw)
  go_quiet ((go_at_call 7; ((with_reducible exact quietEq (B3.out _)))))
  obtain ⟨V3, hV3⟩ : ∃ V3, V3 = V2.drewN nq := ⟨_, rfl⟩
  rw [← hV3]
  have hs3 : Still V2 V3 := by rw [hV3]; exact (Turned.refl _ _).drewN _
  have H3 := Lib.hid (H2.out.still hs3)
  have hy3 := HY.out _ hs3
  obtain ⟨U, hU⟩ : ∃ U, U = V3.drew := ⟨_, rfl⟩
  have HUd := Lib.hid hU
  have hsU : Still V3 U := by rw [hU]; exact (Turned.refl _ _).drew
  have HU := Lib.hid (H3.out.still hsU)
  clear b0 b1 b2 b3 t0 t1 tx ty t6 tf hV3 hs3 hU hsU
  obtain ⟨b0, b1, b2, b3, t0, t1, tx, ty, t6, tf⟩ := two_cells H3.out hi
  have u6 := (two_cells HU.out hi).2.2.2.2.2.2.2.2.1
  have hU1 : Still U (U.alloc (.cells #[] 3)) := (Turned.refl _ _).alloc _
  have u61 := (two_cells (HU.out.still hU1) hi).2.2.2.2.2.2.2.2.1
  have HE0 := Lib.hid (show (U.alloc (.cells #[] 3)).ownsRow 0 3 1 (.slice (some ⟨U.heap.size, 0, none⟩) 0 0) 0 [] from World.ownsRow_made U #[] 0 (Nat.zero_le _) (by simp) (by simp))
  have HLn := Lib.hid HI.out.len
  have HTk := Lib.hid (show (ints (had.take k)).length = k * 1 ∧ ∀ j u, (ints (had.take k))[j]? = some u → (U.alloc (.cells #[] 3)).cell? ((⟨g, 0, none⟩ : Addr).add j) = some u from by
    refine ⟨by rw [ints_length, List.length_take, HLn.out]; omega, fun j u hj => ?_⟩
    have hN := NumsAt.of_own (two_own (HU.out.still hU1)) HLn.out.symm
    rw [Addr.add_lit]
    unfold ints at hj
    rw [List.getElem?_map, List.getElem?_take] at hj
    split at hj
    · cases hz : had[j]? with
      | none => rw [hz] at hj; cases hj
      | some z =>
        rw [hz] at hj
        obtain ⟨b, o, e, hc⟩ := hN j z hz
        cases e
        have e2 : u = .int .i64 z := (Option.some.inj hj).symm
        rw [e2]; exact hc
    · cases hj)
  have H8f := Lib.hid (fun (w8 : World) (a8 : Option Addr) (c8 : Nat) (hown : w8.ownsRow 0 3 1 (.slice a8 k c8) k ([] ++ ints (had.take k))) (hg : (U.alloc (.cells #[] 3)).grownBy w8 (Value.slice (some ⟨U.heap.size, 0, none⟩) 0 0).ownBlock) (hat : (Value.slice a8 k c8).ownBlock = (Value.slice (some ⟨U.heap.size, 0, none⟩) 0 0).ownBlock ∨ (Value.slice a8 k c8).ownBlock = some (U.alloc (.cells #[] 3)).heap.size) =>
    show w8.cell? ⟨t, 6, none⟩ = some (.slice (some ⟨g, 0, none⟩) n cc) ∧ w8.frozen? ⟨t, 6, none⟩ = false ∧ Hid (Held w w8 (sysT (PT q P) (XT xi q Mi) (zT zq P) (zxT yi zq ri Mi) (XT xj q Mj) (zxT yj zq rj Mj) ((twoB t q zq i xi xj yi yj (some ⟨g, 0, none⟩) n cc had bx (wh, dd, nn, ⟨ba, bl, bc, bs⟩)).sep (ownT 3 1 a8 k c8 (ints (had.take k)))))) ∧ Hid (∀ j u, (ints (had.drop (k + 1)))[j]? = some u → w8.cell? ((⟨g, k + 1, none⟩ : Addr).add j) = some u) from by
    have hst : Still U w8 := ((Turned.refl (fun _ => False) U).alloc (.cells #[] 3)).grown hg (fun b e => .inr (by
      have : U.heap.size = b := by simpa [Value.ownBlock] using e
      omega))
    have hh := HU.out.still hst
    obtain ⟨_, _, _, _, _, _, _, _, z6, zf⟩ := two_cells hh hi
    refine ⟨z6, zf, Lib.hid (HU.out.sysNew ⟨_, ⟨by rw [List.nil_append] at hown; exact hown, fun _ => Iff.rfl⟩, hst, fun b hb => ?_⟩), Lib.hid fun j u hj => ?_⟩
    · rcases hat with h | h
      · rw [h] at hb
        have : U.heap.size = b := by simpa [Value.ownBlock] using hb
        omega
      · rw [h] at hb
        have := Option.some.inj hb
        rw [World.size_alloc] at this
        omega
    · have hN := NumsAt.of_own (two_own hh) HLn.out.symm
      rw [Addr.add_lit]
      unfold ints at hj
      rw [List.getElem?_map, List.getElem?_drop] at hj
      cases hz : had[k + 1 + j]? with
      | none => rw [hz] at hj; cases hj
      | some z =>
        rw [hz] at hj
        obtain ⟨b, o, e, hc⟩ := hN _ z hz
        cases e
        have e2 : u = .int .i64 z := (Option.some.inj hj).symm
        rw [Nat.zero_add] at hc
        rw [e2]; exact hc)
  have hwk : IntKind.i64.wrap ((k : Int) + 1) = ((k + 1 : Nat) : Int) := by rw [IntKind.wrap_i64]; omega
  have hcl : n ≤ cc := (ow_le (two_own H3.out)).1
  have hkc1 : ((k : Int) + 1) ≤ (n : Int) := by omega
  have hkc2 : (k : Int) ≤ (cc : Int) := by omega
  have hk0 : (0 : Int) ≤ (k : Int) + 1 := by omega
  have HEr := Lib.hid (show ints (had.take k) ++ ints (had.drop (k + 1)) = ints (had.eraseIdx k) ∧ ∀ m, m = n - (k + 1) → (had.eraseIdx k).length = k + m from ⟨by rw [List.eraseIdx_eq_take_drop_succ]; unfold ints; rw [List.map_append], fun m hm => by rw [List.length_eraseIdx, HLn.out, if_pos hkn]; omega⟩)
  have H16f := Lib.hid (fun (w8 : World) (a8 : Option Addr) (c8 : Nat) (h8 : Held w w8 (sysT (PT q P) (XT xi q Mi) (zT zq P) (zxT yi zq ri Mi) (XT xj q Mj) (zxT yj zq rj Mj) ((twoB t q zq i xi xj yi yj (some ⟨g, 0, none⟩) n cc had bx (wh, dd, nn, ⟨ba, bl, bc, bs⟩)).sep (ownT 3 1 a8 k c8 (ints (had.take k)))))) (m : Nat) (w16 : World) (a16 : Option Addr) (c16 : Nat)
    (hown : w16.ownsRow 0 3 1 (.slice a16 (k + m) c16) (k + m) (ints (had.take k) ++ ints (had.drop (k + 1)))) (hg : w8.grownBy w16 (Value.slice a8 k c8).ownBlock) (hat : (Value.slice a16 (k + m) c16).ownBlock = (Value.slice a8 k c8).ownBlock ∨ (Value.slice a16 (k + m) c16).ownBlock = some w8.heap.size) =>
    show w16.cell? ⟨t, 6, none⟩ = some (.slice (some ⟨g, 0, none⟩) n cc) ∧ w16.frozen? ⟨t, 6, none⟩ = false ∧ Hid (Held w (w16.setCell ⟨t, 6, none⟩ (.slice a16 (k + m) c16)) (sysT (PT q P) (XT xi q Mi) (zT zq P) (zxT yi zq ri Mi) (XT xj q Mj) (zxT yj zq rj Mj) (twoB t q zq i xi xj yi yj a16 (k + m) c16 (had.eraseIdx k) bx (wh, dd, nn, ⟨ba, bl, bc, bs⟩)))) from by
    rw [HEr.out.1] at hown
    have h1 := two_grow h8 hown hg hat
    obtain ⟨_, _, _, _, _, _, _, _, z6, zf⟩ := two_cells h1.sysPop hi
    exact ⟨z6, zf, Lib.hid (two_put (two_turn h1))⟩)
  have XD := Lib.hid (fun W n' a' c' (h : Held w W (sysT (PT q P) (XT xi q Mi) (zT zq P) (zxT yi zq ri Mi) (XT xj q Mj) (zxT yj zq rj Mj) (twoB t q zq i xi xj yi yj a' n' c' (had.eraseIdx k) bx (wh, dd, nn, ⟨ba, bl, bc, bs⟩)))) => h.sysCall (A2 := PT q (P.dropM y)) (X2 := XT xi q Mi) (fun W h' => by
    obtain ⟨W1, g1, _, g2⟩ := goes_fst h'
    exact (B.drop g1 HI.out.ok (by omega) y hys).mono fun e w' ⟨he, hg⟩ => ⟨he, g2 _ _ hg⟩))
  have YD := Lib.hid (fun W n' a' c' (h : Held w W (sysT (PT q (P.dropM y)) (XT xi q Mi) (zT zq P) (zxT yi zq ri Mi) (XT xj q Mj) (zxT yj zq rj Mj) (twoB t q zq i xi xj yi yj a' n' c' (had.eraseIdx k) bx (wh, dd, nn, ⟨ba, bl, bc, bs⟩)))) => h.sysCallZ (A2 := zT zq (P.dropM y)) (X2 := zxT yi zq ri Mi) (fun W h' => by
    obtain ⟨W1, g1, _, g2⟩ := goes_fst h'
    exact (zdrop_any g1 HI.out.ok (by omega) y).mono fun e w' ⟨he, hg⟩ => ⟨he, g2 _ _ hg⟩))
  have HPost := Lib.hid (fun W m a' c' (hm : m = n - (k + 1)) (h : Held w W (sysT (PT q (P.dropM y)) (XT xi q Mi) (zT zq (P.dropM y)) (zxT yi zq ri Mi) (XT xj q Mj) (zxT yj zq rj Mj) (twoB t q zq i xi xj yi yj a' (k + m) c' (had.eraseIdx k) bx (wh, dd, nn, ⟨ba, bl, bc, bs⟩)))) => show ∃ (P' : PM) (Mi' : RM) (had' : List Int) (ao' : Option Addr) (n' cc' : Nat), Two PT XT w W t q zq i xi xj yi yj ri rj P' Mi' Mj had' ao' n' cc' (N + 66) (K + 1) ∧ SameSz P P' ∧ n' ≤ n + 1 ∧ Mi'.n = Mi.n from
    ⟨P.dropM y, Mi, had.eraseIdx k, a', k + m, c', ⟨h.sysPop, HEr.out.2 m hm, by have := hInv; rwa [List.append_assoc] at this, (HI.out.ok.drop y).mono (by omega), HI.out.mi.mono (by omega), HI.out.mj.mono (by omega)⟩, sz_drop P y, by omega, rfl⟩)
  generalize P.dropN y = dn at *
  generalize P.err y = de at *
  generalize P.dropM y = P1 at *
  have HInv := Lib.hid hInv
  clear hInv hy
  go_wp2_with fail
  by_cases hcc : cc = k + 1
  · have hnk : n = k + 1 := by omega
    have HDl := Lib.hid (show ∀ (W : World) (ad : Addr), ((ints (had.drop (k + 1))).length = 0 * 1) ∧ ∀ j u, (ints (had.drop (k + 1)))[j]? = some u → W.cell? (ad.add j) = some u from fun W ad => by
      rw [List.drop_eq_nil_of_le (by rw [HLn.out]; omega)]
      exact ⟨rfl, fun j u h => by simp [ints] at h⟩)
    subst hnk
    subst hcc
    have hka : (k : Int) ≤ (k : Int) + 1 := by omega
    refine wp_region_noPanic ?_
    refine wp_region_held_drew (S := fun _ : World => True) (by kernel_rfl) trivial (fun _ => ?_)
    refine wpAnyH_take (i := 0) (oi := { dst := some 180, op := _, type := _, pos := _, after := _, guard := _ }) (v := ?_) rfl (by kernel_rfl) (by kernel_rfl) (by kernel_rfl) (fun _ _ _ h => h) (Or.inl ⟨by rfl, ?_⟩) trivial ?_
    rotate_left
    · intro Z hZ
      clear hZ
      go_simp
      all_goals with_reducible rfl
    try simp only [Act.put, List.setIfInBounds_toArray, List.set_cons_zero, List.set_cons_succ]
    refine wpAnyH_take (i := 2) (oi := { dst := some 182, op := _, type := _, pos := _, after := _, guard := _ }) (v := ?_) rfl (by kernel_rfl) (by kernel_rfl) (by kernel_rfl) (fun _ _ _ h => h) (Or.inl ⟨by rfl, ?_⟩) trivial ?_
    rotate_left
    · intro Z hZ
      clear hZ
      go_simp
      all_goals with_reducible rfl
    try simp only [Act.put, List.setIfInBounds_toArray, List.set_cons_zero, List.set_cons_succ]
    refine wpAnyH_take (i := 3) (oi := { dst := some 183, op := _, type := _, pos := _, after := _, guard := _ }) (v := ?_) rfl (by kernel_rfl) (by kernel_rfl) (by kernel_rfl) (fun _ _ _ h => h) (Or.inl ⟨by rfl, ?_⟩) trivial ?_
    rotate_left
    · intro Z hZ
      clear hZ
      go_simp
      all_goals with_reducible rfl
    try simp only [Act.put, List.setIfInBounds_toArray, List.set_cons_zero, List.set_cons_succ]
    refine wpAnyH_take (i := 4) (oi := { dst := some 184, op := _, type := _, pos := _, after := _, guard := _ }) (v := ?_) rfl (by kernel_rfl) (by kernel_rfl) (by kernel_rfl) (fun _ _ _ h => h) (Or.inl ⟨by rfl, ?_⟩) trivial ?_
    rotate_left
    · intro Z hZ
      clear hZ
      go_simp
      all_goals with_reducible rfl
    try simp only [Act.put, List.setIfInBounds_toArray, List.set_cons_zero, List.set_cons_succ]
    refine wpAnyH_take (i := 6) (oi := { dst := some 186, op := _, type := _, pos := _, after := _, guard := _ }) (v := ?_) rfl (by kernel_rfl) (by kernel_rfl) (by kernel_rfl) (fun _ _ _ h => h) (Or.inl ⟨by rfl, ?_⟩) trivial ?_
    rotate_left
    · intro Z hZ
      clear hZ
      go_simp
      all_goals with_reducible rfl
    try simp only [Act.put, List.setIfInBounds_toArray, List.set_cons_zero, List.set_cons_succ]
    refine wpAnyH_take (i := 9) (oi := { dst := some 189, op := _, type := _, pos := _, after := _, guard := _ }) (v := ?_) rfl (by kernel_rfl) (by kernel_rfl) (by kernel_rfl) (fun _ _ _ h => h) (Or.inl ⟨by rfl, ?_⟩) trivial ?_
    rotate_left
    · intro Z hZ
      clear hZ
      go_simp
      all_goals with_reducible rfl
    try simp only [Act.put, List.setIfInBounds_toArray, List.set_cons_zero, List.set_cons_succ]
    refine wpAnyH_take (i := 10) (oi := { dst := some 190, op := _, type := _, pos := _, after := _, guard := _ }) (v := ?_) rfl (by kernel_rfl) (by kernel_rfl) (by kernel_rfl) (fun _ _ _ h => h) (Or.inl ⟨by rfl, ?_⟩) trivial ?_
    rotate_left
    · intro Z hZ
      clear hZ
      go_simp
      all_goals with_reducible rfl
    try simp only [Act.put, List.setIfInBounds_toArray, List.set_cons_zero, List.set_cons_succ]
    refine wpAnyH_take (i := 11) (oi := { dst := some 191, op := _, type := _, pos := _, after := _, guard := _ }) (v := ?_) rfl (by kernel_rfl) (by kernel_rfl) (by kernel_rfl) (fun _ _ _ h => h) (Or.inl ⟨by rfl, ?_⟩) trivial ?_
    rotate_left
    · intro Z hZ
      clear hZ
      go_simp
      all_goals with_reducible rfl
    try simp only [Act.put, List.setIfInBounds_toArray, List.set_cons_zero, List.set_cons_succ]
    refine wpAnyH_take (i := 13) (oi := { dst := some 193, op := _, type := _, pos := _, after := _, guard := _ }) (v := ?_) rfl (by kernel_rfl) (by kernel_rfl) (by kernel_rfl) (fun _ _ _ h => h) (Or.inl ⟨by rfl, ?_⟩) trivial ?_
    rotate_left
    · intro Z hZ
      clear hZ
      go_simp
      all_goals with_reducible rfl
    try simp only [Act.put, List.setIfInBounds_toArray, List.set_cons_zero, List.set_cons_succ]
    refine wpAnyH_take (i := 14) (oi := { dst := some 194, op := _, type := _, pos := _, after := _, guard := _ }) (v := ?_) rfl (by kernel_rfl) (by kernel_rfl) (by kernel_rfl) (fun _ _ _ h => h) (Or.inl ⟨by rfl, ?_⟩) trivial ?_
    rotate_left
    · intro Z hZ
      clear hZ
      go_simp
      all_goals with_reducible rfl
    try simp only [Act.put, List.setIfInBounds_toArray, List.set_cons_zero, List.set_cons_succ]
    rw [← HUd.out]
    refine wpAnyH_ready (rs := [1, 5, 12]) (by kernel_rfl) (by simp) ?_
    refine AllReadyH.cons rfl (fun K hK => ?_) ?_
    · go_simp
      refine hK.out _ _ trivial (fun _ => ?_)
      clear hK K
      try simp only [Act.put, List.setIfInBounds_toArray, List.set_cons_zero, List.set_cons_succ]
      refine wpAnyH_ready (rs := [5, 12]) (by kernel_rfl) (by simp) ?_
      refine AllReadyH.cons rfl (fun K hK => ?_) ?_
      · go_simp
        refine hK.out _ _ trivial (fun _ => ?_)
        clear hK K
        try simp only [Act.put, List.setIfInBounds_toArray, List.set_cons_zero, List.set_cons_succ]
        refine wpAnyH_take (i := 7) (oi := { dst := some 187, op := _, type := _, pos := _, after := _, guard := _ }) (v := ?_) rfl (by kernel_rfl) (by kernel_rfl) (by kernel_rfl) (fun _ _ _ h => h) (Or.inl ⟨by rfl, ?_⟩) trivial ?_
        rotate_left
        · intro Z hZ
          clear hZ
          go_simp
          all_goals with_reducible rfl
        try simp only [Act.put, List.setIfInBounds_toArray, List.set_cons_zero, List.set_cons_succ]
        refine wpAnyH_ready (rs := [8, 12]) (by kernel_rfl) (by simp) ?_
        refine AllReadyH.cons rfl (fun K hK => ?_) ?_
        · refine step_app_own rfl (.tmp 181) (.tmp 187) 32 rfl 0 3 j0 (.int .i64 0) 1 8 Tryz.underlying32 ji jz0 jz1 jz2 rfl (by decide) (.slice (some ⟨U.heap.size, 0, none⟩) 0 0) 0 [] rfl HE0.out ⟨g, 0, none⟩ k _ (ints (had.take k)) rfl HTk.out.1 HTk.out.2 (ints_one _) (by unfold maxLen; omega) (by omega) (Nat.zero_le _) ?_
          intro v8 w8 hown8 hg8 hat8
          rw [Nat.zero_add] at hown8
          obtain ⟨a8, c8, rfl⟩ := ow_slice hown8
          obtain ⟨m1, m2, H8, HD8⟩ := H8f.out w8 a8 c8 hown8 hg8 hat8
          clear hown8 hg8 hat8
          refine hK.out _ _ trivial (fun _ => ?_)
          clear hK K
          try simp only [Act.put, List.setIfInBounds_toArray, List.set_cons_zero, List.set_cons_succ]
          refine wpAnyH_ready (rs := [12]) (by kernel_rfl) (by simp) ?_
          refine AllReadyH.cons rfl (fun K hK => ?_) AllReadyH.nil
          go_simp
          refine hK.out _ _ trivial (fun _ => ?_)
          clear hK K
          try simp only [Act.put, List.setIfInBounds_toArray, List.set_cons_zero, List.set_cons_succ]
          refine wpAnyH_take (i := 15) (oi := { dst := some 195, op := _, type := _, pos := _, after := _, guard := _ }) (v := ?_) rfl (by kernel_rfl) (by kernel_rfl) (by kernel_rfl) (fun _ _ _ h => h) (Or.inl ⟨by rfl, ?_⟩) trivial ?_
          rotate_left
          · intro Z hZ
            clear hZ
            go_simp
            all_goals with_reducible rfl
          try simp only [Act.put, List.setIfInBounds_toArray, List.set_cons_zero, List.set_cons_succ]
          refine wpAnyH_ready (rs := [16]) (by kernel_rfl) (by simp) ?_
          refine AllReadyH.cons rfl (fun K hK => ?_) AllReadyH.nil
          refine step_app_own rfl (.tmp 188) (.tmp 195) 32 rfl 0 3 j0 (.int .i64 0) 1 8 Tryz.underlying32 ji jz0 jz1 jz2 rfl (by decide) (.slice a8 k c8) k (ints (had.take k)) rfl H8.out.rest.own _ _ _ (ints (had.drop (k + 1))) rfl (HDl.out w8 ⟨0, 0, none⟩).1 (HDl.out w8 _).2 (ints_one _) (by unfold maxLen; omega) (by omega) (Nat.zero_le _) ?_
          intro v16 w16 hown16 hg16 hat16
          obtain ⟨a16, c16, rfl⟩ := ow_slice hown16
          obtain ⟨f1, f2, H16⟩ := H16f.out _ _ _ H8.out _ w16 a16 c16 hown16 hg16 hat16
          clear hown16 hg16 hat16
          simp only [Nat.add_zero] at H16
          refine hK.out _ _ trivial (fun _ => ?_)
          clear hK K
          try simp only [Act.put, List.setIfInBounds_toArray, List.set_cons_zero, List.set_cons_succ]
          refine wpAnyH_take (i := 17) (oi := { dst := some 197, op := _, type := _, pos := _, after := _, guard := _ }) (v := ?_) rfl (by kernel_rfl) (by kernel_rfl) (by kernel_rfl) (fun _ _ _ h => h) (Or.inl ⟨by rfl, ?_⟩) trivial ?_
          rotate_left
          · intro Z hZ
            clear hZ
            go_simp
            all_goals with_reducible rfl
          try simp only [Act.put, List.setIfInBounds_toArray, List.set_cons_zero, List.set_cons_succ]
          refine wpAnyH_take (i := 18) (oi := { dst := some 198, op := _, type := _, pos := _, after := _, guard := _ }) (v := ?_) rfl (by kernel_rfl) (by kernel_rfl) (by kernel_rfl) (fun _ _ _ h => h) (Or.inl ⟨by rfl, ?_⟩) trivial ?_
          rotate_left
          · intro Z hZ
            clear hZ
            go_simp
            all_goals with_reducible rfl
          try simp only [Act.put, List.setIfInBounds_toArray, List.set_cons_zero, List.set_cons_succ]
          refine wpAnyH_ready (rs := [19]) (by kernel_rfl) (by simp) ?_
          refine AllReadyH.cons rfl (fun K hK => ?_) AllReadyH.nil
          go_simp
          refine hK.out _ _ trivial (fun _ => ?_)
          clear hK K
          try simp only [Act.put, List.setIfInBounds_toArray, List.set_cons_zero, List.set_cons_succ]
          refine wpAnyH_done (by kernel_rfl) ?_ _
          refine NoPanic.normal ?_
          obtain ⟨r0, r1, r2, r3, r4, r5, rx, ry, r6, rf⟩ := two_cells H16.out hi
          go_wp2_with (first
            | (go_at_call 33; ((with_reducible refine (XD.out _ _ _ _ H16.out).mono ?_)); rintro e w17 ⟨rfl, hs⟩; have H17 := Lib.hid hs; clear r0 r1 r2 r3 r4 r5 rx ry r6 rf; obtain ⟨r0, r1, r2, r3, r4, r5, rx, ry, r6, rf⟩ := two_cells hs hi; clear hs)
            | (go_at_call 34; ((with_reducible refine (YD.out _ _ _ _ H17.out).mono ?_)); rintro e w18 ⟨rfl, hs⟩; have H18 := Lib.hid hs; clear hs))
          go_ret
          exact ⟨by first | rfl | simp, HPost.out _ 0 _ _ (by omega) H18.out⟩
        refine AllReadyH.cons rfl (fun K hK => ?_) AllReadyH.nil
        go_simp
        refine hK.out _ _ trivial (fun _ => ?_)
        clear hK K
        try simp only [Act.put, List.setIfInBounds_toArray, List.set_cons_zero, List.set_cons_succ]
        refine wpAnyH_take (i := 15) (oi := { dst := some 195, op := _, type := _, pos := _, after := _, guard := _ }) (v := ?_) rfl (by kernel_rfl) (by kernel_rfl) (by kernel_rfl) (fun _ _ _ h => h) (Or.inl ⟨by rfl, ?_⟩) trivial ?_
        rotate_left
        · intro Z hZ
          clear hZ
          go_simp
          all_goals with_reducible rfl
        try simp only [Act.put, List.setIfInBounds_toArray, List.set_cons_zero, List.set_cons_succ]
        refine wpAnyH_ready (rs := [8]) (by kernel_rfl) (by simp) ?_
        refine AllReadyH.cons rfl (fun K hK => ?_) AllReadyH.nil
        refine step_app_own rfl (.tmp 181) (.tmp 187) 32 rfl 0 3 j0 (.int .i64 0) 1 8 Tryz.underlying32 ji jz0 jz1 jz2 rfl (by decide) (.slice (some ⟨U.heap.size, 0, none⟩) 0 0) 0 [] rfl HE0.out ⟨g, 0, none⟩ k _ (ints (had.take k)) rfl HTk.out.1 HTk.out.2 (ints_one _) (by unfold maxLen; omega) (by omega) (Nat.zero_le _) ?_
        intro v8 w8 hown8 hg8 hat8
        rw [Nat.zero_add] at hown8
        obtain ⟨a8, c8, rfl⟩ := ow_slice hown8
        obtain ⟨m1, m2, H8, HD8⟩ := H8f.out w8 a8 c8 hown8 hg8 hat8
        clear hown8 hg8 hat8
        refine hK.out _ _ trivial (fun _ => ?_)
        clear hK K
        try simp only [Act.put, List.setIfInBounds_toArray, List.set_cons_zero, List.set_cons_succ]
        refine wpAnyH_ready (rs := [16]) (by kernel_rfl) (by simp) ?_
        refine AllReadyH.cons rfl (fun K hK => ?_) AllReadyH.nil
        refine step_app_own rfl (.tmp 188) (.tmp 195) 32 rfl 0 3 j0 (.int .i64 0) 1 8 Tryz.underlying32 ji jz0 jz1 jz2 rfl (by decide) (.slice a8 k c8) k (ints (had.take k)) rfl H8.out.rest.own _ _ _ (ints (had.drop (k + 1))) rfl (HDl.out w8 ⟨0, 0, none⟩).1 (HDl.out w8 _).2 (ints_one _) (by unfold maxLen; omega) (by omega) (Nat.zero_le _) ?_
        intro v16 w16 hown16 hg16 hat16
        obtain ⟨a16, c16, rfl⟩ := ow_slice hown16
        obtain ⟨f1, f2, H16⟩ := H16f.out _ _ _ H8.out _ w16 a16 c16 hown16 hg16 hat16
        clear hown16 hg16 hat16
        simp only [Nat.add_zero] at H16
        refine hK.out _ _ trivial (fun _ => ?_)
        clear hK K
        try simp only [Act.put, List.setIfInBounds_toArray, List.set_cons_zero, List.set_cons_succ]
        refine wpAnyH_take (i := 17) (oi := { dst := some 197, op := _, type := _, pos := _, after := _, guard := _ }) (v := ?_) rfl (by kernel_rfl) (by kernel_rfl) (by kernel_rfl) (fun _ _ _ h => h) (Or.inl ⟨by rfl, ?_⟩) trivial ?_
        rotate_left
        · intro Z hZ
          clear hZ
          go_simp
          all_goals with_reducible rfl
        try simp only [Act.put, List.setIfInBounds_toArray, List.set_cons_zero, List.set_cons_succ]
        refine wpAnyH_take (i := 18) (oi := { dst := some 198, op := _, type := _, pos := _, after := _, guard := _ }) (v := ?_) rfl (by kernel_rfl) (by kernel_rfl) (by kernel_rfl) (fun _ _ _ h => h) (Or.inl ⟨by rfl, ?_⟩) trivial ?_
        rotate_left
        · intro Z hZ
          clear hZ
          go_simp
          all_goals with_reducible rfl
        try simp only [Act.put, List.setIfInBounds_toArray, List.set_cons_zero, List.set_cons_succ]
        refine wpAnyH_ready (rs := [19]) (by kernel_rfl) (by simp) ?_
        refine AllReadyH.cons rfl (fun K hK => ?_) AllReadyH.nil
        go_simp
        refine hK.out _ _ trivial (fun _ => ?_)
        clear hK K
        try simp only [Act.put, List.setIfInBounds_toArray, List.set_cons_zero, List.set_cons_succ]
        refine wpAnyH_done (by kernel_rfl) ?_ _
        refine NoPanic.normal ?_
        obtain ⟨r0, r1, r2, r3, r4, r5, rx, ry, r6, rf⟩ := two_cells H16.out hi
        go_wp2_with (first
          | (go_at_call 33; ((with_reducible refine (XD.out _ _ _ _ H16.out).mono ?_)); rintro e w17 ⟨rfl, hs⟩; have H17 := Lib.hid hs; clear r0 r1 r2 r3 r4 r5 rx ry r6 rf; obtain ⟨r0, r1, r2, r3, r4, r5, rx, ry, r6, rf⟩ := two_cells hs hi; clear hs)
          | (go_at_call 34; ((with_reducible refine (YD.out _ _ _ _ H17.out).mono ?_)); rintro e w18 ⟨rfl, hs⟩; have H18 := Lib.hid hs; clear hs))
        go_ret
        exact ⟨by first | rfl | simp, HPost.out _ 0 _ _ (by omega) H18.out⟩
      refine AllReadyH.cons rfl (fun K hK => ?_) AllReadyH.nil
      go_simp
      refine hK.out _ _ trivial (fun _ => ?_)
      clear hK K
      try simp only [Act.put, List.setIfInBounds_toArray, List.set_cons_zero, List.set_cons_succ]
      refine wpAnyH_take (i := 15) (oi := { dst := some 195, op := _, type := _, pos := _, after := _, guard := _ }) (v := ?_) rfl (by kernel_rfl) (by kernel_rfl) (by kernel_rfl) (fun _ _ _ h => h) (Or.inl ⟨by rfl, ?_⟩) trivial ?_
      rotate_left
      · intro Z hZ
        clear hZ
        go_simp
        all_goals with_reducible rfl
      try simp only [Act.put, List.setIfInBounds_toArray, List.set_cons_zero, List.set_cons_succ]
      refine wpAnyH_ready (rs := [5]) (by kernel_rfl) (by simp) ?_
      refine AllReadyH.cons rfl (fun K hK => ?_) AllReadyH.nil
      go_simp
      refine hK.out _ _ trivial (fun _ => ?_)
      clear hK K
      try simp only [Act.put, List.setIfInBounds_toArray, List.set_cons_zero, List.set_cons_succ]
      refine wpAnyH_take (i := 7) (oi := { dst := some 187, op := _, type := _, pos := _, after := _, guard := _ }) (v := ?_) rfl (by kernel_rfl) (by kernel_rfl) (by kernel_rfl) (fun _ _ _ h => h) (Or.inl ⟨by rfl, ?_⟩) trivial ?_
      rotate_left
      · intro Z hZ
        clear hZ
        go_simp
        all_goals with_reducible rfl
      try simp only [Act.put, List.setIfInBounds_toArray, List.set_cons_zero, List.set_cons_succ]
      refine wpAnyH_ready (rs := [8]) (by kernel_rfl) (by simp) ?_
      refine AllReadyH.cons rfl (fun K hK => ?_) AllReadyH.nil
      refine step_app_own rfl (.tmp 181) (.tmp 187) 32 rfl 0 3 j0 (.int .i64 0) 1 8 Tryz.underlying32 ji jz0 jz1 jz2 rfl (by decide) (.slice (some ⟨U.heap.size, 0, none⟩) 0 0) 0 [] rfl HE0.out ⟨g, 0, none⟩ k _ (ints (had.take k)) rfl HTk.out.1 HTk.out.2 (ints_one _) (by unfold maxLen; omega) (by omega) (Nat.zero_le _) ?_
      intro v8 w8 hown8 hg8 hat8
      rw [Nat.zero_add] at hown8
      obtain ⟨a8, c8, rfl⟩ := ow_slice hown8
      obtain ⟨m1, m2, H8, HD8⟩ := H8f.out w8 a8 c8 hown8 hg8 hat8
      clear hown8 hg8 hat8
      refine hK.out _ _ trivial (fun _ => ?_)
      clear hK K
      try simp only [Act.put, List.setIfInBounds_toArray, List.set_cons_zero, List.set_cons_succ]
      refine wpAnyH_ready (rs := [16]) (by kernel_rfl) (by simp) ?_
      refine AllReadyH.cons rfl (fun K hK => ?_) AllReadyH.nil
      refine step_app_own rfl (.tmp 188) (.tmp 195) 32 rfl 0 3 j0 (.int .i64 0) 1 8 Tryz.underlying32 ji jz0 jz1 jz2 rfl (by decide) (.slice a8 k c8) k (ints (had.take k)) rfl H8.out.rest.own _ _ _ (ints (had.drop (k + 1))) rfl (HDl.out w8 ⟨0, 0, none⟩).1 (HDl.out w8 _).2 (ints_one _) (by unfold maxLen; omega) (by omega) (Nat.zero_le _) ?_
      intro v16 w16 hown16 hg16 hat16
      obtain ⟨a16, c16, rfl⟩ := ow_slice hown16
      obtain ⟨f1, f2, H16⟩ := H16f.out _ _ _ H8.out _ w16 a16 c16 hown16 hg16 hat16
      clear hown16 hg16 hat16
      simp only [Nat.add_zero] at H16
      refine hK.out _ _ trivial (fun _ => ?_)
      clear hK K
      try simp only [Act.put, List.setIfInBounds_toArray, List.set_cons_zero, List.set_cons_succ]
      refine wpAnyH_take (i := 17) (oi := { dst := some 197, op := _, type := _, pos := _, after := _, guard := _ }) (v := ?_) rfl (by kernel_rfl) (by kernel_rfl) (by kernel_rfl) (fun _ _ _ h => h) (Or.inl ⟨by rfl, ?_⟩) trivial ?_
      rotate_left
      · intro Z hZ
        clear hZ
        go_simp
        all_goals with_reducible rfl
      try simp only [Act.put, List.setIfInBounds_toArray, List.set_cons_zero, List.set_cons_succ]
      refine wpAnyH_take (i := 18) (oi := { dst := some 198, op := _, type := _, pos := _, after := _, guard := _ }) (v := ?_) rfl (by kernel_rfl) (by kernel_rfl) (by kernel_rfl) (fun _ _ _ h => h) (Or.inl ⟨by rfl, ?_⟩) trivial ?_
      rotate_left
      · intro Z hZ
        clear hZ
        go_simp
        all_goals with_reducible rfl
      try simp only [Act.put, List.setIfInBounds_toArray, List.set_cons_zero, List.set_cons_succ]
      refine wpAnyH_ready (rs := [19]) (by kernel_rfl) (by simp) ?_
      refine AllReadyH.cons rfl (fun K hK => ?_) AllReadyH.nil
      go_simp
      refine hK.out _ _ trivial (fun _ => ?_)
      clear hK K
      try simp only [Act.put, List.setIfInBounds_toArray, List.set_cons_zero, List.set_cons_succ]
      refine wpAnyH_done (by kernel_rfl) ?_ _
      refine NoPanic.normal ?_
      obtain ⟨r0, r1, r2, r3, r4, r5, rx, ry, r6, rf⟩ := two_cells H16.out hi
      go_wp2_with (first
        | (go_at_call 33; ((with_reducible refine (XD.out _ _ _ _ H16.out).mono ?_)); rintro e w17 ⟨rfl, hs⟩; have H17 := Lib.hid hs; clear r0 r1 r2 r3 r4 r5 rx ry r6 rf; obtain ⟨r0, r1, r2, r3, r4, r5, rx, ry, r6, rf⟩ := two_cells hs hi; clear hs)
        | (go_at_call 34; ((with_reducible refine (YD.out _ _ _ _ H17.out).mono ?_)); rintro e w18 ⟨rfl, hs⟩; have H18 := Lib.hid hs; clear hs))
      go_ret
      exact ⟨by first | rfl | simp, HPost.out _ 0 _ _ (by omega) H18.out⟩
    refine AllReadyH.cons rfl (fun K hK => ?_) ?_
    · go_simp
      refine hK.out _ _ trivial (fun _ => ?_)
      clear hK K
      try simp only [Act.put, List.setIfInBounds_toArray, List.set_cons_zero, List.set_cons_succ]
      refine wpAnyH_take (i := 7) (oi := { dst := some 187, op := _, type := _, pos := _, after := _, guard := _ }) (v := ?_) rfl (by kernel_rfl) (by kernel_rfl) (by kernel_rfl) (fun _ _ _ h => h) (Or.inl ⟨by rfl, ?_⟩) trivial ?_
      rotate_left
      · intro Z hZ
        clear hZ
        go_simp
        all_goals with_reducible rfl
      try simp only [Act.put, List.setIfInBounds_toArray, List.set_cons_zero, List.set_cons_succ]
      refine wpAnyH_ready (rs := [1, 12]) (by kernel_rfl) (by simp) ?_
      refine AllReadyH.cons rfl (fun K hK => ?_) ?_
      · go_simp
        refine hK.out _ _ trivial (fun _ => ?_)
        clear hK K
        try simp only [Act.put, List.setIfInBounds_toArray, List.set_cons_zero, List.set_cons_succ]
        refine wpAnyH_ready (rs := [8, 12]) (by kernel_rfl) (by simp) ?_
        refine AllReadyH.cons rfl (fun K hK => ?_) ?_
        · refine step_app_own rfl (.tmp 181) (.tmp 187) 32 rfl 0 3 j0 (.int .i64 0) 1 8 Tryz.underlying32 ji jz0 jz1 jz2 rfl (by decide) (.slice (some ⟨U.heap.size, 0, none⟩) 0 0) 0 [] rfl HE0.out ⟨g, 0, none⟩ k _ (ints (had.take k)) rfl HTk.out.1 HTk.out.2 (ints_one _) (by unfold maxLen; omega) (by omega) (Nat.zero_le _) ?_
          intro v8 w8 hown8 hg8 hat8
          rw [Nat.zero_add] at hown8
          obtain ⟨a8, c8, rfl⟩ := ow_slice hown8
          obtain ⟨m1, m2, H8, HD8⟩ := H8f.out w8 a8 c8 hown8 hg8 hat8
          clear hown8 hg8 hat8
          refine hK.out _ _ trivial (fun _ => ?_)
          clear hK K
          try simp only [Act.put, List.setIfInBounds_toArray, List.set_cons_zero, List.set_cons_succ]
          refine wpAnyH_ready (rs := [12]) (by kernel_rfl) (by simp) ?_
          refine AllReadyH.cons rfl (fun K hK => ?_) AllReadyH.nil
          go_simp
          refine hK.out _ _ trivial (fun _ => ?_)
          clear hK K
          try simp only [Act.put, List.setIfInBounds_toArray, List.set_cons_zero, List.set_cons_succ]
          refine wpAnyH_take (i := 15) (oi := { dst := some 195, op := _, type := _, pos := _, after := _, guard := _ }) (v := ?_) rfl (by kernel_rfl) (by kernel_rfl) (by kernel_rfl) (fun _ _ _ h => h) (Or.inl ⟨by rfl, ?_⟩) trivial ?_
          rotate_left
          · intro Z hZ
            clear hZ
            go_simp
            all_goals with_reducible rfl
          try simp only [Act.put, List.setIfInBounds_toArray, List.set_cons_zero, List.set_cons_succ]
          refine wpAnyH_ready (rs := [16]) (by kernel_rfl) (by simp) ?_
          refine AllReadyH.cons rfl (fun K hK => ?_) AllReadyH.nil
          refine step_app_own rfl (.tmp 188) (.tmp 195) 32 rfl 0 3 j0 (.int .i64 0) 1 8 Tryz.underlying32 ji jz0 jz1 jz2 rfl (by decide) (.slice a8 k c8) k (ints (had.take k)) rfl H8.out.rest.own _ _ _ (ints (had.drop (k + 1))) rfl (HDl.out w8 ⟨0, 0, none⟩).1 (HDl.out w8 _).2 (ints_one _) (by unfold maxLen; omega) (by omega) (Nat.zero_le _) ?_
          intro v16 w16 hown16 hg16 hat16
          obtain ⟨a16, c16, rfl⟩ := ow_slice hown16
          obtain ⟨f1, f2, H16⟩ := H16f.out _ _ _ H8.out _ w16 a16 c16 hown16 hg16 hat16
          clear hown16 hg16 hat16
          simp only [Nat.add_zero] at H16
          refine hK.out _ _ trivial (fun _ => ?_)
          clear hK K
          try simp only [Act.put, List.setIfInBounds_toArray, List.set_cons_zero, List.set_cons_succ]
          refine wpAnyH_take (i := 17) (oi := { dst := some 197, op := _, type := _, pos := _, after := _, guard := _ }) (v := ?_) rfl (by kernel_rfl) (by kernel_rfl) (by kernel_rfl) (fun _ _ _ h => h) (Or.inl ⟨by rfl, ?_⟩) trivial ?_
          rotate_left
          · intro Z hZ
            clear hZ
            go_simp
            all_goals with_reducible rfl
          try simp only [Act.put, List.setIfInBounds_toArray, List.set_cons_zero, List.set_cons_succ]
          refine wpAnyH_take (i := 18) (oi := { dst := some 198, op := _, type := _, pos := _, after := _, guard := _ }) (v := ?_) rfl (by kernel_rfl) (by kernel_rfl) (by kernel_rfl) (fun _ _ _ h => h) (Or.inl ⟨by rfl, ?_⟩) trivial ?_
          rotate_left
          · intro Z hZ
            clear hZ
            go_simp
            all_goals with_reducible rfl
          try simp only [Act.put, List.setIfInBounds_toArray, List.set_cons_zero, List.set_cons_succ]
          refine wpAnyH_ready (rs := [19]) (by kernel_rfl) (by simp) ?_
          refine AllReadyH.cons rfl (fun K hK => ?_) AllReadyH.nil
          go_simp
          refine hK.out _ _ trivial (fun _ => ?_)
          clear hK K
          try simp only [Act.put, List.setIfInBounds_toArray, List.set_cons_zero, List.set_cons_succ]
          refine wpAnyH_done (by kernel_rfl) ?_ _
          refine NoPanic.normal ?_
          obtain ⟨r0, r1, r2, r3, r4, r5, rx, ry, r6, rf⟩ := two_cells H16.out hi
          go_wp2_with (first
            | (go_at_call 33; ((with_reducible refine (XD.out _ _ _ _ H16.out).mono ?_)); rintro e w17 ⟨rfl, hs⟩; have H17 := Lib.hid hs; clear r0 r1 r2 r3 r4 r5 rx ry r6 rf; obtain ⟨r0, r1, r2, r3, r4, r5, rx, ry, r6, rf⟩ := two_cells hs hi; clear hs)
            | (go_at_call 34; ((with_reducible refine (YD.out _ _ _ _ H17.out).mono ?_)); rintro e w18 ⟨rfl, hs⟩; have H18 := Lib.hid hs; clear hs))
          go_ret
          exact ⟨by first | rfl | simp, HPost.out _ 0 _ _ (by omega) H18.out⟩
        refine AllReadyH.cons rfl (fun K hK => ?_) AllReadyH.nil
        go_simp
        refine hK.out _ _ trivial (fun _ => ?_)
        clear hK K
        try simp only [Act.put, List.setIfInBounds_toArray, List.set_cons_zero, List.set_cons_succ]
        refine wpAnyH_take (i := 15) (oi := { dst := some 195, op := _, type := _, pos := _, after := _, guard := _ }) (v := ?_) rfl (by kernel_rfl) (by kernel_rfl) (by kernel_rfl) (fun _ _ _ h => h) (Or.inl ⟨by rfl, ?_⟩) trivial ?_
        rotate_left
        · intro Z hZ
          clear hZ
          go_simp
          all_goals with_reducible rfl
        try simp only [Act.put, List.setIfInBounds_toArray, List.set_cons_zero, List.set_cons_succ]
        refine wpAnyH_ready (rs := [8]) (by kernel_rfl) (by simp) ?_
        refine AllReadyH.cons rfl (fun K hK => ?_) AllReadyH.nil
        refine step_app_own rfl (.tmp 181) (.tmp 187) 32 rfl 0 3 j0 (.int .i64 0) 1 8 Tryz.underlying32 ji jz0 jz1 jz2 rfl (by decide) (.slice (some ⟨U.heap.size, 0, none⟩) 0 0) 0 [] rfl HE0.out ⟨g, 0, none⟩ k _ (ints (had.take k)) rfl HTk.out.1 HTk.out.2 (ints_one _) (by unfold maxLen; omega) (by omega) (Nat.zero_le _) ?_
        intro v8 w8 hown8 hg8 hat8
        rw [Nat.zero_add] at hown8
        obtain ⟨a8, c8, rfl⟩ := ow_slice hown8
        obtain ⟨m1, m2, H8, HD8⟩ := H8f.out w8 a8 c8 hown8 hg8 hat8
        clear hown8 hg8 hat8
        refine hK.out _ _ trivial (fun _ => ?_)
        clear hK K
        try simp only [Act.put, List.setIfInBounds_toArray, List.set_cons_zero, List.set_cons_succ]
        refine wpAnyH_ready (rs := [16]) (by kernel_rfl) (by simp) ?_
        refine AllReadyH.cons rfl (fun K hK => ?_) AllReadyH.nil
        refine step_app_own rfl (.tmp 188) (.tmp 195) 32 rfl 0 3 j0 (.int .i64 0) 1 8 Tryz.underlying32 ji jz0 jz1 jz2 rfl (by decide) (.slice a8 k c8) k (ints (had.take k)) rfl H8.out.rest.own _ _ _ (ints (had.drop (k + 1))) rfl (HDl.out w8 ⟨0, 0, none⟩).1 (HDl.out w8 _).2 (ints_one _) (by unfold maxLen; omega) (by omega) (Nat.zero_le _) ?_
        intro v16 w16 hown16 hg16 hat16
        obtain ⟨a16, c16, rfl⟩ := ow_slice hown16
        obtain ⟨f1, f2, H16⟩ := H16f.out _ _ _ H8.out _ w16 a16 c16 hown16 hg16 hat16
        clear hown16 hg16 hat16
        simp only [Nat.add_zero] at H16
        refine hK.out _ _ trivial (fun _ => ?_)
        clear hK K
        try simp only [Act.put, List.setIfInBounds_toArray, List.set_cons_zero, List.set_cons_succ]
        refine wpAnyH_take (i := 17) (oi := { dst := some 197, op := _, type := _, pos := _, after := _, guard := _ }) (v := ?_) rfl (by kernel_rfl) (by kernel_rfl) (by kernel_rfl) (fun _ _ _ h => h) (Or.inl ⟨by rfl, ?_⟩) trivial ?_
        rotate_left
        · intro Z hZ
          clear hZ
          go_simp
          all_goals with_reducible rfl
        try simp only [Act.put, List.setIfInBounds_toArray, List.set_cons_zero, List.set_cons_succ]
        refine wpAnyH_take (i := 18) (oi := { dst := some 198, op := _, type := _, pos := _, after := _, guard := _ }) (v := ?_) rfl (by kernel_rfl) (by kernel_rfl) (by kernel_rfl) (fun _ _ _ h => h) (Or.inl ⟨by rfl, ?_⟩) trivial ?_
        rotate_left
        · intro Z hZ
          clear hZ
          go_simp
          all_goals with_reducible rfl
        try simp only [Act.put, List.setIfInBounds_toArray, List.set_cons_zero, List.set_cons_succ]
        refine wpAnyH_ready (rs := [19]) (by kernel_rfl) (by simp) ?_
        refine AllReadyH.cons rfl (fun K hK => ?_) AllReadyH.nil
        go_simp
        refine hK.out _ _ trivial (fun _ => ?_)
        clear hK K
        try simp only [Act.put, List.setIfInBounds_toArray, List.set_cons_zero, List.set_cons_succ]
        refine wpAnyH_done (by kernel_rfl) ?_ _
        refine NoPanic.normal ?_
        obtain ⟨r0, r1, r2, r3, r4, r5, rx, ry, r6, rf⟩ := two_cells H16.out hi
        go_wp2_with (first
          | (go_at_call 33; ((with_reducible refine (XD.out _ _ _ _ H16.out).mono ?_)); rintro e w17 ⟨rfl, hs⟩; have H17 := Lib.hid hs; clear r0 r1 r2 r3 r4 r5 rx ry r6 rf; obtain ⟨r0, r1, r2, r3, r4, r5, rx, ry, r6, rf⟩ := two_cells hs hi; clear hs)
          | (go_at_call 34; ((with_reducible refine (YD.out _ _ _ _ H17.out).mono ?_)); rintro e w18 ⟨rfl, hs⟩; have H18 := Lib.hid hs; clear hs))
        go_ret
        exact ⟨by first | rfl | simp, HPost.out _ 0 _ _ (by omega) H18.out⟩
      refine AllReadyH.cons rfl (fun K hK => ?_) AllReadyH.nil
      go_simp
      refine hK.out _ _ trivial (fun _ => ?_)
      clear hK K
      try simp only [Act.put, List.setIfInBounds_toArray, List.set_cons_zero, List.set_cons_succ]
      refine wpAnyH_take (i := 15) (oi := { dst := some 195, op := _, type := _, pos := _, after := _, guard := _ }) (v := ?_) rfl (by kernel_rfl) (by kernel_rfl) (by kernel_rfl) (fun _ _ _ h => h) (Or.inl ⟨by rfl, ?_⟩) trivial ?_
      rotate_left
      · intro Z hZ
        clear hZ
        go_simp
        all_goals with_reducible rfl
      try simp only [Act.put, List.setIfInBounds_toArray, List.set_cons_zero, List.set_cons_succ]
      refine wpAnyH_ready (rs := [1]) (by kernel_rfl) (by simp) ?_
      refine AllReadyH.cons rfl (fun K hK => ?_) AllReadyH.nil
      go_simp
      refine hK.out _ _ trivial (fun _ => ?_)
      clear hK K
      try simp only [Act.put, List.setIfInBounds_toArray, List.set_cons_zero, List.set_cons_succ]
      refine wpAnyH_ready (rs := [8]) (by kernel_rfl) (by simp) ?_
      refine AllReadyH.cons rfl (fun K hK => ?_) AllReadyH.nil
      refine step_app_own rfl (.tmp 181) (.tmp 187) 32 rfl 0 3 j0 (.int .i64 0) 1 8 Tryz.underlying32 ji jz0 jz1 jz2 rfl (by decide) (.slice (some ⟨U.heap.size, 0, none⟩) 0 0) 0 [] rfl HE0.out ⟨g, 0, none⟩ k _ (ints (had.take k)) rfl HTk.out.1 HTk.out.2 (ints_one _) (by unfold maxLen; omega) (by omega) (Nat.zero_le _) ?_
      intro v8 w8 hown8 hg8 hat8
      rw [Nat.zero_add] at hown8
      obtain ⟨a8, c8, rfl⟩ := ow_slice hown8
      obtain ⟨m1, m2, H8, HD8⟩ := H8f.out w8 a8 c8 hown8 hg8 hat8
      clear hown8 hg8 hat8
      refine hK.out _ _ trivial (fun _ => ?_)
      clear hK K
      try simp only [Act.put, List.setIfInBounds_toArray, List.set_cons_zero, List.set_cons_succ]
      refine wpAnyH_ready (rs := [16]) (by kernel_rfl) (by simp) ?_
      refine AllReadyH.cons rfl (fun K hK => ?_) AllReadyH.nil
      refine step_app_own rfl (.tmp 188) (.tmp 195) 32 rfl 0 3 j0 (.int .i64 0) 1 8 Tryz.underlying32 ji jz0 jz1 jz2 rfl (by decide) (.slice a8 k c8) k (ints (had.take k)) rfl H8.out.rest.own _ _ _ (ints (had.drop (k + 1))) rfl (HDl.out w8 ⟨0, 0, none⟩).1 (HDl.out w8 _).2 (ints_one _) (by unfold maxLen; omega) (by omega) (Nat.zero_le _) ?_
      intro v16 w16 hown16 hg16 hat16
      obtain ⟨a16, c16, rfl⟩ := ow_slice hown16
      obtain ⟨f1, f2, H16⟩ := H16f.out _ _ _ H8.out _ w16 a16 c16 hown16 hg16 hat16
      clear hown16 hg16 hat16
      simp only [Nat.add_zero] at H16
      refine hK.out _ _ trivial (fun _ => ?_)
      clear hK K
      try simp only [Act.put, List.setIfInBounds_toArray, List.set_cons_zero, List.set_cons_succ]
      refine wpAnyH_take (i := 17) (oi := { dst := some 197, op := _, type := _, pos := _, after := _, guard := _ }) (v := ?_) rfl (by kernel_rfl) (by kernel_rfl) (by kernel_rfl) (fun _ _ _ h => h) (Or.inl ⟨by rfl, ?_⟩) trivial ?_
      rotate_left
      · intro Z hZ
        clear hZ
        go_simp
        all_goals with_reducible rfl
      try simp only [Act.put, List.setIfInBounds_toArray, List.set_cons_zero, List.set_cons_succ]
      refine wpAnyH_take (i := 18) (oi := { dst := some 198, op := _, type := _, pos := _, after := _, guard := _ }) (v := ?_) rfl (by kernel_rfl) (by kernel_rfl) (by kernel_rfl) (fun _ _ _ h => h) (Or.inl ⟨by rfl, ?_⟩) trivial ?_
      rotate_left
      · intro Z hZ
        clear hZ
        go_simp
        all_goals with_reducible rfl
      try simp only [Act.put, List.setIfInBounds_toArray, List.set_cons_zero, List.set_cons_succ]
      refine wpAnyH_ready (rs := [19]) (by kernel_rfl) (by simp) ?_
      refine AllReadyH.cons rfl (fun K hK => ?_) AllReadyH.nil
      go_simp
      refine hK.out _ _ trivial (fun _ => ?_)
      clear hK K
      try simp only [Act.put, List.setIfInBounds_toArray, List.set_cons_zero, List.set_cons_succ]
      refine wpAnyH_done (by kernel_rfl) ?_ _
      refine NoPanic.normal ?_
      obtain ⟨r0, r1, r2, r3, r4, r5, rx, ry, r6, rf⟩ := two_cells H16.out hi
      go_wp2_with (first
        | (go_at_call 33; ((with_reducible refine (XD.out _ _ _ _ H16.out).mono ?_)); rintro e w17 ⟨rfl, hs⟩; have H17 := Lib.hid hs; clear r0 r1 r2 r3 r4 r5 rx ry r6 rf; obtain ⟨r0, r1, r2, r3, r4, r5, rx, ry, r6, rf⟩ := two_cells hs hi; clear hs)
        | (go_at_call 34; ((with_reducible refine (YD.out _ _ _ _ H17.out).mono ?_)); rintro e w18 ⟨rfl, hs⟩; have H18 := Lib.hid hs; clear hs))
      go_ret
      exact ⟨by first | rfl | simp, HPost.out _ 0 _ _ (by omega) H18.out⟩
    refine AllReadyH.cons rfl (fun K hK => ?_) AllReadyH.nil
    go_simp
    refine hK.out _ _ trivial (fun _ => ?_)
    clear hK K
    try simp only [Act.put, List.setIfInBounds_toArray, List.set_cons_zero, List.set_cons_succ]
    refine wpAnyH_take (i := 15) (oi := { dst := some 195, op := _, type := _, pos := _, after := _, guard := _ }) (v := ?_) rfl (by kernel_rfl) (by kernel_rfl) (by kernel_rfl) (fun _ _ _ h => h) (Or.inl ⟨by rfl, ?_⟩) trivial ?_
    rotate_left
    · intro Z hZ
      clear hZ
      go_simp
      all_goals with_reducible rfl
    try simp only [Act.put, List.setIfInBounds_toArray, List.set_cons_zero, List.set_cons_succ]
    refine wpAnyH_ready (rs := [1, 5]) (by kernel_rfl) (by simp) ?_
    refine AllReadyH.cons rfl (fun K hK => ?_) ?_
    · go_simp
      refine hK.out _ _ trivial (fun _ => ?_)
      clear hK K
      try simp only [Act.put, List.setIfInBounds_toArray, List.set_cons_zero, List.set_cons_succ]
      refine wpAnyH_ready (rs := [5]) (by kernel_rfl) (by simp) ?_
      refine AllReadyH.cons rfl (fun K hK => ?_) AllReadyH.nil
      go_simp
      refine hK.out _ _ trivial (fun _ => ?_)
      clear hK K
      try simp only [Act.put, List.setIfInBounds_toArray, List.set_cons_zero, List.set_cons_succ]
      refine wpAnyH_take (i := 7) (oi := { dst := some 187, op := _, type := _, pos := _, after := _, guard := _ }) (v := ?_) rfl (by kernel_rfl) (by kernel_rfl) (by kernel_rfl) (fun _ _ _ h => h) (Or.inl ⟨by rfl, ?_⟩) trivial ?_
      rotate_left
      · intro Z hZ
        clear hZ
        go_simp
        all_goals with_reducible rfl
      try simp only [Act.put, List.setIfInBounds_toArray, List.set_cons_zero, List.set_cons_succ]
      refine wpAnyH_ready (rs := [8]) (by kernel_rfl) (by simp) ?_
      refine AllReadyH.cons rfl (fun K hK => ?_) AllReadyH.nil
      refine step_app_own rfl (.tmp 181) (.tmp 187) 32 rfl 0 3 j0 (.int .i64 0) 1 8 Tryz.underlying32 ji jz0 jz1 jz2 rfl (by decide) (.slice (some ⟨U.heap.size, 0, none⟩) 0 0) 0 [] rfl HE0.out ⟨g, 0, none⟩ k _ (ints (had.take k)) rfl HTk.out.1 HTk.out.2 (ints_one _) (by unfold maxLen; omega) (by omega) (Nat.zero_le _) ?_
      intro v8 w8 hown8 hg8 hat8
      rw [Nat.zero_add] at hown8
      obtain ⟨a8, c8, rfl⟩ := ow_slice hown8
      obtain ⟨m1, m2, H8, HD8⟩ := H8f.out w8 a8 c8 hown8 hg8 hat8
      clear hown8 hg8 hat8
      refine hK.out _ _ trivial (fun _ => ?_)
      clear hK K
      try simp only [Act.put, List.setIfInBounds_toArray, List.set_cons_zero, List.set_cons_succ]
      refine wpAnyH_ready (rs := [16]) (by kernel_rfl) (by simp) ?_
      refine AllReadyH.cons rfl (fun K hK => ?_) AllReadyH.nil
      refine step_app_own rfl (.tmp 188) (.tmp 195) 32 rfl 0 3 j0 (.int .i64 0) 1 8 Tryz.underlying32 ji jz0 jz1 jz2 rfl (by decide) (.slice a8 k c8) k (ints (had.take k)) rfl H8.out.rest.own _ _ _ (ints (had.drop (k + 1))) rfl (HDl.out w8 ⟨0, 0, none⟩).1 (HDl.out w8 _).2 (ints_one _) (by unfold maxLen; omega) (by omega) (Nat.zero_le _) ?_
      intro v16 w16 hown16 hg16 hat16
      obtain ⟨a16, c16, rfl⟩ := ow_slice hown16
      obtain ⟨f1, f2, H16⟩ := H16f.out _ _ _ H8.out _ w16 a16 c16 hown16 hg16 hat16
      clear hown16 hg16 hat16
      simp only [Nat.add_zero] at H16
      refine hK.out _ _ trivial (fun _ => ?_)
      clear hK K
      try simp only [Act.put, List.setIfInBounds_toArray, List.set_cons_zero, List.set_cons_succ]
      refine wpAnyH_take (i := 17) (oi := { dst := some 197, op := _, type := _, pos := _, after := _, guard := _ }) (v := ?_) rfl (by kernel_rfl) (by kernel_rfl) (by kernel_rfl) (fun _ _ _ h => h) (Or.inl ⟨by rfl, ?_⟩) trivial ?_
      rotate_left
      · intro Z hZ
        clear hZ
        go_simp
        all_goals with_reducible rfl
      try simp only [Act.put, List.setIfInBounds_toArray, List.set_cons_zero, List.set_cons_succ]
      refine wpAnyH_take (i := 18) (oi := { dst := some 198, op := _, type := _, pos := _, after := _, guard := _ }) (v := ?_) rfl (by kernel_rfl) (by kernel_rfl) (by kernel_rfl) (fun _ _ _ h => h) (Or.inl ⟨by rfl, ?_⟩) trivial ?_
      rotate_left
      · intro Z hZ
        clear hZ
        go_simp
        all_goals with_reducible rfl
      try simp only [Act.put, List.setIfInBounds_toArray, List.set_cons_zero, List.set_cons_succ]
      refine wpAnyH_ready (rs := [19]) (by kernel_rfl) (by simp) ?_
      refine AllReadyH.cons rfl (fun K hK => ?_) AllReadyH.nil
      go_simp
      refine hK.out _ _ trivial (fun _ => ?_)
      clear hK K
      try simp only [Act.put, List.setIfInBounds_toArray, List.set_cons_zero, List.set_cons_succ]
      refine wpAnyH_done (by kernel_rfl) ?_ _
      refine NoPanic.normal ?_
      obtain ⟨r0, r1, r2, r3, r4, r5, rx, ry, r6, rf⟩ := two_cells H16.out hi
      go_wp2_with (first
        | (go_at_call 33; ((with_reducible refine (XD.out _ _ _ _ H16.out).mono ?_)); rintro e w17 ⟨rfl, hs⟩; have H17 := Lib.hid hs; clear r0 r1 r2 r3 r4 r5 rx ry r6 rf; obtain ⟨r0, r1, r2, r3, r4, r5, rx, ry, r6, rf⟩ := two_cells hs hi; clear hs)
        | (go_at_call 34; ((with_reducible refine (YD.out _ _ _ _ H17.out).mono ?_)); rintro e w18 ⟨rfl, hs⟩; have H18 := Lib.hid hs; clear hs))
      go_ret
      exact ⟨by first | rfl | simp, HPost.out _ 0 _ _ (by omega) H18.out⟩
    refine AllReadyH.cons rfl (fun K hK => ?_) AllReadyH.nil
    go_simp
    refine hK.out _ _ trivial (fun _ => ?_)
    clear hK K
    try simp only [Act.put, List.setIfInBounds_toArray, List.set_cons_zero, List.set_cons_succ]
    refine wpAnyH_take (i := 7) (oi := { dst := some 187, op := _, type := _, pos := _, after := _, guard := _ }) (v := ?_) rfl (by kernel_rfl) (by kernel_rfl) (by kernel_rfl) (fun _ _ _ h => h) (Or.inl ⟨by rfl, ?_⟩) trivial ?_
    rotate_left
    · intro Z hZ
      clear hZ
      go_simp
      all_goals with_reducible rfl
    try simp only [Act.put, List.setIfInBounds_toArray, List.set_cons_zero, List.set_cons_succ]
    refine wpAnyH_ready (rs := [1]) (by kernel_rfl) (by simp) ?_
    refine AllReadyH.cons rfl (fun K hK => ?_) AllReadyH.nil
    go_simp
    refine hK.out _ _ trivial (fun _ => ?_)
    clear hK K
    try simp only [Act.put, List.setIfInBounds_toArray, List.set_cons_zero, List.set_cons_succ]
    refine wpAnyH_ready (rs := [8]) (by kernel_rfl) (by simp) ?_
    refine AllReadyH.cons rfl (fun K hK => ?_) AllReadyH.nil
    refine step_app_own rfl (.tmp 181) (.tmp 187) 32 rfl 0 3 j0 (.int .i64 0) 1 8 Tryz.underlying32 ji jz0 jz1 jz2 rfl (by decide) (.slice (some ⟨U.heap.size, 0, none⟩) 0 0) 0 [] rfl HE0.out ⟨g, 0, none⟩ k _ (ints (had.take k)) rfl HTk.out.1 HTk.out.2 (ints_one _) (by unfold maxLen; omega) (by omega) (Nat.zero_le _) ?_
    intro v8 w8 hown8 hg8 hat8
    rw [Nat.zero_add] at hown8
    obtain ⟨a8, c8, rfl⟩ := ow_slice hown8
    obtain ⟨m1, m2, H8, HD8⟩ := H8f.out w8 a8 c8 hown8 hg8 hat8
    clear hown8 hg8 hat8
    refine hK.out _ _ trivial (fun _ => ?_)
    clear hK K
    try simp only [Act.put, List.setIfInBounds_toArray, List.set_cons_zero, List.set_cons_succ]
    refine wpAnyH_ready (rs := [16]) (by kernel_rfl) (by simp) ?_
    refine AllReadyH.cons rfl (fun K hK => ?_) AllReadyH.nil
    refine step_app_own rfl (.tmp 188) (.tmp 195) 32 rfl 0 3 j0 (.int .i64 0) 1 8 Tryz.underlying32 ji jz0 jz1 jz2 rfl (by decide) (.slice a8 k c8) k (ints (had.take k)) rfl H8.out.rest.own _ _ _ (ints (had.drop (k + 1))) rfl (HDl.out w8 ⟨0, 0, none⟩).1 (HDl.out w8 _).2 (ints_one _) (by unfold maxLen; omega) (by omega) (Nat.zero_le _) ?_
    intro v16 w16 hown16 hg16 hat16
    obtain ⟨a16, c16, rfl⟩ := ow_slice hown16
    obtain ⟨f1, f2, H16⟩ := H16f.out _ _ _ H8.out _ w16 a16 c16 hown16 hg16 hat16
    clear hown16 hg16 hat16
    simp only [Nat.add_zero] at H16
    refine hK.out _ _ trivial (fun _ => ?_)
    clear hK K
    try simp only [Act.put, List.setIfInBounds_toArray, List.set_cons_zero, List.set_cons_succ]
    refine wpAnyH_take (i := 17) (oi := { dst := some 197, op := _, type := _, pos := _, after := _, guard := _ }) (v := ?_) rfl (by kernel_rfl) (by kernel_rfl) (by kernel_rfl) (fun _ _ _ h => h) (Or.inl ⟨by rfl, ?_⟩) trivial ?_
    rotate_left
    · intro Z hZ
      clear hZ
      go_simp
      all_goals with_reducible rfl
    try simp only [Act.put, List.setIfInBounds_toArray, List.set_cons_zero, List.set_cons_succ]
    refine wpAnyH_take (i := 18) (oi := { dst := some 198, op := _, type := _, pos := _, after := _, guard := _ }) (v := ?_) rfl (by kernel_rfl) (by kernel_rfl) (by kernel_rfl) (fun _ _ _ h => h) (Or.inl ⟨by rfl, ?_⟩) trivial ?_
    rotate_left
    · intro Z hZ
      clear hZ
      go_simp
      all_goals with_reducible rfl
    try simp only [Act.put, List.setIfInBounds_toArray, List.set_cons_zero, List.set_cons_succ]
    refine wpAnyH_ready (rs := [19]) (by kernel_rfl) (by simp) ?_
    refine AllReadyH.cons rfl (fun K hK => ?_) AllReadyH.nil
    go_simp
    refine hK.out _ _ trivial (fun _ => ?_)
    clear hK K
    try simp only [Act.put, List.setIfInBounds_toArray, List.set_cons_zero, List.set_cons_succ]
    refine wpAnyH_done (by kernel_rfl) ?_ _
    refine NoPanic.normal ?_
    obtain ⟨r0, r1, r2, r3, r4, r5, rx, ry, r6, rf⟩ := two_cells H16.out hi
    go_wp2_with (first
      | (go_at_call 33; ((with_reducible refine (XD.out _ _ _ _ H16.out).mono ?_)); rintro e w17 ⟨rfl, hs⟩; have H17 := Lib.hid hs; clear r0 r1 r2 r3 r4 r5 rx ry r6 rf; obtain ⟨r0, r1, r2, r3, r4, r5, rx, ry, r6, rf⟩ := two_cells hs hi; clear hs)
      | (go_at_call 34; ((with_reducible refine (YD.out _ _ _ _ H17.out).mono ?_)); rintro e w18 ⟨rfl, hs⟩; have H18 := Lib.hid hs; clear hs))
    go_ret
    exact ⟨by first | rfl | simp, HPost.out _ 0 _ _ (by omega) H18.out⟩
  · have HDl := Lib.hid (show (ints (had.drop (k + 1))).length = (n - (k + 1)) * 1 from by rw [ints_length, List.length_drop, HLn.out]; omega)
    refine wp_region_noPanic ?_
    refine wp_region_held_drew (S := fun _ : World => True) (by kernel_rfl) trivial (fun _ => ?_)
    refine wpAnyH_take (i := 0) (oi := { dst := some 180, op := _, type := _, pos := _, after := _, guard := _ }) (v := ?_) rfl (by kernel_rfl) (by kernel_rfl) (by kernel_rfl) (fun _ _ _ h => h) (Or.inl ⟨by rfl, ?_⟩) trivial ?_
    rotate_left
    · intro Z hZ
      clear hZ
      go_simp
      all_goals with_reducible rfl
    try simp only [Act.put, List.setIfInBounds_toArray, List.set_cons_zero, List.set_cons_succ]
    refine wpAnyH_take (i := 2) (oi := { dst := some 182, op := _, type := _, pos := _, after := _, guard := _ }) (v := ?_) rfl (by kernel_rfl) (by kernel_rfl) (by kernel_rfl) (fun _ _ _ h => h) (Or.inl ⟨by rfl, ?_⟩) trivial ?_
    rotate_left
    · intro Z hZ
      clear hZ
      go_simp
      all_goals with_reducible rfl
    try simp only [Act.put, List.setIfInBounds_toArray, List.set_cons_zero, List.set_cons_succ]
    refine wpAnyH_take (i := 3) (oi := { dst := some 183, op := _, type := _, pos := _, after := _, guard := _ }) (v := ?_) rfl (by kernel_rfl) (by kernel_rfl) (by kernel_rfl) (fun _ _ _ h => h) (Or.inl ⟨by rfl, ?_⟩) trivial ?_
    rotate_left
    · intro Z hZ
      clear hZ
      go_simp
      all_goals with_reducible rfl
    try simp only [Act.put, List.setIfInBounds_toArray, List.set_cons_zero, List.set_cons_succ]
    refine wpAnyH_take (i := 4) (oi := { dst := some 184, op := _, type := _, pos := _, after := _, guard := _ }) (v := ?_) rfl (by kernel_rfl) (by kernel_rfl) (by kernel_rfl) (fun _ _ _ h => h) (Or.inl ⟨by rfl, ?_⟩) trivial ?_
    rotate_left
    · intro Z hZ
      clear hZ
      go_simp
      all_goals with_reducible rfl
    try simp only [Act.put, List.setIfInBounds_toArray, List.set_cons_zero, List.set_cons_succ]
    refine wpAnyH_take (i := 6) (oi := { dst := some 186, op := _, type := _, pos := _, after := _, guard := _ }) (v := ?_) rfl (by kernel_rfl) (by kernel_rfl) (by kernel_rfl) (fun _ _ _ h => h) (Or.inl ⟨by rfl, ?_⟩) trivial ?_
    rotate_left
    · intro Z hZ
      clear hZ
      go_simp
      all_goals with_reducible rfl
    try simp only [Act.put, List.setIfInBounds_toArray, List.set_cons_zero, List.set_cons_succ]
    refine wpAnyH_take (i := 9) (oi := { dst := some 189, op := _, type := _, pos := _, after := _, guard := _ }) (v := ?_) rfl (by kernel_rfl) (by kernel_rfl) (by kernel_rfl) (fun _ _ _ h => h) (Or.inl ⟨by rfl, ?_⟩) trivial ?_
    rotate_left
    · intro Z hZ
      clear hZ
      go_simp
      all_goals with_reducible rfl
    try simp only [Act.put, List.setIfInBounds_toArray, List.set_cons_zero, List.set_cons_succ]
    refine wpAnyH_take (i := 10) (oi := { dst := some 190, op := _, type := _, pos := _, after := _, guard := _ }) (v := ?_) rfl (by kernel_rfl) (by kernel_rfl) (by kernel_rfl) (fun _ _ _ h => h) (Or.inl ⟨by rfl, ?_⟩) trivial ?_
    rotate_left
    · intro Z hZ
      clear hZ
      go_simp
      all_goals with_reducible rfl
    try simp only [Act.put, List.setIfInBounds_toArray, List.set_cons_zero, List.set_cons_succ]
    refine wpAnyH_take (i := 11) (oi := { dst := some 191, op := _, type := _, pos := _, after := _, guard := _ }) (v := ?_) rfl (by kernel_rfl) (by kernel_rfl) (by kernel_rfl) (fun _ _ _ h => h) (Or.inl ⟨by rfl, ?_⟩) trivial ?_
    rotate_left
    · intro Z hZ
      clear hZ
      go_simp
      all_goals with_reducible rfl
    try simp only [Act.put, List.setIfInBounds_toArray, List.set_cons_zero, List.set_cons_succ]
    refine wpAnyH_take (i := 13) (oi := { dst := some 193, op := _, type := _, pos := _, after := _, guard := _ }) (v := ?_) rfl (by kernel_rfl) (by kernel_rfl) (by kernel_rfl) (fun _ _ _ h => h) (Or.inl ⟨by rfl, ?_⟩) trivial ?_
    rotate_left
    · intro Z hZ
      clear hZ
      go_simp
      all_goals with_reducible rfl
    try simp only [Act.put, List.setIfInBounds_toArray, List.set_cons_zero, List.set_cons_succ]
    refine wpAnyH_take (i := 14) (oi := { dst := some 194, op := _, type := _, pos := _, after := _, guard := _ }) (v := ?_) rfl (by kernel_rfl) (by kernel_rfl) (by kernel_rfl) (fun _ _ _ h => h) (Or.inl ⟨by rfl, ?_⟩) trivial ?_
    rotate_left
    · intro Z hZ
      clear hZ
      go_simp
      all_goals with_reducible rfl
    try simp only [Act.put, List.setIfInBounds_toArray, List.set_cons_zero, List.set_cons_succ]
    rw [← HUd.out]
    refine wpAnyH_ready (rs := [1, 5, 12]) (by kernel_rfl) (by simp) ?_
    refine AllReadyH.cons rfl (fun K hK => ?_) ?_
    · go_simp
      refine hK.out _ _ trivial (fun _ => ?_)
      clear hK K
      try simp only [Act.put, List.setIfInBounds_toArray, List.set_cons_zero, List.set_cons_succ]
      refine wpAnyH_ready (rs := [5, 12]) (by kernel_rfl) (by simp) ?_
      refine AllReadyH.cons rfl (fun K hK => ?_) ?_
      · go_simp
        refine hK.out _ _ trivial (fun _ => ?_)
        clear hK K
        try simp only [Act.put, List.setIfInBounds_toArray, List.set_cons_zero, List.set_cons_succ]
        refine wpAnyH_take (i := 7) (oi := { dst := some 187, op := _, type := _, pos := _, after := _, guard := _ }) (v := ?_) rfl (by kernel_rfl) (by kernel_rfl) (by kernel_rfl) (fun _ _ _ h => h) (Or.inl ⟨by rfl, ?_⟩) trivial ?_
        rotate_left
        · intro Z hZ
          clear hZ
          go_simp
          all_goals with_reducible rfl
        try simp only [Act.put, List.setIfInBounds_toArray, List.set_cons_zero, List.set_cons_succ]
        refine wpAnyH_ready (rs := [8, 12]) (by kernel_rfl) (by simp) ?_
        refine AllReadyH.cons rfl (fun K hK => ?_) ?_
        · refine step_app_own rfl (.tmp 181) (.tmp 187) 32 rfl 0 3 j0 (.int .i64 0) 1 8 Tryz.underlying32 ji jz0 jz1 jz2 rfl (by decide) (.slice (some ⟨U.heap.size, 0, none⟩) 0 0) 0 [] rfl HE0.out ⟨g, 0, none⟩ k _ (ints (had.take k)) rfl HTk.out.1 HTk.out.2 (ints_one _) (by unfold maxLen; omega) (by omega) (Nat.zero_le _) ?_
          intro v8 w8 hown8 hg8 hat8
          rw [Nat.zero_add] at hown8
          obtain ⟨a8, c8, rfl⟩ := ow_slice hown8
          obtain ⟨m1, m2, H8, HD8⟩ := H8f.out w8 a8 c8 hown8 hg8 hat8
          clear hown8 hg8 hat8
          refine hK.out _ _ trivial (fun _ => ?_)
          clear hK K
          try simp only [Act.put, List.setIfInBounds_toArray, List.set_cons_zero, List.set_cons_succ]
          refine wpAnyH_ready (rs := [12]) (by kernel_rfl) (by simp) ?_
          refine AllReadyH.cons rfl (fun K hK => ?_) AllReadyH.nil
          go_simp
          refine hK.out _ _ trivial (fun _ => ?_)
          clear hK K
          try simp only [Act.put, List.setIfInBounds_toArray, List.set_cons_zero, List.set_cons_succ]
          refine wpAnyH_take (i := 15) (oi := { dst := some 195, op := _, type := _, pos := _, after := _, guard := _ }) (v := ?_) rfl (by kernel_rfl) (by kernel_rfl) (by kernel_rfl) (fun _ _ _ h => h) (Or.inl ⟨by rfl, ?_⟩) trivial ?_
          rotate_left
          · intro Z hZ
            clear hZ
            go_simp
            all_goals with_reducible rfl
          try simp only [Act.put, List.setIfInBounds_toArray, List.set_cons_zero, List.set_cons_succ]
          refine wpAnyH_ready (rs := [16]) (by kernel_rfl) (by simp) ?_
          refine AllReadyH.cons rfl (fun K hK => ?_) AllReadyH.nil
          refine step_app_own rfl (.tmp 188) (.tmp 195) 32 rfl 0 3 j0 (.int .i64 0) 1 8 Tryz.underlying32 ji jz0 jz1 jz2 rfl (by decide) (.slice a8 k c8) k (ints (had.take k)) rfl H8.out.rest.own _ _ _ (ints (had.drop (k + 1))) rfl HDl.out HD8.out (ints_one _) (by unfold maxLen; omega) (by omega) (Nat.zero_le _) ?_
          intro v16 w16 hown16 hg16 hat16
          obtain ⟨a16, c16, rfl⟩ := ow_slice hown16
          obtain ⟨f1, f2, H16⟩ := H16f.out _ _ _ H8.out _ w16 a16 c16 hown16 hg16 hat16
          clear hown16 hg16 hat16
          refine hK.out _ _ trivial (fun _ => ?_)
          clear hK K
          try simp only [Act.put, List.setIfInBounds_toArray, List.set_cons_zero, List.set_cons_succ]
          refine wpAnyH_take (i := 17) (oi := { dst := some 197, op := _, type := _, pos := _, after := _, guard := _ }) (v := ?_) rfl (by kernel_rfl) (by kernel_rfl) (by kernel_rfl) (fun _ _ _ h => h) (Or.inl ⟨by rfl, ?_⟩) trivial ?_
          rotate_left
          · intro Z hZ
            clear hZ
            go_simp
            all_goals with_reducible rfl
          try simp only [Act.put, List.setIfInBounds_toArray, List.set_cons_zero, List.set_cons_succ]
          refine wpAnyH_take (i := 18) (oi := { dst := some 198, op := _, type := _, pos := _, after := _, guard := _ }) (v := ?_) rfl (by kernel_rfl) (by kernel_rfl) (by kernel_rfl) (fun _ _ _ h => h) (Or.inl ⟨by rfl, ?_⟩) trivial ?_
          rotate_left
          · intro Z hZ
            clear hZ
            go_simp
            all_goals with_reducible rfl
          try simp only [Act.put, List.setIfInBounds_toArray, List.set_cons_zero, List.set_cons_succ]
          refine wpAnyH_ready (rs := [19]) (by kernel_rfl) (by simp) ?_
          refine AllReadyH.cons rfl (fun K hK => ?_) AllReadyH.nil
          go_simp
          refine hK.out _ _ trivial (fun _ => ?_)
          clear hK K
          try simp only [Act.put, List.setIfInBounds_toArray, List.set_cons_zero, List.set_cons_succ]
          refine wpAnyH_done (by kernel_rfl) ?_ _
          refine NoPanic.normal ?_
          obtain ⟨r0, r1, r2, r3, r4, r5, rx, ry, r6, rf⟩ := two_cells H16.out hi
          go_wp2_with (first
            | (go_at_call 33; ((with_reducible refine (XD.out _ _ _ _ H16.out).mono ?_)); rintro e w17 ⟨rfl, hs⟩; have H17 := Lib.hid hs; clear r0 r1 r2 r3 r4 r5 rx ry r6 rf; obtain ⟨r0, r1, r2, r3, r4, r5, rx, ry, r6, rf⟩ := two_cells hs hi; clear hs)
            | (go_at_call 34; ((with_reducible refine (YD.out _ _ _ _ H17.out).mono ?_)); rintro e w18 ⟨rfl, hs⟩; have H18 := Lib.hid hs; clear hs))
          go_ret
          exact ⟨by first | rfl | simp, HPost.out _ _ _ _ rfl H18.out⟩
        refine AllReadyH.cons rfl (fun K hK => ?_) AllReadyH.nil
        go_simp
        refine hK.out _ _ trivial (fun _ => ?_)
        clear hK K
        try simp only [Act.put, List.setIfInBounds_toArray, List.set_cons_zero, List.set_cons_succ]
        refine wpAnyH_take (i := 15) (oi := { dst := some 195, op := _, type := _, pos := _, after := _, guard := _ }) (v := ?_) rfl (by kernel_rfl) (by kernel_rfl) (by kernel_rfl) (fun _ _ _ h => h) (Or.inl ⟨by rfl, ?_⟩) trivial ?_
        rotate_left
        · intro Z hZ
          clear hZ
          go_simp
          all_goals with_reducible rfl
        try simp only [Act.put, List.setIfInBounds_toArray, List.set_cons_zero, List.set_cons_succ]
        refine wpAnyH_ready (rs := [8]) (by kernel_rfl) (by simp) ?_
        refine AllReadyH.cons rfl (fun K hK => ?_) AllReadyH.nil
        refine step_app_own rfl (.tmp 181) (.tmp 187) 32 rfl 0 3 j0 (.int .i64 0) 1 8 Tryz.underlying32 ji jz0 jz1 jz2 rfl (by decide) (.slice (some ⟨U.heap.size, 0, none⟩) 0 0) 0 [] rfl HE0.out ⟨g, 0, none⟩ k _ (ints (had.take k)) rfl HTk.out.1 HTk.out.2 (ints_one _) (by unfold maxLen; omega) (by omega) (Nat.zero_le _) ?_
        intro v8 w8 hown8 hg8 hat8
        rw [Nat.zero_add] at hown8
        obtain ⟨a8, c8, rfl⟩ := ow_slice hown8
        obtain ⟨m1, m2, H8, HD8⟩ := H8f.out w8 a8 c8 hown8 hg8 hat8
        clear hown8 hg8 hat8
        refine hK.out _ _ trivial (fun _ => ?_)
        clear hK K
        try simp only [Act.put, List.setIfInBounds_toArray, List.set_cons_zero, List.set_cons_succ]
        refine wpAnyH_ready (rs := [16]) (by kernel_rfl) (by simp) ?_
        refine AllReadyH.cons rfl (fun K hK => ?_) AllReadyH.nil
        refine step_app_own rfl (.tmp 188) (.tmp 195) 32 rfl 0 3 j0 (.int .i64 0) 1 8 Tryz.underlying32 ji jz0 jz1 jz2 rfl (by decide) (.slice a8 k c8) k (ints (had.take k)) rfl H8.out.rest.own _ _ _ (ints (had.drop (k + 1))) rfl HDl.out HD8.out (ints_one _) (by unfold maxLen; omega) (by omega) (Nat.zero_le _) ?_
        intro v16 w16 hown16 hg16 hat16
        obtain ⟨a16, c16, rfl⟩ := ow_slice hown16
        obtain ⟨f1, f2, H16⟩ := H16f.out _ _ _ H8.out _ w16 a16 c16 hown16 hg16 hat16
        clear hown16 hg16 hat16
        refine hK.out _ _ trivial (fun _ => ?_)
        clear hK K
        try simp only [Act.put, List.setIfInBounds_toArray, List.set_cons_zero, List.set_cons_succ]
        refine wpAnyH_take (i := 17) (oi := { dst := some 197, op := _, type := _, pos := _, after := _, guard := _ }) (v := ?_) rfl (by kernel_rfl) (by kernel_rfl) (by kernel_rfl) (fun _ _ _ h => h) (Or.inl ⟨by rfl, ?_⟩) trivial ?_
        rotate_left
        · intro Z hZ
          clear hZ
          go_simp
          all_goals with_reducible rfl
        try simp only [Act.put, List.setIfInBounds_toArray, List.set_cons_zero, List.set_cons_succ]
        refine wpAnyH_take (i := 18) (oi := { dst := some 198, op := _, type := _, pos := _, after := _, guard := _ }) (v := ?_) rfl (by kernel_rfl) (by kernel_rfl) (by kernel_rfl) (fun _ _ _ h => h) (Or.inl ⟨by rfl, ?_⟩) trivial ?_
        rotate_left
        · intro Z hZ
          clear hZ
          go_simp
          all_goals with_reducible rfl
        try simp only [Act.put, List.setIfInBounds_toArray, List.set_cons_zero, List.set_cons_succ]
        refine wpAnyH_ready (rs := [19]) (by kernel_rfl) (by simp) ?_
        refine AllReadyH.cons rfl (fun K hK => ?_) AllReadyH.nil
        go_simp
        refine hK.out _ _ trivial (fun _ => ?_)
        clear hK K
        try simp only [Act.put, List.setIfInBounds_toArray, List.set_cons_zero, List.set_cons_succ]
        refine wpAnyH_done (by kernel_rfl) ?_ _
        refine NoPanic.normal ?_
        obtain ⟨r0, r1, r2, r3, r4, r5, rx, ry, r6, rf⟩ := two_cells H16.out hi
        go_wp2_with (first
          | (go_at_call 33; ((with_reducible refine (XD.out _ _ _ _ H16.out).mono ?_)); rintro e w17 ⟨rfl, hs⟩; have H17 := Lib.hid hs; clear r0 r1 r2 r3 r4 r5 rx ry r6 rf; obtain ⟨r0, r1, r2, r3, r4, r5, rx, ry, r6, rf⟩ := two_cells hs hi; clear hs)
          | (go_at_call 34; ((with_reducible refine (YD.out _ _ _ _ H17.out).mono ?_)); rintro e w18 ⟨rfl, hs⟩; have H18 := Lib.hid hs; clear hs))
        go_ret
        exact ⟨by first | rfl | simp, HPost.out _ _ _ _ rfl H18.out⟩
      refine AllReadyH.cons rfl (fun K hK => ?_) AllReadyH.nil
      go_simp
      refine hK.out _ _ trivial (fun _ => ?_)
      clear hK K
      try simp only [Act.put, List.setIfInBounds_toArray, List.set_cons_zero, List.set_cons_succ]
      refine wpAnyH_take (i := 15) (oi := { dst := some 195, op := _, type := _, pos := _, after := _, guard := _ }) (v := ?_) rfl (by kernel_rfl) (by kernel_rfl) (by kernel_rfl) (fun _ _ _ h => h) (Or.inl ⟨by rfl, ?_⟩) trivial ?_
      rotate_left
      · intro Z hZ
        clear hZ
        go_simp
        all_goals with_reducible rfl
      try simp only [Act.put, List.setIfInBounds_toArray, List.set_cons_zero, List.set_cons_succ]
      refine wpAnyH_ready (rs := [5]) (by kernel_rfl) (by simp) ?_
      refine AllReadyH.cons rfl (fun K hK => ?_) AllReadyH.nil
      go_simp
      refine hK.out _ _ trivial (fun _ => ?_)
      clear hK K
      try simp only [Act.put, List.setIfInBounds_toArray, List.set_cons_zero, List.set_cons_succ]
      refine wpAnyH_take (i := 7) (oi := { dst := some 187, op := _, type := _, pos := _, after := _, guard := _ }) (v := ?_) rfl (by kernel_rfl) (by kernel_rfl) (by kernel_rfl) (fun _ _ _ h => h) (Or.inl ⟨by rfl, ?_⟩) trivial ?_
      rotate_left
      · intro Z hZ
        clear hZ
        go_simp
        all_goals with_reducible rfl
      try simp only [Act.put, List.setIfInBounds_toArray, List.set_cons_zero, List.set_cons_succ]
      refine wpAnyH_ready (rs := [8]) (by kernel_rfl) (by simp) ?_
      refine AllReadyH.cons rfl (fun K hK => ?_) AllReadyH.nil
      refine step_app_own rfl (.tmp 181) (.tmp 187) 32 rfl 0 3 j0 (.int .i64 0) 1 8 Tryz.underlying32 ji jz0 jz1 jz2 rfl (by decide) (.slice (some ⟨U.heap.size, 0, none⟩) 0 0) 0 [] rfl HE0.out ⟨g, 0, none⟩ k _ (ints (had.take k)) rfl HTk.out.1 HTk.out.2 (ints_one _) (by unfold maxLen; omega) (by omega) (Nat.zero_le _) ?_
      intro v8 w8 hown8 hg8 hat8
      rw [Nat.zero_add] at hown8
      obtain ⟨a8, c8, rfl⟩ := ow_slice hown8
      obtain ⟨m1, m2, H8, HD8⟩ := H8f.out w8 a8 c8 hown8 hg8 hat8
      clear hown8 hg8 hat8
      refine hK.out _ _ trivial (fun _ => ?_)
      clear hK K
      try simp only [Act.put, List.setIfInBounds_toArray, List.set_cons_zero, List.set_cons_succ]
      refine wpAnyH_ready (rs := [16]) (by kernel_rfl) (by simp) ?_
      refine AllReadyH.cons rfl (fun K hK => ?_) AllReadyH.nil
      refine step_app_own rfl (.tmp 188) (.tmp 195) 32 rfl 0 3 j0 (.int .i64 0) 1 8 Tryz.underlying32 ji jz0 jz1 jz2 rfl (by decide) (.slice a8 k c8) k (ints (had.take k)) rfl H8.out.rest.own _ _ _ (ints (had.drop (k + 1))) rfl HDl.out HD8.out (ints_one _) (by unfold maxLen; omega) (by omega) (Nat.zero_le _) ?_
      intro v16 w16 hown16 hg16 hat16
      obtain ⟨a16, c16, rfl⟩ := ow_slice hown16
      obtain ⟨f1, f2, H16⟩ := H16f.out _ _ _ H8.out _ w16 a16 c16 hown16 hg16 hat16
      clear hown16 hg16 hat16
      refine hK.out _ _ trivial (fun _ => ?_)
      clear hK K
      try simp only [Act.put, List.setIfInBounds_toArray, List.set_cons_zero, List.set_cons_succ]
      refine wpAnyH_take (i := 17) (oi := { dst := some 197, op := _, type := _, pos := _, after := _, guard := _ }) (v := ?_) rfl (by kernel_rfl) (by kernel_rfl) (by kernel_rfl) (fun _ _ _ h => h) (Or.inl ⟨by rfl, ?_⟩) trivial ?_
      rotate_left
      · intro Z hZ
        clear hZ
        go_simp
        all_goals with_reducible rfl
      try simp only [Act.put, List.setIfInBounds_toArray, List.set_cons_zero, List.set_cons_succ]
      refine wpAnyH_take (i := 18) (oi := { dst := some 198, op := _, type := _, pos := _, after := _, guard := _ }) (v := ?_) rfl (by kernel_rfl) (by kernel_rfl) (by kernel_rfl) (fun _ _ _ h => h) (Or.inl ⟨by rfl, ?_⟩) trivial ?_
      rotate_left
      · intro Z hZ
        clear hZ
        go_simp
        all_goals with_reducible rfl
      try simp only [Act.put, List.setIfInBounds_toArray, List.set_cons_zero, List.set_cons_succ]
      refine wpAnyH_ready (rs := [19]) (by kernel_rfl) (by simp) ?_
      refine AllReadyH.cons rfl (fun K hK => ?_) AllReadyH.nil
      go_simp
      refine hK.out _ _ trivial (fun _ => ?_)
      clear hK K
      try simp only [Act.put, List.setIfInBounds_toArray, List.set_cons_zero, List.set_cons_succ]
      refine wpAnyH_done (by kernel_rfl) ?_ _
      refine NoPanic.normal ?_
      obtain ⟨r0, r1, r2, r3, r4, r5, rx, ry, r6, rf⟩ := two_cells H16.out hi
      go_wp2_with (first
        | (go_at_call 33; ((with_reducible refine (XD.out _ _ _ _ H16.out).mono ?_)); rintro e w17 ⟨rfl, hs⟩; have H17 := Lib.hid hs; clear r0 r1 r2 r3 r4 r5 rx ry r6 rf; obtain ⟨r0, r1, r2, r3, r4, r5, rx, ry, r6, rf⟩ := two_cells hs hi; clear hs)
        | (go_at_call 34; ((with_reducible refine (YD.out _ _ _ _ H17.out).mono ?_)); rintro e w18 ⟨rfl, hs⟩; have H18 := Lib.hid hs; clear hs))
      go_ret
      exact ⟨by first | rfl | simp, HPost.out _ _ _ _ rfl H18.out⟩
    refine AllReadyH.cons rfl (fun K hK => ?_) ?_
    · go_simp
      refine hK.out _ _ trivial (fun _ => ?_)
      clear hK K
      try simp only [Act.put, List.setIfInBounds_toArray, List.set_cons_zero, List.set_cons_succ]
      refine wpAnyH_take (i := 7) (oi := { dst := some 187, op := _, type := _, pos := _, after := _, guard := _ }) (v := ?_) rfl (by kernel_rfl) (by kernel_rfl) (by kernel_rfl) (fun _ _ _ h => h) (Or.inl ⟨by rfl, ?_⟩) trivial ?_
      rotate_left
      · intro Z hZ
        clear hZ
        go_simp
        all_goals with_reducible rfl
      try simp only [Act.put, List.setIfInBounds_toArray, List.set_cons_zero, List.set_cons_succ]
      refine wpAnyH_ready (rs := [1, 12]) (by kernel_rfl) (by simp) ?_
      refine AllReadyH.cons rfl (fun K hK => ?_) ?_
      · go_simp
        refine hK.out _ _ trivial (fun _ => ?_)
        clear hK K
        try simp only [Act.put, List.setIfInBounds_toArray, List.set_cons_zero, List.set_cons_succ]
        refine wpAnyH_ready (rs := [8, 12]) (by kernel_rfl) (by simp) ?_
        refine AllReadyH.cons rfl (fun K hK => ?_) ?_
        · refine step_app_own rfl (.tmp 181) (.tmp 187) 32 rfl 0 3 j0 (.int .i64 0) 1 8 Tryz.underlying32 ji jz0 jz1 jz2 rfl (by decide) (.slice (some ⟨U.heap.size, 0, none⟩) 0 0) 0 [] rfl HE0.out ⟨g, 0, none⟩ k _ (ints (had.take k)) rfl HTk.out.1 HTk.out.2 (ints_one _) (by unfold maxLen; omega) (by omega) (Nat.zero_le _) ?_
          intro v8 w8 hown8 hg8 hat8
          rw [Nat.zero_add] at hown8
          obtain ⟨a8, c8, rfl⟩ := ow_slice hown8
          obtain ⟨m1, m2, H8, HD8⟩ := H8f.out w8 a8 c8 hown8 hg8 hat8
          clear hown8 hg8 hat8
          refine hK.out _ _ trivial (fun _ => ?_)
          clear hK K
          try simp only [Act.put, List.setIfInBounds_toArray, List.set_cons_zero, List.set_cons_succ]
          refine wpAnyH_ready (rs := [12]) (by kernel_rfl) (by simp) ?_
          refine AllReadyH.cons rfl (fun K hK => ?_) AllReadyH.nil
          go_simp
          refine hK.out _ _ trivial (fun _ => ?_)
          clear hK K
          try simp only [Act.put, List.setIfInBounds_toArray, List.set_cons_zero, List.set_cons_succ]
          refine wpAnyH_take (i := 15) (oi := { dst := some 195, op := _, type := _, pos := _, after := _, guard := _ }) (v := ?_) rfl (by kernel_rfl) (by kernel_rfl) (by kernel_rfl) (fun _ _ _ h => h) (Or.inl ⟨by rfl, ?_⟩) trivial ?_
          rotate_left
          · intro Z hZ
            clear hZ
            go_simp
            all_goals with_reducible rfl
          try simp only [Act.put, List.setIfInBounds_toArray, List.set_cons_zero, List.set_cons_succ]
          refine wpAnyH_ready (rs := [16]) (by kernel_rfl) (by simp) ?_
          refine AllReadyH.cons rfl (fun K hK => ?_) AllReadyH.nil
          refine step_app_own rfl (.tmp 188) (.tmp 195) 32 rfl 0 3 j0 (.int .i64 0) 1 8 Tryz.underlying32 ji jz0 jz1 jz2 rfl (by decide) (.slice a8 k c8) k (ints (had.take k)) rfl H8.out.rest.own _ _ _ (ints (had.drop (k + 1))) rfl HDl.out HD8.out (ints_one _) (by unfold maxLen; omega) (by omega) (Nat.zero_le _) ?_
          intro v16 w16 hown16 hg16 hat16
          obtain ⟨a16, c16, rfl⟩ := ow_slice hown16
          obtain ⟨f1, f2, H16⟩ := H16f.out _ _ _ H8.out _ w16 a16 c16 hown16 hg16 hat16
          clear hown16 hg16 hat16
          refine hK.out _ _ trivial (fun _ => ?_)
          clear hK K
          try simp only [Act.put, List.setIfInBounds_toArray, List.set_cons_zero, List.set_cons_succ]
          refine wpAnyH_take (i := 17) (oi := { dst := some 197, op := _, type := _, pos := _, after := _, guard := _ }) (v := ?_) rfl (by kernel_rfl) (by kernel_rfl) (by kernel_rfl) (fun _ _ _ h => h) (Or.inl ⟨by rfl, ?_⟩) trivial ?_
          rotate_left
          · intro Z hZ
            clear hZ
            go_simp
            all_goals with_reducible rfl
          try simp only [Act.put, List.setIfInBounds_toArray, List.set_cons_zero, List.set_cons_succ]
          refine wpAnyH_take (i := 18) (oi := { dst := some 198, op := _, type := _, pos := _, after := _, guard := _ }) (v := ?_) rfl (by kernel_rfl) (by kernel_rfl) (by kernel_rfl) (fun _ _ _ h => h) (Or.inl ⟨by rfl, ?_⟩) trivial ?_
          rotate_left
          · intro Z hZ
            clear hZ
            go_simp
            all_goals with_reducible rfl
          try simp only [Act.put, List.setIfInBounds_toArray, List.set_cons_zero, List.set_cons_succ]
          refine wpAnyH_ready (rs := [19]) (by kernel_rfl) (by simp) ?_
          refine AllReadyH.cons rfl (fun K hK => ?_) AllReadyH.nil
          go_simp
          refine hK.out _ _ trivial (fun _ => ?_)
          clear hK K
          try simp only [Act.put, List.setIfInBounds_toArray, List.set_cons_zero, List.set_cons_succ]
          refine wpAnyH_done (by kernel_rfl) ?_ _
          refine NoPanic.normal ?_
          obtain ⟨r0, r1, r2, r3, r4, r5, rx, ry, r6, rf⟩ := two_cells H16.out hi
          go_wp2_with (first
            | (go_at_call 33; ((with_reducible refine (XD.out _ _ _ _ H16.out).mono ?_)); rintro e w17 ⟨rfl, hs⟩; have H17 := Lib.hid hs; clear r0 r1 r2 r3 r4 r5 rx ry r6 rf; obtain ⟨r0, r1, r2, r3, r4, r5, rx, ry, r6, rf⟩ := two_cells hs hi; clear hs)
            | (go_at_call 34; ((with_reducible refine (YD.out _ _ _ _ H17.out).mono ?_)); rintro e w18 ⟨rfl, hs⟩; have H18 := Lib.hid hs; clear hs))
          go_ret
          exact ⟨by first | rfl | simp, HPost.out _ _ _ _ rfl H18.out⟩
        refine AllReadyH.cons rfl (fun K hK => ?_) AllReadyH.nil
        go_simp
        refine hK.out _ _ trivial (fun _ => ?_)
        clear hK K
        try simp only [Act.put, List.setIfInBounds_toArray, List.set_cons_zero, List.set_cons_succ]
        refine wpAnyH_take (i := 15) (oi := { dst := some 195, op := _, type := _, pos := _, after := _, guard := _ }) (v := ?_) rfl (by kernel_rfl) (by kernel_rfl) (by kernel_rfl) (fun _ _ _ h => h) (Or.inl ⟨by rfl, ?_⟩) trivial ?_
        rotate_left
        · intro Z hZ
          clear hZ
          go_simp
          all_goals with_reducible rfl
        try simp only [Act.put, List.setIfInBounds_toArray, List.set_cons_zero, List.set_cons_succ]
        refine wpAnyH_ready (rs := [8]) (by kernel_rfl) (by simp) ?_
        refine AllReadyH.cons rfl (fun K hK => ?_) AllReadyH.nil
        refine step_app_own rfl (.tmp 181) (.tmp 187) 32 rfl 0 3 j0 (.int .i64 0) 1 8 Tryz.underlying32 ji jz0 jz1 jz2 rfl (by decide) (.slice (some ⟨U.heap.size, 0, none⟩) 0 0) 0 [] rfl HE0.out ⟨g, 0, none⟩ k _ (ints (had.take k)) rfl HTk.out.1 HTk.out.2 (ints_one _) (by unfold maxLen; omega) (by omega) (Nat.zero_le _) ?_
        intro v8 w8 hown8 hg8 hat8
        rw [Nat.zero_add] at hown8
        obtain ⟨a8, c8, rfl⟩ := ow_slice hown8
        obtain ⟨m1, m2, H8, HD8⟩ := H8f.out w8 a8 c8 hown8 hg8 hat8
        clear hown8 hg8 hat8
        refine hK.out _ _ trivial (fun _ => ?_)
        clear hK K
        try simp only [Act.put, List.setIfInBounds_toArray, List.set_cons_zero, List.set_cons_succ]
        refine wpAnyH_ready (rs := [16]) (by kernel_rfl) (by simp) ?_
        refine AllReadyH.cons rfl (fun K hK => ?_) AllReadyH.nil
        refine step_app_own rfl (.tmp 188) (.tmp 195) 32 rfl 0 3 j0 (.int .i64 0) 1 8 Tryz.underlying32 ji jz0 jz1 jz2 rfl (by decide) (.slice a8 k c8) k (ints (had.take k)) rfl H8.out.rest.own _ _ _ (ints (had.drop (k + 1))) rfl HDl.out HD8.out (ints_one _) (by unfold maxLen; omega) (by omega) (Nat.zero_le _) ?_
        intro v16 w16 hown16 hg16 hat16
        obtain ⟨a16, c16, rfl⟩ := ow_slice hown16
        obtain ⟨f1, f2, H16⟩ := H16f.out _ _ _ H8.out _ w16 a16 c16 hown16 hg16 hat16
        clear hown16 hg16 hat16
        refine hK.out _ _ trivial (fun _ => ?_)
        clear hK K
        try simp only [Act.put, List.setIfInBounds_toArray, List.set_cons_zero, List.set_cons_succ]
        refine wpAnyH_take (i := 17) (oi := { dst := some 197, op := _, type := _, pos := _, after := _, guard := _ }) (v := ?_) rfl (by kernel_rfl) (by kernel_rfl) (by kernel_rfl) (fun _ _ _ h => h) (Or.inl ⟨by rfl, ?_⟩) trivial ?_
        rotate_left
        · intro Z hZ
          clear hZ
          go_simp
          all_goals with_reducible rfl
        try simp only [Act.put, List.setIfInBounds_toArray, List.set_cons_zero, List.set_cons_succ]
        refine wpAnyH_take (i := 18) (oi := { dst := some 198, op := _, type := _, pos := _, after := _, guard := _ }) (v := ?_) rfl (by kernel_rfl) (by kernel_rfl) (by kernel_rfl) (fun _ _ _ h => h) (Or.inl ⟨by rfl, ?_⟩) trivial ?_
        rotate_left
        · intro Z hZ
          clear hZ
          go_simp
          all_goals with_reducible rfl
        try simp only [Act.put, List.setIfInBounds_toArray, List.set_cons_zero, List.set_cons_succ]
        refine wpAnyH_ready (rs := [19]) (by kernel_rfl) (by simp) ?_
        refine AllReadyH.cons rfl (fun K hK => ?_) AllReadyH.nil
        go_simp
        refine hK.out _ _ trivial (fun _ => ?_)
        clear hK K
        try simp only [Act.put, List.setIfInBounds_toArray, List.set_cons_zero, List.set_cons_succ]
        refine wpAnyH_done (by kernel_rfl) ?_ _
        refine NoPanic.normal ?_
        obtain ⟨r0, r1, r2, r3, r4, r5, rx, ry, r6, rf⟩ := two_cells H16.out hi
        go_wp2_with (first
          | (go_at_call 33; ((with_reducible refine (XD.out _ _ _ _ H16.out).mono ?_)); rintro e w17 ⟨rfl, hs⟩; have H17 := Lib.hid hs; clear r0 r1 r2 r3 r4 r5 rx ry r6 rf; obtain ⟨r0, r1, r2, r3, r4, r5, rx, ry, r6, rf⟩ := two_cells hs hi; clear hs)
          | (go_at_call 34; ((with_reducible refine (YD.out _ _ _ _ H17.out).mono ?_)); rintro e w18 ⟨rfl, hs⟩; have H18 := Lib.hid hs; clear hs))
        go_ret
        exact ⟨by first | rfl | simp, HPost.out _ _ _ _ rfl H18.out⟩
      refine AllReadyH.cons rfl (fun K hK => ?_) AllReadyH.nil
      go_simp
      refine hK.out _ _ trivial (fun _ => ?_)
      clear hK K
      try simp only [Act.put, List.setIfInBounds_toArray, List.set_cons_zero, List.set_cons_succ]
      refine wpAnyH_take (i := 15) (oi := { dst := some 195, op := _, type := _, pos := _, after := _, guard := _ }) (v := ?_) rfl (by kernel_rfl) (by kernel_rfl) (by kernel_rfl) (fun _ _ _ h => h) (Or.inl ⟨by rfl, ?_⟩) trivial ?_
      rotate_left
      · intro Z hZ
        clear hZ
        go_simp
        all_goals with_reducible rfl
      try simp only [Act.put, List.setIfInBounds_toArray, List.set_cons_zero, List.set_cons_succ]
      refine wpAnyH_ready (rs := [1]) (by kernel_rfl) (by simp) ?_
      refine AllReadyH.cons rfl (fun K hK => ?_) AllReadyH.nil
      go_simp
      refine hK.out _ _ trivial (fun _ => ?_)
      clear hK K
      try simp only [Act.put, List.setIfInBounds_toArray, List.set_cons_zero, List.set_cons_succ]
      refine wpAnyH_ready (rs := [8]) (by kernel_rfl) (by simp) ?_
      refine AllReadyH.cons rfl (fun K hK => ?_) AllReadyH.nil
      refine step_app_own rfl (.tmp 181) (.tmp 187) 32 rfl 0 3 j0 (.int .i64 0) 1 8 Tryz.underlying32 ji jz0 jz1 jz2 rfl (by decide) (.slice (some ⟨U.heap.size, 0, none⟩) 0 0) 0 [] rfl HE0.out ⟨g, 0, none⟩ k _ (ints (had.take k)) rfl HTk.out.1 HTk.out.2 (ints_one _) (by unfold maxLen; omega) (by omega) (Nat.zero_le _) ?_
      intro v8 w8 hown8 hg8 hat8
      rw [Nat.zero_add] at hown8
      obtain ⟨a8, c8, rfl⟩ := ow_slice hown8
      obtain ⟨m1, m2, H8, HD8⟩ := H8f.out w8 a8 c8 hown8 hg8 hat8
      clear hown8 hg8 hat8
      refine hK.out _ _ trivial (fun _ => ?_)
      clear hK K
      try simp only [Act.put, List.setIfInBounds_toArray, List.set_cons_zero, List.set_cons_succ]
      refine wpAnyH_ready (rs := [16]) (by kernel_rfl) (by simp) ?_
      refine AllReadyH.cons rfl (fun K hK => ?_) AllReadyH.nil
      refine step_app_own rfl (.tmp 188) (.tmp 195) 32 rfl 0 3 j0 (.int .i64 0) 1 8 Tryz.underlying32 ji jz0 jz1 jz2 rfl (by decide) (.slice a8 k c8) k (ints (had.take k)) rfl H8.out.rest.own _ _ _ (ints (had.drop (k + 1))) rfl HDl.out HD8.out (ints_one _) (by unfold maxLen; omega) (by omega) (Nat.zero_le _) ?_
      intro v16 w16 hown16 hg16 hat16
      obtain ⟨a16, c16, rfl⟩ := ow_slice hown16
      obtain ⟨f1, f2, H16⟩ := H16f.out _ _ _ H8.out _ w16 a16 c16 hown16 hg16 hat16
      clear hown16 hg16 hat16
      refine hK.out _ _ trivial (fun _ => ?_)
      clear hK K
      try simp only [Act.put, List.setIfInBounds_toArray, List.set_cons_zero, List.set_cons_succ]
      refine wpAnyH_take (i := 17) (oi := { dst := some 197, op := _, type := _, pos := _, after := _, guard := _ }) (v := ?_) rfl (by kernel_rfl) (by kernel_rfl) (by kernel_rfl) (fun _ _ _ h => h) (Or.inl ⟨by rfl, ?_⟩) trivial ?_
      rotate_left
      · intro Z hZ
        clear hZ
        go_simp
        all_goals with_reducible rfl
      try simp only [Act.put, List.setIfInBounds_toArray, List.set_cons_zero, List.set_cons_succ]
      refine wpAnyH_take (i := 18) (oi := { dst := some 198, op := _, type := _, pos := _, after := _, guard := _ }) (v := ?_) rfl (by kernel_rfl) (by kernel_rfl) (by kernel_rfl) (fun _ _ _ h => h) (Or.inl ⟨by rfl, ?_⟩) trivial ?_
      rotate_left
      · intro Z hZ
        clear hZ
        go_simp
        all_goals with_reducible rfl
      try simp only [Act.put, List.setIfInBounds_toArray, List.set_cons_zero, List.set_cons_succ]
      refine wpAnyH_ready (rs := [19]) (by kernel_rfl) (by simp) ?_
      refine AllReadyH.cons rfl (fun K hK => ?_) AllReadyH.nil
      go_simp
      refine hK.out _ _ trivial (fun _ => ?_)
      clear hK K
      try simp only [Act.put, List.setIfInBounds_toArray, List.set_cons_zero, List.set_cons_succ]
      refine wpAnyH_done (by kernel_rfl) ?_ _
      refine NoPanic.normal ?_
      obtain ⟨r0, r1, r2, r3, r4, r5, rx, ry, r6, rf⟩ := two_cells H16.out hi
      go_wp2_with (first
        | (go_at_call 33; ((with_reducible refine (XD.out _ _ _ _ H16.out).mono ?_)); rintro e w17 ⟨rfl, hs⟩; have H17 := Lib.hid hs; clear r0 r1 r2 r3 r4 r5 rx ry r6 rf; obtain ⟨r0, r1, r2, r3, r4, r5, rx, ry, r6, rf⟩ := two_cells hs hi; clear hs)
        | (go_at_call 34; ((with_reducible refine (YD.out _ _ _ _ H17.out).mono ?_)); rintro e w18 ⟨rfl, hs⟩; have H18 := Lib.hid hs; clear hs))
      go_ret
      exact ⟨by first | rfl | simp, HPost.out _ _ _ _ rfl H18.out⟩
    refine AllReadyH.cons rfl (fun K hK => ?_) AllReadyH.nil
    go_simp
    refine hK.out _ _ trivial (fun _ => ?_)
    clear hK K
    try simp only [Act.put, List.setIfInBounds_toArray, List.set_cons_zero, List.set_cons_succ]
    refine wpAnyH_take (i := 15) (oi := { dst := some 195, op := _, type := _, pos := _, after := _, guard := _ }) (v := ?_) rfl (by kernel_rfl) (by kernel_rfl) (by kernel_rfl) (fun _ _ _ h => h) (Or.inl ⟨by rfl, ?_⟩) trivial ?_
    rotate_left
    · intro Z hZ
      clear hZ
      go_simp
      all_goals with_reducible rfl
    try simp only [Act.put, List.setIfInBounds_toArray, List.set_cons_zero, List.set_cons_succ]
    refine wpAnyH_ready (rs := [1, 5]) (by kernel_rfl) (by simp) ?_
    refine AllReadyH.cons rfl (fun K hK => ?_) ?_
    · go_simp
      refine hK.out _ _ trivial (fun _ => ?_)
      clear hK K
      try simp only [Act.put, List.setIfInBounds_toArray, List.set_cons_zero, List.set_cons_succ]
      refine wpAnyH_ready (rs := [5]) (by kernel_rfl) (by simp) ?_
      refine AllReadyH.cons rfl (fun K hK => ?_) AllReadyH.nil
      go_simp
      refine hK.out _ _ trivial (fun _ => ?_)
      clear hK K
      try simp only [Act.put, List.setIfInBounds_toArray, List.set_cons_zero, List.set_cons_succ]
      refine wpAnyH_take (i := 7) (oi := { dst := some 187, op := _, type := _, pos := _, after := _, guard := _ }) (v := ?_) rfl (by kernel_rfl) (by kernel_rfl) (by kernel_rfl) (fun _ _ _ h => h) (Or.inl ⟨by rfl, ?_⟩) trivial ?_
      rotate_left
      · intro Z hZ
        clear hZ
        go_simp
        all_goals with_reducible rfl
      try simp only [Act.put, List.setIfInBounds_toArray, List.set_cons_zero, List.set_cons_succ]
      refine wpAnyH_ready (rs := [8]) (by kernel_rfl) (by simp) ?_
      refine AllReadyH.cons rfl (fun K hK => ?_) AllReadyH.nil
      refine step_app_own rfl (.tmp 181) (.tmp 187) 32 rfl 0 3 j0 (.int .i64 0) 1 8 Tryz.underlying32 ji jz0 jz1 jz2 rfl (by decide) (.slice (some ⟨U.heap.size, 0, none⟩) 0 0) 0 [] rfl HE0.out ⟨g, 0, none⟩ k _ (ints (had.take k)) rfl HTk.out.1 HTk.out.2 (ints_one _) (by unfold maxLen; omega) (by omega) (Nat.zero_le _) ?_
      intro v8 w8 hown8 hg8 hat8
      rw [Nat.zero_add] at hown8
      obtain ⟨a8, c8, rfl⟩ := ow_slice hown8
      obtain ⟨m1, m2, H8, HD8⟩ := H8f.out w8 a8 c8 hown8 hg8 hat8
      clear hown8 hg8 hat8
      refine hK.out _ _ trivial (fun _ => ?_)
      clear hK K
      try simp only [Act.put, List.setIfInBounds_toArray, List.set_cons_zero, List.set_cons_succ]
      refine wpAnyH_ready (rs := [16]) (by kernel_rfl) (by simp) ?_
      refine AllReadyH.cons rfl (fun K hK => ?_) AllReadyH.nil
      refine step_app_own rfl (.tmp 188) (.tmp 195) 32 rfl 0 3 j0 (.int .i64 0) 1 8 Tryz.underlying32 ji jz0 jz1 jz2 rfl (by decide) (.slice a8 k c8) k (ints (had.take k)) rfl H8.out.rest.own _ _ _ (ints (had.drop (k + 1))) rfl HDl.out HD8.out (ints_one _) (by unfold maxLen; omega) (by omega) (Nat.zero_le _) ?_
      intro v16 w16 hown16 hg16 hat16
      obtain ⟨a16, c16, rfl⟩ := ow_slice hown16
      obtain ⟨f1, f2, H16⟩ := H16f.out _ _ _ H8.out _ w16 a16 c16 hown16 hg16 hat16
      clear hown16 hg16 hat16
      refine hK.out _ _ trivial (fun _ => ?_)
      clear hK K
      try simp only [Act.put, List.setIfInBounds_toArray, List.set_cons_zero, List.set_cons_succ]
      refine wpAnyH_take (i := 17) (oi := { dst := some 197, op := _, type := _, pos := _, after := _, guard := _ }) (v := ?_) rfl (by kernel_rfl) (by kernel_rfl) (by kernel_rfl) (fun _ _ _ h => h) (Or.inl ⟨by rfl, ?_⟩) trivial ?_
      rotate_left
      · intro Z hZ
        clear hZ
        go_simp
        all_goals with_reducible rfl
      try simp only [Act.put, List.setIfInBounds_toArray, List.set_cons_zero, List.set_cons_succ]
      refine wpAnyH_take (i := 18) (oi := { dst := some 198, op := _, type := _, pos := _, after := _, guard := _ }) (v := ?_) rfl (by kernel_rfl) (by kernel_rfl) (by kernel_rfl) (fun _ _ _ h => h) (Or.inl ⟨by rfl, ?_⟩) trivial ?_
      rotate_left
      · intro Z hZ
        clear hZ
        go_simp
        all_goals with_reducible rfl
      try simp only [Act.put, List.setIfInBounds_toArray, List.set_cons_zero, List.set_cons_succ]
      refine wpAnyH_ready (rs := [19]) (by kernel_rfl) (by simp) ?_
      refine AllReadyH.cons rfl (fun K hK => ?_) AllReadyH.nil
      go_simp
      refine hK.out _ _ trivial (fun _ => ?_)
      clear hK K
      try simp only [Act.put, List.setIfInBounds_toArray, List.set_cons_zero, List.set_cons_succ]
      refine wpAnyH_done (by kernel_rfl) ?_ _
      refine NoPanic.normal ?_
      obtain ⟨r0, r1, r2, r3, r4, r5, rx, ry, r6, rf⟩ := two_cells H16.out hi
      go_wp2_with (first
        | (go_at_call 33; ((with_reducible refine (XD.out _ _ _ _ H16.out).mono ?_)); rintro e w17 ⟨rfl, hs⟩; have H17 := Lib.hid hs; clear r0 r1 r2 r3 r4 r5 rx ry r6 rf; obtain ⟨r0, r1, r2, r3, r4, r5, rx, ry, r6, rf⟩ := two_cells hs hi; clear hs)
        | (go_at_call 34; ((with_reducible refine (YD.out _ _ _ _ H17.out).mono ?_)); rintro e w18 ⟨rfl, hs⟩; have H18 := Lib.hid hs; clear hs))
      go_ret
      exact ⟨by first | rfl | simp, HPost.out _ _ _ _ rfl H18.out⟩
    refine AllReadyH.cons rfl (fun K hK => ?_) AllReadyH.nil
    go_simp
    refine hK.out _ _ trivial (fun _ => ?_)
    clear hK K
    try simp only [Act.put, List.setIfInBounds_toArray, List.set_cons_zero, List.set_cons_succ]
    refine wpAnyH_take (i := 7) (oi := { dst := some 187, op := _, type := _, pos := _, after := _, guard := _ }) (v := ?_) rfl (by kernel_rfl) (by kernel_rfl) (by kernel_rfl) (fun _ _ _ h => h) (Or.inl ⟨by rfl, ?_⟩) trivial ?_
    rotate_left
    · intro Z hZ
      clear hZ
      go_simp
      all_goals with_reducible rfl
    try simp only [Act.put, List.setIfInBounds_toArray, List.set_cons_zero, List.set_cons_succ]
    refine wpAnyH_ready (rs := [1]) (by kernel_rfl) (by simp) ?_
    refine AllReadyH.cons rfl (fun K hK => ?_) AllReadyH.nil
    go_simp
    refine hK.out _ _ trivial (fun _ => ?_)
    clear hK K
    try simp only [Act.put, List.setIfInBounds_toArray, List.set_cons_zero, List.set_cons_succ]
    refine wpAnyH_ready (rs := [8]) (by kernel_rfl) (by simp) ?_
    refine AllReadyH.cons rfl (fun K hK => ?_) AllReadyH.nil
    refine step_app_own rfl (.tmp 181) (.tmp 187) 32 rfl 0 3 j0 (.int .i64 0) 1 8 Tryz.underlying32 ji jz0 jz1 jz2 rfl (by decide) (.slice (some ⟨U.heap.size, 0, none⟩) 0 0) 0 [] rfl HE0.out ⟨g, 0, none⟩ k _ (ints (had.take k)) rfl HTk.out.1 HTk.out.2 (ints_one _) (by unfold maxLen; omega) (by omega) (Nat.zero_le _) ?_
    intro v8 w8 hown8 hg8 hat8
    rw [Nat.zero_add] at hown8
    obtain ⟨a8, c8, rfl⟩ := ow_slice hown8
    obtain ⟨m1, m2, H8, HD8⟩ := H8f.out w8 a8 c8 hown8 hg8 hat8
    clear hown8 hg8 hat8
    refine hK.out _ _ trivial (fun _ => ?_)
    clear hK K
    try simp only [Act.put, List.setIfInBounds_toArray, List.set_cons_zero, List.set_cons_succ]
    refine wpAnyH_ready (rs := [16]) (by kernel_rfl) (by simp) ?_
    refine AllReadyH.cons rfl (fun K hK => ?_) AllReadyH.nil
    refine step_app_own rfl (.tmp 188) (.tmp 195) 32 rfl 0 3 j0 (.int .i64 0) 1 8 Tryz.underlying32 ji jz0 jz1 jz2 rfl (by decide) (.slice a8 k c8) k (ints (had.take k)) rfl H8.out.rest.own _ _ _ (ints (had.drop (k + 1))) rfl HDl.out HD8.out (ints_one _) (by unfold maxLen; omega) (by omega) (Nat.zero_le _) ?_
    intro v16 w16 hown16 hg16 hat16
    obtain ⟨a16, c16, rfl⟩ := ow_slice hown16
    obtain ⟨f1, f2, H16⟩ := H16f.out _ _ _ H8.out _ w16 a16 c16 hown16 hg16 hat16
    clear hown16 hg16 hat16
    refine hK.out _ _ trivial (fun _ => ?_)
    clear hK K
    try simp only [Act.put, List.setIfInBounds_toArray, List.set_cons_zero, List.set_cons_succ]
    refine wpAnyH_take (i := 17) (oi := { dst := some 197, op := _, type := _, pos := _, after := _, guard := _ }) (v := ?_) rfl (by kernel_rfl) (by kernel_rfl) (by kernel_rfl) (fun _ _ _ h => h) (Or.inl ⟨by rfl, ?_⟩) trivial ?_
    rotate_left
    · intro Z hZ
      clear hZ
      go_simp
      all_goals with_reducible rfl
    try simp only [Act.put, List.setIfInBounds_toArray, List.set_cons_zero, List.set_cons_succ]
    refine wpAnyH_take (i := 18) (oi := { dst := some 198, op := _, type := _, pos := _, after := _, guard := _ }) (v := ?_) rfl (by kernel_rfl) (by kernel_rfl) (by kernel_rfl) (fun _ _ _ h => h) (Or.inl ⟨by rfl, ?_⟩) trivial ?_
    rotate_left
    · intro Z hZ
      clear hZ
      go_simp
      all_goals with_reducible rfl
    try simp only [Act.put, List.setIfInBounds_toArray, List.set_cons_zero, List.set_cons_succ]
    refine wpAnyH_ready (rs := [19]) (by kernel_rfl) (by simp) ?_
    refine AllReadyH.cons rfl (fun K hK => ?_) AllReadyH.nil
    go_simp
    refine hK.out _ _ trivial (fun _ => ?_)
    clear hK K
    try simp only [Act.put, List.setIfInBounds_toArray, List.set_cons_zero, List.set_cons_succ]
    refine wpAnyH_done (by kernel_rfl) ?_ _
    refine NoPanic.normal ?_
    obtain ⟨r0, r1, r2, r3, r4, r5, rx, ry, r6, rf⟩ := two_cells H16.out hi
    go_wp2_with (first
      | (go_at_call 33; ((with_reducible refine (XD.out _ _ _ _ H16.out).mono ?_)); rintro e w17 ⟨rfl, hs⟩; have H17 := Lib.hid hs; clear r0 r1 r2 r3 r4 r5 rx ry r6 rf; obtain ⟨r0, r1, r2, r3, r4, r5, rx, ry, r6, rf⟩ := two_cells hs hi; clear hs)
      | (go_at_call 34; ((with_reducible refine (YD.out _ _ _ _ H17.out).mono ?_)); rintro e w18 ⟨rfl, hs⟩; have H18 := Lib.hid hs; clear hs))
    go_ret
    exact ⟨by first | rfl | simp, HPost.out _ _ _ _ rfl H18.out⟩
end Go.Proofs.YtbljjmehjkmjaaaGreat

/- What the statements' own 'act' does, whichever it is. No condition but that the program's partitions and pool keep their words. -/
namespace Go.Proofs.YtbljjmehjkmjaaaGreat
open Go.RowKit
set_option linter.unusedVariables false

theorem act_any {PT : Nat → PM → Thing} {XT : Nat → Nat → RM → Thing} (A : PartActs PT XT) (B : PoolActs PT) {w wr : World} {t q zq i xi xj yi yj ri rj : Nat} {P : PM} {Mi Mj : RM} {had : List Int} {ao : Option Addr} {n cc N K : Nat} (H : Two PT XT w wr t q zq i xi xj yi yj ri rj P Mi Mj had ao n cc N K) (hN : N < 800000) (hK : K < 800000) (hn : n ≤ 1000) (hi : i < 2) (a : Act12) (hai : am a.1 2 = i) (hok : okAct12 w a) :
    Calls Tryz.prog 8 #[.pointer (some ⟨t, 0, none⟩), a.val] wr (ActPost PT XT w t q zq i xi xj yi yj ri rj P Mi Mj n N K) := by
  have hv : am a.2.1 11 < 11 := am_lt _ (by omega)
  rcases (show am a.2.1 11 = 0 ∨ am a.2.1 11 = 1 ∨ am a.2.1 11 = 2 ∨ am a.2.1 11 = 3 ∨ am a.2.1 11 = 4 ∨ am a.2.1 11 = 5 ∨ am a.2.1 11 = 6 ∨ am a.2.1 11 = 7 ∨ am a.2.1 11 = 8 ∨ am a.2.1 11 = 9 ∨ am a.2.1 11 = 10 by omega) with h | h | h | h | h | h | h | h | h | h | h
  · exact act_claim A B H hN hK hn hi a hai hok h (by omega)
  · exact act_claim A B H hN hK hn hi a hai hok h (by omega)
  · exact act_claim A B H hN hK hn hi a hai hok h (by omega)
  · exact act_claim A B H hN hK hn hi a hai hok h (by omega)
  · exact act_fill A B H hN hK hn hi a hai hok h rfl
  · exact act_pub A B H hN hK hn hi a hai hok h (by omega)
  · exact act_pub A B H hN hK hn hi a hai hok h (by omega)
  · exact act_read A B H hN hK hn hi a hai hok h rfl
  · by_cases h0 : n = 0
    · exact act_none A B H hN hK hn hi a hai hok h rfl h0
    · exact act_drop A B H hN hK hn hi a hai hok h rfl (by omega)
  · exact act_trim A B H hN hK hn hi a hai hok h rfl
  · exact act_peek A B H hN hK hn hi a hai hok h rfl

/-- What an act leaves of both. -/
def ActTwo (PT : Nat → PM → Thing) (XT : Nat → Nat → RM → Thing) (w : World) (t q zq x0 x1 y0 y1 r0 r1 : Nat) (P : PM) (M0 M1 : RM) (n N K i : Nat) (e : Ending) (w' : World) : Prop :=
  e = .returned (.bool true) ∧ ∃ (P' : PM) (M0' M1' : RM) (had' : List Int) (ao' : Option Addr) (n' cc' : Nat), Two PT XT w w' t q zq 0 x0 x1 y0 y1 r0 r1 P' M0' M1' had' ao' n' cc' (N + 66) (K + 1) ∧ SameSz P P' ∧ n' ≤ n + 1 ∧ (i = 0 → M1' = M1)

theorem act_two {PT : Nat → PM → Thing} {XT : Nat → Nat → RM → Thing} (A : PartActs PT XT) (B : PoolActs PT) {w wr : World} {t q zq x0 x1 y0 y1 r0 r1 : Nat} {P : PM} {M0 M1 : RM} {had : List Int} {ao : Option Addr} {n cc N K : Nat} (H : Two PT XT w wr t q zq 0 x0 x1 y0 y1 r0 r1 P M0 M1 had ao n cc N K) (hN : N < 800000) (hK : K < 800000) (hn : n ≤ 1000) (a : Act12) (hok : okAct12 w a) :
    Calls Tryz.prog 8 #[.pointer (some ⟨t, 0, none⟩), a.val] wr (ActTwo PT XT w t q zq x0 x1 y0 y1 r0 r1 P M0 M1 n N K (am a.1 2)) := by
  have hv : am a.1 2 < 2 := am_lt _ (by omega)
  by_cases h0 : am a.1 2 = 0
  · refine (act_any A B H hN hK hn (by omega) a h0 hok).mono ?_
    rintro e w' ⟨he, P', M', had', ao', n', cc', h1, h2, h3, _⟩
    exact ⟨he, P', M', M1, had', ao', n', cc', h1, h2, h3, fun _ => rfl⟩
  · refine (act_any A B (H.swap (by omega)) hN hK hn (by omega) a (by omega) hok).mono ?_
    rintro e w' ⟨he, P', M', had', ao', n', cc', h1, h2, h3, _⟩
    exact ⟨he, P', M0, M', had', ao', n', cc', h1.swap (by omega), h2, h3, fun h => absurd h h0⟩
end Go.Proofs.YtbljjmehjkmjaaaGreat

/- What the statements' own 'made' makes. No condition but that the program's partitions and pool keep their words. -/
namespace Go.Proofs.YtbljjmehjkmjaaaGreat
open Go.RowKit
set_option linter.unusedVariables false
set_option linter.unusedSimpArgs false
set_option maxRecDepth 100000

theorem sys_of {A X Z Y X' Y' T : Thing} {w : World} {W : Nat → Prop} (h : (T.sep (Y'.sep (X'.sep (Y.sep (X.sep (A.sep Z)))))).at_ w W) : (sysT A X Z Y X' Y' T).at_ w W := by
  have h1 : (T.sep (Y'.sep (X'.sep ((A.sep X).sep (Z.sep Y))))).at_ w W :=
    sep_mono id (sep_mono id (sep_mono id (fun h => sep_mono id sep_swap (sep_turn (sep_mono id (fun h => sep_assoc' (sep_turn h)) h))))) h
  have h2 : (T.sep ((A.sep X).sep ((Z.sep Y).sep (X'.sep Y')))).at_ w W :=
    sep_mono id (fun h => sep_mono id (fun h => sep_mono id sep_swap (sep_turn h)) (sep_turn (sep_mono id (fun h => sep_mono id sep_swap (sep_turn h)) h))) h1
  exact sep_mono id (fun h => sep_mono id (fun h => sep_assoc (sep_swap h)) (sep_turn h)) (sep_turn h2)
theorem Held.add {w0 w w' : World} {T R B : Thing} (h : Held w0 w (T.sep R)) (hB : ∃ W, B.at_ w' W ∧ Still w w' ∧ ∀ k, W k → w.heap.size ≤ k) : Held w0 w' (T.sep (B.sep R)) := Held.turn (h.new hB)
theorem Held.setT {w0 w : World} {R : Thing} {t : Nat} {xs : List Value} {e : TypeId} (h : Held w0 w ((blkT t xs e).sep R)) (o : Nat) (v : Value) : Held w0 (w.setCell ⟨t, o, none⟩ v) ((blkT t (xs.set o v) e).sep R) := by
  obtain ⟨Q, h1, h2⟩ := h.fst
  exact h2 _ _ (blkT_set h1 o v)
theorem sep_none {A : Thing} {w : World} {W : Nat → Prop} (h : (A.sep Thing.none).at_ w W) : A.at_ w W := by
  obtain ⟨W1, W2, h1, h2, _, hW⟩ := h
  have e : W = W1 := funext fun k => propext ((hW k).trans ⟨fun h => h.elim id (fun h => absurd h (h2 k)), .inl⟩)
  rw [e]; exact h1
abbrev ptr (b : Nat) : Value := .pointer (some ⟨b, 0, none⟩)

/-- The struct, while it is filled. -/
def MadeAt (PT : Nat → PM → Thing) (XT : Nat → Nat → RM → Thing) (w wr : World) (t q zq n r : Nat) (ov : Bool) (k : Nat) : Prop :=
  (k = 0 ∧ Held w wr ((blkT t [ptr q, ptr zq, .pointer none, .pointer none, .pointer none, .pointer none, .slice none 0 0, .bool false] 34).sep ((PT q (PM.new n 8)).sep (zT zq (PM.new n 8))))) ∨
  (k = 1 ∧ ∃ x y s, Held w wr ((blkT t [ptr q, ptr zq, ptr x, .pointer none, ptr y, .pointer none, .slice none 0 0, .bool false] 34).sep ((zxT y zq s (RM.new r ov)).sep ((XT x q (RM.new r ov)).sep ((PT q (PM.new n 8)).sep (zT zq (PM.new n 8))))))) ∨
  (k = 2 ∧ ∃ x y s x' y' s', Held w wr ((blkT t [ptr q, ptr zq, ptr x, ptr x', ptr y, ptr y', .slice none 0 0, .bool false] 34).sep ((zxT y' zq s' (RM.new r true)).sep ((XT x' q (RM.new r true)).sep ((zxT y zq s (RM.new r ov)).sep ((XT x q (RM.new r ov)).sep ((PT q (PM.new n 8)).sep (zT zq (PM.new n 8)))))))))

theorem made_end {PT : Nat → PM → Thing} {XT : Nat → Nat → RM → Thing} {w wr : World} {t q zq x y s x' y' s' n r : Nat} {ov : Bool} (h1 : 1 ≤ n) (h2 : n ≤ 128) (h3 : 1 ≤ r) (h4 : r ≤ 64)
    (h : Held w wr ((blkT t [ptr q, ptr zq, ptr x, ptr x', ptr y, ptr y', .slice none 0 0, .bool false] 34).sep ((zxT y' zq s' (RM.new r true)).sep ((XT x' q (RM.new r true)).sep ((zxT y zq s (RM.new r ov)).sep ((XT x q (RM.new r ov)).sep ((PT q (PM.new n 8)).sep (zT zq (PM.new n 8))))))))) :
    Two PT XT w (wr.setCell ⟨t, 7, none⟩ (.bool true)) t q zq 0 x x' y y' s s' (PM.new n 8) (RM.new r ov) (RM.new r true) [] none 0 0 0 0 := by
  have h5 := (h.setT 7 (.bool true)).imp sys_of
  refine ⟨h5.sysNew (B := ownT 3 1 none 0 0 (ints [])) ⟨fun _ => False, ⟨⟨rfl, .inl ⟨rfl, rfl⟩⟩, fun k => ⟨fun h => h.elim, fun h => by simp [Value.ownBlock] at h⟩⟩, Turned.refl _ _, fun k hk => hk.elim⟩, rfl, PtInv.new n 8, PM.new_ok h1 h2 (by omega) (by omega), RM.new_ok h3 h4, RM.new_ok h3 h4⟩

set_option maxHeartbeats 4000000 in
theorem made_any {PT : Nat → PM → Thing} {XT : Nat → Nat → RM → Thing} (A : PartApi PT XT) (B : PoolApi12 PT) (w W : World) (hW : Still w W) (n r : Nat) (ov : Bool) (h1 : 1 ≤ n) (h2 : n ≤ 128) (h3 : 1 ≤ r) (h4 : r ≤ 64) :
    Calls Tryz.prog 6 #[.int .i64 n, .int .i64 r, .int .i64 (polB ov)] W fun e w' => ∃ t q zq x y s x' y' s', e = .returned (.pointer (some ⟨t, 0, none⟩)) ∧ Two PT XT w w' t q zq 0 x x' y y' s s' (PM.new n 8) (RM.new r ov) (RM.new r true) [] none 0 0 0 0 := by
  have C0 := Lib.hid (fun V => show Calls Tryz.prog 21 #[.int .i64 n, .int .i64 8] V (PNew PT V n 8) from B.make_ok n 8 V h1 h2 (by omega) (by omega))
  have C1 := Lib.hid (fun V => show Calls Tryz.prog 22 #[.int .i64 n, .int .i64 8] V (PNew zT V n 8) from zmake_ok n 8 V h1 h2 (by omega) (by omega))
  have HO := Lib.hid (PM.new_ok (n := n) (size := 8) h1 h2 (by omega) (by omega))
  have HEnd := Lib.hid (fun wr t q zq x y s x' y' s' h => made_end (PT := PT) (XT := XT) (w := w) (wr := wr) (t := t) (q := q) (zq := zq) (x := x) (y := y) (s := s) (x' := x') (y' := y') (s' := s') (ov := ov) h1 h2 h3 h4 h)
  have CX := Lib.hid (fun V q (b : Bool) (R : Thing) (h : Held w V ((PT q (PM.new n 8)).sep R)) => show Calls Tryz.prog 10 #[.pointer (some ⟨q, 0, none⟩), .int .i64 r, .int .i64 (polB b)] V (XNew XT V q r b) from by
    obtain ⟨_, hp, _⟩ := h.fst
    exact A.make_ok hp HO.out (by omega) r b h3 h4)
  have CY := Lib.hid (fun V zq (b : Bool) => zxmake_ok zq r b V h3 h4)
  have CX1 := Lib.hid (fun V q (R : Thing) (h : Held w V ((PT q (PM.new n 8)).sep R)) => show Calls Tryz.prog 10 #[.pointer (some ⟨q, 0, none⟩), .int .i64 r, .int .i64 1] V (XNew XT V q r true) from CX.out V q true R h)
  have CY1 := Lib.hid (fun V zq => show Calls Tryz.prog 23 #[.pointer (some ⟨zq, 0, none⟩), .int .i64 r, .int .i64 1] V _ from CY.out V zq true)
  have HT0 := Lib.hid (show Held w (W.alloc (.cells #[.pointer none, .pointer none, .pointer none, .pointer none, .pointer none, .pointer none, .slice none 0 0, .bool false] 34)) ((blkT W.heap.size [.pointer none, .pointer none, .pointer none, .pointer none, .pointer none, .pointer none, .slice none 0 0, .bool false] 34).sep Thing.none) from
    (Held.swap (Held.box (Held.start hW) [.pointer none, .pointer none, .pointer none, .pointer none, .pointer none, .pointer none, .slice none 0 0, .bool false] 34)))
  go_enter Tryz.func6, Tryz.ntmps6
  go_upto_region 2 with fail
  obtain ⟨t, ht⟩ : ∃ t, t = W.heap.size := ⟨_, rfl⟩
  obtain ⟨V0, hV0⟩ : ∃ V, V = W.alloc (.cells #[.pointer none, .pointer none, .pointer none, .pointer none, .pointer none, .pointer none, .slice none 0 0, .bool false] 34) := ⟨_, rfl⟩
  rw [← hV0, ← ht] at HT0
  rw [← hV0, ← ht]
  clear hV0 ht
  go_wp2_with (first
    | (go_at_call 21; ((with_reducible refine (C0.out _).mono ?_)); rintro e w2 ⟨q, rfl, hq⟩; have h2 := HT0.out.add hq; have b2 := h2.drop.blk; have c20 := b2.cell (o := 0) rfl; have f20 := b2.free 0; have H2 := Lib.hid (h2.setT 0 (ptr q)); clear hq h2 b2)
    | (go_at_call 22; ((with_reducible refine (C1.out _).mono ?_)); rintro e w3 ⟨zq, rfl, hq⟩; have h3 := H2.out.add hq; have b3 := h3.drop.blk; have c31 := b3.cell (o := 1) rfl; have f31 := b3.free 1; have H3 := Lib.hid (h3.setT 1 (ptr zq)); have b4 := H3.out.drop.blk; have d0 := b4.cell (o := 0) (v := ptr q) rfl; have d1 := b4.cell (o := 1) (v := ptr zq) rfl; clear hq h3 b3 b4))
  go_loopw [8] (fun i wr => ∃ k : Nat, i = .int .i64 k ∧ MadeAt PT XT w wr t q zq n r ov k) (fun i _ => 2 - (intOf i).toNat)
  case atStart => exact ⟨0, rfl, .inl ⟨rfl, H3.out.imp (sep_mono id (fun h => sep_mono id sep_none (sep_turn h)))⟩⟩
  case round =>
    clear c20 f20 c31 f31 d0 d1 H2 H3 HT0 C0 C1
    obtain ⟨k, rfl, hk⟩ := hrel
    rcases hk with ⟨rfl, hh⟩ | ⟨rfl, x0, y0, s0, hh⟩ | ⟨rfl, x0, y0, s0, x1, y1, s1, hh⟩
    · have b := hh.drop.blk
      have d0 := b.cell (o := 0) rfl
      have d1 := b.cell (o := 1) rfl
      have HH := Lib.hid hh
      clear hh b
      go_wp2_with (first
        | (go_at_call 10; ((with_reducible refine (CX.out _ q ov _ HH.out.snd).mono ?_)); rintro e w5 ⟨x, rfl, hx⟩; have h5 := HH.out.add hx; have H5 := Lib.hid h5; have b5 := h5.drop.blk; have g0 := b5.cell (o := 0) rfl; have g1 := b5.cell (o := 1) rfl; clear hx h5 b5)
        | (go_at_call 23; ((with_reducible refine (CY.out _ zq ov).mono ?_)); rintro e w6 ⟨y, s, rfl, hy⟩; have h6 := (H5.out.add hy).still (Turned.refl _ w6).drew; have H6 := Lib.hid h6; have b6 := h6.drop.blk; have i2 := b6.cell (o := 2) rfl; have i4 := b6.cell (o := 4) rfl; have j2 := b6.free 2; have j4 := b6.free 4; have i4' := (b6.set 2 (ptr x)).cell (o := 4) (v := .pointer none) rfl; have j4' := (b6.set 2 (ptr x)).free 4; have i2' := (b6.set 4 (ptr y)).cell (o := 2) (v := .pointer none) rfl; have j2' := (b6.set 4 (ptr y)).free 2; have h7 := H5.out.add hy; have H7 := Lib.hid h7; have b7 := h7.drop.blk; have p4' := (b7.set 2 (ptr x)).cell (o := 4) (v := .pointer none) rfl; have q4' := (b7.set 2 (ptr x)).free 4; have p2' := (b7.set 4 (ptr y)).cell (o := 2) (v := .pointer none) rfl; have q2' := (b7.set 4 (ptr y)).free 2; clear hy h6 b6 h7 b7))
      go_region_held3 (fun _ => True) (exact trivial) (fail)
      all_goals (
        go_wp2_with fail
        go_roundw
        case rel => exact ⟨1, by go_num, .inr (.inl ⟨rfl, x, y, s, by first | exact (H6.out.setT 2 (ptr x)).setT 4 (ptr y) | exact (H6.out.setT 4 (ptr y)).setT 2 (ptr x) | exact ((H7.out.setT 2 (ptr x)).setT 4 (ptr y)).still (Turned.refl _ _).drew | exact ((H7.out.setT 4 (ptr y)).setT 2 (ptr x)).still (Turned.refl _ _).drew⟩)⟩
        case measure => simp [intOf])
    · have b := hh.drop.blk
      have d0 := b.cell (o := 0) rfl
      have d1 := b.cell (o := 1) rfl
      have HH := Lib.hid hh
      clear hh b
      go_wp2_with (first
        | (go_at_call 10; ((with_reducible refine (CX1.out _ q _ HH.out.snd.snd.snd).mono ?_)); rintro e w5 ⟨x, rfl, hx⟩; have h5 := HH.out.add hx; have H5 := Lib.hid h5; have b5 := h5.drop.blk; have g0 := b5.cell (o := 0) rfl; have g1 := b5.cell (o := 1) rfl; clear hx h5 b5)
        | (go_at_call 23; ((with_reducible refine (CY1.out _ zq).mono ?_)); rintro e w6 ⟨y, s, rfl, hy⟩; have h6 := (H5.out.add hy).still (Turned.refl _ w6).drew; have H6 := Lib.hid h6; have b6 := h6.drop.blk; have i2 := b6.cell (o := 3) rfl; have i4 := b6.cell (o := 5) rfl; have j2 := b6.free 3; have j4 := b6.free 5; have i4' := (b6.set 3 (ptr x)).cell (o := 5) (v := .pointer none) rfl; have j4' := (b6.set 3 (ptr x)).free 5; have i2' := (b6.set 5 (ptr y)).cell (o := 3) (v := .pointer none) rfl; have j2' := (b6.set 5 (ptr y)).free 3; have h7 := H5.out.add hy; have H7 := Lib.hid h7; have b7 := h7.drop.blk; have p4' := (b7.set 3 (ptr x)).cell (o := 5) (v := .pointer none) rfl; have q4' := (b7.set 3 (ptr x)).free 5; have p2' := (b7.set 5 (ptr y)).cell (o := 3) (v := .pointer none) rfl; have q2' := (b7.set 5 (ptr y)).free 3; clear hy h6 b6 h7 b7))
      go_region_held3 (fun _ => True) (exact trivial) (fail)
      all_goals (
        go_wp2_with fail
        go_roundw
        case rel => exact ⟨2, by go_num, .inr (.inr ⟨rfl, x0, y0, s0, x, y, s, by first | exact (H6.out.setT 3 (ptr x)).setT 5 (ptr y) | exact (H6.out.setT 5 (ptr y)).setT 3 (ptr x) | exact ((H7.out.setT 3 (ptr x)).setT 5 (ptr y)).still (Turned.refl _ _).drew | exact ((H7.out.setT 5 (ptr y)).setT 3 (ptr x)).still (Turned.refl _ _).drew⟩)⟩
        case measure => simp [intOf])
    · have b := hh.drop.blk
      have d7 := b.cell (o := 7) rfl
      have f7 := b.free 7
      have HE := Lib.hid (HEnd.out _ _ _ _ _ _ _ _ _ _ hh)
      clear hh b
      go_wp2_with fail
      go_ret
      exact ⟨t, q, zq, x0, y0, s0, x1, y1, s1, rfl, HE.out⟩
end Go.Proofs.YtbljjmehjkmjaaaGreat

/- What the statements' own 'same' answers. No condition but that the program's partitions and pool keep their words. -/
namespace Go.Proofs.YtbljjmehjkmjaaaGreat
open Go.RowKit
set_option linter.unusedVariables false
set_option linter.unusedSimpArgs false
set_option maxRecDepth 100000

theorem sameI_yes (w : World) (ao bo : Option Addr) (l : List Int) (n m ca cb : Nat) (hn : n = l.length) (hm : m = l.length) (hl : l.length ≤ 1000000) (hA : NumsAt w ao l) (hB : NumsAt w bo l) :
    Calls Tryz.prog 20 #[.slice ao n ca, .slice bo m cb] w fun e w' => e = .returned (.bool true) ∧ Still w w' := by
  subst hn; subst hm
  refine (sameInts_any w ao bo l l ca cb rfl (by omega) hA hB).mono fun e w' ⟨h1, k, h2⟩ => ⟨by rw [h1, decide_eq_true rfl], by rw [h2]; exact (Turned.refl _ _).drewN k⟩

/-- What one of the two answers, and the document's. -/
structure SameI (w : World) (t i xi yi ri : Nat) (M : RM) (n : Nat) : Prop where
  cells : ∀ V, Still w V → V.cell? ⟨t, 2 + i, none⟩ = some (.pointer (some ⟨xi, 0, none⟩)) ∧ V.cell? ⟨t, 4 + i, none⟩ = some (.pointer (some ⟨yi, 0, none⟩)) ∧ V.cell? ⟨yi, 1, none⟩ = some (.pointer (some ⟨ri, 0, none⟩)) ∧ V.cell? ⟨ri, 2, none⟩ = some (.int .i64 M.h)
  head : ∀ V, Still w V → Calls Tryz.prog 17 #[.pointer (some ⟨xi, 0, none⟩)] V fun e w' => e = .returned (.int .i64 M.h) ∧ Still V w'
  tail : ∀ V, Still w V → Calls Tryz.prog 18 #[.pointer (some ⟨xi, 0, none⟩)] V fun e w' => e = .returned (.int .i64 M.tail) ∧ Still V w'
  ztail : ∀ V, Still w V → Calls Tryz.prog 40 #[.pointer (some ⟨ri, 0, none⟩)] V fun e w' => e = .returned (.int .i64 M.tail) ∧ Still V w'
  ready : ∀ V, Still w V → Calls Tryz.prog 19 #[.pointer (some ⟨xi, 0, none⟩), .int .i64 0] V fun e w' => e = .returned (.int .i64 (M.ready 0)) ∧ Still V w'
  zready : ∀ V, Still w V → Calls Tryz.prog 41 #[.pointer (some ⟨ri, 0, none⟩), .int .i64 0] V fun e w' => e = .returned (.int .i64 (M.ready 0)) ∧ Still V w'
  refs : ∀ V, Still w V → Calls Tryz.prog 13 #[.pointer (some ⟨xi, 0, none⟩)] V fun e w' => ∃ a c, e = .returned (.slice a n c) ∧ (∀ V', Still w' V' → NumsAt V' a M.refs) ∧ Still V w'
  zrefs : ∀ V, Still w V → Calls Tryz.prog 42 #[.pointer (some ⟨ri, 0, none⟩)] V fun e w' => ∃ a c, e = .returned (.slice a n c) ∧ (∀ V', Still w' V' → NumsAt V' a M.refs) ∧ Still V w'
  len : M.refs.length = n
  small : n ≤ 64

theorem Two.same {PT : Nat → PM → Thing} {XT : Nat → Nat → RM → Thing} (A : PartActs PT XT) {w wr : World} {t q zq i xi xj yi yj ri rj : Nat} {P : PM} {Mi Mj : RM} {had : List Int} {ao : Option Addr} {n cc N K : Nat} (H : Two PT XT w wr t q zq i xi xj yi yj ri rj P Mi Mj had ao n cc N K) (hN : N < 800000) (hK : K < 800000) (hi : i < 2) :
    SameI wr t i xi yi ri Mi Mi.l.length := by
  have hz : ∀ V, Still wr V → ∃ W, (zrT ri Mi).at_ V W := fun V h => by
    obtain ⟨_, _, _, _, ⟨_, W3, _, h3, _⟩, _⟩ := (H.still h).held.docu
    exact ⟨W3, h3⟩
  refine ⟨fun V h => ?_, fun V h => ?_, fun V h => ?_, fun V h => ?_, fun V h => ?_, fun V h => ?_, fun V h => ?_, fun V h => ?_, by simp [RM.refs], by have := H.mi.len; have := H.mi.max; omega⟩
  · have hh := (H.still h).held
    have h1 := hh.rest.drop.blk
    obtain ⟨e1, e2⟩ := twoV_x (q := q) (zq := zq) (xi := xi) (xj := xj) (yi := yi) (yj := yj) (ao := ao) (n := n) (cc := cc) hi
    obtain ⟨W3, la, lc, h3⟩ := hz V h
    exact ⟨h1.cell e1, h1.cell e2, (two_y hh).2, h3.cells.2.2.1⟩
  · obtain ⟨_, hp⟩ := (H.still h).held.prog
    exact (A.head hp H.ok H.mi (by omega) (by omega))
  · obtain ⟨_, hp⟩ := (H.still h).held.prog
    exact (A.tail hp H.ok H.mi (by omega) (by omega))
  · obtain ⟨W3, la, lc, h3⟩ := hz V h
    exact (zrtail_any h3 H.mi (by omega))
  · obtain ⟨_, hp⟩ := (H.still h).held.prog
    exact (A.ready hp H.ok H.mi (by omega) (by omega) 0 ⟨by omega, by omega⟩)
  · obtain ⟨W3, h3⟩ := hz V h
    exact (zrready_any h3 H.mi (by omega) 0)
  · obtain ⟨_, hp⟩ := (H.still h).held.prog
    refine (A.handles hp H.ok H.mi (by omega) (by omega) _ rfl).mono ?_
    rintro e w' ⟨a, c, h1, h2, h3⟩
    exact ⟨a, c, h1, fun V' h' => (NumsAt.of_own h2 (by simp [RM.refs])).turned h' (fun _ _ hs => hs), h3⟩
  · obtain ⟨W3, h3⟩ := hz V h
    refine (zrrefs_any h3 H.mi _ rfl).mono ?_
    rintro e w' ⟨a, c, h1, h2, h3⟩
    exact ⟨a, c, h1, fun V' h' => (NumsAt.of_own h2 (by simp [RM.refs])).turned h' (fun _ _ hs => hs), h3⟩

set_option maxHeartbeats 8000000 in
theorem same_two {PT : Nat → PM → Thing} {XT : Nat → Nat → RM → Thing} (A : PartApi PT XT) (B : PoolApi12 PT) {w ws : World} {t q zq x0 x1 y0 y1 r0 r1 : Nat} {P : PM} {M0 M1 : RM} {had : List Int} {ao : Option Addr} {n cc N K : Nat} (H : Two PT XT w ws t q zq 0 x0 x1 y0 y1 r0 r1 P M0 M1 had ao n cc N K) (hN : N < 800000) (hK : K < 800000) :
    Calls Tryz.prog 9 #[.pointer (some ⟨t, 0, none⟩)] ws fun e w' => e = .returned (.bool true) ∧ Still ws w' := by
  have HSm := Lib.hid (fun (k : Nat) (hk : k < 2) => show ∃ xi yi ri M n, SameI ws t k xi yi ri M n from by
    rcases (show k = 0 ∨ k = 1 by omega) with rfl | rfl
    · exact ⟨_, _, _, _, _, H.same A.toPartActs hN hK (by omega)⟩
    · exact ⟨_, _, _, _, _, (H.swap (by omega)).same A.toPartActs hN hK (by omega)⟩)
  have HFr := Lib.hid (fun V (h : Still ws V) => show Calls Tryz.prog 14 #[.pointer (some ⟨q, 0, none⟩)] V fun e w' => ∃ a c, e = .returned (.slice a P.fr.length c) ∧ (∀ V', Still w' V' → NumsAt V' a (nums P.fr)) ∧ Still V w' from by
    obtain ⟨_, _, _, hp, _⟩ := (H.still h).held.prog
    refine (B.free hp H.ok (by omega) _ rfl).mono ?_
    rintro e w' ⟨a, c, h1, h2, h3⟩
    exact ⟨a, c, h1, fun V' h' => (NumsAt.of_own h2 (nums_length _).symm).turned h' (fun _ _ hs => hs), h3⟩)
  have HTc := Lib.hid (fun V (h : Still ws V) => show ∃ fa fc, V.cell? ⟨t, 0, none⟩ = some (.pointer (some ⟨q, 0, none⟩)) ∧ V.cell? ⟨t, 1, none⟩ = some (.pointer (some ⟨zq, 0, none⟩)) ∧ V.cell? ⟨zq, 3, none⟩ = some (.slice (some fa) P.fr.length fc) ∧ NumsAt V (some fa) (nums P.fr) from by
    have hh := (H.still h).held
    have h1 := hh.rest.drop.blk
    obtain ⟨_, _, _, ⟨L, hz⟩, _⟩ := hh.docu
    exact ⟨L.fa, L.fc, h1.cell rfl, h1.cell rfl, hz.hd.cell rfl, hz.ff⟩)
  have hfrl := H.ok.frlen
  obtain ⟨fl, hfl⟩ : ∃ fl, fl = P.fr.length := ⟨_, rfl⟩
  rw [← hfl] at HFr HTc
  have HSI := Lib.hid (fun V ao bo l n m ca cb hn hm hl hA hB => sameI_yes V ao bo l n m ca cb hn hm hl hA hB)
  have HFl := Lib.hid hfl
  clear H hfl
  go_enter Tryz.func9, Tryz.ntmps9
  go_wp2_with fail
  go_loopw [3] (fun i wx => ∃ k : Nat, k ≤ 2 ∧ i = .int .i64 k ∧ Still ws wx) (fun i _ => 2 - (intOf i).toNat)
  case atStart => exact ⟨0, by omega, rfl, Turned.refl _ _⟩
  case round =>
    obtain ⟨k, hk, rfl, hst⟩ := hrel
    by_cases hlt : k < 2
    · obtain ⟨xi, yi, ri, M, m, hS⟩ := HSm.out k hlt
      have HS := Lib.hid hS
      obtain ⟨tx, ty, _, _⟩ := hS.cells _ hst
      have hm := hS.small
      have HLm := Lib.hid hS.len
      have hki : (k : Int) < 2 := by omega
      have HSt := Lib.hid hst
      clear hS hst
      go_wp2_with fail
      go_quiet (fail)
      obtain ⟨V, hV⟩ : ∃ V, V = wr.drewN nq := ⟨_, rfl⟩
      rw [← hV]
      have hUd : Still ws V.drew := HSt.out.trans (by rw [hV]; exact ((Turned.refl _ _).drewN _).drew)
      obtain ⟨_, _, k1, k2⟩ := HS.out.cells _ hUd
      clear hV tx ty
      go_wp2_with fail
      go_region_held3 (fun Z => Z.cell? ⟨yi, 1, none⟩ = some (.pointer (some ⟨ri, 0, none⟩)) ∧ Z.cell? ⟨ri, 2, none⟩ = some (.int .i64 M.h)) (first | exact ⟨by assumption, by assumption⟩ | go_keep) (first
        | (go_at_call 17; ((with_reducible refine (HS.out.head _ (by assumption)).mono ?_)); rintro e w5 ⟨rfl, hT5⟩; have hU5 : Still ws w5 := Turned.trans (by assumption) hT5; obtain ⟨_, _, k51, k52⟩ := HS.out.cells _ hU5; clear hT5)
        | (go_at_call 18; ((with_reducible refine (HS.out.tail _ (by assumption)).mono ?_)); rintro e w6 ⟨rfl, hT6⟩; have hU6 : Still ws w6 := Turned.trans (by assumption) hT6; obtain ⟨_, _, k61, k62⟩ := HS.out.cells _ hU6; clear hT6)
        | (go_at_call 40; ((with_reducible refine (HS.out.ztail _ (by assumption)).mono ?_)); rintro e w7 ⟨rfl, hT7⟩; have hU7 : Still ws w7 := Turned.trans (by assumption) hT7; obtain ⟨_, _, k71, k72⟩ := HS.out.cells _ hU7; clear hT7)
        | (go_at_call 19; ((with_reducible refine (HS.out.ready _ (by assumption)).mono ?_)); rintro e w8 ⟨rfl, hT8⟩; have hU8 : Still ws w8 := Turned.trans (by assumption) hT8; obtain ⟨_, _, k81, k82⟩ := HS.out.cells _ hU8; clear hT8)
        | (go_at_call 41; ((with_reducible refine (HS.out.zready _ (by assumption)).mono ?_)); rintro e w9 ⟨rfl, hT9⟩; have hU9 : Still ws w9 := Turned.trans (by assumption) hT9; obtain ⟨_, _, k91, k92⟩ := HS.out.cells _ hU9; clear hT9)
        | (go_at_call 13; ((with_reducible refine (HS.out.refs _ (by assumption)).mono ?_)); rintro e w10 ⟨a10, c10, rfl, hN10, hT10⟩; have HN10 := Lib.hid hN10; have hU10 : Still ws w10 := Turned.trans (by assumption) hT10; obtain ⟨_, _, ka1, ka2⟩ := HS.out.cells _ hU10; clear hT10 hN10)
        | (go_at_call 42; ((with_reducible refine (HS.out.zrefs _ (by assumption)).mono ?_)); rintro e w11 ⟨a11, c11, rfl, hN11, hT11⟩; have HN11 := Lib.hid hN11; have HNa := Lib.hid (HN10.out _ hT11); have hU11 : Still ws w11 := Turned.trans (by assumption) hT11; obtain ⟨_, _, kb1, kb2⟩ := HS.out.cells _ hU11; clear hT11 hN11)
        | (go_at_call 20; ((with_reducible refine (HSI.out _ _ _ M.refs m m _ _ HLm.out.symm HLm.out.symm (by rw [HLm.out]; omega) HNa.out (HN11.out _ (Turned.refl _ _))).mono ?_)); rintro e w12 ⟨rfl, hT12⟩; have hU12 : Still ws w12 := Turned.trans (by assumption) hT12; obtain ⟨_, _, kc1, kc2⟩ := HS.out.cells _ hU12; clear hT12))
      all_goals (
        go_wp2_with fail
        go_roundw
        case rel => exact ⟨k + 1, by omega, by go_num, by assumption⟩
        case measure => simp [intOf]; omega)
    · obtain rfl : k = 2 := by omega
      have hUd : Still ws wr.drew := hst.trans (Turned.refl _ _).drew
      obtain ⟨fa, fc, k1, k2, k3, _⟩ := HTc.out _ hUd
      clear hst
      go_wp2_with fail
      go_region_held3 (fun Z => Z.cell? ⟨t, 0, none⟩ = some (.pointer (some ⟨q, 0, none⟩)) ∧ Z.cell? ⟨t, 1, none⟩ = some (.pointer (some ⟨zq, 0, none⟩)) ∧ Z.cell? ⟨zq, 3, none⟩ = some (.slice (some fa) fl fc)) (first | exact ⟨by assumption, by assumption, by assumption⟩ | go_keep) (first
        | (go_at_call 14; ((with_reducible refine (HFr.out _ (by assumption)).mono ?_)); rintro e w5 ⟨a5, c5, rfl, hN5, hT5⟩; have HN5 := Lib.hid hN5; have hU5 : Still ws w5 := Turned.trans (by assumption) hT5; have k51 := still_cell hT5 k1 rfl; have k52 := still_cell hT5 k2 rfl; have k53 := still_cell hT5 k3 rfl; obtain ⟨fb, fd, _, _, kk, hNF⟩ := HTc.out _ hU5; rw [k53] at kk; cases kk; have HNF := Lib.hid hNF; clear hT5 hN5 hNF)
        | (go_at_call 20; ((with_reducible refine (HSI.out _ _ _ (nums P.fr) fl fl _ _ (by rw [nums_length]; exact HFl.out) (by rw [nums_length]; exact HFl.out) (by rw [nums_length]; omega) (HN5.out _ (Turned.refl _ _)) HNF.out).mono ?_)); rintro e w6 ⟨rfl, hT6⟩; have hU6 : Still ws w6 := Turned.trans (by assumption) hT6; have k61 := still_cell hT6 k51 rfl; have k62 := still_cell hT6 k52 rfl; have k63 := still_cell hT6 k53 rfl; clear hT6))
      all_goals (
        go_wp2_with fail
        go_ret
        exact ⟨rfl, by assumption⟩)
end Go.Proofs.YtbljjmehjkmjaaaGreat
