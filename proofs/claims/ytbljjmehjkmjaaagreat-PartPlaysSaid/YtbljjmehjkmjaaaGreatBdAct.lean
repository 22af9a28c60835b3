import Derived.Test.YtbljjmehjkmjaaaGreatPtWorks
import Derived.Test.YtbljjmehjkmjaaaGreatReadInts
import Derived.Test.YtbljjmehjkmjaaaGreatBdPool
import Derived.Test.YtbljjmehjkmjaaaGreatSlW
import Derived.Deep.RegionHeld3
import Derived.Deep.DeepCutAuto
import Derived.Deep.CutBlock
import Derived.BigQuiet

/- The acts of the statements of layer 12; the pair of partitions beside the document's. No condition. -/
namespace Go.Proofs.YtbljjmehjkmjaaaGreat
open Go.RowKit
set_option linter.unusedVariables false
set_option linter.unusedSimpArgs false
set_option maxRecDepth 100000

abbrev Act12 := Int × Int × Int × Sl UInt8
def encAct12 (a : Act12) : List Value := encI a.1 ++ encI a.2.1 ++ encI a.2.2.1 ++ encSl a.2.2.2
def okAct12 (w : World) (a : Act12) : Prop := okI .i64 w a.1 ∧ okI .i64 w a.2.1 ∧ okI .i64 w a.2.2.1 ∧ SlOk encB okB 1 w a.2.2.2
theorem encAct12_len (a : Act12) : (encAct12 a).length = 4 := rfl
theorem cellsAct12 : Tryz.prog.cellsOf 38 = 4 := by kernel_rfl
theorem cellsBytes12 : Tryz.prog.cellsOf 36 = 1 := by kernel_rfl
theorem rdAct12 : Rd Tryz.prog 38 encAct12 okAct12 :=
  rd_struct4 (m0 := 1) (m1 := 1) (m2 := 1) (m3 := 1) Tryz.underlying38 cellsAct12 cellsInt cellsInt cellsInt cellsBytes12 rfl rfl rfl rfl rdInt rdInt rdInt rdBytes
theorem rdActs12 : Rd Tryz.prog 22 encSl (SlOk encAct12 okAct12 4) := rd_slice Tryz.underlying22 cellsAct12 (by omega) encAct12_len rdAct12
theorem okB_stays12 : Stays okB := fun _ _ _ _ h => h
theorem okAct12_stays : Stays okAct12 := fun w w' a ht h => ⟨h.1, h.2.1, h.2.2.1, SlOk.stays okB_stays12 w w' _ ht h.2.2.2⟩
def Act12.val (a : Act12) : Value := .agg #[.int .i64 a.1, .int .i64 a.2.1, .int .i64 a.2.2.1, .slice a.2.2.2.a a.2.2.2.len a.2.2.2.cap]

/-- What the statement's own struct holds, seen from one of its two partitions. -/
def twoV (q zq i xi xj yi yj : Nat) (ao : Option Addr) (n cc : Nat) : List Value :=
  [.pointer (some ⟨q, 0, none⟩), .pointer (some ⟨zq, 0, none⟩), .pointer (some ⟨if i = 0 then xi else xj, 0, none⟩), .pointer (some ⟨if i = 0 then xj else xi, 0, none⟩), .pointer (some ⟨if i = 0 then yi else yj, 0, none⟩), .pointer (some ⟨if i = 0 then yj else yi, 0, none⟩), .slice ao n cc, .bool true]
theorem twoV_x {q zq i xi xj yi yj : Nat} {ao : Option Addr} {n cc : Nat} (hi : i < 2) : (twoV q zq i xi xj yi yj ao n cc)[2 + i]? = some (.pointer (some ⟨xi, 0, none⟩)) ∧ (twoV q zq i xi xj yi yj ao n cc)[4 + i]? = some (.pointer (some ⟨yi, 0, none⟩)) := by
  rcases (show i = 0 ∨ i = 1 by omega) with rfl | rfl <;> exact ⟨rfl, rfl⟩
theorem twoV_swap (q zq i xi xj yi yj : Nat) (ao : Option Addr) (n cc : Nat) (hi : i < 2) : twoV q zq (1 - i) xj xi yj yi ao n cc = twoV q zq i xi xj yi yj ao n cc := by
  rcases (show i = 0 ∨ i = 1 by omega) with rfl | rfl <;> rfl

/-- The struct, and the handles that were read. -/
abbrev twoR (t q zq i xi xj yi yj : Nat) (ao : Option Addr) (n cc : Nat) (had : List Int) : Thing := (blkT t (twoV q zq i xi xj yi yj ao n cc) 34).sep (ownT 3 1 ao n cc (ints had))
/-- All of it. -/
structure Two (PT : Nat → PM → Thing) (XT : Nat → Nat → RM → Thing) (w wr : World) (t q zq i xi xj yi yj ri rj : Nat) (P : PM) (Mi Mj : RM) (had : List Int) (ao : Option Addr) (n cc N K : Nat) : Prop where
  held : Held w wr (sysT (PT q P) (XT xi q Mi) (zT zq P) (zxT yi zq ri Mi) (XT xj q Mj) (zxT yj zq rj Mj) (twoR t q zq i xi xj yi yj ao n cc had))
  len : had.length = n
  inv : PtInv P (Mi.refs ++ (Mj.refs ++ had))
  ok : P.Ok N
  mi : Mi.Ok K
  mj : Mj.Ok K
theorem Two.swap {PT : Nat → PM → Thing} {XT : Nat → Nat → RM → Thing} {w wr : World} {t q zq i xi xj yi yj ri rj : Nat} {P : PM} {Mi Mj : RM} {had : List Int} {ao : Option Addr} {n cc N K : Nat} (hi : i < 2) (h : Two PT XT w wr t q zq i xi xj yi yj ri rj P Mi Mj had ao n cc N K) :
    Two PT XT w wr t q zq (1 - i) xj xi yj yi rj ri P Mj Mi had ao n cc N K := by
  refine ⟨?_, h.len, h.inv.perm ?_, h.ok, h.mj, h.mi⟩
  · have := h.held.sysSwap
    unfold twoR
    rw [twoV_swap _ _ _ _ _ _ _ _ _ _ hi]
    exact this
  · rw [← List.append_assoc, ← List.append_assoc]
    exact List.Perm.append_right had List.perm_append_comm
theorem Two.still {PT : Nat → PM → Thing} {XT : Nat → Nat → RM → Thing} {w wr w' : World} {t q zq i xi xj yi yj ri rj : Nat} {P : PM} {Mi Mj : RM} {had : List Int} {ao : Option Addr} {n cc N K : Nat} (h : Two PT XT w wr t q zq i xi xj yi yj ri rj P Mi Mj had ao n cc N K) (ht : Still wr w') :
    Two PT XT w w' t q zq i xi xj yi yj ri rj P Mi Mj had ao n cc N K := ⟨h.held.still ht, h.len, h.inv, h.ok, h.mi, h.mj⟩
theorem Two.mono {PT : Nat → PM → Thing} {XT : Nat → Nat → RM → Thing} {w wr : World} {t q zq i xi xj yi yj ri rj : Nat} {P : PM} {Mi Mj : RM} {had : List Int} {ao : Option Addr} {n cc N K N' K' : Nat} (h : Two PT XT w wr t q zq i xi xj yi yj ri rj P Mi Mj had ao n cc N K) (hN : N ≤ N') (hK : K ≤ K') :
    Two PT XT w wr t q zq i xi xj yi yj ri rj P Mi Mj had ao n cc N' K' := ⟨h.held, h.len, h.inv, h.ok.mono hN, h.mi.mono hK, h.mj.mono hK⟩

/-- What an act leaves. -/
def ActPost (PT : Nat → PM → Thing) (XT : Nat → Nat → RM → Thing) (w : World) (t q zq i xi xj yi yj ri rj : Nat) (P : PM) (Mi Mj : RM) (n N K : Nat) (e : Ending) (w' : World) : Prop :=
  e = .returned (.bool true) ∧ ∃ (P' : PM) (Mi' : RM) (had' : List Int) (ao' : Option Addr) (n' cc' : Nat), Two PT XT w w' t q zq i xi xj yi yj ri rj P' Mi' Mj had' ao' n' cc' (N + 66) (K + 1) ∧ SameSz P P' ∧ n' ≤ n + 1 ∧ Mi'.n = Mi.n

/-- With a box beside. -/
abbrev twoB (t q zq i xi xj yi yj : Nat) (ao : Option Addr) (n cc : Nat) (had : List Int) (bx : Nat) (a : Act12) : Thing := (twoR t q zq i xi xj yi yj ao n cc had).sep (blkT bx (encAct12 a) 38)
theorem two_cells {w W : World} {A X Z Y X' Y' : Thing} {t q zq i xi xj yi yj : Nat} {ao : Option Addr} {n cc bx : Nat} {had : List Int} {a : Act12} (h : Held w W (sysT A X Z Y X' Y' (twoB t q zq i xi xj yi yj ao n cc had bx a))) (hi : i < 2) :
    W.cell? ⟨bx, 0, none⟩ = some (.int .i64 a.1) ∧ W.cell? ⟨bx, 1, none⟩ = some (.int .i64 a.2.1) ∧ W.cell? ⟨bx, 2, none⟩ = some (.int .i64 a.2.2.1) ∧ W.cell? ⟨bx, 3, none⟩ = some (.slice a.2.2.2.a a.2.2.2.len a.2.2.2.cap) ∧
    W.cell? ⟨t, 0, none⟩ = some (.pointer (some ⟨q, 0, none⟩)) ∧ W.cell? ⟨t, 1, none⟩ = some (.pointer (some ⟨zq, 0, none⟩)) ∧ W.cell? ⟨t, 2 + i, none⟩ = some (.pointer (some ⟨xi, 0, none⟩)) ∧ W.cell? ⟨t, 4 + i, none⟩ = some (.pointer (some ⟨yi, 0, none⟩)) ∧ W.cell? ⟨t, 6, none⟩ = some (.slice ao n cc) ∧ W.frozen? ⟨t, 6, none⟩ = false := by
  have hr := h.rest
  have h1 := hr.drop.drop.blk
  have h2 := hr.snd.blk
  obtain ⟨e1, e2⟩ := twoV_x (q := q) (zq := zq) (xi := xi) (xj := xj) (yi := yi) (yj := yj) (ao := ao) (n := n) (cc := cc) hi
  exact ⟨h2.cell rfl, h2.cell rfl, h2.cell rfl, h2.cell rfl, h1.cell rfl, h1.cell rfl, h1.cell e1, h1.cell e2, h1.cell rfl, h1.free _⟩

theorem blkT_set {b : Nat} {xs : List Value} {e : TypeId} {w : World} {W : Nat → Prop} (h : (blkT b xs e).at_ w W) (o : Nat) (v : Value) : Goes (blkT b (xs.set o v) e) W w (w.setCell ⟨b, o, none⟩ v) :=
  ⟨W, ⟨h.1.set o v, h.2⟩, (Turned.refl W w).setCell (p := ⟨b, o, none⟩) (.inl ((h.2 b).2 rfl)) v, fun _ hk => .inl hk⟩
/-- Another row of handles in the struct's place, once it is there. -/
theorem two_put {w W : World} {A X Z Y X' Y' : Thing} {t q zq i xi xj yi yj : Nat} {ao a' : Option Addr} {n cc n' c' bx : Nat} {had' : List Int} {a : Act12} (h : Held w W ((ownT 3 1 a' n' c' (ints had')).sep ((blkT t (twoV q zq i xi xj yi yj ao n cc) 34).sep ((blkT bx (encAct12 a) 38).sep (sysU A X Z Y X' Y'))))) :
    Held w (W.setCell ⟨t, 6, none⟩ (.slice a' n' c')) (sysT A X Z Y X' Y' (twoB t q zq i xi xj yi yj a' n' c' had' bx a)) := by
  obtain ⟨Q, h1, h2⟩ := (Held.turn h).fst
  have h3 := h2 _ _ (blkT_set h1 6 (.slice a' n' c'))
  exact (Held.assoc' (Held.assoc' h3)).sysOf
theorem two_open {w W : World} {A X Z Y X' Y' : Thing} {t q zq i xi xj yi yj : Nat} {ao : Option Addr} {n cc bx : Nat} {had : List Int} {a : Act12} (h : Held w W (sysT A X Z Y X' Y' (twoB t q zq i xi xj yi yj ao n cc had bx a))) :
    Held w W ((ownT 3 1 ao n cc (ints had)).sep ((blkT t (twoV q zq i xi xj yi yj ao n cc) 34).sep ((blkT bx (encAct12 a) 38).sep (sysU A X Z Y X' Y')))) := Held.turn (Held.assoc (Held.assoc h.sysR))
theorem two_cell {w W : World} {O U : Thing} {t q zq i xi xj yi yj : Nat} {ao : Option Addr} {n cc : Nat} (h : Held w W (O.sep ((blkT t (twoV q zq i xi xj yi yj ao n cc) 34).sep U))) : W.cell? ⟨t, 6, none⟩ = some (.slice ao n cc) ∧ W.frozen? ⟨t, 6, none⟩ = false := by
  have := h.snd.drop.blk
  exact ⟨this.cell rfl, this.free _⟩
/-- One handle more. -/
theorem two_app {w W w6 : World} {A X Z Y X' Y' : Thing} {t q zq i xi xj yi yj : Nat} {ao a' : Option Addr} {n cc c' bx : Nat} {had : List Int} {a : Act12} {x : Int} {o : Obj} (h : Held w W (sysT A X Z Y X' Y' (twoB t q zq i xi xj yi yj ao n cc had bx a)))
    (hown : w6.ownsRow 0 3 1 (.slice a' (n + 1) c') (n + 1) (ints (had ++ [x]))) (hg : (W.alloc o).grownBy w6 (Value.slice ao n cc).ownBlock)
    (hat : (Value.slice a' (n + 1) c').ownBlock = (Value.slice ao n cc).ownBlock ∨ (Value.slice a' (n + 1) c').ownBlock = some (W.alloc o).heap.size) :
    w6.cell? ⟨t, 6, none⟩ = some (.slice ao n cc) ∧ w6.frozen? ⟨t, 6, none⟩ = false ∧ Hid (Held w (w6.setCell ⟨t, 6, none⟩ (.slice a' (n + 1) c')) (sysT A X Z Y X' Y' (twoB t q zq i xi xj yi yj a' (n + 1) c' (had ++ [x]) bx a))) := by
  have h1 := (Held.grown (two_open h).swap hown hg hat).swap
  obtain ⟨c1, c2⟩ := two_cell h1
  exact ⟨c1, c2, Lib.hid (two_put h1)⟩
theorem two_own {w W : World} {A X Z Y X' Y' : Thing} {t q zq i xi xj yi yj : Nat} {ao : Option Addr} {n cc bx : Nat} {had : List Int} {a : Act12} (h : Held w W (sysT A X Z Y X' Y' (twoB t q zq i xi xj yi yj ao n cc had bx a))) : W.ownsRow 0 3 1 (.slice ao n cc) n (ints had) := h.rest.drop.own

theorem two_y {w W : World} {A X X' Y' R : Thing} {zq yi ri : Nat} {P : PM} {M : RM} (h : Held w W (sysT A X (zT zq P) (zxT yi zq ri M) X' Y' R)) : W.cell? ⟨yi, 0, none⟩ = some (.pointer (some ⟨zq, 0, none⟩)) ∧ W.cell? ⟨yi, 1, none⟩ = some (.pointer (some ⟨ri, 0, none⟩)) := by
  obtain ⟨_, h⟩ := h.docu
  exact zs_cells (Sit.start h)
end Go.Proofs.YtbljjmehjkmjaaaGreat

/- What the statements' own 'act' does, a way each. No condition but that the program's partitions and pool keep their words. -/
namespace Go.Proofs.YtbljjmehjkmjaaaGreat
open Go.RowKit
set_option linter.unusedVariables false
set_option linter.unusedSimpArgs false
set_option maxRecDepth 100000

set_option maxHeartbeats 4000000 in
theorem act_claim {PT : Nat → PM → Thing} {XT : Nat → Nat → RM → Thing} (A : PartActs PT XT) (B : PoolActs PT) {w wr : World} {t q zq i xi xj yi yj ri rj : Nat} {P : PM} {Mi Mj : RM} {had : List Int} {ao : Option Addr} {n cc N K : Nat} (H : Two PT XT w wr t q zq i xi xj yi yj ri rj P Mi Mj had ao n cc N K) (hN : N < 800000) (hK : K < 800000) (hn : n ≤ 1000) (hi : i < 2) (a : Act12) (hai : am a.1 2 = i) (hok : okAct12 w a) {v : Nat} (hv : am a.2.1 11 = v) (hvs : v = 0 ∨ v = 1 ∨ v = 2 ∨ v = 3) : Calls Tryz.prog 8 #[.pointer (some ⟨t, 0, none⟩), a.val] wr (ActPost PT XT w t q zq i xi xj yi yj ri rj P Mi Mj n N K) := by
  obtain ⟨wh, dd, nn, ⟨ba, bl, bc, bs⟩⟩ := a
  dsimp only at hai hv
  have hnn : w64 nn := by have := i64w_of hok.2.2.1; exact ⟨this.1, this.2⟩
  have B1 := Lib.hid (fun W => among_lit wh 2 2 i rfl hai.symm (by omega) (by omega) W)
  have B2 := Lib.hid (fun W => among_lit dd 11 11 v rfl hv.symm (by omega) (by omega) W)
  have HI := Lib.hid H
  have HOk := Lib.hid hok
  obtain ⟨V, hV⟩ : ∃ V, V = wr.alloc (.cells #[.int .i64 wh, .int .i64 dd, .int .i64 nn, .slice ba bl bc] 38) := ⟨_, rfl⟩
  obtain ⟨bx, hbx⟩ : ∃ bx, bx = wr.heap.size := ⟨_, rfl⟩
  have HV := Lib.hid (show Held w V (sysT (PT q P) (XT xi q Mi) (zT zq P) (zxT yi zq ri Mi) (XT xj q Mj) (zxT yj zq rj Mj) (twoB t q zq i xi xj yi yj ao n cc had bx (wh, dd, nn, ⟨ba, bl, bc, bs⟩))) from by rw [hV, hbx]; exact H.held.sysBox (encAct12 (wh, dd, nn, ⟨ba, bl, bc, bs⟩)) 38)
  have HWV := Lib.hid (show Still wr V from by rw [hV]; exact (Turned.refl _ _).alloc _)
  have hi2 : (i : Int) < 2 := by omega
  clear H hok hai hv
  unfold Act12.val
  dsimp only
  go_enter Tryz.func8, Tryz.ntmps8
  go_upto_region 2 with (go_at_call 7; ((with_reducible refine (B1.out _).mono ?_)); rintro e w' ⟨rfl, hw⟩; rw [← hw]; clear hw)
  rw [← hV, ← hbx]
  obtain ⟨b0, b1, b2, b3, t0, t1, tx, ty, t6, tf⟩ := two_cells HV.out hi
  clear hV hbx
  go_quiet (fail)
  obtain ⟨V2, hV2⟩ : ∃ V2, V2 = V.drewN nq := ⟨_, rfl⟩
  rw [← hV2]
  have H2 := Lib.hid (HV.out.still (show Still V V2 from by rw [hV2]; exact (Turned.refl _ _).drewN _))
  have HW2 := Lib.hid (HWV.out.trans (show Still V V2 from by rw [hV2]; exact (Turned.refl _ _).drewN _))
  clear b0 b1 b2 b3 t0 t1 tx ty t6 tf hV2 HV HWV
  obtain ⟨b0, b1, b2, b3, t0, t1, tx, ty, t6, tf⟩ := two_cells H2.out hi
  have HPm := Lib.hid (ptCl_ok HI.out.ok HI.out.mi nn)
  have X1 := Lib.hid (H2.out.sysCall (fun _ h => A.claim h HI.out.inv HI.out.ok HI.out.mi (by omega) (by omega) nn hnn))
  have Y1 := Lib.hid (fun W (h : Held w W (sysT (PT q (ptClP P Mi nn)) (XT xi q (ptClM P Mi nn)) (zT zq P) (zxT yi zq ri Mi) (XT xj q Mj) (zxT yj zq rj Mj) (twoB t q zq i xi xj yi yj ao n cc had bx (wh, dd, nn, ⟨ba, bl, bc, bs⟩)))) => show Calls Tryz.prog 25 #[.pointer (some ⟨yi, 0, none⟩), .int .i64 nn] W fun e w' => e = .returned (.tuple #[.int .i64 (ptClA P Mi nn), .int .i64 (ptClH P Mi nn), .int .i64 (ptClE P Mi nn)]) ∧ Held w w' (sysT (PT q (ptClP P Mi nn)) (XT xi q (ptClM P Mi nn)) (zT zq (ptClP P Mi nn)) (zxT yi zq ri (ptClM P Mi nn)) (XT xj q Mj) (zxT yj zq rj Mj) (twoB t q zq i xi xj yi yj ao n cc had bx (wh, dd, nn, ⟨ba, bl, bc, bs⟩))) from
    h.sysCallZ (fun _ h' => zxclaim_any h' HI.out.inv HI.out.ok HI.out.mi (by omega) (by omega) nn))
  have HPost := Lib.hid (fun W (h : Held w W (sysT (PT q (ptClP P Mi nn)) (XT xi q (ptClM P Mi nn)) (zT zq (ptClP P Mi nn)) (zxT yi zq ri (ptClM P Mi nn)) (XT xj q Mj) (zxT yj zq rj Mj) (twoB t q zq i xi xj yi yj ao n cc had bx (wh, dd, nn, ⟨ba, bl, bc, bs⟩)))) => show ∃ (P' : PM) (Mi' : RM) (had' : List Int) (ao' : Option Addr) (n' cc' : Nat), Two PT XT w W t q zq i xi xj yi yj ri rj P' Mi' Mj had' ao' n' cc' (N + 66) (K + 1) ∧ SameSz P P' ∧ n' ≤ n + 1 ∧ Mi'.n = Mi.n from
    ⟨(ptClP P Mi nn), (ptClM P Mi nn), had, ao, n, cc, ⟨h.sysPop, HI.out.len, inv_claim HI.out.inv HI.out.ok HI.out.mi (by omega) nn, HPm.out.1.mono (by omega), HPm.out.2.1, HI.out.mj.mono (by omega)⟩, sz_claim HI.out.ok HI.out.mi nn, by omega, (n_claim P Mi nn).1⟩)
  clear HPm
  generalize ptClA P Mi nn = ca at *
  generalize ptClH P Mi nn = ch at *
  generalize ptClE P Mi nn = ce at *
  generalize ptClP P Mi nn = P1 at *
  generalize ptClM P Mi nn = M1 at *
  clear HOk
  rcases hvs with rfl | rfl | rfl | rfl
  all_goals (
    go_wp2_with (first
    | (go_at_call 7; ((with_reducible refine (B2.out _).mono ?_)); rintro e w' ⟨rfl, hw⟩; rw [← hw]; clear hw)
    | (go_at_call 24; ((with_reducible refine (X1.out).mono ?_)); rintro e w5 ⟨rfl, hs⟩; have H5 := Lib.hid hs; clear b0 b1 b2 b3 t0 t1 tx ty t6 tf; obtain ⟨b0, b1, b2, b3, t0, t1, tx, ty, t6, tf⟩ := two_cells hs hi; clear hs)
    | (go_at_call 25; ((with_reducible refine (Y1.out _ H5.out).mono ?_)); rintro e w6 ⟨rfl, hs⟩; have H6 := Lib.hid hs; clear b0 b1 b2 b3 t0 t1 tx ty t6 tf; obtain ⟨b0, b1, b2, b3, t0, t1, tx, ty, t6, tf⟩ := two_cells hs hi; clear hs))
    go_ret
    exact ⟨by first | rfl | simp, HPost.out _ H6.out⟩)

set_option maxHeartbeats 4000000 in
theorem act_trim {PT : Nat → PM → Thing} {XT : Nat → Nat → RM → Thing} (A : PartActs PT XT) (B : PoolActs PT) {w wr : World} {t q zq i xi xj yi yj ri rj : Nat} {P : PM} {Mi Mj : RM} {had : List Int} {ao : Option Addr} {n cc N K : Nat} (H : Two PT XT w wr t q zq i xi xj yi yj ri rj P Mi Mj had ao n cc N K) (hN : N < 800000) (hK : K < 800000) (hn : n ≤ 1000) (hi : i < 2) (a : Act12) (hai : am a.1 2 = i) (hok : okAct12 w a) {v : Nat} (hv : am a.2.1 11 = v) (hvs : v = 9) : Calls Tryz.prog 8 #[.pointer (some ⟨t, 0, none⟩), a.val] wr (ActPost PT XT w t q zq i xi xj yi yj ri rj P Mi Mj n N K) := by
  obtain ⟨wh, dd, nn, ⟨ba, bl, bc, bs⟩⟩ := a
  dsimp only at hai hv
  have hnn : w64 nn := by have := i64w_of hok.2.2.1; exact ⟨this.1, this.2⟩
  have B1 := Lib.hid (fun W => among_lit wh 2 2 i rfl hai.symm (by omega) (by omega) W)
  have B2 := Lib.hid (fun W => among_lit dd 11 11 v rfl hv.symm (by omega) (by omega) W)
  have HI := Lib.hid H
  have HOk := Lib.hid hok
  obtain ⟨V, hV⟩ : ∃ V, V = wr.alloc (.cells #[.int .i64 wh, .int .i64 dd, .int .i64 nn, .slice ba bl bc] 38) := ⟨_, rfl⟩
  obtain ⟨bx, hbx⟩ : ∃ bx, bx = wr.heap.size := ⟨_, rfl⟩
  have HV := Lib.hid (show Held w V (sysT (PT q P) (XT xi q Mi) (zT zq P) (zxT yi zq ri Mi) (XT xj q Mj) (zxT yj zq rj Mj) (twoB t q zq i xi xj yi yj ao n cc had bx (wh, dd, nn, ⟨ba, bl, bc, bs⟩))) from by rw [hV, hbx]; exact H.held.sysBox (encAct12 (wh, dd, nn, ⟨ba, bl, bc, bs⟩)) 38)
  have HWV := Lib.hid (show Still wr V from by rw [hV]; exact (Turned.refl _ _).alloc _)
  have hi2 : (i : Int) < 2 := by omega
  clear H hok hai hv
  unfold Act12.val
  dsimp only
  go_enter Tryz.func8, Tryz.ntmps8
  go_upto_region 2 with (go_at_call 7; ((with_reducible refine (B1.out _).mono ?_)); rintro e w' ⟨rfl, hw⟩; rw [← hw]; clear hw)
  rw [← hV, ← hbx]
  obtain ⟨b0, b1, b2, b3, t0, t1, tx, ty, t6, tf⟩ := two_cells HV.out hi
  clear hV hbx
  go_quiet (fail)
  obtain ⟨V2, hV2⟩ : ∃ V2, V2 = V.drewN nq := ⟨_, rfl⟩
  rw [← hV2]
  have H2 := Lib.hid (HV.out.still (show Still V V2 from by rw [hV2]; exact (Turned.refl _ _).drewN _))
  have HW2 := Lib.hid (HWV.out.trans (show Still V V2 from by rw [hV2]; exact (Turned.refl _ _).drewN _))
  clear b0 b1 b2 b3 t0 t1 tx ty t6 tf hV2 HV HWV
  obtain ⟨b0, b1, b2, b3, t0, t1, tx, ty, t6, tf⟩ := two_cells H2.out hi
  have X1 := Lib.hid (H2.out.sysCall (fun _ h => A.trim h HI.out.inv HI.out.ok HI.out.mi (by omega) (by omega) nn hnn))
  have Y1 := Lib.hid (fun W (h : Held w W (sysT (PT q (ptTrP P Mi nn)) (XT xi q (Mi.trimM nn)) (zT zq P) (zxT yi zq ri Mi) (XT xj q Mj) (zxT yj zq rj Mj) (twoB t q zq i xi xj yi yj ao n cc had bx (wh, dd, nn, ⟨ba, bl, bc, bs⟩)))) => h.sysCallZ (fun _ h' => zxtrim_any h' HI.out.ok HI.out.mi (by omega) (by omega) nn))
  have HPost := Lib.hid (fun W (h : Held w W (sysT (PT q (ptTrP P Mi nn)) (XT xi q (Mi.trimM nn)) (zT zq (ptTrP P Mi nn)) (zxT yi zq ri (Mi.trimM nn)) (XT xj q Mj) (zxT yj zq rj Mj) (twoB t q zq i xi xj yi yj ao n cc had bx (wh, dd, nn, ⟨ba, bl, bc, bs⟩)))) => show ∃ (P' : PM) (Mi' : RM) (had' : List Int) (ao' : Option Addr) (n' cc' : Nat), Two PT XT w W t q zq i xi xj yi yj ri rj P' Mi' Mj had' ao' n' cc' (N + 66) (K + 1) ∧ SameSz P P' ∧ n' ≤ n + 1 ∧ Mi'.n = Mi.n from
    ⟨(ptTrP P Mi nn), (Mi.trimM nn), had, ao, n, cc, ⟨h.sysPop, HI.out.len, inv_trim HI.out.inv HI.out.ok nn, (ok_trim HI.out.ok HI.out.mi nn).mono (by omega), (HI.out.mi.trim nn).mono (by omega), HI.out.mj.mono (by omega)⟩, sz_trim P Mi nn, by omega, (n_trim Mi nn).1⟩)
  generalize ((Mi.trimL nn).length : Nat) = tl at *
  generalize Mi.trimE nn = te at *
  generalize ptTrP P Mi nn = P1 at *
  generalize Mi.trimM nn = M1 at *
  clear HOk
  subst hvs
  go_wp2_with (first
    | (go_at_call 7; ((with_reducible refine (B2.out _).mono ?_)); rintro e w' ⟨rfl, hw⟩; rw [← hw]; clear hw)
    | (go_at_call 35; ((with_reducible refine (X1.out).mono ?_)); rintro e w5 ⟨rfl, hs⟩; have H5 := Lib.hid hs; clear b0 b1 b2 b3 t0 t1 tx ty t6 tf; obtain ⟨b0, b1, b2, b3, t0, t1, tx, ty, t6, tf⟩ := two_cells hs hi; clear hs)
    | (go_at_call 36; ((with_reducible refine (Y1.out _ H5.out).mono ?_)); rintro e w6 ⟨rfl, hs⟩; have H6 := Lib.hid hs; clear b0 b1 b2 b3 t0 t1 tx ty t6 tf; obtain ⟨b0, b1, b2, b3, t0, t1, tx, ty, t6, tf⟩ := two_cells hs hi; clear hs))
  go_ret
  exact ⟨by first | rfl | simp, HPost.out _ H6.out⟩

set_option maxHeartbeats 4000000 in
theorem act_none {PT : Nat → PM → Thing} {XT : Nat → Nat → RM → Thing} (A : PartActs PT XT) (B : PoolActs PT) {w wr : World} {t q zq i xi xj yi yj ri rj : Nat} {P : PM} {Mi Mj : RM} {had : List Int} {ao : Option Addr} {n cc N K : Nat} (H : Two PT XT w wr t q zq i xi xj yi yj ri rj P Mi Mj had ao n cc N K) (hN : N < 800000) (hK : K < 800000) (hn : n ≤ 1000) (hi : i < 2) (a : Act12) (hai : am a.1 2 = i) (hok : okAct12 w a) {v : Nat} (hv : am a.2.1 11 = v) (hvs : v = 8) (hn0 : n = 0) : Calls Tryz.prog 8 #[.pointer (some ⟨t, 0, none⟩), a.val] wr (ActPost PT XT w t q zq i xi xj yi yj ri rj P Mi Mj n N K) := by
  obtain ⟨wh, dd, nn, ⟨ba, bl, bc, bs⟩⟩ := a
  dsimp only at hai hv
  have hnn : w64 nn := by have := i64w_of hok.2.2.1; exact ⟨this.1, this.2⟩
  have B1 := Lib.hid (fun W => among_lit wh 2 2 i rfl hai.symm (by omega) (by omega) W)
  have B2 := Lib.hid (fun W => among_lit dd 11 11 v rfl hv.symm (by omega) (by omega) W)
  have HI := Lib.hid H
  have HOk := Lib.hid hok
  obtain ⟨V, hV⟩ : ∃ V, V = wr.alloc (.cells #[.int .i64 wh, .int .i64 dd, .int .i64 nn, .slice ba bl bc] 38) := ⟨_, rfl⟩
  obtain ⟨bx, hbx⟩ : ∃ bx, bx = wr.heap.size := ⟨_, rfl⟩
  have HV := Lib.hid (show Held w V (sysT (PT q P) (XT xi q Mi) (zT zq P) (zxT yi zq ri Mi) (XT xj q Mj) (zxT yj zq rj Mj) (twoB t q zq i xi xj yi yj ao n cc had bx (wh, dd, nn, ⟨ba, bl, bc, bs⟩))) from by rw [hV, hbx]; exact H.held.sysBox (encAct12 (wh, dd, nn, ⟨ba, bl, bc, bs⟩)) 38)
  have HWV := Lib.hid (show Still wr V from by rw [hV]; exact (Turned.refl _ _).alloc _)
  have hi2 : (i : Int) < 2 := by omega
  clear H hok hai hv
  unfold Act12.val
  dsimp only
  go_enter Tryz.func8, Tryz.ntmps8
  go_upto_region 2 with (go_at_call 7; ((with_reducible refine (B1.out _).mono ?_)); rintro e w' ⟨rfl, hw⟩; rw [← hw]; clear hw)
  rw [← hV, ← hbx]
  obtain ⟨b0, b1, b2, b3, t0, t1, tx, ty, t6, tf⟩ := two_cells HV.out hi
  clear hV hbx
  go_quiet (fail)
  obtain ⟨V2, hV2⟩ : ∃ V2, V2 = V.drewN nq := ⟨_, rfl⟩
  rw [← hV2]
  have H2 := Lib.hid (HV.out.still (show Still V V2 from by rw [hV2]; exact (Turned.refl _ _).drewN _))
  have HW2 := Lib.hid (HWV.out.trans (show Still V V2 from by rw [hV2]; exact (Turned.refl _ _).drewN _))
  clear b0 b1 b2 b3 t0 t1 tx ty t6 tf hV2 HV HWV
  obtain ⟨b0, b1, b2, b3, t0, t1, tx, ty, t6, tf⟩ := two_cells H2.out hi
  have HPost := Lib.hid (fun W (h : Held w W (sysT (PT q P) (XT xi q Mi) (zT zq P) (zxT yi zq ri Mi) (XT xj q Mj) (zxT yj zq rj Mj) (twoB t q zq i xi xj yi yj ao n cc had bx (wh, dd, nn, ⟨ba, bl, bc, bs⟩)))) => show ∃ (P' : PM) (Mi' : RM) (had' : List Int) (ao' : Option Addr) (n' cc' : Nat), Two PT XT w W t q zq i xi xj yi yj ri rj P' Mi' Mj had' ao' n' cc' (N + 66) (K + 1) ∧ SameSz P P' ∧ n' ≤ n + 1 ∧ Mi'.n = Mi.n from
    ⟨P, Mi, had, ao, n, cc, ⟨h.sysPop, HI.out.len, HI.out.inv, HI.out.ok.mono (by omega), HI.out.mi.mono (by omega), HI.out.mj.mono (by omega)⟩, SameSz.refl P, by omega, rfl⟩)
  clear HOk
  subst hvs
  subst hn0
  go_wp2_with (go_at_call 7; ((with_reducible refine (B2.out _).mono ?_)); rintro e w' ⟨rfl, hw⟩; rw [← hw]; clear hw)
  go_ret
  exact ⟨rfl, HPost.out _ H2.out⟩

set_option maxHeartbeats 4000000 in
theorem act_peek {PT : Nat → PM → Thing} {XT : Nat → Nat → RM → Thing} (A : PartActs PT XT) (B : PoolActs PT) {w wr : World} {t q zq i xi xj yi yj ri rj : Nat} {P : PM} {Mi Mj : RM} {had : List Int} {ao : Option Addr} {n cc N K : Nat} (H : Two PT XT w wr t q zq i xi xj yi yj ri rj P Mi Mj had ao n cc N K) (hN : N < 800000) (hK : K < 800000) (hn : n ≤ 1000) (hi : i < 2) (a : Act12) (hai : am a.1 2 = i) (hok : okAct12 w a) {v : Nat} (hv : am a.2.1 11 = v) (hvs : v = 10) : Calls Tryz.prog 8 #[.pointer (some ⟨t, 0, none⟩), a.val] wr (ActPost PT XT w t q zq i xi xj yi yj ri rj P Mi Mj n N K) := by
  obtain ⟨wh, dd, nn, ⟨ba, bl, bc, bs⟩⟩ := a
  dsimp only at hai hv
  have hnn : w64 nn := by have := i64w_of hok.2.2.1; exact ⟨this.1, this.2⟩
  have B1 := Lib.hid (fun W => among_lit wh 2 2 i rfl hai.symm (by omega) (by omega) W)
  have B2 := Lib.hid (fun W => among_lit dd 11 11 v rfl hv.symm (by omega) (by omega) W)
  have HI := Lib.hid H
  have HOk := Lib.hid hok
  obtain ⟨V, hV⟩ : ∃ V, V = wr.alloc (.cells #[.int .i64 wh, .int .i64 dd, .int .i64 nn, .slice ba bl bc] 38) := ⟨_, rfl⟩
  obtain ⟨bx, hbx⟩ : ∃ bx, bx = wr.heap.size := ⟨_, rfl⟩
  have HV := Lib.hid (show Held w V (sysT (PT q P) (XT xi q Mi) (zT zq P) (zxT yi zq ri Mi) (XT xj q Mj) (zxT yj zq rj Mj) (twoB t q zq i xi xj yi yj ao n cc had bx (wh, dd, nn, ⟨ba, bl, bc, bs⟩))) from by rw [hV, hbx]; exact H.held.sysBox (encAct12 (wh, dd, nn, ⟨ba, bl, bc, bs⟩)) 38)
  have HWV := Lib.hid (show Still wr V from by rw [hV]; exact (Turned.refl _ _).alloc _)
  have hi2 : (i : Int) < 2 := by omega
  clear H hok hai hv
  unfold Act12.val
  dsimp only
  go_enter Tryz.func8, Tryz.ntmps8
  go_upto_region 2 with (go_at_call 7; ((with_reducible refine (B1.out _).mono ?_)); rintro e w' ⟨rfl, hw⟩; rw [← hw]; clear hw)
  rw [← hV, ← hbx]
  obtain ⟨b0, b1, b2, b3, t0, t1, tx, ty, t6, tf⟩ := two_cells HV.out hi
  clear hV hbx
  go_quiet (fail)
  obtain ⟨V2, hV2⟩ : ∃ V2, V2 = V.drewN nq := ⟨_, rfl⟩
  rw [← hV2]
  have H2 := Lib.hid (HV.out.still (show Still V V2 from by rw [hV2]; exact (Turned.refl _ _).drewN _))
  have HW2 := Lib.hid (HWV.out.trans (show Still V V2 from by rw [hV2]; exact (Turned.refl _ _).drewN _))
  clear b0 b1 b2 b3 t0 t1 tx ty t6 tf hV2 HV HWV
  obtain ⟨b0, b1, b2, b3, t0, t1, tx, ty, t6, tf⟩ := two_cells H2.out hi
  have X1 := Lib.hid (show Calls Tryz.prog 37 #[.pointer (some ⟨xi, 0, none⟩), .int .i64 nn] V2 (GotBytes V2 (ptPk P Mi nn) (Mi.getE nn)) from by
    obtain ⟨_, h⟩ := H2.out.prog
    exact A.peek h HI.out.inv HI.out.ok HI.out.mi (by omega) (by omega) nn hnn)
  have Y1 := Lib.hid (fun W (h : Held w W (sysT (PT q P) (XT xi q Mi) (zT zq P) (zxT yi zq ri Mi) (XT xj q Mj) (zxT yj zq rj Mj) (twoB t q zq i xi xj yi yj ao n cc had bx (wh, dd, nn, ⟨ba, bl, bc, bs⟩)))) => show Calls Tryz.prog 38 #[.pointer (some ⟨yi, 0, none⟩), .int .i64 nn] W (GotBytes W (ptPk P Mi nn) (Mi.getE nn)) from by
    obtain ⟨_, h⟩ := h.docu
    exact zxpeek_any h HI.out.ok HI.out.mi (by omega) HI.out.inv.cpl nn)
  unfold GotBytes at X1 Y1
  have HPost := Lib.hid (fun W (h : Held w W (sysT (PT q P) (XT xi q Mi) (zT zq P) (zxT yi zq ri Mi) (XT xj q Mj) (zxT yj zq rj Mj) (twoB t q zq i xi xj yi yj ao n cc had bx (wh, dd, nn, ⟨ba, bl, bc, bs⟩)))) => show ∃ (P' : PM) (Mi' : RM) (had' : List Int) (ao' : Option Addr) (n' cc' : Nat), Two PT XT w W t q zq i xi xj yi yj ri rj P' Mi' Mj had' ao' n' cc' (N + 66) (K + 1) ∧ SameSz P P' ∧ n' ≤ n + 1 ∧ Mi'.n = Mi.n from
    ⟨P, Mi, had, ao, n, cc, ⟨h.sysPop, HI.out.len, HI.out.inv, HI.out.ok.mono (by omega), HI.out.mi.mono (by omega), HI.out.mj.mono (by omega)⟩, SameSz.refl P, by omega, rfl⟩)
  generalize ptPk P Mi nn = pk at *
  generalize Mi.getE nn = ge at *
  have SB := Lib.hid (fun W ao bo ca cb (h1 : BytesAt W ao pk) (h2 : BytesAt W bo pk) => sameBytes_any W ao bo pk pk ca cb h1 h2)
  clear HOk
  subst hvs
  go_wp2_with (first
    | (go_at_call 7; ((with_reducible refine (B2.out _).mono ?_)); rintro e w' ⟨rfl, hw⟩; rw [← hw]; clear hw)
    | (go_at_call 37; ((with_reducible refine X1.out.mono ?_)); rintro e w5 ⟨a5, c5, rfl, hown5, hst5⟩; have hs := H2.out.still hst5; have H5 := Lib.hid hs; have HB5 := Lib.hid (fun W (h : Still w5 W) => (BytesAt.of_own hown5).still h); clear hown5 hst5; clear b0 b1 b2 b3 t0 t1 tx ty t6 tf; obtain ⟨b0, b1, b2, b3, t0, t1, tx, ty, t6, tf⟩ := two_cells hs hi; clear hs)
    | (go_at_call 38; ((with_reducible refine (Y1.out _ H5.out).mono ?_)); rintro e w6 ⟨a6, c6, rfl, hown6, hst6⟩; have hs := H5.out.still hst6; have H6 := Lib.hid hs; have HB6 := Lib.hid (BytesAt.of_own hown6); have HB5' := Lib.hid (HB5.out _ hst6); clear hown6 hst6; clear b0 b1 b2 b3 t0 t1 tx ty t6 tf; obtain ⟨b0, b1, b2, b3, t0, t1, tx, ty, t6, tf⟩ := two_cells hs hi; clear hs)
    | (go_at_call 39; ((with_reducible refine (SB.out _ _ _ _ _ HB5'.out HB6.out).mono ?_)); rintro e w7 ⟨rfl, hw⟩; rw [← hw]; clear hw))
  go_ret
  exact ⟨by first | rfl | simp, HPost.out _ H6.out⟩

set_option maxHeartbeats 4000000 in
theorem act_read {PT : Nat → PM → Thing} {XT : Nat → Nat → RM → Thing} (A : PartActs PT XT) (B : PoolActs PT) {w wr : World} {t q zq i xi xj yi yj ri rj : Nat} {P : PM} {Mi Mj : RM} {had : List Int} {ao : Option Addr} {n cc N K : Nat} (H : Two PT XT w wr t q zq i xi xj yi yj ri rj P Mi Mj had ao n cc N K) (hN : N < 800000) (hK : K < 800000) (hn : n ≤ 1000) (hi : i < 2) (a : Act12) (hai : am a.1 2 = i) (hok : okAct12 w a) {v : Nat} (hv : am a.2.1 11 = v) (hvs : v = 7) : Calls Tryz.prog 8 #[.pointer (some ⟨t, 0, none⟩), a.val] wr (ActPost PT XT w t q zq i xi xj yi yj ri rj P Mi Mj n N K) := by
  obtain ⟨wh, dd, nn, ⟨ba, bl, bc, bs⟩⟩ := a
  dsimp only at hai hv
  have hnn : w64 nn := by have := i64w_of hok.2.2.1; exact ⟨this.1, this.2⟩
  have B1 := Lib.hid (fun W => among_lit wh 2 2 i rfl hai.symm (by omega) (by omega) W)
  have B2 := Lib.hid (fun W => among_lit dd 11 11 v rfl hv.symm (by omega) (by omega) W)
  have HI := Lib.hid H
  have HOk := Lib.hid hok
  obtain ⟨V, hV⟩ : ∃ V, V = wr.alloc (.cells #[.int .i64 wh, .int .i64 dd, .int .i64 nn, .slice ba bl bc] 38) := ⟨_, rfl⟩
  obtain ⟨bx, hbx⟩ : ∃ bx, bx = wr.heap.size := ⟨_, rfl⟩
  have HV := Lib.hid (show Held w V (sysT (PT q P) (XT xi q Mi) (zT zq P) (zxT yi zq ri Mi) (XT xj q Mj) (zxT yj zq rj Mj) (twoB t q zq i xi xj yi yj ao n cc had bx (wh, dd, nn, ⟨ba, bl, bc, bs⟩))) from by rw [hV, hbx]; exact H.held.sysBox (encAct12 (wh, dd, nn, ⟨ba, bl, bc, bs⟩)) 38)
  have HWV := Lib.hid (show Still wr V from by rw [hV]; exact (Turned.refl _ _).alloc _)
  have hi2 : (i : Int) < 2 := by omega
  clear H hok hai hv
  unfold Act12.val
  dsimp only
  go_enter Tryz.func8, Tryz.ntmps8
  go_upto_region 2 with (go_at_call 7; ((with_reducible refine (B1.out _).mono ?_)); rintro e w' ⟨rfl, hw⟩; rw [← hw]; clear hw)
  rw [← hV, ← hbx]
  obtain ⟨b0, b1, b2, b3, t0, t1, tx, ty, t6, tf⟩ := two_cells HV.out hi
  clear hV hbx
  go_quiet (fail)
  obtain ⟨V2, hV2⟩ : ∃ V2, V2 = V.drewN nq := ⟨_, rfl⟩
  rw [← hV2]
  have H2 := Lib.hid (HV.out.still (show Still V V2 from by rw [hV2]; exact (Turned.refl _ _).drewN _))
  have HW2 := Lib.hid (HWV.out.trans (show Still V V2 from by rw [hV2]; exact (Turned.refl _ _).drewN _))
  clear b0 b1 b2 b3 t0 t1 tx ty t6 tf hV2 HV HWV
  obtain ⟨b0, b1, b2, b3, t0, t1, tx, ty, t6, tf⟩ := two_cells H2.out hi
  have X1 := Lib.hid (H2.out.sysCall (fun _ h => A.read h HI.out.inv HI.out.ok HI.out.mi (by omega) (by omega) nn hnn))
  have Y1 := Lib.hid (fun W (h : Held w W (sysT (PT q (ptRdP P Mi nn)) (XT xi q Mi) (zT zq P) (zxT yi zq ri Mi) (XT xj q Mj) (zxT yj zq rj Mj) (twoB t q zq i xi xj yi yj ao n cc had bx (wh, dd, nn, ⟨ba, bl, bc, bs⟩)))) => h.sysCallZ (fun _ h' => zxread_any h' HI.out.ok HI.out.mi (by omega) (by omega) HI.out.inv.cpl nn))
  have HInv := Lib.hid (inv_read HI.out.inv nn)
  have HOr := Lib.hid (ok_read (M := Mi) HI.out.ok nn)
  have HSz := Lib.hid (sz_read P Mi nn)
  obtain ⟨i0, ji, jz0, jz1, jz2⟩ := info_parts infoIntW
  clear HOk
  subst hvs
  by_cases he : Mi.getE nn = 0
  · rw [if_pos he] at HInv
    rw [he] at X1 Y1
    generalize Mi.getR nn = gr at *
    generalize ptRdP P Mi nn = P1 at *
    have HPost := Lib.hid (fun W a' c' (h : Held w W (sysT (PT q P1) (XT xi q Mi) (zT zq P1) (zxT yi zq ri Mi) (XT xj q Mj) (zxT yj zq rj Mj) (twoB t q zq i xi xj yi yj a' (n + 1) c' (had ++ [gr]) bx (wh, dd, nn, ⟨ba, bl, bc, bs⟩)))) => show ∃ (P' : PM) (Mi' : RM) (had' : List Int) (ao' : Option Addr) (n' cc' : Nat), Two PT XT w W t q zq i xi xj yi yj ri rj P' Mi' Mj had' ao' n' cc' (N + 66) (K + 1) ∧ SameSz P P' ∧ n' ≤ n + 1 ∧ Mi'.n = Mi.n from
      ⟨P1, Mi, had ++ [gr], a', n + 1, c', ⟨h.sysPop, by rw [List.length_append, HI.out.len]; rfl, by have := HInv.out; rwa [List.append_assoc] at this, HOr.out.mono (by omega), HI.out.mi.mono (by omega), HI.out.mj.mono (by omega)⟩, HSz.out, Nat.le_refl _, rfl⟩)
    clear he HInv HOr HSz
    go_wp2_with (first
      | (go_at_call 7; ((with_reducible refine (B2.out _).mono ?_)); rintro e w' ⟨rfl, hw⟩; rw [← hw]; clear hw)
      | (go_at_call 31; ((with_reducible refine (X1.out).mono ?_)); rintro e w5 ⟨rfl, hs⟩; have H5 := Lib.hid hs; clear b0 b1 b2 b3 t0 t1 tx ty t6 tf; obtain ⟨b0, b1, b2, b3, t0, t1, tx, ty, t6, tf⟩ := two_cells hs hi; clear hs)
      | (go_at_call 32; ((with_reducible refine (Y1.out _ H5.out).mono ?_)); rintro e w6 ⟨rfl, hs⟩; have H6 := Lib.hid hs; clear b0 b1 b2 b3 t0 t1 tx ty t6 tf; obtain ⟨b0, b1, b2, b3, t0, t1, tx, ty, t6, tf⟩ := two_cells hs hi; have HOw := Lib.hid (two_own hs); have HAp := Lib.hid (fun w6 a' c' o hown hg hat => two_app (w6 := w6) (a' := a') (c' := c') (o := o) (x := gr) hs hown hg hat); clear hs)
      | (at_builtin; refine wpList_append_own_at _ rfl (.tmp 143) (.tmp 145) 32 rfl 0 3 i0 (.int .i64 0) 1 8 Tryz.underlying32 ji jz0 jz1 jz2 rfl (by decide) (.slice ao n cc) n (ints had) rfl (ow_still HOw.out ((Turned.refl _ _).alloc _)) ⟨w6.heap.size, 0, none⟩ 1 1 [.int .i64 gr] rfl rfl (ow_cells w6 _ _) (ow_ints rfl) (by unfold maxLen; omega) (by omega) (Nat.zero_le _) ?_; intro v7 w7 hown7 hg7 _ hat7; obtain ⟨a7, c7, rfl⟩ := ow_slice hown7; obtain ⟨f1, f2, H7⟩ := HAp.out w7 a7 c7 _ (by simpa [ints] using hown7) hg7 hat7; clear hown7 hg7 hat7))
    go_ret
    exact ⟨by first | rfl | simp, HPost.out _ _ _ H7.out⟩
  · have hx : (Mi.getE nn == 0) = false := by rw [beq_eq_false_iff_ne]; exact he
    rw [if_neg he, List.append_nil] at HInv
    generalize Mi.getR nn = gr at *
    generalize Mi.getE nn = ge at *
    generalize ptRdP P Mi nn = P1 at *
    have HPost := Lib.hid (fun W (h : Held w W (sysT (PT q P1) (XT xi q Mi) (zT zq P1) (zxT yi zq ri Mi) (XT xj q Mj) (zxT yj zq rj Mj) (twoB t q zq i xi xj yi yj ao n cc had bx (wh, dd, nn, ⟨ba, bl, bc, bs⟩)))) => show ∃ (P' : PM) (Mi' : RM) (had' : List Int) (ao' : Option Addr) (n' cc' : Nat), Two PT XT w W t q zq i xi xj yi yj ri rj P' Mi' Mj had' ao' n' cc' (N + 66) (K + 1) ∧ SameSz P P' ∧ n' ≤ n + 1 ∧ Mi'.n = Mi.n from
      ⟨P1, Mi, had, ao, n, cc, ⟨h.sysPop, HI.out.len, HInv.out, HOr.out.mono (by omega), HI.out.mi.mono (by omega), HI.out.mj.mono (by omega)⟩, HSz.out, by omega, rfl⟩)
    clear HInv HOr HSz
    go_wp2_with (first
      | (go_at_call 7; ((with_reducible refine (B2.out _).mono ?_)); rintro e w' ⟨rfl, hw⟩; rw [← hw]; clear hw)
      | (go_at_call 31; ((with_reducible refine (X1.out).mono ?_)); rintro e w5 ⟨rfl, hs⟩; have H5 := Lib.hid hs; clear b0 b1 b2 b3 t0 t1 tx ty t6 tf; obtain ⟨b0, b1, b2, b3, t0, t1, tx, ty, t6, tf⟩ := two_cells hs hi; clear hs)
      | (go_at_call 32; ((with_reducible refine (Y1.out _ H5.out).mono ?_)); rintro e w6 ⟨rfl, hs⟩; have H6 := Lib.hid hs; clear b0 b1 b2 b3 t0 t1 tx ty t6 tf; obtain ⟨b0, b1, b2, b3, t0, t1, tx, ty, t6, tf⟩ := two_cells hs hi; clear hs))
    go_ret
    exact ⟨by first | rfl | simp, HPost.out _ H6.out⟩

set_option maxHeartbeats 4000000 in
theorem act_pub {PT : Nat → PM → Thing} {XT : Nat → Nat → RM → Thing} (A : PartActs PT XT) (B : PoolActs PT) {w wr : World} {t q zq i xi xj yi yj ri rj : Nat} {P : PM} {Mi Mj : RM} {had : List Int} {ao : Option Addr} {n cc N K : Nat} (H : Two PT XT w wr t q zq i xi xj yi yj ri rj P Mi Mj had ao n cc N K) (hN : N < 800000) (hK : K < 800000) (hn : n ≤ 1000) (hi : i < 2) (a : Act12) (hai : am a.1 2 = i) (hok : okAct12 w a) {v : Nat} (hv : am a.2.1 11 = v) (hvs : v = 5 ∨ v = 6) : Calls Tryz.prog 8 #[.pointer (some ⟨t, 0, none⟩), a.val] wr (ActPost PT XT w t q zq i xi xj yi yj ri rj P Mi Mj n N K) := by
  obtain ⟨wh, dd, nn, ⟨ba, bl, bc, bs⟩⟩ := a
  dsimp only at hai hv
  have hnn : w64 nn := by have := i64w_of hok.2.2.1; exact ⟨this.1, this.2⟩
  have B1 := Lib.hid (fun W => among_lit wh 2 2 i rfl hai.symm (by omega) (by omega) W)
  have B2 := Lib.hid (fun W => among_lit dd 11 11 v rfl hv.symm (by omega) (by omega) W)
  have HI := Lib.hid H
  have HOk := Lib.hid hok
  obtain ⟨V, hV⟩ : ∃ V, V = wr.alloc (.cells #[.int .i64 wh, .int .i64 dd, .int .i64 nn, .slice ba bl bc] 38) := ⟨_, rfl⟩
  obtain ⟨bx, hbx⟩ : ∃ bx, bx = wr.heap.size := ⟨_, rfl⟩
  have HV := Lib.hid (show Held w V (sysT (PT q P) (XT xi q Mi) (zT zq P) (zxT yi zq ri Mi) (XT xj q Mj) (zxT yj zq rj Mj) (twoB t q zq i xi xj yi yj ao n cc had bx (wh, dd, nn, ⟨ba, bl, bc, bs⟩))) from by rw [hV, hbx]; exact H.held.sysBox (encAct12 (wh, dd, nn, ⟨ba, bl, bc, bs⟩)) 38)
  have HWV := Lib.hid (show Still wr V from by rw [hV]; exact (Turned.refl _ _).alloc _)
  have hi2 : (i : Int) < 2 := by omega
  clear H hok hai hv
  unfold Act12.val
  dsimp only
  go_enter Tryz.func8, Tryz.ntmps8
  go_upto_region 2 with (go_at_call 7; ((with_reducible refine (B1.out _).mono ?_)); rintro e w' ⟨rfl, hw⟩; rw [← hw]; clear hw)
  rw [← hV, ← hbx]
  obtain ⟨b0, b1, b2, b3, t0, t1, tx, ty, t6, tf⟩ := two_cells HV.out hi
  clear hV hbx
  go_quiet (fail)
  obtain ⟨V2, hV2⟩ : ∃ V2, V2 = V.drewN nq := ⟨_, rfl⟩
  rw [← hV2]
  have H2 := Lib.hid (HV.out.still (show Still V V2 from by rw [hV2]; exact (Turned.refl _ _).drewN _))
  have HW2 := Lib.hid (HWV.out.trans (show Still V V2 from by rw [hV2]; exact (Turned.refl _ _).drewN _))
  clear b0 b1 b2 b3 t0 t1 tx ty t6 tf hV2 HV HWV
  obtain ⟨b0, b1, b2, b3, t0, t1, tx, ty, t6, tf⟩ := two_cells H2.out hi
  have H2d := Lib.hid (H2.out.still (Turned.refl _ V2).drew)
  have X1 := Lib.hid (H2d.out.sysCall (fun _ h => A.pub h HI.out.inv HI.out.ok HI.out.mi (by omega) (by omega) nn hnn))
  have Y1 := Lib.hid (fun W (h : Held w W (sysT (PT q P) (XT xi q (Mi.pubM nn)) (zT zq P) (zxT yi zq ri Mi) (XT xj q Mj) (zxT yj zq rj Mj) (twoB t q zq i xi xj yi yj ao n cc had bx (wh, dd, nn, ⟨ba, bl, bc, bs⟩)))) => h.sysCallZ (fun W h' => ((Sit.start h').callLast (fun _ h'' => zrpub_any h'' HI.out.mi (by omega) nn)).mono fun e w' ⟨he, hs⟩ => ⟨he, hs.goes⟩))
  have HPost := Lib.hid (fun W (h : Held w W (sysT (PT q P) (XT xi q (Mi.pubM nn)) (zT zq P) (zxT yi zq ri (Mi.pubM nn)) (XT xj q Mj) (zxT yj zq rj Mj) (twoB t q zq i xi xj yi yj ao n cc had bx (wh, dd, nn, ⟨ba, bl, bc, bs⟩)))) => show ∃ (P' : PM) (Mi' : RM) (had' : List Int) (ao' : Option Addr) (n' cc' : Nat), Two PT XT w W t q zq i xi xj yi yj ri rj P' Mi' Mj had' ao' n' cc' (N + 66) (K + 1) ∧ SameSz P P' ∧ n' ≤ n + 1 ∧ Mi'.n = Mi.n from
    ⟨P, (Mi.pubM nn), had, ao, n, cc, ⟨h.sysPop, HI.out.len, inv_pub HI.out.inv nn, HI.out.ok.mono (by omega), (HI.out.mi.pub nn).mono (by omega), HI.out.mj.mono (by omega)⟩, SameSz.refl P, by omega, (n_pub Mi nn).1⟩)
  have k2 := (two_cells H2d.out hi).2.2.1
  have k1 := (two_y H2d.out).2
  generalize Mi.pubE nn = pe at *
  generalize Mi.pubM nn = M1 at *
  clear HOk
  rcases hvs with rfl | rfl
  all_goals (
    go_wp2_with (go_at_call 7; ((with_reducible refine (B2.out _).mono ?_)); rintro e w' ⟨rfl, hw⟩; rw [← hw]; clear hw)
    go_region_held3 (fun Z => Z.cell? ⟨bx, 2, none⟩ = some (.int .i64 nn) ∧ Z.cell? ⟨yi, 1, none⟩ = some (.pointer (some ⟨ri, 0, none⟩))) (first | exact ⟨by assumption, by assumption⟩ | go_keep) (first
      | (go_at_call 29; ((with_reducible refine X1.out.mono ?_)); rintro e w5 ⟨rfl, hs⟩; have H5 := Lib.hid hs; have m2 := (two_cells hs hi).2.2.1; have m1 := (two_y hs).2; clear hs)
      | (go_at_call 30; ((with_reducible refine (Y1.out _ H5.out).mono ?_)); rintro e w6 ⟨rfl, hs⟩; have H6 := Lib.hid hs; have p2 := (two_cells hs hi).2.2.1; have p1 := (two_y hs).2; clear hs))
    go_wp2_with fail
    go_ret
    exact ⟨by first | rfl | simp, HPost.out _ H6.out⟩)

set_option maxHeartbeats 4000000 in
theorem act_fill {PT : Nat → PM → Thing} {XT : Nat → Nat → RM → Thing} (A : PartActs PT XT) (B : PoolActs PT) {w wr : World} {t q zq i xi xj yi yj ri rj : Nat} {P : PM} {Mi Mj : RM} {had : List Int} {ao : Option Addr} {n cc N K : Nat} (H : Two PT XT w wr t q zq i xi xj yi yj ri rj P Mi Mj had ao n cc N K) (hN : N < 800000) (hK : K < 800000) (hn : n ≤ 1000) (hi : i < 2) (a : Act12) (hai : am a.1 2 = i) (hok : okAct12 w a) {v : Nat} (hv : am a.2.1 11 = v) (hvs : v = 4) : Calls Tryz.prog 8 #[.pointer (some ⟨t, 0, none⟩), a.val] wr (ActPost PT XT w t q zq i xi xj yi yj ri rj P Mi Mj n N K) := by
  obtain ⟨wh, dd, nn, ⟨ba, bl, bc, bs⟩⟩ := a
  dsimp only at hai hv
  have hnn : w64 nn := by have := i64w_of hok.2.2.1; exact ⟨this.1, this.2⟩
  have B1 := Lib.hid (fun W => among_lit wh 2 2 i rfl hai.symm (by omega) (by omega) W)
  have B2 := Lib.hid (fun W => among_lit dd 11 11 v rfl hv.symm (by omega) (by omega) W)
  have HI := Lib.hid H
  have HOk := Lib.hid hok
  obtain ⟨V, hV⟩ : ∃ V, V = wr.alloc (.cells #[.int .i64 wh, .int .i64 dd, .int .i64 nn, .slice ba bl bc] 38) := ⟨_, rfl⟩
  obtain ⟨bx, hbx⟩ : ∃ bx, bx = wr.heap.size := ⟨_, rfl⟩
  have HV := Lib.hid (show Held w V (sysT (PT q P) (XT xi q Mi) (zT zq P) (zxT yi zq ri Mi) (XT xj q Mj) (zxT yj zq rj Mj) (twoB t q zq i xi xj yi yj ao n cc had bx (wh, dd, nn, ⟨ba, bl, bc, bs⟩))) from by rw [hV, hbx]; exact H.held.sysBox (encAct12 (wh, dd, nn, ⟨ba, bl, bc, bs⟩)) 38)
  have HWV := Lib.hid (show Still wr V from by rw [hV]; exact (Turned.refl _ _).alloc _)
  have hi2 : (i : Int) < 2 := by omega
  have hb := hok.2.2.2
  have hbcap : bl ≤ bc := hb.le
  have hbmax : bc ≤ maxLen := hb.max
  unfold maxLen at hbmax
  have hbl : bs.length = bl := hb.len
  have hbn := hb.none
  have hbr := (BytesAt.of_row hb.row).take 300
  obtain ⟨fs, hfs⟩ : ∃ fs, fs = bs.take 300 := ⟨_, rfl⟩
  obtain ⟨m, hm⟩ : ∃ m, m = fs.length := ⟨_, rfl⟩
  have hmb : (m = bl ∧ bl ≤ 300) ∨ (m = 300 ∧ 300 < bl) := by rw [hm, hfs, List.length_take, hbl]; omega
  have hm2 : m ≤ 300 := by omega
  dsimp only at hbr hbn
  rw [← hfs] at hbr
  have HBA := Lib.hid (show ∀ W, Still w W → BytesAt W ba fs from fun W hT => hbr.still hT)
  have HBN := Lib.hid (show ba = none → bc = 0 from fun e => (hbn e).2)
  have HML := Lib.hid hm
  have hif : (if (300 : Int) < (bl : Int) then (300 : Int) else (bl : Int)) = (m : Int) := by
    rcases hmb with ⟨e1, e2⟩ | ⟨e1, e2⟩
    · rw [if_neg (by omega), e1]
    · rw [if_pos (by omega), e1]; rfl
  have hx1 : (m : Int) ≤ (bc : Int) := by omega
  have hx0 : (0 : Int) ≤ (m : Int) := by omega
  clear hb hbn hbr hfs hm hmb hbl
  clear H hok hai hv
  unfold Act12.val
  dsimp only
  go_enter Tryz.func8, Tryz.ntmps8
  go_upto_region 2 with (go_at_call 7; ((with_reducible refine (B1.out _).mono ?_)); rintro e w' ⟨rfl, hw⟩; rw [← hw]; clear hw)
  rw [← hV, ← hbx]
  obtain ⟨b0, b1, b2, b3, t0, t1, tx, ty, t6, tf⟩ := two_cells HV.out hi
  clear hV hbx
  go_quiet (fail)
  obtain ⟨V2, hV2⟩ : ∃ V2, V2 = V.drewN nq := ⟨_, rfl⟩
  rw [← hV2]
  have H2 := Lib.hid (HV.out.still (show Still V V2 from by rw [hV2]; exact (Turned.refl _ _).drewN _))
  have HW2 := Lib.hid (HWV.out.trans (show Still V V2 from by rw [hV2]; exact (Turned.refl _ _).drewN _))
  clear b0 b1 b2 b3 t0 t1 tx ty t6 tf hV2 HV HWV
  obtain ⟨b0, b1, b2, b3, t0, t1, tx, ty, t6, tf⟩ := two_cells H2.out hi
  have H2d := Lib.hid (H2.out.still (Turned.refl _ V2).drew)
  have BC := Lib.hid (bytes_any V2.drew ba fs bc (HBA.out _ H2d.out.ground) (by rw [← HML.out]; omega) HBN.out)
  unfold BytesPost at BC
  rw [← HML.out] at BC
  have XF := Lib.hid (fun W oa oc (h : Held w W (sysT (PT q P) (XT xi q Mi) (zT zq P) (zxT yi zq ri Mi) (XT xj q Mj) (zxT yj zq rj Mj) ((twoB t q zq i xi xj yi yj ao n cc had bx (wh, dd, nn, ⟨ba, bl, bc, bs⟩)).sep (ownT 5 1 oa m oc (byt fs))))) => h.sysCall (fun _ h' => by
    have ho := h.rest.own
    obtain ⟨q1, q2, q3⟩ := ow_le ho
    exact A.fill h' HI.out.inv HI.out.ok HI.out.mi (by omega) (by omega) nn hnn oa fs m oc HML.out (by have := ho; rw [HML.out] at this; exact BytesAt.of_own this) (by rw [← HML.out]; omega) q1 q2 (fun e => (q3 e).2)))
  have YF := Lib.hid (fun W (h : Held w W (sysT (PT q (ptFiP P Mi nn fs)) (XT xi q Mi) (zT zq P) (zxT yi zq ri Mi) (XT xj q Mj) (zxT yj zq rj Mj) (twoB t q zq i xi xj yi yj ao n cc had bx (wh, dd, nn, ⟨ba, bl, bc, bs⟩)))) => h.sysCallZ (fun _ h' => zxfill_any h' HI.out.ok HI.out.mi (by omega) nn hnn ba fs m bc HML.out (HBA.out W h.ground) (by rw [← HML.out]; omega) HBN.out))
  have HPost := Lib.hid (fun W (h : Held w W (sysT (PT q (ptFiP P Mi nn fs)) (XT xi q Mi) (zT zq (ptFiP P Mi nn fs)) (zxT yi zq ri Mi) (XT xj q Mj) (zxT yj zq rj Mj) (twoB t q zq i xi xj yi yj ao n cc had bx (wh, dd, nn, ⟨ba, bl, bc, bs⟩)))) => show ∃ (P' : PM) (Mi' : RM) (had' : List Int) (ao' : Option Addr) (n' cc' : Nat), Two PT XT w W t q zq i xi xj yi yj ri rj P' Mi' Mj had' ao' n' cc' (N + 66) (K + 1) ∧ SameSz P P' ∧ n' ≤ n + 1 ∧ Mi'.n = Mi.n from
    ⟨(ptFiP P Mi nn fs), Mi, had, ao, n, cc, ⟨h.sysPop, HI.out.len, inv_fill HI.out.inv nn fs, (ok_fill HI.out.ok nn fs).mono (by omega), HI.out.mi.mono (by omega), HI.out.mj.mono (by omega)⟩, sz_ptfill P Mi nn fs, by omega, rfl⟩)
  have k2 := (two_cells H2d.out hi).2.2.1
  have hfr : fs.length ≤ 300 := by rw [← HML.out]; exact hm2
  generalize ptFiE P Mi nn fs = fe at *
  generalize ptFiP P Mi nn fs = P1 at *
  clear HOk
  subst hvs
  go_wp2_with (go_at_call 7; ((with_reducible refine (B2.out _).mono ?_)); rintro e w' ⟨rfl, hw⟩; rw [← hw]; clear hw)
  go_region_held3 (fun Z => Z.cell? ⟨bx, 2, none⟩ = some (.int .i64 nn)) (first | assumption | go_keep) (first
    | (go_at_call 27; ((with_reducible refine BC.out.mono ?_)); rintro e w5 ⟨oa, oc, rfl, hown, hst⟩; have H5 := Lib.hid ((H2d.out.got hown hst).imp sys_push); have k5 := (two_cells H5.out.sysPop hi).2.2.1; clear hown hst)
    | (go_at_call 26; ((with_reducible refine (XF.out _ _ _ H5.out).mono ?_)); rintro e w6 ⟨rfl, hs⟩; have H6 := Lib.hid hs.sysPop; have k6 := (two_cells H6.out hi).2.2.1; clear hs)
    | (go_at_call 28; ((with_reducible refine (YF.out _ H6.out).mono ?_)); rintro e w7 ⟨rfl, hs⟩; have H7 := Lib.hid hs; have k7 := (two_cells hs hi).2.2.1; clear hs))
  go_wp2_with fail
  go_ret
  exact ⟨by first | rfl | simp, HPost.out _ H7.out⟩
end Go.Proofs.YtbljjmehjkmjaaaGreat
