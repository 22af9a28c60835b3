/- What one step of a session does with the machine's memory: just what the plain machine's step tells. No condition but that the session goes on. -/
import Derived.Test.YtdbmieofcdafkaaSched
import Derived.BigRegion
import Derived.StillTailTactics
import Derived.Deep.RegionHeld3
namespace Go.Proofs.Ytdbmieofcdafkaa
open Go.RowKit
set_option linter.unusedVariables false
set_option maxRecDepth 100000

theorem sesHd_setR (a : Option Addr) (c : Nat) (s : Sess) (j : Nat) (v : Int) : (sesHd a c s).set (2 + j) (.int .i64 v) = sesHd a c { s with r := s.r.set j v } := by
  unfold sesHd
  rw [show 2 + j = j + 1 + 1 by omega, List.set_cons_succ, List.set_cons_succ, ints_set]
theorem sesHd_setP (a : Option Addr) (c : Nat) (s : Sess) (q : Nat) (v : Int) (h : v = q) : (sesHd a c s).set 1 (.int .i64 v) = sesHd a c { s with pc := q } := by
  subst h; rfl
theorem sesHd_reg {a : Option Addr} {c : Nat} {s : Sess} (hr : s.r.length = 4) {j : Nat} (hj : j < 4) : (sesHd a c s)[2 + j]? = some (.int .i64 (regAt s.r j)) := by
  unfold sesHd regAt
  rw [show 2 + j = j + 1 + 1 by omega, List.getElem?_cons_succ, List.getElem?_cons_succ, Int.toNat_natCast]
  obtain ⟨v, hv⟩ := get_some (l := s.r) (i := j) (by omega)
  rw [ints_get hv, hv]; rfl

structure DoAt (w0 W : World) (bx hb mb ab p : Nat) (a : Option Addr) (c : Nat) (st : List Cel) (s : Sess) (i : Ins) : Prop where
  hd : W.cell? ⟨hb, 0, none⟩ = some (.pointer (some ⟨mb, 0, none⟩))
  m : Mem W mb ab st
  pp : Blk W p (sesHd a c s) 73
  x : Blk W bx (insEnc i) 70
  t : Turned (fun b => b = ab ∨ b = p) w0 W
  n1 : hb ≠ p
  n2 : p ≠ ab
  n3 : hb ≠ ab
  n4 : mb ≠ p
  n5 : bx ≠ p
  n6 : bx ≠ ab

def DoPost (w0 : World) (mb ab p : Nat) (a : Option Addr) (c : Nat) (y : List Cel × Sess) (e : Ending) (w' : World) : Prop :=
  e = .returned (.tuple #[]) ∧ Mem w' mb ab y.1 ∧ Blk w' p (sesHd a c y.2) 73 ∧ Turned (fun b => b = ab ∨ b = p) w0 w'

theorem DoAt.reg {w0 W : World} {bx hb mb ab p : Nat} {a : Option Addr} {c : Nat} {st : List Cel} {s : Sess} {i : Ins} (D : DoAt w0 W bx hb mb ab p a c st s i) (hr : s.r.length = 4) {j : Nat} (hj : j < 4) :
    W.cell? ⟨p, 2 + j, none⟩ = some (.int .i64 (regAt s.r j)) := D.pp.cell (sesHd_reg hr hj)

theorem stepI_1 {who : Int} {st : List Cel} {s : Sess} {i : Ins} (h : i.op = 1) : stepI who st s i = (st, { s with r := s.r.set i.a.toNat i.b, pc := s.pc + 1 }) := by
  unfold stepI; rw [if_pos h]
theorem stepI_2 {who : Int} {st : List Cel} {s : Sess} {i : Ins} (h : i.op = 2) : stepI who st s i = (st, { s with r := s.r.set i.a.toNat (celAt st i.cell).n, pc := s.pc + 1 }) := by
  unfold stepI; rw [if_neg (by omega), if_pos h]
theorem stepI_3 {who : Int} {st : List Cel} {s : Sess} {i : Ins} (h : i.op = 3) : stepI who st s i = (st.set i.cell.toNat ((celAt st i.cell).put (regAt s.r i.a)), { s with pc := s.pc + 1 }) := by
  unfold stepI; rw [if_neg (by omega), if_neg (by omega), if_pos h]
theorem stepI_4 {who : Int} {st : List Cel} {s : Sess} {i : Ins} (h : i.op = 4) : stepI who st s i =
    if (celAt st i.cell).n = regAt s.r i.b then (st.set i.cell.toNat ((celAt st i.cell).put (regAt s.r i.a)), { s with r := s.r.set i.b.toNat 1, pc := s.pc + 1 })
    else (st, { s with r := s.r.set i.b.toNat 0, pc := s.pc + 1 }) := by
  unfold stepI; rw [if_neg (by omega), if_neg (by omega), if_neg (by omega), if_pos h]
theorem stepI_5 {who : Int} {st : List Cel} {s : Sess} {i : Ins} (h : i.op = 5) : stepI who st s i =
    (st.set i.cell.toNat ((celAt st i.cell).put (wrap64 ((celAt st i.cell).n + i.b))), { s with r := s.r.set i.a.toNat (celAt st i.cell).n, pc := s.pc + 1 }) := by
  unfold stepI; rw [if_neg (by omega), if_neg (by omega), if_neg (by omega), if_neg (by omega), if_pos h]
theorem stepI_6 {who : Int} {st : List Cel} {s : Sess} {i : Ins} (h : i.op = 6) : stepI who st s i = (st, { s with r := s.r.set i.a.toNat (wrap64 (regAt s.r i.a + i.b)), pc := s.pc + 1 }) := by
  unfold stepI; rw [if_neg (by omega), if_neg (by omega), if_neg (by omega), if_neg (by omega), if_neg (by omega), if_pos h]
theorem stepI_7 {who : Int} {st : List Cel} {s : Sess} {i : Ins} (h : i.op = 7) : stepI who st s i = (st, { s with pc := if regAt s.r i.a = 0 then i.b.toNat else s.pc + 1 }) := by
  unfold stepI; rw [if_neg (by omega), if_neg (by omega), if_neg (by omega), if_neg (by omega), if_neg (by omega), if_neg (by omega), if_pos h]
theorem stepI_8 {who : Int} {st : List Cel} {s : Sess} {i : Ins} (h : i.op = 8) : stepI who st s i = (st, { s with pc := i.b.toNat }) := by
  unfold stepI; rw [if_neg (by omega), if_neg (by omega), if_neg (by omega), if_neg (by omega), if_neg (by omega), if_neg (by omega), if_neg (by omega), if_pos h]
theorem stepI_9 {who : Int} {st : List Cel} {s : Sess} {i : Ins} (h : i.op = 9) : stepI who st s i =
    if (celAt st i.cell).h = -1 then (st.set i.cell.toNat { celAt st i.cell with h := who }, { s with pc := s.pc + 1 }) else (st, s) := by
  unfold stepI; rw [if_neg (by omega), if_neg (by omega), if_neg (by omega), if_neg (by omega), if_neg (by omega), if_neg (by omega), if_neg (by omega), if_neg (by omega), if_pos h]
theorem stepI_10 {who : Int} {st : List Cel} {s : Sess} {i : Ins} (h : i.op = 10) : stepI who st s i =
    if (celAt st i.cell).h = who then (st.set i.cell.toNat { celAt st i.cell with h := -1 }, { s with pc := s.pc + 1 }) else (st, { s with pc := s.pc + 1 }) := by
  unfold stepI; rw [if_neg (by omega), if_neg (by omega), if_neg (by omega), if_neg (by omega), if_neg (by omega), if_neg (by omega), if_neg (by omega), if_neg (by omega), if_neg (by omega)]

/-- The worlds agree in all but how often was drawn. -/
structure Same (X Y : World) : Prop where
  h : Y.heap = X.heap
  o : Y.os = X.os
  t : Y.tape = X.tape
  u : Y.output = X.output
theorem Blk.same {X Y : World} {b : Nat} {xs : List Value} {e : TypeId} (h : Blk X b xs e) (hs : Same X Y) : Blk Y b xs e := h.of_eq (by rw [hs.h])
theorem Turned.same {S : Nat → Prop} {w X Y : World} (h : Turned S w X) (hs : Same X Y) : Turned S w Y :=
  ⟨hs.o.trans h.os, hs.t.trans h.tape, hs.u.trans h.output, by rw [hs.h]; exact h.size, by rw [hs.h]; exact h.block⟩
theorem Mem.same {X Y : World} {mb ab : Nat} {st : List Cel} (h : Mem X mb ab st) (hs : Same X Y) : Mem Y mb ab st := ⟨h.hd.same hs, h.row.same hs, h.ne, h.pos, h.le⟩
theorem DoPost.same {w0 : World} {mb ab p : Nat} {a : Option Addr} {c : Nat} {y : List Cel × Sess} {X Y : World} {e : Ending} (h : DoPost w0 mb ab p a c y e X) (hs : Same X Y) : DoPost w0 mb ab p a c y e Y :=
  ⟨h.1, h.2.1.same hs, h.2.2.1.same hs, h.2.2.2.same hs⟩

section
variable {w0 W W2 : World} {bx hb mb ab p : Nat} {a : Option Addr} {c : Nat} {st st' : List Cel} {s : Sess} {i : Ins}

theorem DoAt.call (D : DoAt w0 W bx hb mb ab p a c st s i) (hM : Mem W2 mb ab st') (hT : Turned (· = ab) W W2) : DoAt w0 W2 bx hb mb ab p a c st' s i :=
  ⟨by rw [hT.cell (p := ⟨hb, 0, none⟩) (cell_lt D.hd) D.n3]; exact D.hd, hM, D.pp.turned hT D.n2, D.x.turned hT D.n6, D.t.trans (hT.mono (fun _ _ h => .inl h)), D.n1, D.n2, D.n3, D.n4, D.n5, D.n6⟩

theorem DoAt.drew (D : DoAt w0 W bx hb mb ab p a c st s i) : DoAt w0 W.drew bx hb mb ab p a c st s i :=
  ⟨D.hd, D.m.drew, D.pp.drew, D.x.drew, D.t.drew, D.n1, D.n2, D.n3, D.n4, D.n5, D.n6⟩
theorem DoAt.drewN (D : DoAt w0 W bx hb mb ab p a c st s i) (n : Nat) : DoAt w0 (W.drewN n) bx hb mb ab p a c st s i :=
  ⟨D.hd, D.m.drewN n, D.pp.drewN n, D.x.drewN n, D.t.drewN n, D.n1, D.n2, D.n3, D.n4, D.n5, D.n6⟩

/-- What a region that draws its order reads. -/
def Reads (hb mb bx : Nat) (i : Ins) (V : World) : Prop :=
  V.cell? ⟨hb, 0, none⟩ = some (.pointer (some ⟨mb, 0, none⟩)) ∧ V.cell? ⟨bx, 1, none⟩ = some (.int .i64 i.cell) ∧ V.cell? ⟨bx, 2, none⟩ = some (.int .i64 i.a) ∧ V.cell? ⟨bx, 3, none⟩ = some (.int .i64 i.b)
theorem DoAt.reads (D : DoAt w0 W bx hb mb ab p a c st s i) : Reads hb mb bx i W := ⟨D.hd, D.x.cell (o := 1) rfl, D.x.cell (o := 2) rfl, D.x.cell (o := 3) rfl⟩
theorem DoAt.keep (D : DoAt w0 W bx hb mb ab p a c st s i) (o : Nat) (v : Value) : Reads hb mb bx i (W.setCell ⟨p, o, none⟩ v) := by
  have hT := (Turned.refl (· = p) W).setCell (p := ⟨p, o, none⟩) (.inl rfl) v
  obtain ⟨h0, h1, h2, h3⟩ := D.reads
  exact ⟨(hT.cell (p := ⟨hb, 0, none⟩) (cell_lt h0) D.n1).trans h0, (hT.cell (p := ⟨bx, 1, none⟩) (cell_lt h1) D.n5).trans h1, (hT.cell (p := ⟨bx, 2, none⟩) (cell_lt h2) D.n5).trans h2, (hT.cell (p := ⟨bx, 3, none⟩) (cell_lt h3) D.n5).trans h3⟩
theorem DoAt.keepD (D : DoAt w0 W bx hb mb ab p a c st s i) (o : Nat) (v : Value) : Reads hb mb bx i (W.setCell ⟨p, o, none⟩ v).drew := D.keep o v

theorem fin_pc (D : DoAt w0 W bx hb mb ab p a c st s i) (q : Nat) : DoPost w0 mb ab p a c (st, { s with pc := q }) (.returned (.tuple #[])) (W.setCell ⟨p, 1, none⟩ (.int .i64 (q : Int))) := by
  refine ⟨rfl, D.m.turned (S := (· = p)) ((Turned.refl (· = p) W).setCell (p := ⟨p, 1, none⟩) (.inl rfl) _) D.n4 (fun e => D.n2 e.symm), ?_, D.t.setCell (.inl (.inr rfl)) _⟩
  have := D.pp.set 1 (.int .i64 (q : Int))
  rwa [sesHd_setP _ _ _ q _ rfl] at this

theorem fin_reg (D : DoAt w0 W bx hb mb ab p a c st s i) (j : Nat) (v : Int) (q : Nat) :
    DoPost w0 mb ab p a c (st, { s with r := s.r.set j v, pc := q }) (.returned (.tuple #[])) ((W.setCell ⟨p, 2 + j, none⟩ (.int .i64 v)).setCell ⟨p, 1, none⟩ (.int .i64 (q : Int))) := by
  have D' : DoAt w0 (W.setCell ⟨p, 2 + j, none⟩ (.int .i64 v)) bx hb mb ab p a c st { s with r := s.r.set j v } i :=
    ⟨by rw [((Turned.refl (· = p) W).setCell (p := ⟨p, 2 + j, none⟩) (.inl rfl) (.int .i64 v)).cell (p := ⟨hb, 0, none⟩) (cell_lt D.hd) D.n1]; exact D.hd,
      D.m.turned (S := (· = p)) ((Turned.refl (· = p) W).setCell (p := ⟨p, 2 + j, none⟩) (.inl rfl) _) D.n4 (fun e => D.n2 e.symm), by rw [← sesHd_setR]; exact D.pp.set _ _, D.x.other (p := ⟨p, 2 + j, none⟩) (fun e => D.n5 e.symm) _,
      D.t.setCell (.inl (.inr rfl)) _, D.n1, D.n2, D.n3, D.n4, D.n5, D.n6⟩
  exact fin_pc D' q
end

theorem celAt_get {st : List Cel} {j : Nat} (h : j < st.length) : st[j]? = some (celAt st (j : Int)) := by
  unfold celAt
  rw [Int.toNat_natCast]
  obtain ⟨d, hd⟩ := get_some h
  rw [hd]; rfl

theorem mswap_yes {w : World} {mb ab hb : Nat} {st : List Cel} (H : Mem w mb ab st) (hM : w.cell? ⟨hb, 0, none⟩ = some (.pointer (some ⟨mb, 0, none⟩))) {q : Nat} {c : Cel} (hq : st[q]? = some c) (v : Int) :
    Calls Try.prog 67 #[.pointer (some ⟨hb, 0, none⟩), .int .i64 q, .int .i64 c.n, .int .i64 v] w fun e w' => e = .returned (.int .i64 1) ∧ Mem w' mb ab (st.set q (c.put v)) ∧ Turned (· = ab) w w' := by
  have HS := Lib.hid (swap_yes H hq v)
  clear H hq
  go_enter Try.func67, Try.ntmps67
  go_wp2_with fail
  refine HS.out.mono ?_
  rintro e w' ⟨rfl, hM, hT⟩
  go_wp2_with fail
  go_ret
  exact ⟨rfl, hM, hT⟩

theorem mswap_no {w : World} {mb ab hb : Nat} {st : List Cel} (H : Mem w mb ab st) (hM : w.cell? ⟨hb, 0, none⟩ = some (.pointer (some ⟨mb, 0, none⟩))) {q : Nat} {c : Cel} (hq : st[q]? = some c) {was : Int} (hw : c.n ≠ was) (v : Int) :
    Calls Try.prog 67 #[.pointer (some ⟨hb, 0, none⟩), .int .i64 q, .int .i64 was, .int .i64 v] w fun e w' => e = .returned (.int .i64 0) ∧ w = w' := by
  have HS := Lib.hid (swap_no H hq hw v)
  clear H hq hw
  go_enter Try.func67, Try.ntmps67
  go_wp2_with fail
  refine HS.out.mono ?_
  rintro e w' ⟨rfl, rfl⟩
  go_wp2_with fail
  go_ret
  exact ⟨rfl, rfl⟩

/-- Two registers and what a region reads. -/
def Reads2 (hb mb bx p : Nat) (i : Ins) (j t : Nat) (vj vt : Int) (V : World) : Prop :=
  V.cell? ⟨hb, 0, none⟩ = some (.pointer (some ⟨mb, 0, none⟩)) ∧ V.cell? ⟨bx, 1, none⟩ = some (.int .i64 i.cell) ∧ V.cell? ⟨bx, 2, none⟩ = some (.int .i64 i.a) ∧ V.cell? ⟨bx, 3, none⟩ = some (.int .i64 i.b) ∧ V.cell? ⟨p, 2 + j, none⟩ = some (.int .i64 vj) ∧ V.cell? ⟨p, 2 + t, none⟩ = some (.int .i64 vt)

set_option maxHeartbeats 8000000 in
set_option linter.unusedSimpArgs false in
theorem do_any (w : World) (hb mb ab sb n cap k p pb po c : Nat) (st : List Cel) (s : Sess) (i : Ins)
    (hS : w.cell? ⟨hb, 1, none⟩ = some (.slice (some ⟨sb, 0, none⟩) n cap)) (hk : k < n) (hk16 : k < 16)
    (hsl : w.cell? ⟨sb, k, none⟩ = some (.pointer (some ⟨p, 0, none⟩)))
    (hM : w.cell? ⟨hb, 0, none⟩ = some (.pointer (some ⟨mb, 0, none⟩)))
    (hP : Blk w p (sesHd (some ⟨pb, po, none⟩) c s) 73) (HM : Mem w mb ab st)
    (hpc : s.pc < s.p.length) (hlen : s.p.length ≤ 64) (hr : s.r.length = 4)
    (hi : ∀ j v, (insEnc i)[j]? = some v → w.cell? ⟨pb, po + (s.pc * 4 + j), none⟩ = some v)
    (n1 : hb ≠ p) (n2 : p ≠ ab) (n3 : hb ≠ ab) (n4 : mb ≠ p) (hR : rightB i st.length s.p.length = true) :
    Calls Try.prog 42 #[.pointer (some ⟨hb, 0, none⟩), .int .i64 k] w (DoPost w mb ab p (some ⟨pb, po, none⟩) c (stepI k st s i)) := by
  have hi0 : w.cell? ⟨pb, po + s.pc * 4, none⟩ = some (.int .i64 i.op) := hi 0 _ rfl
  have hi1 : w.cell? ⟨pb, po + s.pc * 4 + 1, none⟩ = some (.int .i64 i.cell) := hi 1 _ rfl
  have hi2 : w.cell? ⟨pb, po + s.pc * 4 + 2, none⟩ = some (.int .i64 i.a) := hi 2 _ rfl
  have hi3 : w.cell? ⟨pb, po + s.pc * 4 + 3, none⟩ = some (.int .i64 i.b) := hi 3 _ rfl
  have hp0 : w.cell? ⟨p, 0, none⟩ = some (.slice (some ⟨pb, po, none⟩) s.p.length c) := hP.cell rfl
  have hp1 : w.cell? ⟨p, 1, none⟩ = some (.int .i64 s.pc) := hP.cell rfl
  have l1 : hb < w.heap.size := cell_lt hM
  have l2 : p < w.heap.size := cell_lt hp1
  have l3 : pb < w.heap.size := cell_lt hi0
  have l4 : sb < w.heap.size := cell_lt hsl
  have l5 := HM.row.lt
  have HD := Lib.hid (show DoAt w (w.alloc (.cells #[.int .i64 i.op, .int .i64 i.cell, .int .i64 i.a, .int .i64 i.b] 70)).drew w.heap.size hb mb ab p (some ⟨pb, po, none⟩) c st s i from
    ⟨by rw [show (w.alloc (.cells #[.int .i64 i.op, .int .i64 i.cell, .int .i64 i.a, .int .i64 i.b] 70)).drew.cell? ⟨hb, 0, none⟩ = w.cell? ⟨hb, 0, none⟩ from ((Turned.refl (fun _ => False) w).alloc _).drew.cell (p := ⟨hb, 0, none⟩) l1 (fun h => h)]; exact hM,
      HM.turned ((Turned.refl (fun _ => False) w).alloc _).drew (fun h => h) (fun h => h), (hP.alloc _).drew, (Blk.new w (insEnc i) _).drew, ((Turned.refl _ w).alloc _).drew, n1, n2, n3, n4, by omega, by omega⟩)
  have hR' := hR
  clear HM hP hi
  obtain ⟨op, ce, ra, rb⟩ := i
  have hop := rightB_op hR
  dsimp only at *
  have HR := Lib.hid hR
  have HPC : Hid (((s.pc : Int) + 1) = ((s.pc + 1 : Nat) : Int)) := Lib.hid rfl
  clear hR hR'
  go_enter Try.func42, Try.ntmps42
  go_wp2_with fail
  go_region
  have hfp : (w.alloc (.cells #[.int .i64 op, .int .i64 ce, .int .i64 ra, .int .i64 rb] 70)).drew.frozen? ⟨p, 1, none⟩ = false := HD.out.pp.free 1
  generalize (w.alloc (.cells #[.int .i64 op, .int .i64 ce, .int .i64 ra, .int .i64 rb] 70)).drew = W at *
  generalize hbx : w.heap.size = bx at *
  clear hS hsl hM hi0 hi1 hi2 hi3 hp0 hp1 hbx
  have c1 := HD.out.hd
  have x0 := HD.out.x.cell (o := 0) (v := .int .i64 op) rfl
  have x1 := HD.out.x.cell (o := 1) (v := .int .i64 ce) rfl
  have x2 := HD.out.x.cell (o := 2) (v := .int .i64 ra) rfl
  have x3 := HD.out.x.cell (o := 3) (v := .int .i64 rb) rfl
  have hpq := HD.out.pp.cell (o := 1) (v := .int .i64 s.pc) rfl
  have n5 := HD.out.n5
  have n6 := HD.out.n6
  rcases (show op = 1 ∨ op = 2 ∨ op = 3 ∨ op = 4 ∨ op = 5 ∨ op = 6 ∨ op = 7 ∨ op = 8 ∨ op = 9 ∨ op = 10 by omega) with rfl | rfl | rfl | rfl | rfl | rfl | rfl | rfl | rfl | rfl
  · as_aux_lemma =>
    have ha := rightB_a HR.out (by dsimp only; omega)
    dsimp only at ha
    obtain ⟨j, rfl⟩ : ∃ j : Nat, ra = j := ⟨ra.toNat, by omega⟩
    have hj : j < 4 := by omega
    have hji : (j : Int) < 4 := by omega
    have hreg := HD.out.reg hr hj
    have hf := HD.out.pp.free (2 + j)
    clear ha
    go_wp2_with fail
    go_region
    go_wp2_with fail
    go_end0
    rw [stepI_1 rfl]
    exact (fin_reg HD.out j rb (s.pc + 1)).same ⟨rfl, rfl, rfl, rfl⟩
  · as_aux_lemma =>
    have ha := rightB_a HR.out (by dsimp only; omega)
    dsimp only at ha
    obtain ⟨j, rfl⟩ : ∃ j : Nat, ra = j := ⟨ra.toNat, by omega⟩
    have hj : j < 4 := by omega
    have hji : (j : Int) < 4 := by omega
    have hreg := HD.out.reg hr hj
    have hf := HD.out.pp.free (2 + j)
    clear ha
    have hce := rightB_cell HR.out (by dsimp only; omega)
    dsimp only at hce
    obtain ⟨q, rfl⟩ : ∃ q : Nat, ce = q := ⟨ce.toNat, by omega⟩
    have hq := celAt_get (st := st) (j := q) (by omega)
    clear hce
    have HQ := Lib.hid hq
    have D1 := HD.out.drew
    clear hq
    go_wp2_with fail
    go_region_held3 (fun V => V.cell? ⟨hb, 0, none⟩ = some (.pointer (some ⟨mb, 0, none⟩)) ∧ V.cell? ⟨bx, 1, none⟩ = some (.int .i64 q) ∧ V.cell? ⟨bx, 2, none⟩ = some (.int .i64 j) ∧ V.cell? ⟨bx, 3, none⟩ = some (.int .i64 rb)) (first | exact DoAt.reads (by assumption) | exact DoAt.keep (by assumption) _ _ | exact DoAt.keepD (by assumption) _ _ | go_keep) (first | (go_at_call 65; refine (load_ok (DoAt.m (by assumption)) HQ.out).mono ?_; rintro e w5 ⟨rfl, rfl⟩))
    go_wp2_with fail
    go_end0
    rw [stepI_2 rfl]
    exact (fin_reg HD.out j _ (s.pc + 1)).same ⟨rfl, rfl, rfl, rfl⟩
  · as_aux_lemma =>
    have ha := rightB_a HR.out (by dsimp only; omega)
    dsimp only at ha
    obtain ⟨j, rfl⟩ : ∃ j : Nat, ra = j := ⟨ra.toNat, by omega⟩
    have hj : j < 4 := by omega
    have hji : (j : Int) < 4 := by omega
    have hreg := HD.out.reg hr hj
    have hf := HD.out.pp.free (2 + j)
    clear ha
    have hce := rightB_cell HR.out (by dsimp only; omega)
    dsimp only at hce
    obtain ⟨q, rfl⟩ : ∃ q : Nat, ce = q := ⟨ce.toNat, by omega⟩
    have hq := celAt_get (st := st) (j := q) (by omega)
    clear hce
    have HQ := Lib.hid hq
    have D1 := HD.out.drew
    clear hq
    go_wp2_with fail
    go_region_held3 (fun V => V.cell? ⟨hb, 0, none⟩ = some (.pointer (some ⟨mb, 0, none⟩)) ∧ V.cell? ⟨bx, 1, none⟩ = some (.int .i64 q) ∧ V.cell? ⟨bx, 2, none⟩ = some (.int .i64 j) ∧ V.cell? ⟨bx, 3, none⟩ = some (.int .i64 rb) ∧ V.cell? ⟨p, 2 + j, none⟩ = some (.int .i64 (regAt s.r j))) (first | exact ⟨by assumption, by assumption, by assumption, by assumption, by assumption⟩ | go_keep) (first | (go_at_call 66; refine (store_ok D1.m HQ.out _).mono ?_; rintro e w5 ⟨rfl, hM5, hT5⟩; have D5 := DoAt.call D1 hM5 hT5; clear hM5 hT5; have f0 := D5.hd; have f1 := D5.x.cell (o := 1) (v := .int .i64 q) rfl; have f2 := D5.x.cell (o := 2) (v := .int .i64 j) rfl; have f3 := D5.x.cell (o := 3) (v := .int .i64 rb) rfl; have f4 := D5.pp.free 1; have f5 := D5.pp.cell (o := 1) (v := .int .i64 s.pc) rfl; have f6 := D5.reg hr hj; have f7 := D5.pp.free (2 + j)))
    go_wp2_with fail
    go_end0
    rw [stepI_3 rfl]
    exact (fin_pc D5 (s.pc + 1)).same ⟨rfl, rfl, rfl, rfl⟩
  · as_aux_lemma =>
    have ha := rightB_a HR.out (by dsimp only; omega)
    dsimp only at ha
    obtain ⟨j, rfl⟩ : ∃ j : Nat, ra = j := ⟨ra.toNat, by omega⟩
    have hj : j < 4 := by omega
    have hji : (j : Int) < 4 := by omega
    have hreg := HD.out.reg hr hj
    have hf := HD.out.pp.free (2 + j)
    clear ha
    have hce := rightB_cell HR.out (by dsimp only; omega)
    dsimp only at hce
    obtain ⟨q, rfl⟩ : ∃ q : Nat, ce = q := ⟨ce.toNat, by omega⟩
    have hq := celAt_get (st := st) (j := q) (by omega)
    clear hce
    have hbb := rightB_rb HR.out rfl
    dsimp only at hbb
    obtain ⟨t, rfl⟩ : ∃ t : Nat, rb = t := ⟨rb.toNat, by omega⟩
    have ht : t < 4 := by omega
    have hti : (t : Int) < 4 := by omega
    have hreg2 := HD.out.reg hr ht
    have hf2 := HD.out.pp.free (2 + t)
    have HQ := Lib.hid hq
    have D1 := HD.out.drew
    clear hq hbb
    by_cases hsw : (celAt st (q : Int)).n = regAt s.r t
    · have HSW := Lib.hid (mswap_yes D1.m D1.hd HQ.out (regAt s.r j))
      rw [hsw] at HSW
      have HE := Lib.hid (stepI_4 (who := k) (st := st) (s := s) (i := ⟨4, q, j, t⟩) rfl)
      dsimp only at HE
      rw [if_pos hsw] at HE
      clear hsw
      go_wp2_with fail
      refine wp_region_noPanic ?_
      refine wp_region_held_drew (S := (fun V => V.cell? ⟨hb, 0, none⟩ = some (.pointer (some ⟨mb, 0, none⟩)) ∧ V.cell? ⟨bx, 1, none⟩ = some (.int .i64 q) ∧ V.cell? ⟨bx, 2, none⟩ = some (.int .i64 j) ∧ V.cell? ⟨bx, 3, none⟩ = some (.int .i64 t))) (by kernel_rfl) (by first | exact DoAt.reads (by assumption) | exact DoAt.keep (by assumption) _ _ | exact DoAt.keepD (by assumption) _ _ | go_keep) (fun hHeld => ?_)
      refine wpAnyH_take (i := 0) (v := ?_) (List.getElem?_toArray.trans rfl) (by kernel_rfl) (by kernel_rfl) (by kernel_rfl) (fun _ _ _ h => h) (Or.inl ⟨by rfl, ?_⟩) hHeld ?_
      rotate_left
      · intro V hV; obtain ⟨k0, k1, k2, k3⟩ := hV; go_simp; all_goals with_reducible rfl
      try simp only [Act.put, List.setIfInBounds_toArray, List.set_cons_zero, List.set_cons_succ]
      refine wpAnyH_take (i := 1) (v := ?_) (List.getElem?_toArray.trans rfl) (by kernel_rfl) (by kernel_rfl) (by kernel_rfl) (fun _ _ _ h => h) (Or.inl ⟨by rfl, ?_⟩) hHeld ?_
      rotate_left
      · intro V hV; obtain ⟨k0, k1, k2, k3⟩ := hV; go_simp; all_goals with_reducible rfl
      try simp only [Act.put, List.setIfInBounds_toArray, List.set_cons_zero, List.set_cons_succ]
      refine wpAnyH_take (i := 2) (v := ?_) (List.getElem?_toArray.trans rfl) (by kernel_rfl) (by kernel_rfl) (by kernel_rfl) (fun _ _ _ h => h) (Or.inl ⟨by rfl, ?_⟩) hHeld ?_
      rotate_left
      · intro V hV; obtain ⟨k0, k1, k2, k3⟩ := hV; go_simp; all_goals with_reducible rfl
      try simp only [Act.put, List.setIfInBounds_toArray, List.set_cons_zero, List.set_cons_succ]
      refine wpAnyH_take (i := 3) (v := ?_) (List.getElem?_toArray.trans rfl) (by kernel_rfl) (by kernel_rfl) (by kernel_rfl) (fun _ _ _ h => h) (Or.inl ⟨by rfl, ?_⟩) hHeld ?_
      rotate_left
      · intro V hV; obtain ⟨k0, k1, k2, k3⟩ := hV; go_simp; all_goals with_reducible rfl
      try simp only [Act.put, List.setIfInBounds_toArray, List.set_cons_zero, List.set_cons_succ]
      refine wpAnyH_take (i := 4) (v := ?_) (List.getElem?_toArray.trans rfl) (by kernel_rfl) (by kernel_rfl) (by kernel_rfl) (fun _ _ _ h => h) (Or.inl ⟨by rfl, ?_⟩) hHeld ?_
      rotate_left
      · intro V hV; obtain ⟨k0, k1, k2, k3⟩ := hV; go_simp; all_goals with_reducible rfl
      try simp only [Act.put, List.setIfInBounds_toArray, List.set_cons_zero, List.set_cons_succ]
      refine wpAnyH_take (i := 5) (v := ?_) (List.getElem?_toArray.trans rfl) (by kernel_rfl) (by kernel_rfl) (by kernel_rfl) (fun _ _ _ h => h) (Or.inl ⟨by rfl, ?_⟩) hHeld ?_
      rotate_left
      · intro V hV; obtain ⟨k0, k1, k2, k3⟩ := hV; go_simp; all_goals with_reducible rfl
      try simp only [Act.put, List.setIfInBounds_toArray, List.set_cons_zero, List.set_cons_succ]
      refine wpAnyH_take (i := 6) (v := ?_) (List.getElem?_toArray.trans rfl) (by kernel_rfl) (by kernel_rfl) (by kernel_rfl) (fun _ _ _ h => h) (Or.inl ⟨by rfl, ?_⟩) hHeld ?_
      rotate_left
      · intro V hV; obtain ⟨k0, k1, k2, k3⟩ := hV; go_simp; all_goals with_reducible rfl
      try simp only [Act.put, List.setIfInBounds_toArray, List.set_cons_zero, List.set_cons_succ]
      refine wpAnyH_take (i := 7) (v := ?_) (List.getElem?_toArray.trans rfl) (by kernel_rfl) (by kernel_rfl) (by kernel_rfl) (fun _ _ _ h => h) (Or.inl ⟨by rfl, ?_⟩) hHeld ?_
      rotate_left
      · intro V hV; obtain ⟨k0, k1, k2, k3⟩ := hV; go_simp; all_goals with_reducible rfl
      try simp only [Act.put, List.setIfInBounds_toArray, List.set_cons_zero, List.set_cons_succ]
      refine wpAnyH_take (i := 8) (v := ?_) (List.getElem?_toArray.trans rfl) (by kernel_rfl) (by kernel_rfl) (by kernel_rfl) (fun _ _ _ h => h) (Or.inl ⟨by rfl, ?_⟩) hHeld ?_
      rotate_left
      · intro V hV; obtain ⟨k0, k1, k2, k3⟩ := hV; go_simp; all_goals with_reducible rfl
      try simp only [Act.put, List.setIfInBounds_toArray, List.set_cons_zero, List.set_cons_succ]
      refine wpAnyH_take (i := 9) (v := ?_) (List.getElem?_toArray.trans rfl) (by kernel_rfl) (by kernel_rfl) (by kernel_rfl) (fun _ _ _ h => h) (Or.inl ⟨by rfl, ?_⟩) hHeld ?_
      rotate_left
      · intro V hV; obtain ⟨k0, k1, k2, k3⟩ := hV; go_simp; all_goals with_reducible rfl
      try simp only [Act.put, List.setIfInBounds_toArray, List.set_cons_zero, List.set_cons_succ]
      refine wpAnyH_take (i := 10) (v := ?_) (List.getElem?_toArray.trans rfl) (by kernel_rfl) (by kernel_rfl) (by kernel_rfl) (fun _ _ _ h => h) (Or.inl ⟨by rfl, ?_⟩) hHeld ?_
      rotate_left
      · intro V hV; obtain ⟨k0, k1, k2, k3⟩ := hV; go_simp; all_goals with_reducible rfl
      try simp only [Act.put, List.setIfInBounds_toArray, List.set_cons_zero, List.set_cons_succ]
      refine wpAnyH_take (i := 11) (v := ?_) (List.getElem?_toArray.trans rfl) (by kernel_rfl) (by kernel_rfl) (by kernel_rfl) (fun _ _ _ h => h) (Or.inl ⟨by rfl, ?_⟩) hHeld ?_
      rotate_left
      · intro V hV; obtain ⟨k0, k1, k2, k3⟩ := hV; go_simp; all_goals with_reducible rfl
      try simp only [Act.put, List.setIfInBounds_toArray, List.set_cons_zero, List.set_cons_succ]
      refine wpAnyH_take (i := 13) (v := ?_) (List.getElem?_toArray.trans rfl) (by kernel_rfl) (by kernel_rfl) (by kernel_rfl) (fun _ _ _ h => h) (Or.inl ⟨by rfl, ?_⟩) hHeld ?_
      rotate_left
      · intro V hV; obtain ⟨k0, k1, k2, k3⟩ := hV; go_simp; all_goals with_reducible rfl
      try simp only [Act.put, List.setIfInBounds_toArray, List.set_cons_zero, List.set_cons_succ]
      refine wpAnyH_take (i := 14) (v := ?_) (List.getElem?_toArray.trans rfl) (by kernel_rfl) (by kernel_rfl) (by kernel_rfl) (fun _ _ _ h => h) (Or.inl ⟨by rfl, ?_⟩) hHeld ?_
      rotate_left
      · intro V hV; obtain ⟨k0, k1, k2, k3⟩ := hV; go_simp; all_goals with_reducible rfl
      try simp only [Act.put, List.setIfInBounds_toArray, List.set_cons_zero, List.set_cons_succ]
      refine wpAnyH_take (i := 15) (v := ?_) (List.getElem?_toArray.trans rfl) (by kernel_rfl) (by kernel_rfl) (by kernel_rfl) (fun _ _ _ h => h) (Or.inl ⟨by rfl, ?_⟩) hHeld ?_
      rotate_left
      · intro V hV; obtain ⟨k0, k1, k2, k3⟩ := hV; go_simp; all_goals with_reducible rfl
      try simp only [Act.put, List.setIfInBounds_toArray, List.set_cons_zero, List.set_cons_succ]
      refine wpAnyH_take (i := 16) (v := ?_) (List.getElem?_toArray.trans rfl) (by kernel_rfl) (by kernel_rfl) (by kernel_rfl) (fun _ _ _ h => h) (Or.inl ⟨by rfl, ?_⟩) hHeld ?_
      rotate_left
      · intro V hV; obtain ⟨k0, k1, k2, k3⟩ := hV; go_simp; all_goals with_reducible rfl
      try simp only [Act.put, List.setIfInBounds_toArray, List.set_cons_zero, List.set_cons_succ]
      refine wpAnyH_take (i := 17) (v := ?_) (List.getElem?_toArray.trans rfl) (by kernel_rfl) (by kernel_rfl) (by kernel_rfl) (fun _ _ _ h => h) (Or.inl ⟨by rfl, ?_⟩) hHeld ?_
      rotate_left
      · intro V hV; obtain ⟨k0, k1, k2, k3⟩ := hV; go_simp; all_goals with_reducible rfl
      try simp only [Act.put, List.setIfInBounds_toArray, List.set_cons_zero, List.set_cons_succ]
      refine wpAnyH_take (i := 18) (v := ?_) (List.getElem?_toArray.trans rfl) (by kernel_rfl) (by kernel_rfl) (by kernel_rfl) (fun _ _ _ h => h) (Or.inl ⟨by rfl, ?_⟩) hHeld ?_
      rotate_left
      · intro V hV; obtain ⟨k0, k1, k2, k3⟩ := hV; go_simp; all_goals with_reducible rfl
      try simp only [Act.put, List.setIfInBounds_toArray, List.set_cons_zero, List.set_cons_succ]
      refine wpAnyH_take (i := 21) (v := ?_) (List.getElem?_toArray.trans rfl) (by kernel_rfl) (by kernel_rfl) (by kernel_rfl) (fun _ _ _ h => h) (Or.inl ⟨by rfl, ?_⟩) hHeld ?_
      rotate_left
      · intro V hV; obtain ⟨k0, k1, k2, k3⟩ := hV; go_simp; all_goals with_reducible rfl
      try simp only [Act.put, List.setIfInBounds_toArray, List.set_cons_zero, List.set_cons_succ]
      refine wpAnyH_take (i := 22) (v := ?_) (List.getElem?_toArray.trans rfl) (by kernel_rfl) (by kernel_rfl) (by kernel_rfl) (fun _ _ _ h => h) (Or.inl ⟨by rfl, ?_⟩) hHeld ?_
      rotate_left
      · intro V hV; obtain ⟨k0, k1, k2, k3⟩ := hV; go_simp; all_goals with_reducible rfl
      try simp only [Act.put, List.setIfInBounds_toArray, List.set_cons_zero, List.set_cons_succ]
      refine wpAnyH_ready (rs := [12, 19]) (by kernel_rfl) (by simp) ?_
      refine AllReadyH.cons (List.getElem?_toArray.trans rfl) (fun K hK => ?_) ?_
      · go_simp
        refine hK.out _ _ ?_ (fun hHeld => ?_)
        · first | exact DoAt.reads (by assumption) | exact DoAt.keep (by assumption) _ _ | exact DoAt.keepD (by assumption) _ _ | go_keep
        clear hK K
        try simp only [Act.put, List.setIfInBounds_toArray, List.set_cons_zero, List.set_cons_succ]
        refine wpAnyH_ready (rs := [19]) (by kernel_rfl) (by simp) ?_
        refine AllReadyH.cons (List.getElem?_toArray.trans rfl) (fun K hK => ?_) ?_
        · go_simp
          refine hK.out _ _ ?_ (fun hHeld => ?_)
          · first | exact DoAt.reads (by assumption) | exact DoAt.keep (by assumption) _ _ | exact DoAt.keepD (by assumption) _ _ | go_keep
          clear hK K
          try simp only [Act.put, List.setIfInBounds_toArray, List.set_cons_zero, List.set_cons_succ]
          refine wpAnyH_ready (rs := [20]) (by kernel_rfl) (by simp) ?_
          refine AllReadyH.cons (List.getElem?_toArray.trans rfl) (fun K hK => ?_) ?_
          · go_simp
            (go_at_call 67; refine HSW.out.mono ?_; rintro e w5 ⟨rfl, hM5, hT5⟩; have D5 := DoAt.call D1 hM5 hT5; clear hM5 hT5; have f0 := D5.hd; have f1 := D5.x.cell (o := 1) (v := .int .i64 q) rfl; have f2 := D5.x.cell (o := 2) (v := .int .i64 j) rfl; have f3 := D5.x.cell (o := 3) (v := .int .i64 t) rfl; have f4 := D5.pp.free 1; have f5 := D5.pp.cell (o := 1) (v := .int .i64 s.pc) rfl; have f6 := D5.reg hr hj; have f7 := D5.pp.free (2 + j); have f8 := D5.reg hr ht; have f9 := D5.pp.free (2 + t))
            go_wp2_with fail
            refine hK.out _ _ ?_ (fun hHeld => ?_)
            · first | exact DoAt.reads (by assumption) | exact DoAt.keep (by assumption) _ _ | exact DoAt.keepD (by assumption) _ _ | go_keep
            clear hK K
            try simp only [Act.put, List.setIfInBounds_toArray, List.set_cons_zero, List.set_cons_succ]
            refine wpAnyH_take (i := 23) (v := ?_) (List.getElem?_toArray.trans rfl) (by kernel_rfl) (by kernel_rfl) (by kernel_rfl) (fun _ _ _ h => h) (Or.inl ⟨by rfl, ?_⟩) hHeld ?_
            rotate_left
            · intro V hV; obtain ⟨k0, k1, k2, k3⟩ := hV; go_simp; all_goals with_reducible rfl
            try simp only [Act.put, List.setIfInBounds_toArray, List.set_cons_zero, List.set_cons_succ]
            refine wpAnyH_ready (rs := [24]) (by kernel_rfl) (by simp) ?_
            refine AllReadyH.cons (List.getElem?_toArray.trans rfl) (fun K hK => ?_) ?_
            · go_simp
              refine hK.out _ _ ?_ (fun hHeld => ?_)
              · first | exact DoAt.reads (by assumption) | exact DoAt.keep (by assumption) _ _ | exact DoAt.keepD (by assumption) _ _ | go_keep
              clear hK K
              try simp only [Act.put, List.setIfInBounds_toArray, List.set_cons_zero, List.set_cons_succ]
              refine wpAnyH_done (by kernel_rfl) ?_ _
              refine NoPanic.normal ?_
              go_wp2_with fail
              go_end0
              rw [HE.out]
              exact (fin_reg D5 t 1 (s.pc + 1)).same ⟨rfl, rfl, rfl, rfl⟩
            exact AllReadyH.nil
          exact AllReadyH.nil
        exact AllReadyH.nil
      refine AllReadyH.cons (List.getElem?_toArray.trans rfl) (fun K hK => ?_) ?_
      · go_simp
        refine hK.out _ _ ?_ (fun hHeld => ?_)
        · first | exact DoAt.reads (by assumption) | exact DoAt.keep (by assumption) _ _ | exact DoAt.keepD (by assumption) _ _ | go_keep
        clear hK K
        try simp only [Act.put, List.setIfInBounds_toArray, List.set_cons_zero, List.set_cons_succ]
        refine wpAnyH_ready (rs := [12]) (by kernel_rfl) (by simp) ?_
        refine AllReadyH.cons (List.getElem?_toArray.trans rfl) (fun K hK => ?_) ?_
        · go_simp
          refine hK.out _ _ ?_ (fun hHeld => ?_)
          · first | exact DoAt.reads (by assumption) | exact DoAt.keep (by assumption) _ _ | exact DoAt.keepD (by assumption) _ _ | go_keep
          clear hK K
          try simp only [Act.put, List.setIfInBounds_toArray, List.set_cons_zero, List.set_cons_succ]
          refine wpAnyH_ready (rs := [20]) (by kernel_rfl) (by simp) ?_
          refine AllReadyH.cons (List.getElem?_toArray.trans rfl) (fun K hK => ?_) ?_
          · go_simp
            (go_at_call 67; refine HSW.out.mono ?_; rintro e w5 ⟨rfl, hM5, hT5⟩; have D5 := DoAt.call D1 hM5 hT5; clear hM5 hT5; have f0 := D5.hd; have f1 := D5.x.cell (o := 1) (v := .int .i64 q) rfl; have f2 := D5.x.cell (o := 2) (v := .int .i64 j) rfl; have f3 := D5.x.cell (o := 3) (v := .int .i64 t) rfl; have f4 := D5.pp.free 1; have f5 := D5.pp.cell (o := 1) (v := .int .i64 s.pc) rfl; have f6 := D5.reg hr hj; have f7 := D5.pp.free (2 + j); have f8 := D5.reg hr ht; have f9 := D5.pp.free (2 + t))
            go_wp2_with fail
            refine hK.out _ _ ?_ (fun hHeld => ?_)
            · first | exact DoAt.reads (by assumption) | exact DoAt.keep (by assumption) _ _ | exact DoAt.keepD (by assumption) _ _ | go_keep
            clear hK K
            try simp only [Act.put, List.setIfInBounds_toArray, List.set_cons_zero, List.set_cons_succ]
            refine wpAnyH_take (i := 23) (v := ?_) (List.getElem?_toArray.trans rfl) (by kernel_rfl) (by kernel_rfl) (by kernel_rfl) (fun _ _ _ h => h) (Or.inl ⟨by rfl, ?_⟩) hHeld ?_
            rotate_left
            · intro V hV; obtain ⟨k0, k1, k2, k3⟩ := hV; go_simp; all_goals with_reducible rfl
            try simp only [Act.put, List.setIfInBounds_toArray, List.set_cons_zero, List.set_cons_succ]
            refine wpAnyH_ready (rs := [24]) (by kernel_rfl) (by simp) ?_
            refine AllReadyH.cons (List.getElem?_toArray.trans rfl) (fun K hK => ?_) ?_
            · go_simp
              refine hK.out _ _ ?_ (fun hHeld => ?_)
              · first | exact DoAt.reads (by assumption) | exact DoAt.keep (by assumption) _ _ | exact DoAt.keepD (by assumption) _ _ | go_keep
              clear hK K
              try simp only [Act.put, List.setIfInBounds_toArray, List.set_cons_zero, List.set_cons_succ]
              refine wpAnyH_done (by kernel_rfl) ?_ _
              refine NoPanic.normal ?_
              go_wp2_with fail
              go_end0
              rw [HE.out]
              exact (fin_reg D5 t 1 (s.pc + 1)).same ⟨rfl, rfl, rfl, rfl⟩
            exact AllReadyH.nil
          exact AllReadyH.nil
        exact AllReadyH.nil
      exact AllReadyH.nil
    · have HSW := Lib.hid (mswap_no D1.m D1.hd HQ.out hsw (regAt s.r j))
      have HE := Lib.hid (stepI_4 (who := k) (st := st) (s := s) (i := ⟨4, q, j, t⟩) rfl)
      dsimp only at HE
      rw [if_neg hsw] at HE
      clear hsw
      go_wp2_with fail
      refine wp_region_noPanic ?_
      refine wp_region_held_drew (S := (fun V => V.cell? ⟨hb, 0, none⟩ = some (.pointer (some ⟨mb, 0, none⟩)) ∧ V.cell? ⟨bx, 1, none⟩ = some (.int .i64 q) ∧ V.cell? ⟨bx, 2, none⟩ = some (.int .i64 j) ∧ V.cell? ⟨bx, 3, none⟩ = some (.int .i64 t))) (by kernel_rfl) (by first | exact DoAt.reads (by assumption) | exact DoAt.keep (by assumption) _ _ | exact DoAt.keepD (by assumption) _ _ | go_keep) (fun hHeld => ?_)
      refine wpAnyH_take (i := 0) (v := ?_) (List.getElem?_toArray.trans rfl) (by kernel_rfl) (by kernel_rfl) (by kernel_rfl) (fun _ _ _ h => h) (Or.inl ⟨by rfl, ?_⟩) hHeld ?_
      rotate_left
      · intro V hV; obtain ⟨k0, k1, k2, k3⟩ := hV; go_simp; all_goals with_reducible rfl
      try simp only [Act.put, List.setIfInBounds_toArray, List.set_cons_zero, List.set_cons_succ]
      refine wpAnyH_take (i := 1) (v := ?_) (List.getElem?_toArray.trans rfl) (by kernel_rfl) (by kernel_rfl) (by kernel_rfl) (fun _ _ _ h => h) (Or.inl ⟨by rfl, ?_⟩) hHeld ?_
      rotate_left
      · intro V hV; obtain ⟨k0, k1, k2, k3⟩ := hV; go_simp; all_goals with_reducible rfl
      try simp only [Act.put, List.setIfInBounds_toArray, List.set_cons_zero, List.set_cons_succ]
      refine wpAnyH_take (i := 2) (v := ?_) (List.getElem?_toArray.trans rfl) (by kernel_rfl) (by kernel_rfl) (by kernel_rfl) (fun _ _ _ h => h) (Or.inl ⟨by rfl, ?_⟩) hHeld ?_
      rotate_left
      · intro V hV; obtain ⟨k0, k1, k2, k3⟩ := hV; go_simp; all_goals with_reducible rfl
      try simp only [Act.put, List.setIfInBounds_toArray, List.set_cons_zero, List.set_cons_succ]
      refine wpAnyH_take (i := 3) (v := ?_) (List.getElem?_toArray.trans rfl) (by kernel_rfl) (by kernel_rfl) (by kernel_rfl) (fun _ _ _ h => h) (Or.inl ⟨by rfl, ?_⟩) hHeld ?_
      rotate_left
      · intro V hV; obtain ⟨k0, k1, k2, k3⟩ := hV; go_simp; all_goals with_reducible rfl
      try simp only [Act.put, List.setIfInBounds_toArray, List.set_cons_zero, List.set_cons_succ]
      refine wpAnyH_take (i := 4) (v := ?_) (List.getElem?_toArray.trans rfl) (by kernel_rfl) (by kernel_rfl) (by kernel_rfl) (fun _ _ _ h => h) (Or.inl ⟨by rfl, ?_⟩) hHeld ?_
      rotate_left
      · intro V hV; obtain ⟨k0, k1, k2, k3⟩ := hV; go_simp; all_goals with_reducible rfl
      try simp only [Act.put, List.setIfInBounds_toArray, List.set_cons_zero, List.set_cons_succ]
      refine wpAnyH_take (i := 5) (v := ?_) (List.getElem?_toArray.trans rfl) (by kernel_rfl) (by kernel_rfl) (by kernel_rfl) (fun _ _ _ h => h) (Or.inl ⟨by rfl, ?_⟩) hHeld ?_
      rotate_left
      · intro V hV; obtain ⟨k0, k1, k2, k3⟩ := hV; go_simp; all_goals with_reducible rfl
      try simp only [Act.put, List.setIfInBounds_toArray, List.set_cons_zero, List.set_cons_succ]
      refine wpAnyH_take (i := 6) (v := ?_) (List.getElem?_toArray.trans rfl) (by kernel_rfl) (by kernel_rfl) (by kernel_rfl) (fun _ _ _ h => h) (Or.inl ⟨by rfl, ?_⟩) hHeld ?_
      rotate_left
      · intro V hV; obtain ⟨k0, k1, k2, k3⟩ := hV; go_simp; all_goals with_reducible rfl
      try simp only [Act.put, List.setIfInBounds_toArray, List.set_cons_zero, List.set_cons_succ]
      refine wpAnyH_take (i := 7) (v := ?_) (List.getElem?_toArray.trans rfl) (by kernel_rfl) (by kernel_rfl) (by kernel_rfl) (fun _ _ _ h => h) (Or.inl ⟨by rfl, ?_⟩) hHeld ?_
      rotate_left
      · intro V hV; obtain ⟨k0, k1, k2, k3⟩ := hV; go_simp; all_goals with_reducible rfl
      try simp only [Act.put, List.setIfInBounds_toArray, List.set_cons_zero, List.set_cons_succ]
      refine wpAnyH_take (i := 8) (v := ?_) (List.getElem?_toArray.trans rfl) (by kernel_rfl) (by kernel_rfl) (by kernel_rfl) (fun _ _ _ h => h) (Or.inl ⟨by rfl, ?_⟩) hHeld ?_
      rotate_left
      · intro V hV; obtain ⟨k0, k1, k2, k3⟩ := hV; go_simp; all_goals with_reducible rfl
      try simp only [Act.put, List.setIfInBounds_toArray, List.set_cons_zero, List.set_cons_succ]
      refine wpAnyH_take (i := 9) (v := ?_) (List.getElem?_toArray.trans rfl) (by kernel_rfl) (by kernel_rfl) (by kernel_rfl) (fun _ _ _ h => h) (Or.inl ⟨by rfl, ?_⟩) hHeld ?_
      rotate_left
      · intro V hV; obtain ⟨k0, k1, k2, k3⟩ := hV; go_simp; all_goals with_reducible rfl
      try simp only [Act.put, List.setIfInBounds_toArray, List.set_cons_zero, List.set_cons_succ]
      refine wpAnyH_take (i := 10) (v := ?_) (List.getElem?_toArray.trans rfl) (by kernel_rfl) (by kernel_rfl) (by kernel_rfl) (fun _ _ _ h => h) (Or.inl ⟨by rfl, ?_⟩) hHeld ?_
      rotate_left
      · intro V hV; obtain ⟨k0, k1, k2, k3⟩ := hV; go_simp; all_goals with_reducible rfl
      try simp only [Act.put, List.setIfInBounds_toArray, List.set_cons_zero, List.set_cons_succ]
      refine wpAnyH_take (i := 11) (v := ?_) (List.getElem?_toArray.trans rfl) (by kernel_rfl) (by kernel_rfl) (by kernel_rfl) (fun _ _ _ h => h) (Or.inl ⟨by rfl, ?_⟩) hHeld ?_
      rotate_left
      · intro V hV; obtain ⟨k0, k1, k2, k3⟩ := hV; go_simp; all_goals with_reducible rfl
      try simp only [Act.put, List.setIfInBounds_toArray, List.set_cons_zero, List.set_cons_succ]
      refine wpAnyH_take (i := 13) (v := ?_) (List.getElem?_toArray.trans rfl) (by kernel_rfl) (by kernel_rfl) (by kernel_rfl) (fun _ _ _ h => h) (Or.inl ⟨by rfl, ?_⟩) hHeld ?_
      rotate_left
      · intro V hV; obtain ⟨k0, k1, k2, k3⟩ := hV; go_simp; all_goals with_reducible rfl
      try simp only [Act.put, List.setIfInBounds_toArray, List.set_cons_zero, List.set_cons_succ]
      refine wpAnyH_take (i := 14) (v := ?_) (List.getElem?_toArray.trans rfl) (by kernel_rfl) (by kernel_rfl) (by kernel_rfl) (fun _ _ _ h => h) (Or.inl ⟨by rfl, ?_⟩) hHeld ?_
      rotate_left
      · intro V hV; obtain ⟨k0, k1, k2, k3⟩ := hV; go_simp; all_goals with_reducible rfl
      try simp only [Act.put, List.setIfInBounds_toArray, List.set_cons_zero, List.set_cons_succ]
      refine wpAnyH_take (i := 15) (v := ?_) (List.getElem?_toArray.trans rfl) (by kernel_rfl) (by kernel_rfl) (by kernel_rfl) (fun _ _ _ h => h) (Or.inl ⟨by rfl, ?_⟩) hHeld ?_
      rotate_left
      · intro V hV; obtain ⟨k0, k1, k2, k3⟩ := hV; go_simp; all_goals with_reducible rfl
      try simp only [Act.put, List.setIfInBounds_toArray, List.set_cons_zero, List.set_cons_succ]
      refine wpAnyH_take (i := 16) (v := ?_) (List.getElem?_toArray.trans rfl) (by kernel_rfl) (by kernel_rfl) (by kernel_rfl) (fun _ _ _ h => h) (Or.inl ⟨by rfl, ?_⟩) hHeld ?_
      rotate_left
      · intro V hV; obtain ⟨k0, k1, k2, k3⟩ := hV; go_simp; all_goals with_reducible rfl
      try simp only [Act.put, List.setIfInBounds_toArray, List.set_cons_zero, List.set_cons_succ]
      refine wpAnyH_take (i := 17) (v := ?_) (List.getElem?_toArray.trans rfl) (by kernel_rfl) (by kernel_rfl) (by kernel_rfl) (fun _ _ _ h => h) (Or.inl ⟨by rfl, ?_⟩) hHeld ?_
      rotate_left
      · intro V hV; obtain ⟨k0, k1, k2, k3⟩ := hV; go_simp; all_goals with_reducible rfl
      try simp only [Act.put, List.setIfInBounds_toArray, List.set_cons_zero, List.set_cons_succ]
      refine wpAnyH_take (i := 18) (v := ?_) (List.getElem?_toArray.trans rfl) (by kernel_rfl) (by kernel_rfl) (by kernel_rfl) (fun _ _ _ h => h) (Or.inl ⟨by rfl, ?_⟩) hHeld ?_
      rotate_left
      · intro V hV; obtain ⟨k0, k1, k2, k3⟩ := hV; go_simp; all_goals with_reducible rfl
      try simp only [Act.put, List.setIfInBounds_toArray, List.set_cons_zero, List.set_cons_succ]
      refine wpAnyH_take (i := 21) (v := ?_) (List.getElem?_toArray.trans rfl) (by kernel_rfl) (by kernel_rfl) (by kernel_rfl) (fun _ _ _ h => h) (Or.inl ⟨by rfl, ?_⟩) hHeld ?_
      rotate_left
      · intro V hV; obtain ⟨k0, k1, k2, k3⟩ := hV; go_simp; all_goals with_reducible rfl
      try simp only [Act.put, List.setIfInBounds_toArray, List.set_cons_zero, List.set_cons_succ]
      refine wpAnyH_take (i := 22) (v := ?_) (List.getElem?_toArray.trans rfl) (by kernel_rfl) (by kernel_rfl) (by kernel_rfl) (fun _ _ _ h => h) (Or.inl ⟨by rfl, ?_⟩) hHeld ?_
      rotate_left
      · intro V hV; obtain ⟨k0, k1, k2, k3⟩ := hV; go_simp; all_goals with_reducible rfl
      try simp only [Act.put, List.setIfInBounds_toArray, List.set_cons_zero, List.set_cons_succ]
      refine wpAnyH_ready (rs := [12, 19]) (by kernel_rfl) (by simp) ?_
      refine AllReadyH.cons (List.getElem?_toArray.trans rfl) (fun K hK => ?_) ?_
      · go_simp
        refine hK.out _ _ ?_ (fun hHeld => ?_)
        · first | exact DoAt.reads (by assumption) | exact DoAt.keep (by assumption) _ _ | exact DoAt.keepD (by assumption) _ _ | go_keep
        clear hK K
        try simp only [Act.put, List.setIfInBounds_toArray, List.set_cons_zero, List.set_cons_succ]
        refine wpAnyH_ready (rs := [19]) (by kernel_rfl) (by simp) ?_
        refine AllReadyH.cons (List.getElem?_toArray.trans rfl) (fun K hK => ?_) ?_
        · go_simp
          refine hK.out _ _ ?_ (fun hHeld => ?_)
          · first | exact DoAt.reads (by assumption) | exact DoAt.keep (by assumption) _ _ | exact DoAt.keepD (by assumption) _ _ | go_keep
          clear hK K
          try simp only [Act.put, List.setIfInBounds_toArray, List.set_cons_zero, List.set_cons_succ]
          refine wpAnyH_ready (rs := [20]) (by kernel_rfl) (by simp) ?_
          refine AllReadyH.cons (List.getElem?_toArray.trans rfl) (fun K hK => ?_) ?_
          · go_simp
            (go_at_call 67; refine HSW.out.mono ?_; rintro e w5 ⟨rfl, rfl⟩)
            go_wp2_with fail
            refine hK.out _ _ ?_ (fun hHeld => ?_)
            · first | exact DoAt.reads (by assumption) | exact DoAt.keep (by assumption) _ _ | exact DoAt.keepD (by assumption) _ _ | go_keep
            clear hK K
            try simp only [Act.put, List.setIfInBounds_toArray, List.set_cons_zero, List.set_cons_succ]
            refine wpAnyH_take (i := 23) (v := ?_) (List.getElem?_toArray.trans rfl) (by kernel_rfl) (by kernel_rfl) (by kernel_rfl) (fun _ _ _ h => h) (Or.inl ⟨by rfl, ?_⟩) hHeld ?_
            rotate_left
            · intro V hV; obtain ⟨k0, k1, k2, k3⟩ := hV; go_simp; all_goals with_reducible rfl
            try simp only [Act.put, List.setIfInBounds_toArray, List.set_cons_zero, List.set_cons_succ]
            refine wpAnyH_ready (rs := [24]) (by kernel_rfl) (by simp) ?_
            refine AllReadyH.cons (List.getElem?_toArray.trans rfl) (fun K hK => ?_) ?_
            · go_simp
              refine hK.out _ _ ?_ (fun hHeld => ?_)
              · first | exact DoAt.reads (by assumption) | exact DoAt.keep (by assumption) _ _ | exact DoAt.keepD (by assumption) _ _ | go_keep
              clear hK K
              try simp only [Act.put, List.setIfInBounds_toArray, List.set_cons_zero, List.set_cons_succ]
              refine wpAnyH_done (by kernel_rfl) ?_ _
              refine NoPanic.normal ?_
              go_wp2_with fail
              go_end0
              rw [HE.out]
              exact (fin_reg D1 t 0 (s.pc + 1)).same ⟨rfl, rfl, rfl, rfl⟩
            exact AllReadyH.nil
          exact AllReadyH.nil
        exact AllReadyH.nil
      refine AllReadyH.cons (List.getElem?_toArray.trans rfl) (fun K hK => ?_) ?_
      · go_simp
        refine hK.out _ _ ?_ (fun hHeld => ?_)
        · first | exact DoAt.reads (by assumption) | exact DoAt.keep (by assumption) _ _ | exact DoAt.keepD (by assumption) _ _ | go_keep
        clear hK K
        try simp only [Act.put, List.setIfInBounds_toArray, List.set_cons_zero, List.set_cons_succ]
        refine wpAnyH_ready (rs := [12]) (by kernel_rfl) (by simp) ?_
        refine AllReadyH.cons (List.getElem?_toArray.trans rfl) (fun K hK => ?_) ?_
        · go_simp
          refine hK.out _ _ ?_ (fun hHeld => ?_)
          · first | exact DoAt.reads (by assumption) | exact DoAt.keep (by assumption) _ _ | exact DoAt.keepD (by assumption) _ _ | go_keep
          clear hK K
          try simp only [Act.put, List.setIfInBounds_toArray, List.set_cons_zero, List.set_cons_succ]
          refine wpAnyH_ready (rs := [20]) (by kernel_rfl) (by simp) ?_
          refine AllReadyH.cons (List.getElem?_toArray.trans rfl) (fun K hK => ?_) ?_
          · go_simp
            (go_at_call 67; refine HSW.out.mono ?_; rintro e w5 ⟨rfl, rfl⟩)
            go_wp2_with fail
            refine hK.out _ _ ?_ (fun hHeld => ?_)
            · first | exact DoAt.reads (by assumption) | exact DoAt.keep (by assumption) _ _ | exact DoAt.keepD (by assumption) _ _ | go_keep
            clear hK K
            try simp only [Act.put, List.setIfInBounds_toArray, List.set_cons_zero, List.set_cons_succ]
            refine wpAnyH_take (i := 23) (v := ?_) (List.getElem?_toArray.trans rfl) (by kernel_rfl) (by kernel_rfl) (by kernel_rfl) (fun _ _ _ h => h) (Or.inl ⟨by rfl, ?_⟩) hHeld ?_
            rotate_left
            · intro V hV; obtain ⟨k0, k1, k2, k3⟩ := hV; go_simp; all_goals with_reducible rfl
            try simp only [Act.put, List.setIfInBounds_toArray, List.set_cons_zero, List.set_cons_succ]
            refine wpAnyH_ready (rs := [24]) (by kernel_rfl) (by simp) ?_
            refine AllReadyH.cons (List.getElem?_toArray.trans rfl) (fun K hK => ?_) ?_
            · go_simp
              refine hK.out _ _ ?_ (fun hHeld => ?_)
              · first | exact DoAt.reads (by assumption) | exact DoAt.keep (by assumption) _ _ | exact DoAt.keepD (by assumption) _ _ | go_keep
              clear hK K
              try simp only [Act.put, List.setIfInBounds_toArray, List.set_cons_zero, List.set_cons_succ]
              refine wpAnyH_done (by kernel_rfl) ?_ _
              refine NoPanic.normal ?_
              go_wp2_with fail
              go_end0
              rw [HE.out]
              exact (fin_reg D1 t 0 (s.pc + 1)).same ⟨rfl, rfl, rfl, rfl⟩
            exact AllReadyH.nil
          exact AllReadyH.nil
        exact AllReadyH.nil
      exact AllReadyH.nil
  · as_aux_lemma =>
    have ha := rightB_a HR.out (by dsimp only; omega)
    dsimp only at ha
    obtain ⟨j, rfl⟩ : ∃ j : Nat, ra = j := ⟨ra.toNat, by omega⟩
    have hj : j < 4 := by omega
    have hji : (j : Int) < 4 := by omega
    have hreg := HD.out.reg hr hj
    have hf := HD.out.pp.free (2 + j)
    clear ha
    have hce := rightB_cell HR.out (by dsimp only; omega)
    dsimp only at hce
    obtain ⟨q, rfl⟩ : ∃ q : Nat, ce = q := ⟨ce.toNat, by omega⟩
    have hq := celAt_get (st := st) (j := q) (by omega)
    clear hce
    have HQ := Lib.hid hq
    have D1 := HD.out.drew
    clear hq
    go_wp2_with fail
    go_region_held3 (fun V => V.cell? ⟨hb, 0, none⟩ = some (.pointer (some ⟨mb, 0, none⟩)) ∧ V.cell? ⟨bx, 1, none⟩ = some (.int .i64 q) ∧ V.cell? ⟨bx, 2, none⟩ = some (.int .i64 j) ∧ V.cell? ⟨bx, 3, none⟩ = some (.int .i64 rb)) (first | exact ⟨by assumption, by assumption, by assumption, by assumption⟩ | exact DoAt.keep (by assumption) _ _ | exact DoAt.keepD (by assumption) _ _ | go_keep) (first | (go_at_call 68; refine (add_ok D1.m HQ.out _).mono ?_; rintro e w5 ⟨rfl, hM5, hT5⟩; have D5 := DoAt.call D1 hM5 hT5; clear hM5 hT5; have f0 := D5.hd; have f1 := D5.x.cell (o := 1) (v := .int .i64 q) rfl; have f2 := D5.x.cell (o := 2) (v := .int .i64 j) rfl; have f3 := D5.x.cell (o := 3) (v := .int .i64 rb) rfl; have f4 := D5.pp.free 1; have f5 := D5.pp.cell (o := 1) (v := .int .i64 s.pc) rfl; have f6 := D5.reg hr hj; have f7 := D5.pp.free (2 + j)))
    all_goals go_wp2_with fail
    all_goals go_end0
    all_goals rw [stepI_5 rfl]
    all_goals exact (fin_reg D5 j _ (s.pc + 1)).same ⟨rfl, rfl, rfl, rfl⟩
  · as_aux_lemma =>
    have ha := rightB_a HR.out (by dsimp only; omega)
    dsimp only at ha
    obtain ⟨j, rfl⟩ : ∃ j : Nat, ra = j := ⟨ra.toNat, by omega⟩
    have hj : j < 4 := by omega
    have hji : (j : Int) < 4 := by omega
    have hreg := HD.out.reg hr hj
    have hf := HD.out.pp.free (2 + j)
    clear ha
    go_wp2_with fail
    go_region
    go_wp2_with fail
    go_end0
    rw [stepI_6 rfl]
    exact (fin_reg HD.out j _ (s.pc + 1)).same ⟨rfl, rfl, rfl, rfl⟩
  · as_aux_lemma =>
    have ha := rightB_a HR.out (by dsimp only; omega)
    dsimp only at ha
    obtain ⟨j, rfl⟩ : ∃ j : Nat, ra = j := ⟨ra.toNat, by omega⟩
    have hj : j < 4 := by omega
    have hji : (j : Int) < 4 := by omega
    have hreg := HD.out.reg hr hj
    have hf := HD.out.pp.free (2 + j)
    clear ha
    have hbb := rightB_b HR.out (by dsimp only; omega)
    dsimp only at hbb
    obtain ⟨t, rfl⟩ : ∃ t : Nat, rb = t := ⟨rb.toNat, by omega⟩
    have HE := Lib.hid (stepI_7 (who := k) (st := st) (s := s) (i := ⟨7, ce, j, t⟩) rfl)
    dsimp only at HE
    by_cases h0 : regAt s.r j = 0
    · rw [if_pos h0] at HE
      rw [h0] at hreg
      clear h0
      go_wp2_with fail
      go_quiet (fail)
      go_wp2_with fail
      go_end0
      rw [HE.out]
      exact (fin_pc HD.out t).same ⟨rfl, rfl, rfl, rfl⟩
    · rw [if_neg h0] at HE
      have hne : (regAt s.r j == 0) = false := by simpa using h0
      clear h0
      go_wp2_with fail
      go_quiet (fail)
      go_wp2_with fail
      go_end0
      rw [HE.out]
      exact (fin_pc HD.out (s.pc + 1)).same ⟨rfl, rfl, rfl, rfl⟩
  · as_aux_lemma =>
    have hbb := rightB_b HR.out (by dsimp only; omega)
    dsimp only at hbb
    obtain ⟨t, rfl⟩ : ∃ t : Nat, rb = t := ⟨rb.toNat, by omega⟩
    go_wp2_with fail
    go_end0
    rw [stepI_8 rfl]
    exact (fin_pc HD.out t).same ⟨rfl, rfl, rfl, rfl⟩
  · as_aux_lemma =>
    have hce := rightB_cell HR.out (by dsimp only; omega)
    dsimp only at hce
    obtain ⟨q, rfl⟩ : ∃ q : Nat, ce = q := ⟨ce.toNat, by omega⟩
    have hq := celAt_get (st := st) (j := q) (by omega)
    clear hce
    have HQ := Lib.hid hq
    have D1 := HD.out.drew
    have HSes : Hid (Ses (k : Int)) := Lib.hid ⟨by omega, by omega⟩
    clear hq
    have HE := Lib.hid (stepI_9 (who := k) (st := st) (s := s) (i := ⟨9, q, ra, rb⟩) rfl)
    dsimp only at HE
    by_cases hh : (celAt st (q : Int)).h = -1
    · rw [if_pos hh] at HE
      have HL := Lib.hid (lock_ok D1.m HQ.out hh HSes.out)
      clear hh
      go_wp2_with fail
      go_region_held3 (fun V => V.cell? ⟨hb, 0, none⟩ = some (.pointer (some ⟨mb, 0, none⟩)) ∧ V.cell? ⟨bx, 1, none⟩ = some (.int .i64 q)) (first | exact ⟨by assumption, by assumption⟩ | go_keep) (first | (go_at_call 69; refine HL.out.mono ?_; rintro e w5 ⟨rfl, hM5, hT5⟩; have D5 := D1.call hM5 hT5; clear hM5 hT5; have f0 := D5.hd; have f1 := D5.x.cell (o := 1) (v := .int .i64 q) rfl; have f4 := D5.pp.free 1; have f5 := D5.pp.cell (o := 1) (v := .int .i64 s.pc) rfl))
      all_goals go_wp2_with fail
      all_goals go_end0
      all_goals rw [HE.out]
      all_goals exact (fin_pc D5 (s.pc + 1)).same ⟨rfl, rfl, rfl, rfl⟩
    · rw [if_neg hh] at HE
      have HL := Lib.hid (lock_busy D1.m HQ.out hh HSes.out)
      clear hh
      go_wp2_with fail
      go_region_held3 (fun V => V.cell? ⟨hb, 0, none⟩ = some (.pointer (some ⟨mb, 0, none⟩)) ∧ V.cell? ⟨bx, 1, none⟩ = some (.int .i64 q)) (first | exact ⟨by assumption, by assumption⟩ | go_keep) (first | (go_at_call 69; refine HL.out.mono ?_; rintro e w5 ⟨rfl, rfl⟩))
      all_goals go_wp2_with fail
      all_goals go_end0
      all_goals rw [HE.out]
      all_goals exact (fin_pc D1 s.pc).same ⟨rfl, rfl, rfl, rfl⟩
  · as_aux_lemma =>
    have hce := rightB_cell HR.out (by dsimp only; omega)
    dsimp only at hce
    obtain ⟨q, rfl⟩ : ∃ q : Nat, ce = q := ⟨ce.toNat, by omega⟩
    have hq := celAt_get (st := st) (j := q) (by omega)
    clear hce
    have HQ := Lib.hid hq
    have D1 := HD.out.drew
    have HSes : Hid (Ses (k : Int)) := Lib.hid ⟨by omega, by omega⟩
    clear hq
    have HE := Lib.hid (stepI_10 (who := k) (st := st) (s := s) (i := ⟨10, q, ra, rb⟩) rfl)
    dsimp only at HE
    by_cases hh : (celAt st (q : Int)).h = k
    · rw [if_pos hh] at HE
      have HL := Lib.hid (hh ▸ free_ok D1.m HQ.out (hh ▸ HSes.out))
      clear hh
      go_wp2_with fail
      go_region_held3 (fun V => V.cell? ⟨hb, 0, none⟩ = some (.pointer (some ⟨mb, 0, none⟩)) ∧ V.cell? ⟨bx, 1, none⟩ = some (.int .i64 q)) (first | exact ⟨by assumption, by assumption⟩ | go_keep) (first | (go_at_call 70; refine HL.out.mono ?_; rintro e w5 ⟨rfl, hM5, hT5⟩; have D5 := D1.call hM5 hT5; clear hM5 hT5; have f0 := D5.hd; have f1 := D5.x.cell (o := 1) (v := .int .i64 q) rfl; have f4 := D5.pp.free 1; have f5 := D5.pp.cell (o := 1) (v := .int .i64 s.pc) rfl))
      all_goals go_wp2_with fail
      all_goals go_end0
      all_goals rw [HE.out]
      all_goals exact (fin_pc D5 (s.pc + 1)).same ⟨rfl, rfl, rfl, rfl⟩
    · rw [if_neg hh] at HE
      have HL := Lib.hid (free_none D1.m HQ.out hh HSes.out)
      clear hh
      go_wp2_with fail
      go_region_held3 (fun V => V.cell? ⟨hb, 0, none⟩ = some (.pointer (some ⟨mb, 0, none⟩)) ∧ V.cell? ⟨bx, 1, none⟩ = some (.int .i64 q)) (first | exact ⟨by assumption, by assumption⟩ | go_keep) (first | (go_at_call 70; refine HL.out.mono ?_; rintro e w5 ⟨rfl, rfl⟩))
      all_goals go_wp2_with fail
      all_goals go_end0
      all_goals rw [HE.out]
      all_goals exact (fin_pc D1 (s.pc + 1)).same ⟨rfl, rfl, rfl, rfl⟩
end Go.Proofs.Ytdbmieofcdafkaa
