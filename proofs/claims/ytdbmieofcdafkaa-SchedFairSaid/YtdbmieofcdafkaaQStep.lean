/- One step of the document's own machine: just what the plain machine's step tells. No condition but that the machine was made by Make. -/
import Derived.Test.YtdbmieofcdafkaaQMach
import Derived.Test.YtdbmieofcdafkaaSchedDo
namespace Go.Proofs.Ytdbmieofcdafkaa
open Go.RowKit
set_option linter.unusedVariables false
set_option linter.unusedSimpArgs false
set_option maxRecDepth 100000

structure QDo (w0 W : World) (bx hb rb vb bb wb p : Nat) (a : Option Addr) (c : Nat) (st : List Cel) (s : Sess) (i : Ins) : Prop where
  hd : W.cell? ⟨hb, 0, none⟩ = some (.pointer (some ⟨rb, 0, none⟩))
  m : Ref W rb vb bb wb st
  pp : Blk W p (sesHd a c s) 83
  x : Blk W bx (insEnc i) 70
  t : Turned (fun b => rS vb bb wb b ∨ b = p) w0 W
  n1 : hb ≠ p
  n2 : ¬ rS vb bb wb p
  n3 : ¬ rS vb bb wb hb
  n4 : rb ≠ p
  n5 : bx ≠ p
  n6 : ¬ rS vb bb wb bx

def QPost (w0 : World) (rb vb bb wb p : Nat) (a : Option Addr) (c : Nat) (y : List Cel × Sess) (e : Ending) (w' : World) : Prop :=
  e = .returned (.bool true) ∧ Ref w' rb vb bb wb y.1 ∧ Blk w' p (sesHd a c y.2) 83 ∧ Turned (fun b => rS vb bb wb b ∨ b = p) w0 w'

theorem Ref.same {X Y : World} {rb vb bb wb : Nat} {st : List Cel} (h : Ref X rb vb bb wb st) (hs : Same X Y) : Ref Y rb vb bb wb st :=
  ⟨h.hd.same hs, h.rowV.same hs, h.rowB.same hs, h.rowW.same hs, h.n1, h.n2, h.n3, h.n4, h.n5, h.n6, h.pos, h.le⟩
theorem QPost.same {w0 : World} {rb vb bb wb p : Nat} {a : Option Addr} {c : Nat} {y : List Cel × Sess} {X Y : World} {e : Ending} (h : QPost w0 rb vb bb wb p a c y e X) (hs : Same X Y) : QPost w0 rb vb bb wb p a c y e Y :=
  ⟨h.1, h.2.1.same hs, h.2.2.1.same hs, h.2.2.2.same hs⟩

section
variable {w0 W W2 : World} {bx hb rb vb bb wb p : Nat} {a : Option Addr} {c : Nat} {st st' : List Cel} {s : Sess} {i : Ins}

theorem QDo.same (D : QDo w0 W bx hb rb vb bb wb p a c st s i) (hs : Same W W2) : QDo w0 W2 bx hb rb vb bb wb p a c st s i :=
  ⟨by have := D.hd; simp only [World.cell?, hs.h] at this ⊢; exact this, D.m.same hs, D.pp.same hs, D.x.same hs, D.t.same hs, D.n1, D.n2, D.n3, D.n4, D.n5, D.n6⟩
theorem QDo.drewN (D : QDo w0 W bx hb rb vb bb wb p a c st s i) (n : Nat) : QDo w0 (W.drewN n) bx hb rb vb bb wb p a c st s i := D.same ⟨rfl, rfl, rfl, rfl⟩
theorem QDo.drew (D : QDo w0 W bx hb rb vb bb wb p a c st s i) : QDo w0 W.drew bx hb rb vb bb wb p a c st s i := D.same ⟨rfl, rfl, rfl, rfl⟩
theorem QDo.call (D : QDo w0 W bx hb rb vb bb wb p a c st s i) (hM : Ref W2 rb vb bb wb st') (hT : Turned (rS vb bb wb) W W2) : QDo w0 W2 bx hb rb vb bb wb p a c st' s i :=
  ⟨by rw [hT.cell (p := ⟨hb, 0, none⟩) (cell_lt D.hd) D.n3]; exact D.hd, hM, D.pp.turned hT D.n2, D.x.turned hT D.n6, D.t.trans (hT.mono (fun _ _ h => .inl h)), D.n1, D.n2, D.n3, D.n4, D.n5, D.n6⟩

theorem QDo.refAt (D : QDo w0 W bx hb rb vb bb wb p a c st s i) (o : Nat) (v : Value) : Ref (W.setCell ⟨p, o, none⟩ v) rb vb bb wb st :=
  D.m.turned (S := (· = p)) ((Turned.refl (· = p) W).setCell (p := ⟨p, o, none⟩) (.inl rfl) _) D.n4 (fun e => D.n2 (.inl e.symm)) (fun e => D.n2 (.inr (.inl e.symm))) (fun e => D.n2 (.inr (.inr e.symm)))

/-- A register is set. -/
theorem QDo.setR (D : QDo w0 W bx hb rb vb bb wb p a c st s i) (j : Nat) (v : Int) : QDo w0 (W.setCell ⟨p, 2 + j, none⟩ (.int .i64 v)) bx hb rb vb bb wb p a c st { s with r := s.r.set j v } i :=
  ⟨by rw [((Turned.refl (· = p) W).setCell (p := ⟨p, 2 + j, none⟩) (.inl rfl) (.int .i64 v)).cell (p := ⟨hb, 0, none⟩) (cell_lt D.hd) D.n1]; exact D.hd,
    D.refAt _ _, by rw [← sesHd_setR]; exact D.pp.set _ _, D.x.other (p := ⟨p, 2 + j, none⟩) (fun e => D.n5 e.symm) _,
    D.t.setCell (.inl (.inr rfl)) _, D.n1, D.n2, D.n3, D.n4, D.n5, D.n6⟩

theorem QDo.fin (D : QDo w0 W bx hb rb vb bb wb p a c st s i) (q : Nat) : QPost w0 rb vb bb wb p a c (st, { s with pc := q }) (.returned (.bool true)) (W.setCell ⟨p, 1, none⟩ (.int .i64 (q : Int))) := by
  refine ⟨rfl, D.refAt _ _, ?_, D.t.setCell (.inl (.inr rfl)) _⟩
  have := D.pp.set 1 (.int .i64 (q : Int))
  rwa [sesHd_setP _ _ _ q _ rfl] at this

theorem QDo.reg (D : QDo w0 W bx hb rb vb bb wb p a c st s i) (hr : s.r.length = 4) {j : Nat} (hj : j < 4) : W.cell? ⟨p, 2 + j, none⟩ = some (.int .i64 (regAt s.r j)) := D.pp.cell (sesHd_reg hr hj)
end

set_option maxHeartbeats 8000000 in
theorem qdo_any (w : World) (hb rb vb bb wb sb n cap k p pb po c : Nat) (st : List Cel) (s : Sess) (i : Ins)
    (HO : Calls Try.prog 43 #[.pointer (some ⟨hb, 0, none⟩), .int .i64 k] w fun e w' => e = .returned (.bool false) ∧ ∃ n, w' = w.drewN n)
    (hS : w.cell? ⟨hb, 1, none⟩ = some (.slice (some ⟨sb, 0, none⟩) n cap)) (hk : k < n) (hk16 : k < 16)
    (hsl : w.cell? ⟨sb, k, none⟩ = some (.pointer (some ⟨p, 0, none⟩)))
    (hM : w.cell? ⟨hb, 0, none⟩ = some (.pointer (some ⟨rb, 0, none⟩)))
    (hP : Blk w p (sesHd (some ⟨pb, po, none⟩) c s) 83) (HM : Ref w rb vb bb wb st)
    (hpc : s.pc < s.p.length) (hlen : s.p.length ≤ 64) (hr : s.r.length = 4)
    (hi : ∀ j v, (insEnc i)[j]? = some v → w.cell? ⟨pb, po + (s.pc * 4 + j), none⟩ = some v)
    (n1 : hb ≠ p) (n2 : ¬ rS vb bb wb p) (n3 : ¬ rS vb bb wb hb) (n4 : rb ≠ p) (hR : rightB i st.length s.p.length = true) (hH : ∀ c ∈ st, c.h = -1 ∨ Ses c.h) :
    Calls Try.prog 15 #[.pointer (some ⟨hb, 0, none⟩), .int .i64 k] w (QPost w rb vb bb wb p (some ⟨pb, po, none⟩) c (stepI k st s i)) := by
  have hi0 : w.cell? ⟨pb, po + s.pc * 4, none⟩ = some (.int .i64 i.op) := hi 0 _ rfl
  have hi1 : w.cell? ⟨pb, po + s.pc * 4 + 1, none⟩ = some (.int .i64 i.cell) := hi 1 _ rfl
  have hi2 : w.cell? ⟨pb, po + s.pc * 4 + 2, none⟩ = some (.int .i64 i.a) := hi 2 _ rfl
  have hi3 : w.cell? ⟨pb, po + s.pc * 4 + 3, none⟩ = some (.int .i64 i.b) := hi 3 _ rfl
  have hp0 : w.cell? ⟨p, 0, none⟩ = some (.slice (some ⟨pb, po, none⟩) s.p.length c) := hP.cell rfl
  have hp1 : w.cell? ⟨p, 1, none⟩ = some (.int .i64 s.pc) := hP.cell rfl
  have l1 : hb < w.heap.size := cell_lt hM
  have l2 : p < w.heap.size := cell_lt hp1
  have l3 : pb < w.heap.size := cell_lt hi0
  have l4 : sb < w.heap.size := cell_lt hsl
  have l5 := HM.rowV.lt
  have l6 := HM.rowB.lt
  have l7 := HM.rowW.lt
  have HD := Lib.hid (fun nd => (show QDo w ((w.drewN nd).alloc (.cells #[.int .i64 i.op, .int .i64 i.cell, .int .i64 i.a, .int .i64 i.b] 70)) (w.drewN nd).heap.size hb rb vb bb wb p (some ⟨pb, po, none⟩) c st s i from
    ⟨by rw [show ((w.drewN nd).alloc (.cells #[.int .i64 i.op, .int .i64 i.cell, .int .i64 i.a, .int .i64 i.b] 70)).cell? ⟨hb, 0, none⟩ = w.cell? ⟨hb, 0, none⟩ from (((Turned.refl (fun _ => False) w).drewN nd).alloc _).cell (p := ⟨hb, 0, none⟩) l1 (fun h => h)]; exact hM,
      HM.turned (((Turned.refl (fun _ => False) w).drewN nd).alloc _) (fun h => h) (fun h => h) (fun h => h) (fun h => h), (hP.drewN nd).alloc _, Blk.new (w.drewN nd) (insEnc i) _, ((Turned.refl _ w).drewN nd).alloc _, n1, n2, n3, n4, by show w.heap.size ≠ p; omega, by show ¬ rS vb bb wb w.heap.size; unfold rS; omega⟩).drew)
  clear HM hP hi l5 l6 l7
  obtain ⟨op, ce, ra, ib⟩ := i
  have hop := rightB_op hR
  dsimp only at *
  have HR := Lib.hid hR
  have HOV := Lib.hid HO
  have HH := Lib.hid hH
  have N2 := Lib.hid n2
  have N3 := Lib.hid n3
  have HPC : Hid (((s.pc : Int) + 1) = ((s.pc + 1 : Nat) : Int)) := Lib.hid rfl
  clear hR HO n2 n3 hH
  go_enter Try.func15, Try.ntmps15
  go_wp2_with fail
  refine HOV.out.mono ?_
  rintro e w' ⟨rfl, nd, rfl⟩
  have HD0 := Lib.hid (HD.out nd)
  replace hS : (w.drewN nd).cell? ⟨hb, 1, none⟩ = some (.slice (some ⟨sb, 0, none⟩) n cap) := hS
  replace hsl : (w.drewN nd).cell? ⟨sb, k, none⟩ = some (.pointer (some ⟨p, 0, none⟩)) := hsl
  replace hM : (w.drewN nd).cell? ⟨hb, 0, none⟩ = some (.pointer (some ⟨rb, 0, none⟩)) := hM
  replace hi0 : (w.drewN nd).cell? ⟨pb, po + s.pc * 4, none⟩ = some (.int .i64 op) := hi0
  replace hi1 : (w.drewN nd).cell? ⟨pb, po + s.pc * 4 + 1, none⟩ = some (.int .i64 ce) := hi1
  replace hi2 : (w.drewN nd).cell? ⟨pb, po + s.pc * 4 + 2, none⟩ = some (.int .i64 ra) := hi2
  replace hi3 : (w.drewN nd).cell? ⟨pb, po + s.pc * 4 + 3, none⟩ = some (.int .i64 ib) := hi3
  replace hp0 : (w.drewN nd).cell? ⟨p, 0, none⟩ = some (.slice (some ⟨pb, po, none⟩) s.p.length c) := hp0
  replace hp1 : (w.drewN nd).cell? ⟨p, 1, none⟩ = some (.int .i64 s.pc) := hp1
  replace l1 : hb < (w.drewN nd).heap.size := l1
  replace l2 : p < (w.drewN nd).heap.size := l2
  replace l3 : pb < (w.drewN nd).heap.size := l3
  replace l4 : sb < (w.drewN nd).heap.size := l4
  clear HD HOV
  generalize w.drewN nd = W0 at *
  go_wp2_with fail
  go_region
  have D0 := Lib.hid HD0.out
  have hfp : (W0.alloc (.cells #[.int .i64 op, .int .i64 ce, .int .i64 ra, .int .i64 ib] 70)).drew.frozen? ⟨p, 1, none⟩ = false := D0.out.pp.free 1
  clear HD0
  generalize (W0.alloc (.cells #[.int .i64 op, .int .i64 ce, .int .i64 ra, .int .i64 ib] 70)).drew = W at *
  generalize hbx : W0.heap.size = bx at *
  clear hS hsl hM hi0 hi1 hi2 hi3 hp0 hp1 hbx
  have c1 := D0.out.hd
  have x0 := D0.out.x.cell (o := 0) (v := .int .i64 op) rfl
  have x1 := D0.out.x.cell (o := 1) (v := .int .i64 ce) rfl
  have x2 := D0.out.x.cell (o := 2) (v := .int .i64 ra) rfl
  have x3 := D0.out.x.cell (o := 3) (v := .int .i64 ib) rfl
  have hpq := D0.out.pp.cell (o := 1) (v := .int .i64 s.pc) rfl
  have n5 := D0.out.n5
  rcases (show op = 1 ∨ op = 2 ∨ op = 3 ∨ op = 4 ∨ op = 5 ∨ op = 6 ∨ op = 7 ∨ op = 8 ∨ op = 9 ∨ op = 10 by omega) with rfl | rfl | rfl | rfl | rfl | rfl | rfl | rfl | rfl | rfl
  · as_aux_lemma =>
    have ha := rightB_a HR.out (by dsimp only; omega)
    dsimp only at ha
    obtain ⟨j, rfl⟩ : ∃ j : Nat, ra = j := ⟨ra.toNat, by omega⟩
    have hj : j < 4 := by omega
    have hji : (j : Int) < 4 := by omega
    have hreg := D0.out.reg hr hj
    have hf := D0.out.pp.free (2 + j)
    clear ha
    go_wp2_with fail
    go_region
    go_wp2_with fail
    go_ret
    rw [stepI_1 rfl]
    exact ((D0.out.setR j ib).fin (s.pc + 1)).same ⟨rfl, rfl, rfl, rfl⟩
  · as_aux_lemma =>
    have ha := rightB_a HR.out (by dsimp only; omega)
    dsimp only at ha
    obtain ⟨j, rfl⟩ : ∃ j : Nat, ra = j := ⟨ra.toNat, by omega⟩
    have hj : j < 4 := by omega
    have hji : (j : Int) < 4 := by omega
    have hreg := D0.out.reg hr hj
    have hf := D0.out.pp.free (2 + j)
    clear ha
    have hce := rightB_cell HR.out (by dsimp only; omega)
    dsimp only at hce
    obtain ⟨q, rfl⟩ : ∃ q : Nat, ce = q := ⟨ce.toNat, by omega⟩
    have hq := celAt_get (st := st) (j := q) (by omega)
    clear hce
    have HQ := Lib.hid hq
    have D1 := D0.out.drew
    clear hq
    have HLD := Lib.hid (fun n => rload_ok (D0.out.drewN n).m HQ.out)
    go_wp2_with fail
    go_quiet ((go_at_call 44; ((with_reducible exact quietEq (HLD.out _)))))
    go_wp2_with fail
    go_region
    go_wp2_with fail
    go_ret
    rw [stepI_2 rfl]
    exact ((D0.out.setR j _).fin (s.pc + 1)).same ⟨rfl, rfl, rfl, rfl⟩
  · as_aux_lemma =>
    have ha := rightB_a HR.out (by dsimp only; omega)
    dsimp only at ha
    obtain ⟨j, rfl⟩ : ∃ j : Nat, ra = j := ⟨ra.toNat, by omega⟩
    have hj : j < 4 := by omega
    have hji : (j : Int) < 4 := by omega
    have hreg := D0.out.reg hr hj
    have hf := D0.out.pp.free (2 + j)
    clear ha
    have hce := rightB_cell HR.out (by dsimp only; omega)
    dsimp only at hce
    obtain ⟨q, rfl⟩ : ∃ q : Nat, ce = q := ⟨ce.toNat, by omega⟩
    have hq := celAt_get (st := st) (j := q) (by omega)
    clear hce
    have HQ := Lib.hid hq
    have D1 := D0.out.drew
    clear hq
    go_wp2_with fail
    go_region_held3 (fun V => V.cell? ⟨hb, 0, none⟩ = some (.pointer (some ⟨rb, 0, none⟩)) ∧ V.cell? ⟨bx, 1, none⟩ = some (.int .i64 q) ∧ V.cell? ⟨bx, 2, none⟩ = some (.int .i64 j) ∧ V.cell? ⟨p, 2 + j, none⟩ = some (.int .i64 (regAt s.r j))) (first | exact ⟨by assumption, by assumption, by assumption, by assumption, by assumption, by assumption⟩ | exact ⟨by assumption, by assumption, by assumption, by assumption, by assumption⟩ | exact ⟨by assumption, by assumption, by assumption, by assumption⟩ | exact ⟨by assumption, by assumption, by assumption⟩ | exact ⟨by assumption, by assumption⟩ | go_keep) (first | (go_at_call 45; refine (rstore_ok D1.m HQ.out _).mono ?_; rintro e w5 ⟨rfl, hM5, hT5⟩; have D5 := QDo.call D1 hM5 hT5; clear hM5 hT5; have f0 := D5.hd; have f1 := D5.x.cell (o := 1) (v := .int .i64 q) rfl; have f2 := D5.x.cell (o := 2) (v := .int .i64 j) rfl; have f3 := D5.x.cell (o := 3) (v := .int .i64 ib) rfl; have f4 := D5.pp.free 1; have f5 := D5.pp.cell (o := 1) (v := .int .i64 s.pc) rfl; have f6 := D5.reg hr hj; have f7 := D5.pp.free (2 + j)))
    all_goals go_wp2_with fail
    all_goals go_ret
    all_goals rw [stepI_3 rfl]
    all_goals exact (D5.fin (s.pc + 1)).same ⟨rfl, rfl, rfl, rfl⟩
  · as_aux_lemma =>
    have ha := rightB_a HR.out (by dsimp only; omega)
    dsimp only at ha
    obtain ⟨j, rfl⟩ : ∃ j : Nat, ra = j := ⟨ra.toNat, by omega⟩
    have hj : j < 4 := by omega
    have hji : (j : Int) < 4 := by omega
    have hreg := D0.out.reg hr hj
    have hf := D0.out.pp.free (2 + j)
    clear ha
    have hce := rightB_cell HR.out (by dsimp only; omega)
    dsimp only at hce
    obtain ⟨q, rfl⟩ : ∃ q : Nat, ce = q := ⟨ce.toNat, by omega⟩
    have hq := celAt_get (st := st) (j := q) (by omega)
    clear hce
    have HQ := Lib.hid hq
    have D1 := D0.out.drew
    clear hq
    have hbb := rightB_rb HR.out rfl
    dsimp only at hbb
    obtain ⟨t, rfl⟩ : ∃ t : Nat, ib = t := ⟨ib.toNat, by omega⟩
    have ht : t < 4 := by omega
    have hti : (t : Int) < 4 := by omega
    have hreg2 := D0.out.reg hr ht
    have hf2 := D0.out.pp.free (2 + t)
    clear hbb
    by_cases hsw : (celAt st (q : Int)).n = regAt s.r t
    · have HSW := Lib.hid (rswap_yes D1.m HQ.out (regAt s.r j))
      rw [hsw] at HSW
      have HE := Lib.hid (stepI_4 (who := k) (st := st) (s := s) (i := ⟨4, q, j, t⟩) rfl)
      dsimp only at HE
      rw [if_pos hsw] at HE
      clear hsw
      go_wp2_with fail
      go_region_held3 (fun V => V.cell? ⟨hb, 0, none⟩ = some (.pointer (some ⟨rb, 0, none⟩)) ∧ V.cell? ⟨bx, 1, none⟩ = some (.int .i64 q) ∧ V.cell? ⟨bx, 2, none⟩ = some (.int .i64 j) ∧ V.cell? ⟨bx, 3, none⟩ = some (.int .i64 t) ∧ V.cell? ⟨p, 2 + j, none⟩ = some (.int .i64 (regAt s.r j)) ∧ V.cell? ⟨p, 2 + t, none⟩ = some (.int .i64 (regAt s.r t))) (first | exact ⟨by assumption, by assumption, by assumption, by assumption, by assumption, by assumption⟩ | exact ⟨by assumption, by assumption, by assumption, by assumption, by assumption⟩ | exact ⟨by assumption, by assumption, by assumption, by assumption⟩ | exact ⟨by assumption, by assumption, by assumption⟩ | exact ⟨by assumption, by assumption⟩ | go_keep) (first | (go_at_call 46; refine HSW.out.mono ?_; rintro e w5 ⟨rfl, hM5, hT5⟩; have D5 := QDo.call D1 hM5 hT5; clear hM5 hT5; have f0 := D5.hd; have f1 := D5.x.cell (o := 1) (v := .int .i64 q) rfl; have f2 := D5.x.cell (o := 2) (v := .int .i64 j) rfl; have f3 := D5.x.cell (o := 3) (v := .int .i64 t) rfl; have f4 := D5.pp.free 1; have f5 := D5.pp.cell (o := 1) (v := .int .i64 s.pc) rfl; have f6 := D5.reg hr hj; have f7 := D5.pp.free (2 + j); have f8 := D5.reg hr ht; have f9 := D5.pp.free (2 + t)))
      all_goals go_wp2_with fail
      all_goals go_region
      have D6 := (D5.setR t 0).drew
      have g1 := D6.hd
      have g3 := D6.x.cell (o := 3) (v := .int .i64 t) rfl
      have g4 := D6.pp.free 1
      have g5 := D6.pp.cell (o := 1) (v := .int .i64 s.pc) rfl
      have g8 := D6.reg (by simp [hr]) ht
      have g9 := D6.pp.free (2 + t)
      generalize (w5.setCell ⟨p, 2 + t, none⟩ (.int .i64 0)).drew = W6 at *
      clear f0 f1 f2 f3 f4 f5 f6 f7 f8 f9 c1 x0 x1 x2 x3 hpq hreg hreg2 hf hf2
      go_wp2_with fail
      go_region
      go_wp2_with fail
      go_ret
      rw [HE.out]
      have D7 := ((D6.setR t 1).fin (s.pc + 1))
      dsimp only at D7
      rw [List.set_set] at D7
      exact D7.same ⟨rfl, rfl, rfl, rfl⟩
    · have HSW := Lib.hid (fun n => rswap_no (D0.out.drewN n).m HQ.out hsw (regAt s.r j))
      have HE := Lib.hid (stepI_4 (who := k) (st := st) (s := s) (i := ⟨4, q, j, t⟩) rfl)
      dsimp only at HE
      rw [if_neg hsw] at HE
      clear hsw
      go_wp2_with fail
      go_quiet ((go_at_call 46; ((with_reducible exact quietEq (HSW.out _)))))
      go_wp2_with fail
      go_region
      go_wp2_with fail
      go_ret
      rw [HE.out]
      exact ((D0.out.setR t 0).fin (s.pc + 1)).same ⟨rfl, rfl, rfl, rfl⟩
  · as_aux_lemma =>
    have ha := rightB_a HR.out (by dsimp only; omega)
    dsimp only at ha
    obtain ⟨j, rfl⟩ : ∃ j : Nat, ra = j := ⟨ra.toNat, by omega⟩
    have hj : j < 4 := by omega
    have hji : (j : Int) < 4 := by omega
    have hreg := D0.out.reg hr hj
    have hf := D0.out.pp.free (2 + j)
    clear ha
    have hce := rightB_cell HR.out (by dsimp only; omega)
    dsimp only at hce
    obtain ⟨q, rfl⟩ : ∃ q : Nat, ce = q := ⟨ce.toNat, by omega⟩
    have hq := celAt_get (st := st) (j := q) (by omega)
    clear hce
    have HQ := Lib.hid hq
    have D1 := D0.out.drew
    clear hq
    go_wp2_with fail
    go_region_held3 (fun V => V.cell? ⟨hb, 0, none⟩ = some (.pointer (some ⟨rb, 0, none⟩)) ∧ V.cell? ⟨bx, 1, none⟩ = some (.int .i64 q) ∧ V.cell? ⟨bx, 3, none⟩ = some (.int .i64 ib)) (first | exact ⟨by assumption, by assumption, by assumption, by assumption, by assumption, by assumption⟩ | exact ⟨by assumption, by assumption, by assumption, by assumption, by assumption⟩ | exact ⟨by assumption, by assumption, by assumption, by assumption⟩ | exact ⟨by assumption, by assumption, by assumption⟩ | exact ⟨by assumption, by assumption⟩ | go_keep) (first | (go_at_call 47; refine (radd_ok D1.m HQ.out _).mono ?_; rintro e w5 ⟨rfl, hM5, hT5⟩; have D5 := QDo.call D1 hM5 hT5; clear hM5 hT5; have f0 := D5.hd; have f1 := D5.x.cell (o := 1) (v := .int .i64 q) rfl; have f2 := D5.x.cell (o := 2) (v := .int .i64 j) rfl; have f3 := D5.x.cell (o := 3) (v := .int .i64 ib) rfl; have f4 := D5.pp.free 1; have f5 := D5.pp.cell (o := 1) (v := .int .i64 s.pc) rfl; have f6 := D5.reg hr hj; have f7 := D5.pp.free (2 + j)))
    all_goals go_wp2_with fail
    all_goals go_region
    all_goals go_wp2_with fail
    all_goals go_ret
    all_goals rw [stepI_5 rfl]
    all_goals exact ((D5.setR j _).fin (s.pc + 1)).same ⟨rfl, rfl, rfl, rfl⟩
  · as_aux_lemma =>
    have ha := rightB_a HR.out (by dsimp only; omega)
    dsimp only at ha
    obtain ⟨j, rfl⟩ : ∃ j : Nat, ra = j := ⟨ra.toNat, by omega⟩
    have hj : j < 4 := by omega
    have hji : (j : Int) < 4 := by omega
    have hreg := D0.out.reg hr hj
    have hf := D0.out.pp.free (2 + j)
    clear ha
    have hw := wrap_add_u64 (regAt s.r j) ib
    go_wp2_with fail
    go_region
    go_wp2_with fail
    go_ret
    rw [stepI_6 rfl]
    exact ((D0.out.setR j _).fin (s.pc + 1)).same ⟨rfl, rfl, rfl, rfl⟩
  · as_aux_lemma =>
    have ha := rightB_a HR.out (by dsimp only; omega)
    dsimp only at ha
    obtain ⟨j, rfl⟩ : ∃ j : Nat, ra = j := ⟨ra.toNat, by omega⟩
    have hj : j < 4 := by omega
    have hji : (j : Int) < 4 := by omega
    have hreg := D0.out.reg hr hj
    have hf := D0.out.pp.free (2 + j)
    clear ha
    have hbb := rightB_b HR.out (by dsimp only; omega)
    dsimp only at hbb
    obtain ⟨t, rfl⟩ : ∃ t : Nat, ib = t := ⟨ib.toNat, by omega⟩
    have HE := Lib.hid (stepI_7 (who := k) (st := st) (s := s) (i := ⟨7, ce, j, t⟩) rfl)
    dsimp only at HE
    by_cases h0 : regAt s.r j = 0
    · rw [if_pos h0] at HE
      rw [h0] at hreg
      clear h0
      go_wp2_with fail
      go_quiet (fail)
      go_wp2_with fail
      go_ret
      rw [HE.out]
      exact (D0.out.fin t).same ⟨rfl, rfl, rfl, rfl⟩
    · rw [if_neg h0] at HE
      have h0' : (regAt s.r j == 0) = false := by simpa using h0
      clear h0
      go_wp2_with fail
      go_quiet (fail)
      go_wp2_with fail
      go_ret
      rw [HE.out]
      exact (D0.out.fin (s.pc + 1)).same ⟨rfl, rfl, rfl, rfl⟩
  · as_aux_lemma =>
    have hbb := rightB_b HR.out (by dsimp only; omega)
    dsimp only at hbb
    obtain ⟨t, rfl⟩ : ∃ t : Nat, ib = t := ⟨ib.toNat, by omega⟩
    clear hbb
    go_wp2_with fail
    go_ret
    rw [stepI_8 rfl]
    exact (D0.out.fin t).same ⟨rfl, rfl, rfl, rfl⟩
  · as_aux_lemma =>
    have hce := rightB_cell HR.out (by dsimp only; omega)
    dsimp only at hce
    obtain ⟨q, rfl⟩ : ∃ q : Nat, ce = q := ⟨ce.toNat, by omega⟩
    have hq := celAt_get (st := st) (j := q) (by omega)
    clear hce
    have hmem := HH.out _ (List.mem_of_getElem? hq)
    have hsk : Ses (k : Int) := ⟨by omega, by omega⟩
    have HQ := Lib.hid hq
    have D1 := D0.out.drew
    clear hq
    have HE := Lib.hid (stepI_9 (who := k) (st := st) (s := s) (i := ⟨9, q, ra, ib⟩) rfl)
    dsimp only at HE
    by_cases hc : (celAt st (q : Int)).h = -1
    · rw [if_pos hc] at HE
      have HLK := Lib.hid (rlock_ok D1.m HQ.out hc hsk)
      clear hc hmem hsk
      go_wp2_with fail
      go_region_held3 (fun V => V.cell? ⟨hb, 0, none⟩ = some (.pointer (some ⟨rb, 0, none⟩)) ∧ V.cell? ⟨bx, 1, none⟩ = some (.int .i64 q)) (first | exact ⟨by assumption, by assumption⟩ | go_keep) (first | (go_at_call 48; refine HLK.out.mono ?_; rintro e w5 ⟨rfl, hM5, hT5⟩; have D5 := QDo.call D1 hM5 hT5; clear hM5 hT5; have f0 := D5.hd; have f1 := D5.x.cell (o := 1) (v := .int .i64 q) rfl; have f4 := D5.pp.free 1; have f5 := D5.pp.cell (o := 1) (v := .int .i64 s.pc) rfl))
      all_goals go_wp2_with fail
      all_goals go_ret
      all_goals rw [HE.out]
      all_goals exact (D5.fin (s.pc + 1)).same ⟨rfl, rfl, rfl, rfl⟩
    · rw [if_neg hc] at HE
      have h0 : 0 ≤ (celAt st (q : Int)).h := by
        rcases hmem with h | h
        · exact absurd h hc
        · exact h.1
      have HLK := Lib.hid (fun n => rlock_busy (D0.out.drewN n).m HQ.out h0 hsk)
      clear hc hmem hsk h0
      go_wp2_with fail
      go_quiet ((go_at_call 48; ((with_reducible exact quietEq (HLK.out _)))))
      go_wp2_with fail
      go_ret
      rw [HE.out]
      exact (D0.out.fin s.pc).same ⟨rfl, rfl, rfl, rfl⟩
  · as_aux_lemma =>
    have hce := rightB_cell HR.out (by dsimp only; omega)
    dsimp only at hce
    obtain ⟨q, rfl⟩ : ∃ q : Nat, ce = q := ⟨ce.toNat, by omega⟩
    have hq := celAt_get (st := st) (j := q) (by omega)
    clear hce
    have hmem := HH.out _ (List.mem_of_getElem? hq)
    have hsk : Ses (k : Int) := ⟨by omega, by omega⟩
    have HQ := Lib.hid hq
    have D1 := D0.out.drew
    clear hq
    have HE := Lib.hid (stepI_10 (who := k) (st := st) (s := s) (i := ⟨10, q, ra, ib⟩) rfl)
    dsimp only at HE
    by_cases hc : (celAt st (q : Int)).h = k
    · rw [if_pos hc] at HE
      have HFR := Lib.hid (rfree_ok D1.m HQ.out (by rw [hc]; exact hsk))
      rw [hc] at HFR
      clear hc hmem hsk
      go_wp2_with fail
      go_region_held3 (fun V => V.cell? ⟨hb, 0, none⟩ = some (.pointer (some ⟨rb, 0, none⟩)) ∧ V.cell? ⟨bx, 1, none⟩ = some (.int .i64 q)) (first | exact ⟨by assumption, by assumption⟩ | go_keep) (first | (go_at_call 49; refine HFR.out.mono ?_; rintro e w5 ⟨rfl, hM5, hT5⟩; have D5 := QDo.call D1 hM5 hT5; clear hM5 hT5; have f0 := D5.hd; have f1 := D5.x.cell (o := 1) (v := .int .i64 q) rfl; have f4 := D5.pp.free 1; have f5 := D5.pp.cell (o := 1) (v := .int .i64 s.pc) rfl))
      all_goals go_wp2_with fail
      all_goals go_ret
      all_goals rw [HE.out]
      all_goals exact (D5.fin (s.pc + 1)).same ⟨rfl, rfl, rfl, rfl⟩
    · rw [if_neg hc] at HE
      have HFR := Lib.hid (fun n => rfree_none (D0.out.drewN n).m HQ.out hc hsk)
      clear hc hmem hsk
      go_wp2_with fail
      go_quiet ((go_at_call 49; ((with_reducible exact quietEq (HFR.out _)))))
      go_wp2_with fail
      go_ret
      rw [HE.out]
      exact (D0.out.fin (s.pc + 1)).same ⟨rfl, rfl, rfl, rfl⟩
end Go.Proofs.Ytdbmieofcdafkaa
