/- Texts that lie next to one another, laid into one: each says what it holds. No condition but what each states. -/
import Derived.Test.YtmmkcfiecgpkpaaGreatBdRing
import Derived.Test.YtmmkcfiecgpkpaaGreatBdPool
import Derived.Test.YtmmkcfiecgpkpaaGreatBdPtRef
import Derived.RangeFuncNested
import Derived.RangeFuncBound
import Derived.RangeFuncCalls
import Derived.RangeFuncLeaves
import Derived.RangeFuncBox
import Derived.Maps.AppendAt
import Derived.Shelf.Abstract
import Derived.OwnWalkIn
import Derived.TacticsInMore
import Derived.LoopNIn
import Derived.LoopIn
import Derived.Test.YtmmkcfiecgpkpaaGreatBdIter
import Derived.Test.YtmmkcfiecgpkpaaGreatBdPlain
import Derived.Maps.OwnIn
import Derived.Test.YtmmkcfiecgpkpaaGreatBdPtA

/- The program's partition, as it lies in memory: what holds a ring, a pool and a policy. What its plain readers answer. No condition but that it is one. -/
namespace Go.Proofs.YtmmkcfiecgpkpaaGreat
open Go.RowKit
set_option linter.unusedVariables false
set_option linter.unusedSimpArgs false
set_option maxRecDepth 100000

/-- The program's partition, its ring told. -/
abbrev xrT (x q r : Nat) (ov : Bool) (M : RM) : Thing := (blkT x [.pointer (some ⟨r, 0, none⟩), .pointer (some ⟨q, 0, none⟩), .int .i64 (polB ov)] 129).sep (rT r M)
/-- The program's partition. -/
def xT (x q : Nat) (M : RM) : Thing where
  at_ w W := ∃ r, (xrT x q r M.ov M).at_ w W
  lt := by rintro w W ⟨r, h⟩; exact Thing.lt _ h
  keep := by rintro w w' W S ⟨r, h⟩ ht hs; exact ⟨r, Thing.keep _ h ht hs⟩
abbrev xsT (q : Nat) (P : PM) (x r : Nat) (ov : Bool) (M : RM) : Thing := (pT q P).sep (xrT x q r ov M)

theorem xs_open {w : World} {W : Nat → Prop} {q x : Nat} {P : PM} {M : RM} (h : ((pT q P).sep (xT x q M)).at_ w W) : ∃ r, (xsT q P x r M.ov M).at_ w W := by
  obtain ⟨W1, W2, h1, ⟨r, h2⟩, hd, hW⟩ := h
  exact ⟨r, W1, W2, h1, h2, hd, hW⟩
theorem xs_shut {w : World} {W : Nat → Prop} {q x r : Nat} {P : PM} {ov : Bool} {M : RM} (e : ov = M.ov) (h : (xsT q P x r ov M).at_ w W) : ((pT q P).sep (xT x q M)).at_ w W := by
  subst e
  obtain ⟨W1, W2, h1, h2, hd, hW⟩ := h
  exact ⟨W1, W2, h1, ⟨r, h2⟩, hd, hW⟩
theorem xs_goes {w w' : World} {W : Nat → Prop} {q x r : Nat} {P : PM} {ov : Bool} {M : RM} (e : ov = M.ov) (h : Goes (xsT q P x r ov M) W w w') : Goes ((pT q P).sep (xT x q M)) W w w' := h.turn (fun h => xs_shut e h)

/-- What can be read of a partition. -/
structure XRt (x r q : Nat) (ov : Bool) (M : RM) (w : World) : Prop where
  c0 : w.cell? ⟨x, 0, none⟩ = some (.pointer (some ⟨r, 0, none⟩))
  c1 : w.cell? ⟨x, 1, none⟩ = some (.pointer (some ⟨q, 0, none⟩))
  c2 : w.cell? ⟨x, 2, none⟩ = some (.int .i64 (polB ov))
  ring : ∃ W, (rT r M).at_ w W
theorem XRt.still {x r q : Nat} {ov : Bool} {M : RM} {w w' : World} (h : XRt x r q ov M w) (ht : Still w w') : XRt x r q ov M w' :=
  ⟨still_cell ht h.c0 rfl, still_cell ht h.c1 rfl, still_cell ht h.c2 rfl, by obtain ⟨W, hW⟩ := h.ring; exact ⟨W, (rT r M).keep hW ht (fun _ _ h => h)⟩⟩
theorem xrT_rt {x r q : Nat} {ov : Bool} {M : RM} {w : World} {W : Nat → Prop} (h : (xrT x q r ov M).at_ w W) : XRt x r q ov M w := by
  obtain ⟨W1, W2, ⟨h1, _⟩, h2, _⟩ := h
  exact ⟨h1.cell rfl, h1.cell rfl, h1.cell rfl, W2, h2⟩
/-- With its pool. -/
structure XAt (q : Nat) (P : PM) (x r : Nat) (ov : Bool) (M : RM) (w : World) : Prop extends XRt x r q ov M w where
  pool : ∃ W, (pT q P).at_ w W
theorem XAt.still {x r q : Nat} {P : PM} {ov : Bool} {M : RM} {w w' : World} (h : XAt q P x r ov M w) (ht : Still w w') : XAt q P x r ov M w' :=
  ⟨h.toXRt.still ht, by obtain ⟨W, hW⟩ := h.pool; exact ⟨W, (pT q P).keep hW ht (fun _ _ h => h)⟩⟩
theorem xsT_at {q x r : Nat} {P : PM} {ov : Bool} {M : RM} {w : World} {W : Nat → Prop} (h : (xsT q P x r ov M).at_ w W) : XAt q P x r ov M w := by
  obtain ⟨W1, W2, h1, h2, _⟩ := h
  exact ⟨xrT_rt h2, W1, h1⟩
theorem Sit.xs {Q0 : Nat → Prop} {w0 w : World} {q x r : Nat} {P : PM} {ov : Bool} {M : RM} (h : Sit Q0 w0 w (xsT q P x r ov M)) : XAt q P x r ov M w := by
  obtain ⟨Q, h, _⟩ := h; exact xsT_at h

section
variable {x r q : Nat} {ov : Bool} {M : RM} {w : World} {K : Nat}
theorem xmade_any (h : XRt x r q ov M w) : Calls Tryz.prog 80 #[.pointer (some ⟨x, 0, none⟩)] w fun e w' => e = .returned (.bool true) ∧ w = w' := by
  have c1 := h.c1
  clear h
  go_enter Tryz.func80, Tryz.ntmps80
  go_wp2
  go_ret
  exact ⟨rfl, rfl⟩
theorem xwin_any (h : XRt x r q ov M w) : Calls Tryz.prog 52 #[.pointer (some ⟨x, 0, none⟩)] w fun e w' => e = .returned (.pointer (some ⟨r, 0, none⟩)) ∧ w = w' := by
  have HM := Lib.hid (xmade_any h)
  have c0 := h.c0
  clear h
  go_enter Tryz.func52, Tryz.ntmps52
  go_wp2_with (go_at_call 80; ((with_reducible refine HM.out.mono ?_)); rintro e w' ⟨rfl, rfl⟩)
  go_ret
  exact ⟨rfl, rfl⟩
theorem xhead_any (h : XRt x r q ov M w) (hM : M.Ok K) (hK : K < 1000000) : Calls Tryz.prog 57 #[.pointer (some ⟨x, 0, none⟩)] w fun e w' => e = .returned (.int .i64 M.h) ∧ Still w w' := by
  have HW := Lib.hid (xwin_any h)
  obtain ⟨W, hr⟩ := h.ring
  have HC := Lib.hid (ring_api.head hr hM hK)
  clear h hr hM
  go_enter Tryz.func57, Tryz.ntmps57
  go_wp2_with (first
    | (go_at_call 52; ((with_reducible refine HW.out.mono ?_)); rintro e w' ⟨rfl, rfl⟩)
    | (go_at_call 85; ((with_reducible refine HC.out.mono ?_)); rintro e w1 ⟨rfl, hs⟩; have H1 := Lib.hid hs; clear hs))
  go_ret
  exact ⟨rfl, H1.out⟩
theorem xtail_any (h : XRt x r q ov M w) (hM : M.Ok K) (hK : K < 1000000) : Calls Tryz.prog 32 #[.pointer (some ⟨x, 0, none⟩)] w fun e w' => e = .returned (.int .i64 M.tail) ∧ Still w w' := by
  have HW := Lib.hid (xwin_any h)
  obtain ⟨W, hr⟩ := h.ring
  have HC := Lib.hid (ring_api.tail hr hM hK)
  clear h hr hM
  go_enter Tryz.func32, Tryz.ntmps32
  go_wp2_with (first
    | (go_at_call 52; ((with_reducible refine HW.out.mono ?_)); rintro e w' ⟨rfl, rfl⟩)
    | (go_at_call 61; ((with_reducible refine HC.out.mono ?_)); rintro e w1 ⟨rfl, hs⟩; have H1 := Lib.hid hs; clear hs))
  go_ret
  exact ⟨rfl, H1.out⟩
theorem xready_any (h : XRt x r q ov M w) (hM : M.Ok K) (hK : K < 1000000) (a : Int) (ha : w64 a) : Calls Tryz.prog 118 #[.pointer (some ⟨x, 0, none⟩), .int .i64 a] w fun e w' => e = .returned (.int .i64 (M.ready a)) ∧ Still w w' := by
  have HW := Lib.hid (xwin_any h)
  obtain ⟨W, hr⟩ := h.ring
  have HC := Lib.hid (ring_api.ready hr hM hK a ha)
  generalize M.ready a = ra at *
  clear h hr hM
  go_enter Tryz.func118, Tryz.ntmps118
  go_wp2_with (first
    | (go_at_call 52; ((with_reducible refine HW.out.mono ?_)); rintro e w' ⟨rfl, rfl⟩)
    | (go_at_call 122; ((with_reducible refine HC.out.mono ?_)); rintro e w1 ⟨rfl, hs⟩; have H1 := Lib.hid hs; clear hs))
  go_ret
  exact ⟨rfl, H1.out⟩

set_option maxHeartbeats 1000000 in
theorem xfull_any (h : XRt x r q ov M w) (hM : M.Ok K) (hK : K < 1000000) : Calls Tryz.prog 70 #[.pointer (some ⟨x, 0, none⟩)] w fun e w' => e = .returned (.bool (decide (M.l.length = M.n))) ∧ Still w w' := by
  have HC := Lib.hid (fun V (ht : Still w V) => show V.cell? ⟨x, 0, none⟩ = some (.pointer (some ⟨r, 0, none⟩)) from (h.still ht).c0)
  have HH := Lib.hid (fun V (ht : Still w V) => (xhead_any (h.still ht) hM hK).mono (fun e w' (he : _ ∧ _) => And.intro he.1 (ht.trans he.2)))
  have HT := Lib.hid (fun V (ht : Still w V) => (xtail_any (h.still ht) hM hK).mono (fun e w' (he : _ ∧ _) => And.intro he.1 (ht.trans he.2)))
  have HR := Lib.hid (fun V (ht : Still w V) => show Calls Tryz.prog 99 #[.pointer (some ⟨r, 0, none⟩)] V fun e w' => e = .returned (.int .i64 M.n) ∧ Still w w' from by
    obtain ⟨W, hr⟩ := (h.still ht).ring
    exact (ring_api.room hr hM hK).mono (fun e w' (he : _ ∧ _) => And.intro he.1 (ht.trans he.2)))
  obtain ⟨t, htl⟩ : ∃ t : Int, t = (M.tail : Int) := ⟨_, rfl⟩
  obtain ⟨d, hd⟩ : ∃ d : Int, d = (M.h : Int) := ⟨_, rfl⟩
  obtain ⟨n, hn⟩ : ∃ n : Int, n = (M.n : Int) := ⟨_, rfl⟩
  have hlo := hM.low
  have hts : t = d + (M.l.length : Int) := by rw [htl, hd]; unfold RM.tail; omega
  have hb : 0 ≤ d ∧ d ≤ 1000000 := by unfold RM.tail at hlo; omega
  have hb2 : 0 ≤ t ∧ t ≤ 1000000 := by omega
  have hwr : IntKind.i64.wrap (t - d) = t - d := by rw [IntKind.wrap_i64]; omega
  have HB := Lib.hid (show (t - d == n) = decide (M.l.length = M.n) from by
    rw [Bool.eq_iff_iff, beq_iff_eq, decide_eq_true_iff]; omega)
  have hTd : Still w w.drew := (Turned.refl _ w).drew
  have c0 := h.c0
  have c0d := (h.still hTd).c0
  rw [← htl] at HT
  rw [← hd] at HH
  rw [← hn] at HR
  generalize decide (M.l.length = M.n) = ans at *
  clear h hM hlo hts htl hd hn
  go_enter Tryz.func70, Tryz.ntmps70
  go_wp2_with fail
  go_region_held3 (fun V => V.cell? ⟨x, 0, none⟩ = some (.pointer (some ⟨r, 0, none⟩))) (first | assumption | go_keep) (first
    | (go_at_call 32; ((with_reducible refine (HT.out _ (by assumption)).mono ?_)); rintro e w5 ⟨rfl, hT5⟩; have f5 := HC.out w5 hT5)
    | (go_at_call 57; ((with_reducible refine (HH.out _ (by assumption)).mono ?_)); rintro e w6 ⟨rfl, hT6⟩; have f6 := HC.out w6 hT6)
    | (go_at_call 99; ((with_reducible refine (HR.out _ (by assumption)).mono ?_)); rintro e w7 ⟨rfl, hT7⟩; have f7 := HC.out w7 hT7))
  all_goals go_wp2_with fail
  all_goals go_ret
  all_goals exact ⟨by rw [← HB.out]; simp, by assumption⟩
end
end Go.Proofs.YtmmkcfiecgpkpaaGreat

/- The iterator of package part goes through the window's places, each with its envelope's handle. No condition but that the partition is one. -/
namespace Go.Proofs.YtmmkcfiecgpkpaaGreat
open Go.RowKit Go.Shelf
attribute [local go_sem] Oper.semAt_some
set_option linter.unusedVariables false
set_option linter.unusedSimpArgs false
set_option maxRecDepth 100000

/-- The window's places: their offsets, and their handles. -/
def evL (h : Nat) (R : List Int) : List (Nat × Int) := R.mapIdx fun i y => (h + i, y)
theorem evL_length (h : Nat) (R : List Int) : (evL h R).length = R.length := by simp [evL]
theorem evL_get {h : Nat} {R : List Int} {i : Nat} {y : Int} (e : R[i]? = some y) : (evL h R)[i]? = some (h + i, y) := by simp [evL, e]
theorem evL_some {h : Nat} {R : List Int} {i : Nat} {z : Nat × Int} (e : (evL h R)[i]? = some z) : ∃ y, R[i]? = some y ∧ z = (h + i, y) := by
  unfold evL at e
  rw [List.getElem?_mapIdx] at e
  cases hr : R[i]? with
  | none => rw [hr] at e; cases e
  | some y => rw [hr] at e; exact ⟨y, rfl, by simpa using e.symm⟩
abbrev encE (x : Nat × Int) : Array Value := #[.int .i64 (x.1 : Int), .int .i64 x.2]

theorem xenvs_any (p : Option Addr) (w : World) : Calls Tryz.prog 86 #[.pointer p] w fun e w' => e = .returned (.func (.func 112) #[] #[.pointer (some ⟨w.heap.size, 0, none⟩)]) ∧
    w' = w.alloc (.cells #[.pointer p] 47) := by
  go_enter Tryz.func86, Tryz.ntmps86
  go_wp2
  go_ret
  exact ⟨rfl, rfl⟩

/-- What the iterator reads: the partition, and the box that holds where it lies. -/
def evR (B x q r : Nat) (ov : Bool) (M : RM) : Thing := (blkT B [.pointer (some ⟨x, 0, none⟩)] 47).sep (xrT x q r ov M)
theorem evR_new {x q r : Nat} {ov : Bool} {M : RM} {w : World} {W : Nat → Prop} (h : (xrT x q r ov M).at_ w W) : (evR w.heap.size x q r ov M).at_ (w.alloc (.cells #[.pointer (some ⟨x, 0, none⟩)] 47)) (fun k => k = w.heap.size ∨ W k) :=
  ⟨(· = w.heap.size), W, ⟨Blk.new w [.pointer (some ⟨x, 0, none⟩)] 47, fun _ => Iff.rfl⟩, (xrT x q r ov M).keep h ((Turned.refl _ _).alloc _) (fun _ _ h => h), fun k e hk => by have := (xrT x q r ov M).lt h k hk; omega, fun _ => Iff.rfl⟩

set_option maxHeartbeats 2000000 in
theorem xenvs_it {x q r : Nat} {ov : Bool} {M : RM} {K : Nat} (hM : M.Ok K) (hK : K < 1000000) (B : Nat) :
    IterS 112 #[.pointer (some ⟨B, 0, none⟩)] encE (evL M.h M.refs) (evR B x q r ov M) := by
  intro l J Jx W Q S hR h0 hd hY
  have HX := Lib.hid (fun V (h : ∃ Q', Since Q W Q' V) => show V.cell? ⟨B, 0, none⟩ = some (.pointer (some ⟨x, 0, none⟩)) ∧ XRt x r q ov M V from by
    obtain ⟨Q', hs⟩ := h
    obtain ⟨U1, U2, ⟨u1, _⟩, u2, _⟩ := (hs.stays (A := evR B x q r ov M) hR hd).1
    exact ⟨u1.cell rfl, xrT_rt u2⟩)
  have HY := Lib.hid (fun k z W1 Q1 (hz : (evL M.h M.refs)[k]? = some z) (h1 : (J k).at_ W1 Q1) (h2 : Since Q W Q1 W1) => YieldAt.any 8 (hY k z W1 Q1 hz h1 h2))
  have HL := Lib.hid (show (evL M.h M.refs).length = M.l.length from by rw [evL_length]; exact List.length_map _)
  obtain ⟨m, hm⟩ : ∃ m, m = M.l.length := ⟨_, rfl⟩
  have hm64 : m ≤ 64 := by have := hM.len; have := hM.max; omega
  have hhd : M.h < 1000000 := by have := hM.low; unfold RM.tail at this; omega
  have HRl := Lib.hid (show m = M.refs.length from by rw [hm]; exact (List.length_map _).symm)
  obtain ⟨e1, hx1⟩ := HX.out W ⟨Q, Since.refl _ _⟩
  have HMd := Lib.hid (xmade_any hx1)
  have e2 := hx1.c0
  have HRf := Lib.hid (show Calls Tryz.prog 113 #[.pointer (some ⟨r, 0, none⟩)] W (OutNums W M.refs m) from by
    obtain ⟨W3, h3⟩ := hx1.ring
    exact ring_api.refs h3 hM hK m hm)
  have HHd := Lib.hid (fun V (h : ∃ Q', Since Q W Q' V) => xhead_any (HX.out V h).2 hM hK)
  have H0 := Lib.hid h0
  obtain ⟨hh, hhe⟩ : ∃ hh : Nat, hh = M.h := ⟨_, rfl⟩
  obtain ⟨R, hRe⟩ : ∃ R, R = M.refs := ⟨_, rfl⟩
  have hhl : (hh : Int) < 1000000 := by omega
  rw [← hhe, ← hRe] at HY
  rw [← hhe, ← hRe, ← hm] at HL
  rw [← hRe] at HRl HRf
  rw [← hhe] at HHd
  rw [← hhe, ← hRe]
  have HLt := Lib.hid (fun (J' : Thing) (V : World) (Q' : Nat → Prop) (h : J'.at_ V Q') => fun k hk => J'.lt h k hk)
  have hro : Fence.wide.round = none := rfl
  have hf1 : Fence.wide.fn 80 := trivial
  have hf2 : Fence.wide.fn 113 := trivial
  have hf3 : Fence.wide.fn 57 := trivial
  clear hR h0 hd hY hm hx1 hM hhd hhe hRe
  refine (callsIn_wide (n := 9)).1 (callsIn_of_wp Tryz.func112 rfl trivial ?_ rfl)
  simp only [Tryz.ntmps112, List.size_toArray, List.length_cons, List.length_nil, Nat.reduceAdd, Nat.reduceSub, Array.replicate_succ, Array.replicate_zero, List.push_toArray, List.append_toArray, List.nil_append, List.cons_append]
  gi_wp2_with (first
    | (gi_at_call 80; ((with_reducible refine (callsIn_wide.2 HMd.out).mono ?_)); rintro e w4 ⟨rfl, rfl⟩)
    | (gi_at_call 113; ((with_reducible refine (callsIn_wide.2 HRf.out).mono ?_)); rintro e w5 ⟨a5, c5, rfl, hrow, hst⟩; have H5 := Lib.hid hrow; have HT5 := Lib.hid hst; clear hrow hst))
  obtain ⟨S5, hS5⟩ : ∃ S5 : Nat → Prop, S5 = fun k => (Value.slice a5 m c5).ownBlock = some k := ⟨_, rfl⟩
  have hA5 : (ownT 3 1 a5 m c5 (ints R)).at_ w5 S5 := ⟨ow_base H5.out (Nat.zero_le _), fun k => by rw [hS5]⟩
  have hd5 : ∀ k, Q k → ¬ S5 k := fun k hk hs => by
    rw [hS5] at hs
    have h1 := HLt.out _ _ _ H0.out k hk
    cases a5 with
    | none => cases hs
    | some z =>
      have h2 := (ow_lt H5.out z rfl).1
      have h3 : z.block = k := by simpa [Value.ownBlock] using hs
      omega
  have hle5 : m ≤ c5 := (ow_le H5.out).1
  have HJ5 := Lib.hid (show (J 0).at_ w5 Q from (J 0).keep H0.out HT5.out (fun _ _ h => h))
  have HS5 := Lib.hid (show Since Q W Q w5 from ⟨HT5.out.mono (fun _ _ h => h.elim), fun _ h => .inl h⟩)
  have HRow := Lib.hid (fun V Q' (hs : Since Q w5 Q' V) => show NumsAt V a5 R from ownT_ints (hs.stays (A := ownT 3 1 a5 m c5 (ints R)) hA5 hd5).1 HRl.out)
  clear hS5 hA5 hd5
  gi_loopw [14] (fun i wr => ∃ (k : Nat) (Q' : Nat → Prop), k ≤ m ∧ i = .int .i64 k ∧ (J k).at_ wr Q' ∧ Since Q W Q' wr ∧ Since Q w5 Q' wr) (fun i _ => m - (intOf i).toNat)
  case atStart => exact ⟨0, Q, Nat.zero_le _, rfl, HJ5.out, HS5.out, Since.refl _ _⟩
  case round =>
    clear e1 e2
    obtain ⟨k, Q', hk, rfl, hJk, hsi, hs5⟩ := hrel
    by_cases hlt : k < m
    · obtain ⟨y, hy⟩ := get_some (l := R) (i := k) (by rw [← HRl.out]; exact hlt)
      obtain ⟨b, o, rfl, hc⟩ := HRow.out wr Q' hs5 k y hy
      have e1 := (HX.out wr ⟨Q', hsi⟩).1
      have HHk := Lib.hid (HHd.out wr ⟨Q', hsi⟩)
      have HYk := Lib.hid (fun V (ht : Still wr V) => show ∃ fn tmps assign body, _ ∧ RoundIn Fence.wide 8 Tryz.prog l fn tmps assign body V _ from
        HY.out k _ V Q' (evL_get hy) ((J k).keep hJk ht (fun _ _ h => h)) (hsi.trans ⟨ht.mono (fun _ _ h => h.elim), fun _ h => .inl h⟩))
      have HSi := Lib.hid hsi
      have HS5' := Lib.hid hs5
      have hki : (k : Int) < (m : Int) := by omega
      have hcs : ((hh + k : Nat) : Int) = (hh : Int) + (k : Int) := by omega
      dsimp only [encE] at HYk
      rw [hcs] at HYk
      clear hJk hsi hs5 hy hcs
      gi_wp2_with (gi_at_call 57; ((with_reducible refine (callsIn_wide.2 HHk.out).mono ?_)); rintro e w6 ⟨rfl, hs6⟩; have HT6 := Lib.hid hs6; obtain ⟨fn6, tm6, as6, bd6, hyy, hRo⟩ := HYk.out w6 hs6; have HRo := Lib.hid hRo; clear hs6 hRo)
      refine (RoundIn.any _ HRo.out).mono ?_
      rintro e W3 (⟨rfl, Q3, hJ3, hT3, hG3⟩ | ⟨rfl, hg3⟩)
      · gi_wp2
        go_roundw
        case rel =>
          have ht6 : Since Q' wr Q' w6 := ⟨HT6.out.mono (fun _ _ h => h.elim), fun _ h => .inl h⟩
          exact ⟨k + 1, Q3, by omega, by go_num, hJ3, (HSi.out.trans ht6).trans ⟨hT3, hG3⟩, (HS5'.out.trans ht6).trans ⟨hT3, hG3⟩⟩
        case measure => simp [intOf]; omega
      · have HEnd := Lib.hid (show ∃ k, k < (evL hh R).length ∧ Goes (Jx k) Q W W3 from by
          refine ⟨k, by rw [HL.out]; exact hlt, ?_⟩
          have ht6 : Since Q' wr Q' w6 := ⟨HT6.out.mono (fun _ _ h => h.elim), fun _ h => .inl h⟩
          obtain ⟨Q3, h1, h2⟩ := hg3.since
          exact ((HSi.out.trans ht6).trans h2).goes h1)
        clear hg3
        gi_wp2
        refine bodyPost_ret (results_none rfl _ _ _) rfl ?_
        exact ⟨⟨_, rfl⟩, .inr HEnd.out⟩
    · obtain rfl : k = m := by omega
      have HEnd := Lib.hid (show Goes (J (evL hh R).length) Q W wr from by rw [HL.out]; exact hsi.goes hJk)
      clear hJk hsi hs5
      gi_wp2
      go_end0
      exact ⟨⟨_, rfl⟩, .inl HEnd.out⟩
end Go.Proofs.YtmmkcfiecgpkpaaGreat

/- What envelope of the program's partition answers: the handle of the place at an offset. No condition but that it is one. -/
namespace Go.Proofs.YtmmkcfiecgpkpaaGreat
open Go.RowKit Go.Shelf
attribute [local go_sem] Oper.semAt_some
set_option linter.unusedVariables false
set_option linter.unusedSimpArgs false
set_option maxRecDepth 100000

/-- The handle of the place at an offset; 0, if there is none. -/
def RM.envR (M : RM) (a : Int) : Int := if M.findE a = 0 then (M.pl a).r else 0
theorem envR_at {M : RM} {a : Int} {k : Nat} {y : Int} (h : M.refs[k]? = some y) (e : ((M.h + k : Nat) : Int) = a) : M.envR a = y := by
  unfold RM.refs at h
  rw [List.getElem?_map] at h
  cases hp : M.l[k]? with
  | none => rw [hp] at h; cases h
  | some p =>
    rw [hp] at h
    have hpr : p.r = y := by simpa using h
    have hlt := (List.getElem?_eq_some_iff.1 hp).1
    have hf : M.findE a = 0 := by unfold RM.findE RM.tail; rw [if_neg (by omega), if_neg (by omega), if_neg (by omega)]
    have hc : M.cut a = k := by unfold RM.cut; omega
    unfold RM.envR RM.pl
    rw [if_pos hf, hc, hp]
    exact hpr
theorem envR_no {M : RM} {a : Int} (h : ∀ (k : Nat) (y : Int), M.refs[k]? = some y → ((M.h + k : Nat) : Int) ≠ a) : M.envR a = 0 := by
  unfold RM.envR
  by_cases hf : M.findE a = 0
  · obtain ⟨h1, h2, h3⟩ := RM.found hf
    exact absurd (by omega) (h (M.cut a) (M.pl a).r (by unfold RM.refs; rw [List.getElem?_map, h3]; rfl))
  · rw [if_neg hf]

/-- What holds between two rounds; and where one has left. -/
def envI (B : Nat) (L : List (Nat × Int)) (a : Int) (k : Nat) : Thing where
  at_ w W := (blkT B [.int .i64 0] 3).at_ w W ∧ ∀ j z, j < k → L[j]? = some z → (z.1 : Int) ≠ a
  lt := fun h => (blkT B [.int .i64 0] 3).lt h.1
  keep := fun h ht hs => ⟨(blkT B [.int .i64 0] 3).keep h.1 ht hs, h.2⟩
def envX (B : Nat) (L : List (Nat × Int)) (a : Int) (k : Nat) : Thing where
  at_ w W := ∃ z, L[k]? = some z ∧ (z.1 : Int) = a ∧ (blkT B [.int .i64 z.2] 3).at_ w W
  lt := by rintro w W ⟨z, _, _, h⟩; exact (blkT B [.int .i64 z.2] 3).lt h
  keep := by rintro w w' W S ⟨z, h1, h2, h⟩ ht hs; exact ⟨z, h1, h2, (blkT B [.int .i64 z.2] 3).keep h ht hs⟩

theorem results_cell1 {fn : Func} {p : Tmp} {t : TypeId} (h : fn.results = #[.cell p t]) (tmps : Array Value) (P : Program) (w : World) :
    (results fn tmps).run P w = ((asAddr (tmps.getD p undef)).run P w).andThen fun a w₁ => (loadVar t a).run P w₁ := by
  simp only [results, h]
  simp [Sem.run_bind, Result.andThen]

/-- How a function ends whose result lies in a cell, where a loop lies behind it. -/
theorem cell_end {F : Fence} {n : Nat} {V : World} {D B : Nat} {y : Int} {p : Tmp} {a : Act} {fn : Func} {R : Ending → World → Prop} (hfn : fn.results = #[.cell p 3])
    (h4 : a.tmps.getD p undef = .pointer (some ⟨B, 0, none⟩)) (hd : a.defers = [{ target := .collected D, args := #[] }]) (hB : Blk V B [.int .i64 y] 3) (hne : B ≠ D) (hK : V.heap[D]? = some (.deferred (some [])))
    (hR : ∀ W', Turned (· = D) V W' → R (.returned (.int .i64 y)) W') : bodyPostM F n Tryz.prog fn R .ret a V := by
  show LeavesInM F n Tryz.prog fn a.tmps R a.defers .returning V
  rw [hd]
  refine ⟨by simp, .inl ⟨_, _, rfl, run_takeDeferred hK, ?_⟩⟩
  have hP : Turned (· = D) V (V.putObj D (.deferred none)) := putObj_since _ (Array.getElem?_eq_some_iff.1 hK).1
  have b1 : (V.putObj D (.deferred none)).cell? ⟨B, 0, none⟩ = some (.int .i64 y) := (hB.turned hP hne).cell rfl
  refine ⟨.int .i64 y, ?_, hR _ hP⟩
  rw [results_cell1 hfn, h4]
  go_simp

set_option maxHeartbeats 2000000 in
theorem xenv_any {x q r : Nat} {ov : Bool} {M : RM} {w : World} {W : Nat → Prop} {K : Nat} (h : (xrT x q r ov M).at_ w W) (hM : M.Ok K) (hKb : K < 1000000) (a : Int) :
    Calls Tryz.prog 136 #[.pointer (some ⟨x, 0, none⟩), .int .i64 a] w fun e w' => e = .returned (.int .i64 (M.envR a)) ∧ Still w w' := by
  obtain ⟨W1, hW1⟩ : ∃ W1, W1 = (w.alloc (.cells #[.int .i64 a] 3)).alloc (.cells #[.int .i64 0] 3) := ⟨_, rfl⟩
  have hs1 : Still w W1 := by rw [hW1]; exact ((Turned.refl _ _).alloc _).alloc _
  have hz1 : W1.heap.size = w.heap.size + 2 := by rw [hW1]; simp
  have hb0 : Blk W1 w.heap.size [.int .i64 a] 3 := by rw [hW1]; exact (Blk.new w [.int .i64 a] 3).alloc _
  have hb1 : Blk W1 (w.heap.size + 1) [.int .i64 0] 3 := by
    rw [hW1]
    have := Blk.new (w.alloc (.cells #[.int .i64 a] 3)) [.int .i64 0] 3
    rwa [World.size_alloc] at this
  have HIt := Lib.hid (xenvs_it (x := x) (q := q) (r := r) (ov := ov) hM hKb W1.heap.size)
  have HYes := Lib.hid (fun (k : Nat) (z : Nat × Int) (hz : (evL M.h M.refs)[k]? = some z) (e : (z.1 : Int) = a) => show M.envR a = z.2 from by
    obtain ⟨y, h1, rfl⟩ := evL_some hz
    exact envR_at h1 e)
  have HNo := Lib.hid (fun (hn : ∀ j z, j < (evL M.h M.refs).length → (evL M.h M.refs)[j]? = some z → (z.1 : Int) ≠ a) => show M.envR a = 0 from
    envR_no (fun k y hy => hn k _ (by rw [evL_length]; exact (List.getElem?_eq_some_iff.1 hy).1) (evL_get hy)))
  have hx1 : (xrT x q r ov M).at_ W1 W := (xrT x q r ov M).keep h hs1 (fun _ _ h => h)
  have hSl := (xrT x q r ov M).lt h
  have HE := Lib.hid (xenvs_any (some ⟨x, 0, none⟩) W1)
  have HR := Lib.hid (evR_new hx1)
  obtain ⟨L, hL⟩ : ∃ L, L = evL M.h M.refs := ⟨_, rfl⟩
  rw [← hL] at HIt HYes HNo
  generalize M.envR a = ans at *
  have ht2 : Still W1 (W1.alloc (.cells #[.pointer (some ⟨x, 0, none⟩)] 47)) := (Turned.refl _ _).alloc _
  have HB := Lib.hid (show (envI (w.heap.size + 1) L a 0).at_ (W1.alloc (.cells #[.pointer (some ⟨x, 0, none⟩)] 47)) (fun k => k = w.heap.size + 1) from
    ⟨⟨hb1.turned ht2 (fun h => h), fun _ => Iff.rfl⟩, fun j _ hj => by omega⟩)
  have HD := Lib.hid (show ∀ k, k = w.heap.size + 1 → ¬ (k = W1.heap.size ∨ W k) from by
    rintro k rfl (hk | hk)
    · omega
    · have := hSl _ hk; omega)
  have HA := Lib.hid (fun V Q' (hS : Since (fun k => k = w.heap.size + 1) (W1.alloc (.cells #[.pointer (some ⟨x, 0, none⟩)] 47)) Q' V) => show V.cell? ⟨w.heap.size, 0, none⟩ = some (.int .i64 a) from
    ((hb0.turned ht2 (fun h => h)).turned hS.turn (by omega)).cell rfl)
  have HSt := Lib.hid (hs1.trans ht2)
  have HZ := Lib.hid (show w.heap.size + 2 ≤ (W1.alloc (.cells #[.pointer (some ⟨x, 0, none⟩)] 47)).heap.size from by rw [World.size_alloc]; omega)
  clear h hM hSl ht2 hb0 hb1 hx1 hL
  refine (callsIn_wide (n := 9)).1 (callsIn_of_wp_marks Tryz.func136 rfl trivial ?_ rfl)
  simp only [Tryz.ntmps136, List.size_toArray, List.length_cons, List.length_nil, Nat.reduceAdd, Nat.reduceSub, Array.replicate_succ, Array.replicate_zero, List.push_toArray, List.append_toArray, List.nil_append, List.cons_append]
  have hf1 : Fence.wide.fn 86 := trivial
  gi_wp2_with (gi_at_call 86; rw [← hW1]; ((with_reducible refine (callsIn_wide.2 HE.out).mono ?_)); rintro e w2 ⟨rfl, rfl⟩)
  rw [← hW1, show w.heap.size + 1 + 1 = W1.heap.size by omega]
  clear hW1 hz1
  refine loopS_outer rfl (enters_of Tryz.func112 (by kernel_rfl) rfl) HIt.out (by exact fun _ => rfl) (envI (w.heap.size + 1) L a) (envX (w.heap.size + 1) L a) HR.out HB.out HD.out ?_ ?_ ?_
  · rintro ⟨y, z⟩
    apply Exists.intro
    apply And.intro
    · intro l1 V K hK
      dsimp only [encE]
      gi_wp2
      exact hK
    · intro l1 k V Q' hr hl1 hx hI hQl hsk
      have cA := HA.out V Q' hsk
      obtain ⟨⟨hB, hQ⟩, hn⟩ := hI
      have cB := hB.cell (o := 0) rfl
      have cF := hB.free 0
      by_cases hya : (y : Int) = a
      · have HG := Lib.hid (show Goes (envX (w.heap.size + 1) L a k) Q' V (V.setCell ⟨w.heap.size + 1, 0, none⟩ (.int .i64 z)) from
          ⟨Q', ⟨(y, z), hx, hya, hB.set 0 _, hQ⟩, (Turned.refl _ V).setCell (p := ⟨w.heap.size + 1, 0, none⟩) (.inl ((hQ _).2 rfl)) _, fun _ h => .inl h⟩)
        clear hr hl1 hx hQl hsk hB hQ hn
        gi_wp2
        exact HG.out
      · have HG := Lib.hid (show Goes (envI (w.heap.size + 1) L a (k + 1)) Q' V V from
          ⟨Q', ⟨⟨hB, hQ⟩, fun j z' hj hz' => by
            rcases Nat.lt_succ_iff_lt_or_eq.1 hj with hj | rfl
            · exact hn j z' hj hz'
            · rw [hx] at hz'
              obtain rfl := Option.some.inj hz'
              exact hya⟩, Turned.refl _ _, fun _ h => .inl h⟩)
        clear hr hl1 hx hQl hsk hB hQ hn
        gi_wp2
        exact HG.out
  · intro D V Q' hD hK hQD hI hsk
    obtain ⟨⟨hB, hQ⟩, hn⟩ := hI
    have HAns := Lib.hid (HNo.out hn)
    have cF := hB.free 0
    have cB := hB.cell (o := 0) rfl
    have hDw : w.heap.size + 1 ≠ D := fun e => hQD ((hQ D).2 e.symm)
    have HK := Lib.hid (show (V.setCell ⟨w.heap.size + 1, 0, none⟩ (.int .i64 0)).heap[D]? = some (.deferred (some [])) from by rw [Below.heap_setCell _ _ _ _ (fun e => hDw e.symm)]; exact hK)
    have HB2 := Lib.hid (show Blk (V.setCell ⟨w.heap.size + 1, 0, none⟩ (.int .i64 0)) (w.heap.size + 1) [.int .i64 0] 3 from hB.set 0 _)
    have HT := Lib.hid (fun W' (ht : Turned (· = D) (V.setCell ⟨w.heap.size + 1, 0, none⟩ (.int .i64 0)) W') => show Still w W' from by
      have h0 := HZ.out
      have t1 : Turned (fun k => w.heap.size ≤ k) w V := (HSt.out.mono (fun _ _ h => h.elim)).trans (hsk.turn.mono (fun k _ e => by omega))
      have t2 : Turned (fun k => w.heap.size ≤ k) V (V.setCell ⟨w.heap.size + 1, 0, none⟩ (.int .i64 0)) := (Turned.refl _ V).setCell (p := ⟨w.heap.size + 1, 0, none⟩) (.inl (by simp)) _
      exact ((t1.trans t2).trans (ht.mono (fun k _ e => by omega))).mono (fun k hk hh => by omega))
    clear hB hQ hn hsk hK hQD
    gi_wp2
    exact cell_end rfl rfl rfl HB2.out hDw HK.out (fun W' ht => ⟨by rw [HAns.out], HT.out W' ht⟩)
  · intro D k V Q' hD hK hQD hk hI hsk
    obtain ⟨z, hz, hza, hB, hQ⟩ := hI
    have HAns := Lib.hid (HYes.out k z hz hza)
    have hDw : w.heap.size + 1 ≠ D := fun e => hQD ((hQ D).2 e.symm)
    have HB2 := Lib.hid hB
    have HK := Lib.hid hK
    have HT := Lib.hid (fun W' (ht : Turned (· = D) V W') => show Still w W' from by
      have h0 := HZ.out
      have t1 : Turned (fun k => w.heap.size ≤ k) w V := (HSt.out.mono (fun _ _ h => h.elim)).trans (hsk.turn.mono (fun k _ e => by omega))
      exact (t1.trans (ht.mono (fun k _ e => by omega))).mono (fun k hk hh => by omega))
    clear hB hQ hsk hK hQD hz hza
    gi_wp2
    try rw [Exit.noGoto_ret]
    exact cell_end rfl rfl rfl HB2.out hDw HK.out (fun W' ht => ⟨by rw [HAns.out], HT.out W' ht⟩)
end Go.Proofs.YtmmkcfiecgpkpaaGreat

/- Whether an envelope can be taken, and why no place can be claimed, in the program's partition. No condition but that it is one, and that its handles are counted. -/
namespace Go.Proofs.YtmmkcfiecgpkpaaGreat
open Go.RowKit
set_option linter.unusedVariables false
set_option linter.unusedSimpArgs false
set_option maxRecDepth 100000

theorem ready_gt {M : RM} (hp : 0 < M.l.length) : ((M.h : Int) < (M.ready (M.h : Int) : Nat)) ↔ M.hdp.d = true := by
  have hc : M.cut (M.h : Int) = 0 := by unfold RM.cut; omega
  unfold RM.ready RM.tail RM.hdp
  rw [hc, List.drop_zero]
  cases hl : M.l with
  | nil => rw [hl] at hp; simp at hp
  | cons p l =>
    cases hd : p.d with
    | true => rw [List.takeWhile_cons_of_pos (by simpa using hd)]; simp [hd]; omega
    | false => rw [List.takeWhile_cons_of_neg (by simp [hd])]; simp [hd]

section
variable {q x r : Nat} {P : PM} {ov : Bool} {M : RM} {w : World} {N K : Nat}

set_option maxHeartbeats 1000000 in
theorem xmay_any (h : XRt x r q ov M w) (hM : M.Ok K) (hK : K < 1000000) (hp : 0 < M.l.length) : Calls Tryz.prog 97 #[.pointer (some ⟨x, 0, none⟩)] w fun e w' => e = .returned (.bool (ov && M.hdp.d)) ∧ Still w w' := by
  have c2 := h.c2
  cases ov with
  | false =>
    clear h hM
    have c2' : w.cell? ⟨x, 2, none⟩ = some (.int .i64 0) := c2
    clear c2
    go_enter Tryz.func97, Tryz.ntmps97
    go_wp2
    go_ret
    exact ⟨by first | rfl | simp, Turned.refl _ _⟩
  | true =>
    have c2' : w.cell? ⟨x, 2, none⟩ = some (.int .i64 1) := c2
    have hlo := hM.low
    have HH := Lib.hid (fun V (ht : Still w V) => (xhead_any (h.still ht) hM hK).mono (fun e w' (he : _ ∧ _) => And.intro he.1 (ht.trans he.2)))
    have HR := Lib.hid (fun V (ht : Still w V) => (xready_any (h.still ht) hM hK (M.h : Int) ⟨by omega, by unfold RM.tail at hlo; omega⟩).mono (fun e w' (he : _ ∧ _) => And.intro he.1 (ht.trans he.2)))
    have hw0 : Still w w := Turned.refl _ _
    have HG := Lib.hid (ready_gt hp)
    obtain ⟨d, hd⟩ : ∃ d : Int, d = (M.h : Int) := ⟨_, rfl⟩
    rw [← hd] at HH HR HG
    generalize ((M.ready d : Nat) : Int) = rd at *
    cases hdd : M.hdp.d with
    | true =>
      have hgt : rd > d := HG.out.2 hdd
      clear h hM hp hlo hd c2 hdd HG
      go_enter Tryz.func97, Tryz.ntmps97
      go_wp2_with (first
        | (go_at_call 57; ((with_reducible refine (HH.out _ (by assumption)).mono ?_)); rintro e w5 ⟨rfl, hT5⟩)
        | (go_at_call 118; ((with_reducible refine (HR.out _ (by assumption)).mono ?_)); rintro e w6 ⟨rfl, hT6⟩))
      go_ret
      exact ⟨by first | rfl | simp, by assumption⟩
    | false =>
      have hgt : ¬ rd > d := fun e => by have := HG.out.1 e; rw [hdd] at this; cases this
      clear h hM hp hlo hd c2 hdd HG
      go_enter Tryz.func97, Tryz.ntmps97
      go_wp2_with (first
        | (go_at_call 57; ((with_reducible refine (HH.out _ (by assumption)).mono ?_)); rintro e w5 ⟨rfl, hT5⟩)
        | (go_at_call 118; ((with_reducible refine (HR.out _ (by assumption)).mono ?_)); rintro e w6 ⟨rfl, hT6⟩))
      go_ret
      exact ⟨by first | rfl | (simp; done) | (simp; omega), by assumption⟩

theorem xtakable_any (h : XAt q P x r ov M w) (hO : P.Ok N) (hN : N < 1000000) {k : Nat} (hk : k < P.sl.length) : Calls Tryz.prog 120 #[.pointer (some ⟨x, 0, none⟩), .int .i64 (k : Nat)] w fun e w' => e = .returned (.bool true) ∧ Still w w' := by
  obtain ⟨s, hs⟩ := get_some hk
  have hk128 : k < 128 := Nat.lt_of_lt_of_le hk hO.len
  have hg := (hO.low k s hs).1
  have eg : genOf P (k : Nat) = (s.g : Nat) := by unfold genOf; rw [if_pos ⟨by omega, by omega⟩, Int.toNat_natCast, hs]; rfl
  have HG := Lib.hid (show Calls Tryz.prog 135 #[.pointer (some ⟨q, 0, none⟩), .int .i64 (k : Nat)] w fun e w' => e = .returned (.int .i64 (s.g : Nat)) ∧ Still w w' from by
    obtain ⟨W, hp⟩ := h.pool
    have := pool_api.gen hp hO hN (k : Nat) ⟨by omega, by omega⟩
    rwa [eg] at this)
  have HF := Lib.hid (fun V => show Calls Tryz.prog 103 #[.int .i64 (k : Nat), .int .i64 (s.g : Nat)] V fun e w' => e = .returned (.tuple #[.int .i64 ((s.g : Int) * 128 + (k : Nat) + 1), .int .i64 0]) ∧ V = w' from by
    have := of_any (k : Nat) (s.g : Nat) V
    rwa [haV_ok ⟨by omega, by omega, by omega, by omega⟩] at this)
  have c1 := h.c1
  generalize ((s.g : Int) * 128 + (k : Nat) + 1) = y at *
  generalize ((s.g : Nat) : Int) = g at *
  generalize ((k : Nat) : Int) = kk at *
  clear h hO hs eg hg hk hk128
  go_enter Tryz.func120, Tryz.ntmps120
  go_wp2_with (first
    | (go_at_call 135; ((with_reducible refine HG.out.mono ?_)); rintro e w5 ⟨rfl, hT5⟩; have H5 := Lib.hid hT5; clear hT5)
    | (go_at_call 103; ((with_reducible refine (HF.out _).mono ?_)); rintro e w6 ⟨rfl, rfl⟩))
  go_ret
  exact ⟨by first | rfl | simp, H5.out⟩

/-- The first number of a row is taken, if there is one. -/
theorem idxI_any (f : Value) (l : List Int) (w : World) (ao : Option Addr) (m cap : Nat) (hm : m = l.length) (hA : NumsAt w ao l) (hmax : m ≤ 100000) (x : Nat) (hf : f = .func (.func 120) #[.pointer (some ⟨x, 0, none⟩)] #[])
    (hT : ∀ y, l[0]? = some y → Calls Tryz.prog 120 #[.pointer (some ⟨x, 0, none⟩), .int .i64 y] w fun e w' => e = .returned (.bool true) ∧ Still w w') :
    Calls Tryz.prog 134 #[.slice ao m cap, f] w fun e w' => e = .returned (.int .i64 (if m = 0 then -1 else 0)) ∧ Still w w' := by
  subst hf
  have HT := Lib.hid hT
  have HA := Lib.hid hA
  have HM := Lib.hid hm
  clear hT hA hm
  go_enter Tryz.func134, Tryz.ntmps134
  go_wp2_with fail
  go_loopw [8] (fun i wr => i = .int .i64 0 ∧ w = wr) (fun i _ => 0)
  case atStart => exact ⟨rfl, rfl⟩
  case round =>
    obtain ⟨rfl, hw⟩ := hrel
    subst hw
    by_cases h0 : m = 0
    · subst h0
      go_wp2_with fail
      go_ret
      exact ⟨by first | rfl | simp, Turned.refl _ _⟩
    · obtain ⟨y, hy⟩ := get_some (l := l) (i := 0) (by rw [← HM.out]; omega)
      obtain ⟨b, o, rfl, hc⟩ := HA.out 0 y hy
      rw [Nat.add_zero] at hc
      have HY := Lib.hid (HT.out y hy)
      have hpos : (0 : Int) < (m : Int) := by omega
      have HE := Lib.hid (show (if m = 0 then (-1 : Int) else 0) = 0 from if_neg h0)
      clear hy h0
      go_wp2_with fail
      refine HY.out.mono ?_
      rintro e w5 ⟨rfl, hT5⟩
      have H5 := Lib.hid hT5
      clear hT5
      go_wp2_with fail
      go_ret
      exact ⟨by first | rfl | (rw [HE.out]; rfl), H5.out⟩

theorem contI_any (f : Value) (l : List Int) (w : World) (ao : Option Addr) (m cap : Nat) (hm : m = l.length) (hA : NumsAt w ao l) (hmax : m ≤ 100000) (x : Nat) (hf : f = .func (.func 120) #[.pointer (some ⟨x, 0, none⟩)] #[])
    (hT : ∀ y, l[0]? = some y → Calls Tryz.prog 120 #[.pointer (some ⟨x, 0, none⟩), .int .i64 y] w fun e w' => e = .returned (.bool true) ∧ Still w w') :
    Calls Tryz.prog 119 #[.slice ao m cap, f] w fun e w' => e = .returned (.bool (decide (m ≠ 0))) ∧ Still w w' := by
  have HI := Lib.hid (idxI_any f l w ao m cap hm hA hmax x hf hT)
  have HB := Lib.hid (show decide ((if m = 0 then (-1 : Int) else 0) ≥ 0) = decide (m ≠ 0) from by by_cases h : m = 0 <;> simp [h])
  generalize (if m = 0 then (-1 : Int) else 0) = z at *
  clear hm hA hmax hf hT
  go_enter Tryz.func119, Tryz.ntmps119
  go_wp2_with (go_at_call 134; ((with_reducible refine HI.out.mono ?_)); rintro e w5 ⟨rfl, hT5⟩; have H5 := Lib.hid hT5; clear hT5)
  go_ret
  exact ⟨by rw [← HB.out]; rfl, H5.out⟩

/-- A handle that is live: its slot, its generation, and what package handle answers of them. -/
theorem live_hand {P : PM} {h : Int} (h0 : P.err h = 0) (hO : P.Ok N) (hN : N < 1000000) : ∃ s : Slt, P.slt h = s ∧ hSlot h < P.sl.length ∧ slV h = .tuple #[.int .i64 ((hSlot h : Nat) : Int), .int .i64 0] ∧ genOf P ((hSlot h : Nat) : Int) = (s.g : Nat) ∧ haV ((hSlot h : Nat) : Int) (s.g : Nat) = .tuple #[.int .i64 h, .int .i64 0] ∧ neV h = .tuple #[.int .i64 (h + 128), .int .i64 0] ∧ cntOf P ((hSlot h : Nat) : Int) = (s.c : Nat) := by
  obtain ⟨a1, a2, a3, a4, a5⟩ := PM.live h0
  have hg := (hO.low _ _ a3).1
  have h128 : hSlot h < 128 := Nat.lt_of_lt_of_le a2 hO.len
  have hs : ((hSlot h : Nat) : Int) = (h - 1) % 128 := by unfold hSlot; rw [Int.toNat_of_nonneg (by omega)]
  have hge : hGen h = (h - 1) / 128 := rfl
  unfold haIs at a1
  refine ⟨P.slt h, rfl, a2, ?_, ?_, ?_, ?_, ?_⟩
  · rw [slV_ok a1, hs]
  · unfold genOf; rw [if_pos ⟨by omega, by omega⟩, Int.toNat_natCast, a3]; rfl
  · rw [haV_ok ⟨by omega, by omega, by omega, by omega⟩, a4, hge, hs]
    rw [show (h - 1) / 128 * 128 + (h - 1) % 128 + 1 = h by omega]
  · exact neV_ok ⟨a1, by omega⟩
  · unfold cntOf; rw [if_pos ⟨by omega, by omega⟩, Int.toNat_natCast, a3]; rfl

set_option maxHeartbeats 1000000 in
theorem xgives_any {W : Nat → Prop} (h0 : (xsT q P x r ov M).at_ w W) (hO : P.Ok N) (hN : N < 1000000) (hM : M.Ok K) (hK : K < 1000000) (hp : 0 < M.l.length) (hl : P.err M.hdp.r = 0) : Calls Tryz.prog 121 #[.pointer (some ⟨x, 0, none⟩)] w fun e w' => e = .returned (.bool (decide ((P.slt M.hdp.r).c = 1))) ∧ Still w w' := by
  have hat := xsT_at h0
  obtain ⟨s, hs, hsl, e1, e2, e3, e4, e5⟩ := live_hand hl hO hN
  rw [hs]
  have hlo := hM.low
  obtain ⟨y, hy⟩ : ∃ y, y = M.hdp.r := ⟨_, rfl⟩
  have eE : M.envR (M.h : Int) = y := by
    refine envR_at (k := 0) ?_ (by simp)
    rw [refs_hdp hp, hy]; rfl
  have HH := Lib.hid (fun V (ht : Still w V) => (xhead_any (hat.still ht).toXRt hM hK).mono (fun e w' (he : _ ∧ _) => And.intro he.1 (ht.trans he.2)))
  have HE := Lib.hid (fun V (ht : Still w V) => show Calls Tryz.prog 136 #[.pointer (some ⟨x, 0, none⟩), .int .i64 (M.h : Int)] V fun e w' => e = .returned (.int .i64 y) ∧ Still w w' from by
    obtain ⟨W1, W2, h1, h2, _⟩ := h0
    have := xenv_any ((xrT x q r ov M).keep h2 ht (fun _ _ h => h)) hM hK (M.h : Int)
    rw [eE] at this
    exact this.mono (fun e w' (he : _ ∧ _) => And.intro he.1 (ht.trans he.2)))
  rw [← hy] at e1 e2 e3 e4 e5 hsl
  have HS := Lib.hid (fun V => show Calls Tryz.prog 137 #[.int .i64 y] V fun e w' => e = .returned (.tuple #[.int .i64 ((hSlot y : Nat) : Int), .int .i64 0]) ∧ V = w' from by
    have := slot_any y V; rwa [e1] at this)
  have HG := Lib.hid (fun V (ht : Still w V) => show Calls Tryz.prog 135 #[.pointer (some ⟨q, 0, none⟩), .int .i64 ((hSlot y : Nat) : Int)] V fun e w' => e = .returned (.int .i64 (s.g : Nat)) ∧ Still w w' from by
    obtain ⟨W, hp⟩ := (hat.still ht).pool
    have := pool_api.gen hp hO hN ((hSlot y : Nat) : Int) ⟨by omega, by have := hO.len; omega⟩
    rw [e2] at this
    exact this.mono (fun e w' (he : _ ∧ _) => And.intro he.1 (ht.trans he.2)))
  have HF := Lib.hid (fun V => show Calls Tryz.prog 103 #[.int .i64 ((hSlot y : Nat) : Int), .int .i64 (s.g : Nat)] V fun e w' => e = .returned (.tuple #[.int .i64 y, .int .i64 0]) ∧ V = w' from by
    have := of_any ((hSlot y : Nat) : Int) (s.g : Nat) V; rwa [e3] at this)
  have HNx := Lib.hid (fun V => show Calls Tryz.prog 138 #[.int .i64 y] V fun e w' => e = .returned (.tuple #[.int .i64 (y + 128), .int .i64 0]) ∧ V = w' from by
    have := next_any y V; rwa [e4] at this)
  have HC := Lib.hid (fun V (ht : Still w V) => show Calls Tryz.prog 139 #[.pointer (some ⟨q, 0, none⟩), .int .i64 ((hSlot y : Nat) : Int)] V fun e w' => e = .returned (.int .i64 (s.c : Nat)) ∧ Still w w' from by
    obtain ⟨W, hp⟩ := (hat.still ht).pool
    have := pool_api.count hp hO hN ((hSlot y : Nat) : Int) ⟨by omega, by have := hO.len; omega⟩
    rw [e5] at this
    exact this.mono (fun e w' (he : _ ∧ _) => And.intro he.1 (ht.trans he.2)))
  have HX := Lib.hid (fun V (ht : Still w V) => show V.cell? ⟨x, 1, none⟩ = some (.pointer (some ⟨q, 0, none⟩)) from (hat.still ht).c1)
  have HB := Lib.hid (show (((s.c : Nat) : Int) == 1) = decide (s.c = 1) from by rw [Bool.eq_iff_iff, beq_iff_eq, decide_eq_true_iff]; omega)
  have hw0 : Still w w := Turned.refl _ _
  have c1 := hat.c1
  generalize decide (s.c = 1) = ans at *
  generalize ((hSlot y : Nat) : Int) = sl at *
  generalize ((s.g : Nat) : Int) = g at *
  generalize ((s.c : Nat) : Int) = cc at *
  generalize (M.h : Int) = d at *
  generalize y + 128 = y2 at *
  clear h0 hat hs e1 e2 e3 e4 e5 hO hM hl hp hlo hy eE hsl
  go_enter Tryz.func121, Tryz.ntmps121
  go_wp2_with (first
    | (go_at_call 57; ((with_reducible refine (HH.out _ (by assumption)).mono ?_)); rintro e w5 ⟨rfl, hT5⟩)
    | (go_at_call 136; ((with_reducible refine (HE.out _ (by assumption)).mono ?_)); rintro e w6 ⟨rfl, hT6⟩; have c6 := HX.out _ hT6)
    | (go_at_call 137; ((with_reducible refine (HS.out _).mono ?_)); rintro e w' ⟨rfl, rfl⟩)
    | (go_at_call 135; ((with_reducible refine (HG.out _ (by assumption)).mono ?_)); rintro e w7 ⟨rfl, hT7⟩; have c7 := HX.out _ hT7)
    | (go_at_call 103; ((with_reducible refine (HF.out _).mono ?_)); rintro e w' ⟨rfl, rfl⟩)
    | (go_at_call 138; ((with_reducible refine (HNx.out _).mono ?_)); rintro e w' ⟨rfl, rfl⟩)
    | (go_at_call 139; ((with_reducible refine (HC.out _ (by assumption)).mono ?_)); rintro e w8 ⟨rfl, hT8⟩; have c8 := HX.out _ hT8))
  all_goals go_ret
  all_goals exact ⟨by rw [← HB.out]; first | rfl | simp_all, by assumption⟩

/-- What is wanted of the pool for one more. -/
theorem stock_is {P : PM} {M : RM} : (!(decide (P.fr.length ≠ 0) || (decide (M.l.length = M.n) && decide ((P.slt M.hdp.r).c = 1)))) = decide (P.fr = [] ∧ (M.l.length ≠ M.n ∨ (P.slt M.hdp.r).c ≠ 1)) := by
  rw [Bool.eq_iff_iff]
  simp only [Bool.not_eq_true', Bool.or_eq_false_iff, Bool.and_eq_false_iff, decide_eq_false_iff_not, decide_eq_true_iff, ne_eq, Decidable.not_not, List.length_eq_zero_iff]

set_option maxHeartbeats 1000000 in
theorem xstock_any {W : Nat → Prop} (h0 : (xsT q P x r ov M).at_ w W) (hO : P.Ok N) (hN : N < 1000000) (hM : M.Ok K) (hK : K < 1000000) (hl : M.l.length = M.n → P.err M.hdp.r = 0) : Calls Tryz.prog 98 #[.pointer (some ⟨x, 0, none⟩)] w fun e w' =>
    e = .returned (.bool (decide (P.fr.length ≠ 0) || (decide (M.l.length = M.n) && decide ((P.slt M.hdp.r).c = 1)))) ∧ Still w w' := by
  have hat := xsT_at h0
  obtain ⟨m, hm⟩ : ∃ m, m = P.fr.length := ⟨_, rfl⟩
  have hm128 : m ≤ 128 := by rw [hm]; exact hO.frlen
  have HFr := Lib.hid (show Calls Tryz.prog 56 #[.pointer (some ⟨q, 0, none⟩)] w (GotNums w (nums P.fr) m) from by
    obtain ⟨W1, hp⟩ := hat.pool
    exact pool_api.free hp hO hN m hm)
  have HC := Lib.hid (fun V (ht : Still w V) (ao : Option Addr) (cap : Nat) (hA : NumsAt V ao (nums P.fr)) => (contI_any (.func (.func 120) #[.pointer (some ⟨x, 0, none⟩)] #[]) (nums P.fr) V ao m cap (by rw [nums_length]; exact hm) hA (by omega) x rfl (fun y hy => by
    obtain ⟨k, hk, rfl⟩ : ∃ k, P.fr[0]? = some k ∧ y = (k : Nat) := by
      unfold nums at hy
      rw [List.getElem?_map] at hy
      cases hf : P.fr[0]? with
      | none => rw [hf] at hy; cases hy
      | some k => rw [hf] at hy; exact ⟨k, rfl, by simpa using hy.symm⟩
    exact xtakable_any (hat.still ht) hO hN (hO.lt k (List.mem_of_getElem? hk)))).mono (fun e w' (he : _ ∧ _) => And.intro he.1 (ht.trans he.2)))
  have HFl := Lib.hid (fun V (ht : Still w V) => (xfull_any (hat.still ht).toXRt hM hK).mono (fun e w' (he : _ ∧ _) => And.intro he.1 (ht.trans he.2)))
  have HGv := Lib.hid (fun V (ht : Still w V) (hf : M.l.length = M.n) => (xgives_any ((xsT q P x r ov M).keep h0 ht (fun _ _ h => h)) hO hN hM hK (by have := hM.pos; omega) (hl hf)).mono (fun e w' (he : _ ∧ _) => And.intro he.1 (ht.trans he.2)))
  have HX := Lib.hid (fun V (ht : Still w V) => show V.cell? ⟨x, 1, none⟩ = some (.pointer (some ⟨q, 0, none⟩)) from (hat.still ht).c1)
  have HN := Lib.hid (fun (w5 : World) (a : Option Addr) (c : Nat) (ho : w5.ownsRow w.heap.size 3 1 (.slice a m c) m (ints (nums P.fr))) => show NumsAt w5 a (nums P.fr) from NumsAt.of_own ho (by rw [nums_length]; exact hm))
  have c1 := hat.c1
  rw [← hm]
  clear h0 hat hO hM hl hm hm128
  by_cases hm0 : m = 0
  · have hd : decide (m ≠ 0) = false := by simp [hm0]
    rw [hd] at HC ⊢
    by_cases hf : M.l.length = M.n
    · have hd2 : decide (M.l.length = M.n) = true := by simp [hf]
      rw [hd2] at HFl ⊢
      have HG2 := Lib.hid (fun V (ht : Still w V) => HGv.out V ht hf)
      generalize decide ((P.slt M.hdp.r).c = 1) = b at *
      clear hf hm0 HGv hd hd2
      go_enter Tryz.func98, Tryz.ntmps98
      go_wp2_with (first
        | (go_at_call 56; ((with_reducible refine HFr.out.mono ?_)); rintro e w5 ⟨a5, c5, rfl, ho5, hT5⟩; have hN5 := HN.out _ _ _ ho5; clear ho5)
        | (go_at_call 119; ((with_reducible refine (HC.out _ (by assumption) _ _ (by assumption)).mono ?_)); rintro e w6 ⟨rfl, hT6⟩; have c6 := HX.out _ hT6)
        | (go_at_call 70; ((with_reducible refine (HFl.out _ (by assumption)).mono ?_)); rintro e w7 ⟨rfl, hT7⟩)
        | (go_at_call 121; ((with_reducible refine (HG2.out _ (by assumption)).mono ?_)); rintro e w8 ⟨rfl, hT8⟩))
      go_ret
      exact ⟨by first | rfl | simp, by assumption⟩
    · have hd2 : decide (M.l.length = M.n) = false := by simp [hf]
      rw [hd2] at HFl ⊢
      clear hf hm0 HGv hd hd2
      go_enter Tryz.func98, Tryz.ntmps98
      go_wp2_with (first
        | (go_at_call 56; ((with_reducible refine HFr.out.mono ?_)); rintro e w5 ⟨a5, c5, rfl, ho5, hT5⟩; have hN5 := HN.out _ _ _ ho5; clear ho5)
        | (go_at_call 119; ((with_reducible refine (HC.out _ (by assumption) _ _ (by assumption)).mono ?_)); rintro e w6 ⟨rfl, hT6⟩; have c6 := HX.out _ hT6)
        | (go_at_call 70; ((with_reducible refine (HFl.out _ (by assumption)).mono ?_)); rintro e w7 ⟨rfl, hT7⟩))
      go_ret
      exact ⟨by first | rfl | simp, by assumption⟩
  · have hd : decide (m ≠ 0) = true := by simp [hm0]
    rw [hd] at HC ⊢
    clear hm0 HGv hd
    go_enter Tryz.func98, Tryz.ntmps98
    go_wp2_with (first
      | (go_at_call 56; ((with_reducible refine HFr.out.mono ?_)); rintro e w5 ⟨a5, c5, rfl, ho5, hT5⟩; have hN5 := HN.out _ _ _ ho5; clear ho5)
      | (go_at_call 119; ((with_reducible refine (HC.out _ (by assumption) _ _ (by assumption)).mono ?_)); rintro e w6 ⟨rfl, hT6⟩; have c6 := HX.out _ hT6))
    go_ret
    exact ⟨by first | rfl | simp, by assumption⟩
end
end Go.Proofs.YtmmkcfiecgpkpaaGreat

/- Why no place can be claimed in the program's partition. No condition but that it is one, and that its handles are counted. -/
namespace Go.Proofs.YtmmkcfiecgpkpaaGreat
open Go.RowKit
set_option linter.unusedVariables false
set_option linter.unusedSimpArgs false
set_option maxRecDepth 100000

/-- What is told, by what is asked one behind the other. -/
theorem ptClE_is {P : PM} {M : RM} {K : Nat} (hK : K < 1000000) (hM : M.Ok K) (n : Int) (hc : M.l.length = M.n → (P.slt M.hdp.r).c ≠ 0) :
    ptClE P M n = if n < 0 then 2 else if (P.size : Int) < n then 3 else if (decide (M.l.length = M.n) && !(M.ov && M.hdp.d)) = true then 60 else if (!(decide (P.fr.length ≠ 0) || (decide (M.l.length = M.n) && decide ((P.slt M.hdp.r).c = 1)))) = true then 50 else 0 := by
  unfold ptClE
  have hlo := hM.low
  by_cases h1 : n < 0
  · rw [if_pos h1, if_pos h1]
  rw [if_neg h1, if_neg h1]
  by_cases h2 : (P.size : Int) < n
  · rw [if_pos h2, if_pos h2]
  rw [if_neg h2, if_neg h2, if_neg (by omega)]
  have e3 : (M.l.length = M.n ∧ (M.ov = false ∨ M.hdp.d = false)) ↔ (decide (M.l.length = M.n) && !(M.ov && M.hdp.d)) = true := by
    cases M.ov <;> cases M.hdp.d <;> simp
  have e4 : (P.fr = [] ∧ (M.l.length ≠ M.n ∨ 1 < (P.slt M.hdp.r).c)) ↔ (!(decide (P.fr.length ≠ 0) || (decide (M.l.length = M.n) && decide ((P.slt M.hdp.r).c = 1)))) = true := by
    rw [stock_is, decide_eq_true_iff]
    refine and_congr_right (fun _ => ?_)
    by_cases hf : M.l.length = M.n
    · have := hc hf
      constructor
      · rintro (h | h)
        · exact absurd hf h
        · exact .inr (by omega)
      · rintro (h | h)
        · exact absurd hf h
        · exact .inr (by omega)
    · exact ⟨fun _ => .inl hf, fun _ => .inl hf⟩
  by_cases h3 : M.l.length = M.n ∧ (M.ov = false ∨ M.hdp.d = false)
  · rw [if_pos h3, if_pos (e3.1 h3)]
  rw [if_neg h3, if_neg (fun h => h3 (e3.2 h))]
  by_cases h4 : P.fr = [] ∧ (M.l.length ≠ M.n ∨ 1 < (P.slt M.hdp.r).c)
  · rw [if_pos h4, if_pos (e4.1 h4)]
  · rw [if_neg h4, if_neg (fun h => h4 (e4.2 h))]

set_option maxHeartbeats 2000000 in
theorem xrefc_any {q x r : Nat} {P : PM} {ov : Bool} {M : RM} {w : World} {N K : Nat} {W : Nat → Prop} (h0 : (xsT q P x r ov M).at_ w W) (hov : ov = M.ov) (hO : P.Ok N) (hN : N < 1000000) (hM : M.Ok K) (hK : K < 1000000) (hl : M.l.length = M.n → P.err M.hdp.r = 0) (n : Int) :
    Calls Tryz.prog 69 #[.pointer (some ⟨x, 0, none⟩), .int .i64 n] w fun e w' => e = .returned (.int .i64 (ptClE P M n)) ∧ Still w w' := by
  have hat := xsT_at h0
  rw [ptClE_is hK hM n (fun hf => (PM.live (hl hf)).2.2.2.2)]
  subst hov
  have HMd := Lib.hid (xmade_any hat.toXRt)
  have HSz := Lib.hid (show Calls Tryz.prog 96 #[.pointer (some ⟨q, 0, none⟩)] w fun e w' => e = .returned (.int .i64 P.size) ∧ Still w w' from by
    obtain ⟨W1, hp⟩ := hat.pool
    exact pool_api.size hp hO hN)
  have HTl := Lib.hid (fun V (ht : Still w V) => (xtail_any (hat.still ht).toXRt hM hK).mono (fun e w' (he : _ ∧ _) => And.intro he.1 (ht.trans he.2)))
  have HFl := Lib.hid (fun V (ht : Still w V) => (xfull_any (hat.still ht).toXRt hM hK).mono (fun e w' (he : _ ∧ _) => And.intro he.1 (ht.trans he.2)))
  have HMay := Lib.hid (fun V (ht : Still w V) (hf : M.l.length = M.n) => (xmay_any (hat.still ht).toXRt hM hK (by have := hM.pos; omega)).mono (fun e w' (he : _ ∧ _) => And.intro he.1 (ht.trans he.2)))
  have HSt := Lib.hid (fun V (ht : Still w V) => (xstock_any ((xsT q P x r M.ov M).keep h0 ht (fun _ _ h => h)) hO hN hM hK hl).mono (fun e w' (he : _ ∧ _) => And.intro he.1 (ht.trans he.2)))
  have c1 := hat.c1
  have hlo := hM.low
  have htl : (M.tail : Int) < 1099511627776 := by omega
  generalize (M.tail : Int) = tl at *
  generalize (P.size : Int) = sz at *
  generalize (decide (P.fr.length ≠ 0) || (decide (M.l.length = M.n) && decide ((P.slt M.hdp.r).c = 1))) = st at *
  generalize (M.ov && M.hdp.d) = my at *
  by_cases h1 : n < 0
  · rw [if_pos h1]
    clear h0 hat hO hM hl hlo HTl HFl HMay HSt HSz htl
    go_enter Tryz.func69, Tryz.ntmps69
    go_wp2_with (go_at_call 80; ((with_reducible refine HMd.out.mono ?_)); rintro e w' ⟨rfl, rfl⟩)
    go_ret
    exact ⟨rfl, Turned.refl _ _⟩
  rw [if_neg h1]
  by_cases h2 : sz < n
  · rw [if_pos h2]
    have h2' : n > sz := h2
    clear h0 hat hO hM hl hlo HTl HFl HMay HSt htl
    go_enter Tryz.func69, Tryz.ntmps69
    go_wp2_with (first
      | (go_at_call 80; ((with_reducible refine HMd.out.mono ?_)); rintro e w' ⟨rfl, rfl⟩)
      | (go_at_call 96; ((with_reducible refine HSz.out.mono ?_)); rintro e w5 ⟨rfl, hT5⟩))
    go_ret
    exact ⟨rfl, by assumption⟩
  rw [if_neg h2]
  have h2' : ¬ n > sz := h2
  by_cases hf : M.l.length = M.n
  · have hd : decide (M.l.length = M.n) = true := by simp [hf]
    have HMy := Lib.hid (fun V (ht : Still w V) => HMay.out V ht hf)
    rw [hd] at HFl ⊢
    clear h0 hat hO hM hl hlo HMay hf hd h2
    cases my with
    | false =>
      rw [if_pos (by rfl)]
      go_enter Tryz.func69, Tryz.ntmps69
      go_wp2_with (first
        | (go_at_call 80; ((with_reducible refine HMd.out.mono ?_)); rintro e w' ⟨rfl, rfl⟩)
        | (go_at_call 96; ((with_reducible refine HSz.out.mono ?_)); rintro e w5 ⟨rfl, hT5⟩)
        | (go_at_call 32; ((with_reducible refine (HTl.out _ (by assumption)).mono ?_)); rintro e w6 ⟨rfl, hT6⟩)
        | (go_at_call 70; ((with_reducible refine (HFl.out _ (by assumption)).mono ?_)); rintro e w7 ⟨rfl, hT7⟩)
        | (go_at_call 97; ((with_reducible refine (HMy.out _ (by assumption)).mono ?_)); rintro e w8 ⟨rfl, hT8⟩))
      go_ret
      exact ⟨rfl, by assumption⟩
    | true =>
      rw [if_neg (by simp)]
      cases st with
      | false =>
        rw [if_pos (by rfl)]
        go_enter Tryz.func69, Tryz.ntmps69
        go_wp2_with (first
          | (go_at_call 80; ((with_reducible refine HMd.out.mono ?_)); rintro e w' ⟨rfl, rfl⟩)
          | (go_at_call 96; ((with_reducible refine HSz.out.mono ?_)); rintro e w5 ⟨rfl, hT5⟩)
          | (go_at_call 32; ((with_reducible refine (HTl.out _ (by assumption)).mono ?_)); rintro e w6 ⟨rfl, hT6⟩)
          | (go_at_call 70; ((with_reducible refine (HFl.out _ (by assumption)).mono ?_)); rintro e w7 ⟨rfl, hT7⟩)
          | (go_at_call 97; ((with_reducible refine (HMy.out _ (by assumption)).mono ?_)); rintro e w8 ⟨rfl, hT8⟩)
          | (go_at_call 98; ((with_reducible refine (HSt.out _ (by assumption)).mono ?_)); rintro e w9 ⟨rfl, hT9⟩))
        go_ret
        exact ⟨rfl, by assumption⟩
      | true =>
        rw [if_neg (by simp)]
        go_enter Tryz.func69, Tryz.ntmps69
        go_wp2_with (first
          | (go_at_call 80; ((with_reducible refine HMd.out.mono ?_)); rintro e w' ⟨rfl, rfl⟩)
          | (go_at_call 96; ((with_reducible refine HSz.out.mono ?_)); rintro e w5 ⟨rfl, hT5⟩)
          | (go_at_call 32; ((with_reducible refine (HTl.out _ (by assumption)).mono ?_)); rintro e w6 ⟨rfl, hT6⟩)
          | (go_at_call 70; ((with_reducible refine (HFl.out _ (by assumption)).mono ?_)); rintro e w7 ⟨rfl, hT7⟩)
          | (go_at_call 97; ((with_reducible refine (HMy.out _ (by assumption)).mono ?_)); rintro e w8 ⟨rfl, hT8⟩)
          | (go_at_call 98; ((with_reducible refine (HSt.out _ (by assumption)).mono ?_)); rintro e w9 ⟨rfl, hT9⟩))
        go_ret
        exact ⟨rfl, by assumption⟩
  · have hd : decide (M.l.length = M.n) = false := by simp [hf]
    rw [hd] at HFl ⊢
    rw [if_neg (by simp)]
    clear h0 hat hO hM hl hlo HMay hf hd h2
    cases st with
    | false =>
      rw [if_pos (by rfl)]
      go_enter Tryz.func69, Tryz.ntmps69
      go_wp2_with (first
        | (go_at_call 80; ((with_reducible refine HMd.out.mono ?_)); rintro e w' ⟨rfl, rfl⟩)
        | (go_at_call 96; ((with_reducible refine HSz.out.mono ?_)); rintro e w5 ⟨rfl, hT5⟩)
        | (go_at_call 32; ((with_reducible refine (HTl.out _ (by assumption)).mono ?_)); rintro e w6 ⟨rfl, hT6⟩)
        | (go_at_call 70; ((with_reducible refine (HFl.out _ (by assumption)).mono ?_)); rintro e w7 ⟨rfl, hT7⟩)
        | (go_at_call 98; ((with_reducible refine (HSt.out _ (by assumption)).mono ?_)); rintro e w9 ⟨rfl, hT9⟩))
      go_ret
      exact ⟨rfl, by assumption⟩
    | true =>
      rw [if_neg (by simp)]
      go_enter Tryz.func69, Tryz.ntmps69
      go_wp2_with (first
        | (go_at_call 80; ((with_reducible refine HMd.out.mono ?_)); rintro e w' ⟨rfl, rfl⟩)
        | (go_at_call 96; ((with_reducible refine HSz.out.mono ?_)); rintro e w5 ⟨rfl, hT5⟩)
        | (go_at_call 32; ((with_reducible refine (HTl.out _ (by assumption)).mono ?_)); rintro e w6 ⟨rfl, hT6⟩)
        | (go_at_call 70; ((with_reducible refine (HFl.out _ (by assumption)).mono ?_)); rintro e w7 ⟨rfl, hT7⟩)
        | (go_at_call 98; ((with_reducible refine (HSt.out _ (by assumption)).mono ?_)); rintro e w9 ⟨rfl, hT9⟩))
      go_ret
      exact ⟨rfl, by assumption⟩
end Go.Proofs.YtmmkcfiecgpkpaaGreat

/- What Publish, Read, Peek, Fill and Trim of the program's partition do. No condition but that it is one, and that its handles are counted. -/
namespace Go.Proofs.YtmmkcfiecgpkpaaGreat
open Go.RowKit
set_option linter.unusedVariables false
set_option linter.unusedSimpArgs false
set_option maxRecDepth 100000

theorem live_i64 {P : PM} {h : Int} (h0 : P.err h = 0) : i64 h := by
  have := (PM.live h0).1
  unfold haIs at this
  exact ⟨by omega, by omega⟩

section
variable {q x r : Nat} {P : PM} {ov : Bool} {M : RM} {w : World} {W : Nat → Prop} {N K : Nat}

set_option maxHeartbeats 1000000 in
theorem xpub_any (h0 : (xsT q P x r ov M).at_ w W) (hM : M.Ok K) (hK : K < 1000000) (a : Int) (ha : w64 a) :
    Calls Tryz.prog 24 #[.pointer (some ⟨x, 0, none⟩), .int .i64 a] w fun e w' => e = .returned (.int .i64 (M.pubE a)) ∧ Goes (xsT q P x r ov (M.pubM a)) W w w' := by
  have HS := Lib.hid (Sit.start h0)
  have HW := Lib.hid (xwin_any HS.out.xs.toXRt)
  have HP := Lib.hid (HS.out.callLast (fun _ h' => ring_api.pub h' hM hK a ha))
  generalize M.pubE a = pe at *
  generalize M.pubM a = M' at *
  clear h0 hM HS
  go_enter Tryz.func24, Tryz.ntmps24
  go_wp2_with (first
    | (go_at_call 52; ((with_reducible refine HW.out.mono ?_)); rintro e w' ⟨rfl, rfl⟩)
    | (go_at_call 53; ((with_reducible refine HP.out.mono ?_)); rintro e w1 ⟨rfl, hs⟩; have H1 := Lib.hid hs; clear hs))
  go_ret
  exact ⟨rfl, H1.out.goes⟩

set_option maxHeartbeats 2000000 in
theorem xtrim_any (h0 : (xsT q P x r ov M).at_ w W) (hO : P.Ok N) (hM : M.Ok K) (hN : N < 999000) (hK : K < 1000000) (a : Int) (ha : w64 a) (hL : ∀ y ∈ M.trimL a, i64 y) :
    Calls Tryz.prog 71 #[.pointer (some ⟨x, 0, none⟩), .int .i64 a] w fun e w' => e = .returned (.tuple #[.int .i64 ((M.trimL a).length : Nat), .int .i64 (M.trimE a)]) ∧ Goes (xsT q (ptTrP P M a) x r ov (M.trimM a)) W w w' := by
  have HS := Lib.hid (Sit.start h0)
  have HW := Lib.hid (xwin_any HS.out.xs.toXRt)
  obtain ⟨l, hl⟩ : ∃ l, l = M.trimL a := ⟨_, rfl⟩
  have hl64 : l.length ≤ 64 := by
    have h1 := hM.len
    have h2 := hM.max
    rw [hl]
    unfold RM.trimL
    split
    · simp
    · rw [List.length_map, List.length_take]; omega
  have HTr := Lib.hid (show Calls Tryz.prog 100 #[.pointer (some ⟨r, 0, none⟩), .int .i64 a] w fun e w' => ∃ al c, e = .returned (.tuple #[.slice al l.length c, .int .i64 (M.trimE a)]) ∧ Sit W w w' ((pT q P).sep ((blkT x [.pointer (some ⟨r, 0, none⟩), .pointer (some ⟨q, 0, none⟩), .int .i64 (polB ov)] 129).sep (numsT (rT r (M.trimM a)) al l))) from by
    obtain ⟨W3, h3, h4⟩ := HS.out.last.fst
    refine (ring_api.trim h3 hM hK a ha).mono ?_
    rintro e w' ⟨al, c, he, hg⟩
    rw [← hl] at he hg
    exact ⟨al, c, he, (h4 _ _ hg).unlast⟩)
  have hP : ptTrP P M a = ptDrops P l := by rw [hl]; rfl
  rw [hP, ← hl]
  rw [← hl] at hL
  have HLi := Lib.hid hL
  have HO := Lib.hid (fun k => ptDrops_ok (l := l.take k) hO)
  have HX := Lib.hid (fun V (P' : PM) (al : Option Addr) (h : Sit W w V ((pT q P').sep ((blkT x [.pointer (some ⟨r, 0, none⟩), .pointer (some ⟨q, 0, none⟩), .int .i64 (polB ov)] 129).sep (numsT (rT r (M.trimM a)) al l)))) => show V.cell? ⟨x, 1, none⟩ = some (.pointer (some ⟨q, 0, none⟩)) from by
    obtain ⟨Q, ⟨W1, W2, _, ⟨V1, V2, v1, _⟩, _⟩, _⟩ := h
    exact v1.1.cell rfl)
  obtain ⟨n, hn⟩ : ∃ n, n = l.length := ⟨_, rfl⟩
  rw [← hn] at HTr hl64 ⊢
  have HN := Lib.hid hn
  generalize M.trimE a = te at *
  generalize M.trimM a = M' at *
  clear hP hl hn h0 hO hM HS hL
  go_enter Tryz.func71, Tryz.ntmps71
  go_wp2_with (first
    | (go_at_call 52; ((with_reducible refine HW.out.mono ?_)); rintro e w' ⟨rfl, rfl⟩)
    | (go_at_call 100; ((with_reducible refine HTr.out.mono ?_)); rintro e w1 ⟨al, cl, rfl, hs⟩; have H1 := Lib.hid hs; clear hs))
  go_loopw [19] (fun i wr => ∃ k : Nat, k ≤ n ∧ i = .int .i64 k ∧ Sit W w wr ((pT q (ptDrops P (l.take k))).sep ((blkT x [.pointer (some ⟨r, 0, none⟩), .pointer (some ⟨q, 0, none⟩), .int .i64 (polB ov)] 129).sep (numsT (rT r M') al l)))) (fun i _ => n - (intOf i).toNat)
  case atStart => exact ⟨0, Nat.zero_le _, rfl, H1.out⟩
  case round =>
    clear H1
    obtain ⟨k, hk, rfl, hs⟩ := hrel
    by_cases hlt : k < n
    · obtain ⟨y, hy⟩ := get_some (l := l) (i := k) (by rw [← HN.out]; exact hlt)
      obtain ⟨b, o, rfl, hc⟩ := hs.numsLast k y hy
      have d1 := HX.out _ _ _ hs
      have HD := Lib.hid (hs.call (fun _ h' => pool_api.drop h' (HO.out k) (by rw [List.length_take]; omega) y (HLi.out y (List.mem_of_getElem? hy))))
      rw [← ptDrops_step hy] at HD
      have hki : (k : Int) < (n : Int) := by omega
      generalize (ptDrops P (l.take k)).dropN y = dn at *
      generalize (ptDrops P (l.take k)).err y = de at *
      clear hs hy
      go_wp2_with (go_at_call 101; ((with_reducible refine HD.out.mono ?_)); rintro e w2 ⟨rfl, hs⟩; have H2 := Lib.hid hs; clear hs)
      go_roundw
      case rel => exact ⟨k + 1, by omega, by go_num, H2.out⟩
      case measure => simp [intOf]; omega
    · obtain rfl : k = n := by omega
      have hall : l.take k = l := List.take_of_length_le (by rw [HN.out]; exact Nat.le_refl _)
      rw [hall] at hs
      have H2 := Lib.hid hs.unnumLast.goes
      clear hs hall
      go_wp2_with fail
      go_ret2
      exact ⟨rfl, H2.out⟩
end
end Go.Proofs.YtmmkcfiecgpkpaaGreat

/- What Claim of the program's partition does. No condition but that it is one, and that its handles are counted. -/
namespace Go.Proofs.YtmmkcfiecgpkpaaGreat
open Go.RowKit
set_option linter.unusedVariables false
set_option linter.unusedSimpArgs false
set_option maxRecDepth 100000

theorem claim_goes {P : PM} {M : RM} {n : Int} (he : ptClE P M n = 0) (hf : M.l.length = M.n) : M.hdp.d = true := by
  unfold ptClE at he
  cases hd : M.hdp.d with
  | true => rfl
  | false =>
    split at he
    · cases he
    · split at he
      · cases he
      · split at he
        · cases he
        · rw [if_pos ⟨hf, .inr hd⟩] at he; cases he

set_option maxHeartbeats 2000000 in
theorem xclaim_any {q x r : Nat} {P : PM} {ov : Bool} {M : RM} {w : World} {W : Nat → Prop} {N K : Nat} {X : List Int} (h0 : (xsT q P x r ov M).at_ w W) (hov : ov = M.ov) (hI : PtInv P (M.refs ++ X)) (hO : P.Ok N) (hM : M.Ok K) (hN : N < 900000) (hK : K < 900000) (n : Int) (hn : w64 n) :
    Calls Tryz.prog 48 #[.pointer (some ⟨x, 0, none⟩), .int .i64 n] w fun e w' => e = .returned (.tuple #[.int .i64 (ptClA P M n), .int .i64 (ptClH P M n), .int .i64 (ptClE P M n)]) ∧ Goes (xsT q (ptClP P M n) x r ov (ptClM P M n)) W w w' := by
  have HS := Lib.hid (Sit.start h0)
  have hpos := hM.pos
  have hlow := hM.low
  have hlf : M.l.length = M.n → P.err M.hdp.r = 0 := fun hf => hI.live _ (by rw [refs_hdp (by omega)]; exact List.mem_append_left _ List.mem_cons_self)
  have HR := Lib.hid (xrefc_any h0 hov hO (by omega) hM (by omega) hlf n)
  by_cases he : ptClE P M n = 0
  · obtain ⟨i1, i2, i3, i4, i5, i6, _⟩ := pt_claim hI hO hM hN he
    have HFl := Lib.hid (fun V (h : Sit W w V (xsT q P x r ov M)) => (xfull_any h.xs.toXRt hM (by omega : K < 1000000)).mono (fun e w' (k : _ ∧ _) => And.intro k.1 (h.still k.2)))
    have eA : ptClA P M n = (M.tail : Int) := if_neg (by simp [he])
    have eH : ptClH P M n = (ptP0 P M).takeH n := if_neg (by simp [he])
    have eP : ptClP P M n = (ptP0 P M).takeM n := if_neg (by simp [he])
    have eM : ptClM P M n = ptWin M (ptClH P M n) := if_neg (by simp [he])
    have HTk := Lib.hid (fun V (M' : RM) (h : Sit W w V (xsT q (ptP0 P M) x r ov M')) => h.call (fun _ h' => pool_api.take h' i3 (by omega) n ⟨hn.1, hn.2⟩))
    rw [he] at HR ⊢
    rw [i2, ← eH] at HTk
    rw [eA, eP, eM]
    have HX := Lib.hid (fun V (P' : PM) (M' : RM) (h : Sit W w V (xsT q P' x r ov M')) => And.intro h.xs.c0 h.xs.c1)
    by_cases hf : M.l.length = M.n
    · have hd := claim_goes he hf
      obtain ⟨t1, t2, t3⟩ := trim_one hM hf hd
      have eP0 : ptTrP P M ((M.h + 1 : Nat) : Int) = ptP0 P M := by
        unfold ptTrP
        rw [t2]
        unfold ptP0
        rw [if_pos hf]; rfl
      have HTr := Lib.hid (fun V (h : Sit W w V (xsT q P x r ov M)) => show Calls Tryz.prog 71 #[.pointer (some ⟨x, 0, none⟩), .int .i64 ((M.h + 1 : Nat) : Int)] V fun e w' => e = .returned (.tuple #[.int .i64 1, .int .i64 0]) ∧ Sit W w w' (xsT q (ptP0 P M) x r ov { M with h := M.h + 1, l := M.l.drop 1 }) from by
        obtain ⟨W1, h1, h2⟩ := h.use
        have := xtrim_any h1 hO hM (by omega) (by omega) ((M.h + 1 : Nat) : Int) ⟨by omega, by unfold RM.tail at hlow; omega⟩ (fun y hy => by
          rw [t2] at hy
          obtain rfl := List.mem_singleton.1 hy
          exact live_i64 (hlf hf))
        rw [t1, t2, t3, eP0] at this
        exact this.mono (fun e w' (k : _ ∧ _) => And.intro k.1 (h2 _ _ k.2)))
      have HHd := Lib.hid (fun V (h : Sit W w V (xsT q P x r ov M)) => (xhead_any h.xs.toXRt hM (by omega : K < 1000000)).mono (fun e w' (k : _ ∧ _) => And.intro k.1 (h.still k.2)))
      have hM0 : ({ M with h := M.h + 1, l := M.l.drop 1 } : RM).Ok K := by rw [← t3]; exact hM.trim _
      have htl : ({ M with h := M.h + 1, l := M.l.drop 1 } : RM).tail = M.tail := by unfold RM.tail; simp; omega
      obtain ⟨k1, k2, k3, k4⟩ := claim_room (M := { M with h := M.h + 1, l := M.l.drop 1 }) i4 (by rw [htl]; omega) (by simp; omega)
      have HCl := Lib.hid (fun V (P' : PM) (h : Sit W w V (xsT q P' x r ov { M with h := M.h + 1, l := M.l.drop 1 })) => h.callLast (fun _ h' => ring_api.claim h' hM0 (by omega) (ptClH P M n) ⟨by omega, by omega⟩))
      rw [k1, k2, k3, k4, htl] at HCl
      have eW : ptWin M (ptClH P M n) = { M with h := M.h + 1, l := M.l.drop 1 ++ [⟨ptClH P M n, false⟩] } := if_pos hf
      rw [eW]
      rw [show decide (M.l.length = M.n) = true by simp [hf]] at HFl
      rw [show ((M.h + 1 : Nat) : Int) = (M.h : Int) + 1 by omega] at HTr
      have hh1 : (M.h : Int) < 1000000 := by unfold RM.tail at hlow; omega
      have hh0 : 0 ≤ (M.h : Int) := by omega
      generalize (ptP0 P M).takeM n = P2 at *
      generalize ptP0 P M = P1 at *
      generalize ptClH P M n = y at *
      generalize (M.tail : Int) = tl at *
      generalize ({ M with h := M.h + 1, l := M.l.drop 1 ++ [⟨y, false⟩] } : RM) = M2 at *
      generalize ({ M with h := M.h + 1, l := M.l.drop 1 } : RM) = M1 at *
      generalize (M.h : Int) = hh at *
      clear h0 hov hI hO hM hpos hlow hlf he i1 i2 i3 i4 i5 i6 eA eH eP eM eW hf hd t1 t2 t3 eP0 hM0 htl k1 k2 k3 k4
      go_enter Tryz.func48, Tryz.ntmps48
      go_wp2_with (first
        | (go_at_call 69; ((with_reducible refine HR.out.mono ?_)); rintro e w1 ⟨rfl, hs⟩; have H1 := Lib.hid (HS.out.still hs); clear hs)
        | (go_at_call 70; ((with_reducible refine (HFl.out _ H1.out).mono ?_)); rintro e w2 ⟨rfl, hs⟩; have H2 := Lib.hid hs; clear hs)
        | (go_at_call 57; ((with_reducible refine (HHd.out _ H2.out).mono ?_)); rintro e w3 ⟨rfl, hs⟩; have H3 := Lib.hid hs; clear hs)
        | (go_at_call 71; ((with_reducible refine (HTr.out _ H3.out).mono ?_)); rintro e w4 ⟨rfl, hs⟩; have H4 := Lib.hid hs; obtain ⟨_, d1⟩ := HX.out _ _ _ hs; clear hs)
        | (go_at_call 72; ((with_reducible refine (HTk.out _ _ H4.out).mono ?_)); rintro e w5 ⟨rfl, hs⟩; have H5 := Lib.hid hs; obtain ⟨e0, _⟩ := HX.out _ _ _ hs; clear hs)
        | (go_at_call 73; ((with_reducible refine (HCl.out _ _ H5.out).mono ?_)); rintro e w6 ⟨rfl, hs⟩; have H6 := Lib.hid hs; clear hs))
      go_ret3
      exact ⟨rfl, H6.out.goes⟩
    · have eP0 : ptP0 P M = P := if_neg hf
      rw [eP0] at HTk ⊢
      obtain ⟨k1, k2, k3, k4⟩ := claim_room (M := M) i4 (by omega) hf
      have HCl := Lib.hid (fun V (P' : PM) (h : Sit W w V (xsT q P' x r ov M)) => h.callLast (fun _ h' => ring_api.claim h' hM (by omega) (ptClH P M n) ⟨by omega, by omega⟩))
      rw [k1, k2, k3, k4] at HCl
      have eW : ptWin M (ptClH P M n) = { M with l := M.l ++ [⟨ptClH P M n, false⟩] } := if_neg hf
      rw [eW]
      rw [show decide (M.l.length = M.n) = false by simp [hf]] at HFl
      generalize P.takeM n = P2 at *
      generalize ptClH P M n = y at *
      generalize (M.tail : Int) = tl at *
      generalize ({ M with l := M.l ++ [⟨y, false⟩] } : RM) = M2 at *
      clear h0 hov hI hO hM hpos hlow hlf he i1 i2 i3 i4 i5 i6 eA eH eP eM eW hf eP0 k1 k2 k3 k4
      go_enter Tryz.func48, Tryz.ntmps48
      go_wp2_with (first
        | (go_at_call 69; ((with_reducible refine HR.out.mono ?_)); rintro e w1 ⟨rfl, hs⟩; have H1 := Lib.hid (HS.out.still hs); clear hs)
        | (go_at_call 70; ((with_reducible refine (HFl.out _ H1.out).mono ?_)); rintro e w2 ⟨rfl, hs⟩; have H2 := Lib.hid hs; obtain ⟨_, d1⟩ := HX.out _ _ _ hs; clear hs)
        | (go_at_call 72; ((with_reducible refine (HTk.out _ _ H2.out).mono ?_)); rintro e w5 ⟨rfl, hs⟩; have H5 := Lib.hid hs; obtain ⟨e0, _⟩ := HX.out _ _ _ hs; clear hs)
        | (go_at_call 73; ((with_reducible refine (HCl.out _ _ H5.out).mono ?_)); rintro e w6 ⟨rfl, hs⟩; have H6 := Lib.hid hs; clear hs))
      go_ret3
      exact ⟨rfl, H6.out.goes⟩
  · rw [show ptClA P M n = 0 from if_pos he, show ptClH P M n = 0 from if_pos he, show ptClP P M n = P from if_pos he, show ptClM P M n = M from if_pos he]
    have hx : (ptClE P M n == 0) = false := by rw [beq_eq_false_iff_ne]; exact he
    generalize ptClE P M n = er at *
    clear h0 hov hI hO hM hlf hpos hlow
    go_enter Tryz.func48, Tryz.ntmps48
    go_wp2_with (go_at_call 69; ((with_reducible refine HR.out.mono ?_)); rintro e w1 ⟨rfl, hs⟩; have H1 := Lib.hid (HS.out.still hs); clear hs)
    go_ret3
    exact ⟨rfl, H1.out.goes⟩
end Go.Proofs.YtmmkcfiecgpkpaaGreat

/- What Handles of the program's partition hands out. No condition but that it is one. -/
namespace Go.Proofs.YtmmkcfiecgpkpaaGreat
open Go.RowKit Go.Shelf
attribute [local go_sem] Oper.semAt_some
set_option linter.unusedVariables false
set_option linter.unusedSimpArgs false
set_option maxRecDepth 100000

/-- Numbers in a box, made since: the box, and the row. -/
def handT (b0 B : Nat) (l : List Int) : Thing where
  at_ w W := ∃ a c, Blk w B [.slice a l.length c] 23 ∧ w.ownsRow b0 3 1 (.slice a l.length c) l.length (ints l) ∧ (Value.slice a l.length c).ownBlock ≠ some B ∧ ∀ k, W k ↔ k = B ∨ (Value.slice a l.length c).ownBlock = some k
  lt := by
    rintro w W ⟨a, c, h1, h2, h3, hW⟩ k hk
    rcases (hW k).1 hk with rfl | hk
    · exact h1.lt
    · cases a with
      | none => cases hk
      | some z =>
        have h4 := (ow_lt h2 z rfl).2
        have h5 : z.block = k := by simpa [Value.ownBlock] using hk
        omega
  keep := by
    rintro w w' W S ⟨a, c, h1, h2, h3, hW⟩ ht hs
    exact ⟨a, c, h1.turned ht (hs _ ((hW B).2 (.inl rfl))), ow_turned h2 ht (fun b hb => hs b ((hW b).2 (.inr hb))), h3, hW⟩

/-- A number more. -/
theorem hand_app {b0 B : Nat} {l : List Int} {V w6 : World} {Q : Nat → Prop} {a a' : Option Addr} {c n c' : Nat} {o : Obj} {x : Int} (hn : n = l.length) (hB : Blk V B [.slice a n c] 23) (hne : (Value.slice a n c).ownBlock ≠ some B) (hQ : ∀ k, Q k ↔ k = B ∨ (Value.slice a n c).ownBlock = some k)
    (hown : w6.ownsRow b0 3 1 (.slice a' (n + 1) c') (n + 1) (ints l ++ [.int .i64 x])) (hg : (V.alloc o).grownBy w6 (Value.slice a n c).ownBlock) (hat : (Value.slice a' (n + 1) c').ownBlock = (Value.slice a n c).ownBlock ∨ (Value.slice a' (n + 1) c').ownBlock = some (V.alloc o).heap.size) :
    w6.cell? ⟨B, 0, none⟩ = some (.slice a n c) ∧ w6.frozen? ⟨B, 0, none⟩ = false ∧ Hid (Goes (handT b0 B (l ++ [x])) Q V (w6.setCell ⟨B, 0, none⟩ (.slice a' (n + 1) c'))) := by
  subst hn
  have hBl := hB.lt
  have hT : Turned (fun k => (Value.slice a l.length c).ownBlock = some k) V w6 := ((Turned.refl _ _).alloc o).grown hg (fun k hk => .inl hk)
  have hB6 : Blk w6 B [.slice a l.length c] 23 := hB.turned hT hne
  have hne' : (Value.slice a' (l.length + 1) c').ownBlock ≠ some B := fun e => by
    rcases hat with h | h
    · exact hne (h ▸ e)
    · rw [h] at e
      rw [World.size_alloc] at e
      have := Option.some.inj e; omega
  refine ⟨hB6.cell rfl, hB6.free _, Lib.hid ?_⟩
  have hT2 : Turned (· = B) w6 (w6.setCell ⟨B, 0, none⟩ (.slice a' (l.length + 1) c')) := turned_set (Turned.refl _ _) 0 _
  have hlen : (l ++ [x]).length = l.length + 1 := by simp
  have hr : (handT b0 B (l ++ [x])).at_ (w6.setCell ⟨B, 0, none⟩ (.slice a' (l.length + 1) c')) (fun k => k = B ∨ (Value.slice a' (l ++ [x]).length c').ownBlock = some k) := by
    refine ⟨a', c', ?_, ?_, ?_, fun _ => Iff.rfl⟩
    · rw [hlen]; have := hB6.set 0 (.slice a' (l.length + 1) c'); simpa using this
    · rw [hlen, show ints (l ++ [x]) = ints l ++ [.int .i64 x] by simp [ints]]
      exact ow_turned hown hT2 (fun b hb e => hne' (e ▸ hb))
    · rw [hlen]; exact hne'
  refine ⟨_, hr, ?_, fun k hk => ?_⟩
  · exact (hT.mono (fun k _ h => (hQ k).2 (.inr h))).trans (hT2.mono (fun k _ h => (hQ k).2 (.inl h)))
  · rcases hk with hk | hk
    · exact .inl ((hQ k).2 (.inl hk))
    · rw [hlen] at hk
      rcases hat with h | h
      · exact .inl ((hQ k).2 (.inr (h ▸ hk)))
      · rw [h, World.size_alloc] at hk
        have := Option.some.inj hk
        exact .inr (by omega)

set_option maxHeartbeats 2000000 in
theorem xhandles_any {x q r : Nat} {ov : Bool} {M : RM} {w : World} {W : Nat → Prop} {K : Nat} (h : (xrT x q r ov M).at_ w W) (hM : M.Ok K) (hKb : K < 1000000) (n : Nat) (hn : n = M.l.length) :
    Calls Tryz.prog 59 #[.pointer (some ⟨x, 0, none⟩)] w (OutNums w M.refs n) := by
  obtain ⟨i0, hi, hz0, hz1, hz2⟩ := info_parts infoIntW
  have HIt := Lib.hid (xenvs_it (x := x) (q := q) (r := r) (ov := ov) hM hKb w.heap.size.succ).all
  obtain ⟨hh, hhe⟩ : ∃ hh, hh = M.h := ⟨_, rfl⟩
  have hn64 : n ≤ 64 := by have := hM.len; have := hM.max; omega
  obtain ⟨R, hR⟩ : ∃ R, R = M.refs := ⟨_, rfl⟩
  have hRn : R.length = n := by rw [hR, hn]; exact List.length_map _
  rw [← hhe, ← hR] at HIt
  obtain ⟨W1, hW1⟩ : ∃ W1, W1 = w.alloc (.cells #[.slice none 0 0] 23) := ⟨_, rfl⟩
  have hs1 : Still w W1 := by rw [hW1]; exact (Turned.refl _ _).alloc _
  have hb1 : Blk W1 w.heap.size [.slice none 0 0] 23 := by rw [hW1]; exact Blk.new w [.slice none 0 0] 23
  have hz1' : W1.heap.size = w.heap.size + 1 := by rw [hW1]; simp
  have hx1 : (xrT x q r ov M).at_ W1 W := (xrT x q r ov M).keep h hs1 (fun _ _ h => h)
  have hSl := (xrT x q r ov M).lt h
  have HE := Lib.hid (xenvs_any (some ⟨x, 0, none⟩) W1)
  have HR := Lib.hid (evR_new hx1)
  have ht2 : Still W1 (W1.alloc (.cells #[.pointer (some ⟨x, 0, none⟩)] 47)) := (Turned.refl _ _).alloc _
  have HB := Lib.hid (show (handT w.heap.size w.heap.size (R.take 0)).at_ (W1.alloc (.cells #[.pointer (some ⟨x, 0, none⟩)] 47)) (fun k => k = w.heap.size ∨ (Value.slice none 0 0).ownBlock = some k) from
    ⟨none, 0, hb1.turned ht2 (fun h => h), World.ownsRow_nil _ _ _ _, by simp [Value.ownBlock], fun _ => Iff.rfl⟩)
  have hD' : ∀ k, k = w.heap.size ∨ (Value.slice none 0 0).ownBlock = some k → k = w.heap.size := fun k hk => hk.elim id (fun hk => by simp [Value.ownBlock] at hk)
  have HD := Lib.hid (show ∀ k, (k = w.heap.size ∨ (Value.slice none 0 0).ownBlock = some k) → ¬ (k = W1.heap.size ∨ W k) from by
    intro k hk0
    obtain rfl := hD' k hk0
    rintro (hk | hk)
    · omega
    · have := hSl _ hk; omega)
  have HSt := Lib.hid (hs1.trans ht2)
  have HD2 := Lib.hid hD'
  have HAll := Lib.hid (show R.take (evL hh R).length = R from by rw [evL_length, List.take_length])
  have HZ1 := Lib.hid hz1'
  have HRn := Lib.hid hRn
  have HLk := Lib.hid (fun k => show (R.take k).length ≤ 64 from by rw [List.length_take]; omega)
  rw [show w.heap.size.succ = W1.heap.size from hz1'.symm] at HIt
  rw [← hR]
  clear h hM hSl ht2 hb1 hz1' hD' hx1 hR hRn hhe hn
  refine (callsIn_wide (n := 9)).1 (callsIn_of_wp_marks Tryz.func59 rfl trivial ?_ rfl)
  simp only [Tryz.ntmps59, List.size_toArray, List.length_cons, List.length_nil, Nat.reduceAdd, Nat.reduceSub, Array.replicate_succ, Array.replicate_zero, List.push_toArray, List.append_toArray, List.nil_append, List.cons_append]
  have hf1 : Fence.wide.fn 86 := trivial
  gi_wp2_with (gi_at_call 86; rw [← hW1]; ((with_reducible refine (callsIn_wide.2 HE.out).mono ?_)); rintro e w2 ⟨rfl, rfl⟩)
  rw [← hW1, show w.heap.size + 1 = W1.heap.size from HZ1.out.symm]
  clear hW1
  refine loopT_outerE rfl (enters_of Tryz.func112 (by kernel_rfl) rfl) HIt.out (by exact fun _ => rfl) (fun k => handT w.heap.size w.heap.size (R.take k)) HR.out HB.out HD.out ?_ ?_
  · rintro ⟨y, z⟩
    apply Exists.intro
    apply And.intro
    · intro l1 V K hK
      dsimp only [encE]
      gi_wp2
      exact hK
    · intro l1 k V Q' hr hl1 hx hI hQl hsk
      obtain ⟨z', hz', ez⟩ := evL_some hx
      obtain ⟨rfl, rfl⟩ : y = hh + k ∧ z = z' := by simpa using ez
      have HSm := Lib.hid (take_step hz')
      have hln := HLk.out k
      obtain ⟨a, c, hB, hrow, hne, hQ⟩ := hI
      have cc := hB.cell (o := 0) rfl
      have HF := Lib.hid (fun V' (hg : Goes (handT w.heap.size w.heap.size (R.take k ++ [z])) Q' V V') => show Goes (handT w.heap.size w.heap.size (R.take (k + 1))) Q' V V' from by
        rw [HSm.out]; exact hg)
      have HAp := Lib.hid (fun w6 a' c' o hown hg hat => hand_app (b0 := w.heap.size) (w6 := w6) (a' := a') (c' := c') (o := o) (x := z) rfl hB hne hQ hown hg hat)
      have HRow := Lib.hid hrow
      have hsz : w.heap.size ≤ V.heap.size + 1 := by
        have := hsk.turn.size
        have := HSt.out.size
        omega
      obtain ⟨m, hm⟩ : ∃ m, m = (R.take k).length := ⟨_, rfl⟩
      rw [← hm] at HAp HRow cc hln
      clear hr hl1 hx hQl hsk hB hQ hz' hrow hne ez hm
      gi_wp2_with (gi_at_builtin; refine wpListIn_append_own_at _ rfl _ _ 23 rfl w.heap.size 3 i0 (.int .i64 0) 1 8 Tryz.underlying23 hi hz0 hz1 hz2 rfl (by decide) _ _ _ rfl (HRow.out.alloc _) ⟨V.heap.size, 0, none⟩ 1 1 [.int .i64 z] rfl rfl (cell_one_new _ _ _) (by simp [Value.oneCell']) (by unfold maxLen; omega) (by omega) (by simp; omega) ?_; intro v' w6 hown6 hg6 _ hat6; obtain ⟨a6, c6, rfl⟩ := ow_slice hown6; obtain ⟨hc6, hf6, HG6⟩ := HAp.out w6 a6 c6 _ hown6 hg6 hat6; clear hown6 hg6 hat6)
      exact HF.out _ HG6.out
  · intro D V Q' hD hK hQD hI hsk
    rw [HAll.out] at hI
    obtain ⟨a, c, hB, hrow, hne, hQ⟩ := hI
    have cc := hB.cell (o := 0) rfl
    rw [HRn.out] at cc
    have hD1 : w.heap.size ≤ D := Nat.le_trans HSt.out.size hD
    have hT0 : Turned (fun k => w.heap.size ≤ k) w V := (HSt.out.mono (fun _ _ h => h.elim)).trans (hsk.turn.mono (fun k _ h => by have := HD2.out k h; omega))
    have hp := putObj_since (.deferred none) (Array.getElem?_eq_some_iff.1 hK).1
    have HP := Lib.hid (show OutNums w R n (.returned (.slice a n c)) (V.putObj D (.deferred none)) from by
      rw [HRn.out] at hrow hQ
      refine ⟨a, c, rfl, ow_turned hrow hp (fun b hb e => ?_), ?_⟩
      · obtain rfl := e
        exact hQD ((hQ _).2 (.inr hb))
      · exact (hT0.trans (hp.mono (fun k _ e => by rw [e]; exact hD1))).mono (fun k hk hh => by omega))
    clear hB hrow hne hQ hT0 hsk hp
    gi_wp2
    refine ⟨by simp, .inl ⟨_, _, rfl, run_takeDeferred hK, ?_⟩⟩
    refine ⟨_, results_tmp rfl _ _ _, ?_⟩
    exact HP.out
end Go.Proofs.YtmmkcfiecgpkpaaGreat

/- The program's partitions and pool keep the words that the statements want of them. No condition. -/
namespace Go.Proofs.YtmmkcfiecgpkpaaGreat
open Go.RowKit
set_option linter.unusedVariables false
set_option linter.unusedSimpArgs false
set_option maxRecDepth 100000

theorem xmake_no {w : World} {W : Nat → Prop} {q : Nat} {P : PM} {N : Nat} (h : (pT q P).at_ w W) (hO : P.Ok N) (hN : N < 1000000) (n p : Int) (hn : w64 n) (hp : w64 p) (hno : ¬ (1 ≤ n ∧ n ≤ 64 ∧ (p = 0 ∨ p = 1))) :
    Calls Tryz.prog 63 #[.pointer (some ⟨q, 0, none⟩), .int .i64 n, .int .i64 p] w fun e w' => e = .returned (.tuple #[.pointer none, .int .i64 2]) ∧ Still w w' := by
  have HS := Lib.hid (pool_api.slots h hO hN)
  have HR := Lib.hid (fun V => ring_api.make_no n p V hn hp hno)
  have hpos := hO.pos
  generalize P.sl.length = m at *
  clear h hO hn hp hno
  go_enter Tryz.func63, Tryz.ntmps63
  go_wp2_with (first
    | (go_at_call 90; ((with_reducible refine HS.out.mono ?_)); rintro e w1 ⟨rfl, hs⟩; have H1 := Lib.hid hs; clear hs)
    | (go_at_call 91; ((with_reducible refine (HR.out _).mono ?_)); rintro e w2 ⟨rfl, hs⟩; have H2 := Lib.hid hs; clear hs))
  go_ret2
  exact ⟨rfl, H1.out.trans H2.out⟩

theorem xmake_ok {w : World} {W : Nat → Prop} {q : Nat} {P : PM} {N : Nat} (h : (pT q P).at_ w W) (hO : P.Ok N) (hN : N < 1000000) (n : Nat) (ov : Bool) (h1 : 1 ≤ n) (h2 : n ≤ 64) :
    Calls Tryz.prog 63 #[.pointer (some ⟨q, 0, none⟩), .int .i64 n, .int .i64 (polB ov)] w (XNew xT w q n ov) := by
  have HS := Lib.hid (pool_api.slots h hO hN)
  have HR := Lib.hid (fun V => ring_api.make_ok n ov V h1 h2)
  unfold RNew at HR
  have hpos := hO.pos
  have HF := Lib.hid (fun (w1 w2 : World) (r : Nat) (V : Nat → Prop) (s1 : Still w w1) (hV : (rT r (RM.new n ov)).at_ w2 V) (s2 : Still w1 w2) (hlo : ∀ k, V k → w1.heap.size ≤ k) =>
    show XNew xT w q n ov (.returned (.tuple #[.pointer (some ⟨w2.heap.size, 0, none⟩), .int .i64 0])) (w2.alloc (.cells #[.pointer (some ⟨r, 0, none⟩), .pointer (some ⟨q, 0, none⟩), .int .i64 (polB ov)] 129)) from by
      have hr := (rT r (RM.new n ov)).lt hV
      have hs := s1.trans s2
      refine ⟨_, rfl, fun k => k = w2.heap.size ∨ V k, ⟨r, (· = w2.heap.size), V, ⟨Blk.new w2 [.pointer (some ⟨r, 0, none⟩), .pointer (some ⟨q, 0, none⟩), .int .i64 (polB ov)] 129, fun _ => Iff.rfl⟩, (rT r (RM.new n ov)).keep hV ((Turned.refl _ w2).alloc _) (fun _ _ h => h), fun k e hk => by have := hr k hk; omega, fun _ => Iff.rfl⟩, hs.alloc _, fun k hk => ?_⟩
      rcases hk with rfl | hk
      · exact hs.size
      · exact Nat.le_trans s1.size (hlo k hk))
  generalize (n : Int) = nn at *
  generalize polB ov = pb at *
  generalize P.sl.length = m at *
  clear h hO h1 h2
  go_enter Tryz.func63, Tryz.ntmps63
  go_wp2_with (first
    | (go_at_call 90; ((with_reducible refine HS.out.mono ?_)); rintro e w1 ⟨rfl, hs⟩; have H1 := Lib.hid hs; clear hs)
    | (go_at_call 91; ((with_reducible refine (HR.out _).mono ?_)); rintro e w2 ⟨r, rfl, V, hV, hs, hlo⟩; have H2 := Lib.hid hs; have HV := Lib.hid hV; have HL := Lib.hid hlo; clear hs hV hlo))
  go_ret2
  exact HF.out _ _ _ _ H1.out HV.out H2.out HL.out

theorem part_acts : PartActs pT xT where
  claim := fun h hI hO hM hN hK n hn => by
    obtain ⟨r, h'⟩ := xs_open h
    exact (xclaim_any h' rfl hI hO hM hN hK n hn).mono fun e w' k => ⟨k.1, xs_goes (n_claim _ _ _).2.symm k.2⟩
  pub := fun h hI hO hM hN hK a ha => by
    obtain ⟨r, h'⟩ := xs_open h
    exact (xpub_any h' hM (by omega) a ha).mono fun e w' k => ⟨k.1, xs_goes (n_pub _ _).2.symm k.2⟩
  trim := fun h hI hO hM hN hK a ha => by
    obtain ⟨r, h'⟩ := xs_open h
    exact (xtrim_any h' hO hM (by omega) (by omega) a ha (fun y hy => live_i64 (hI.live y (List.mem_append_left _ (by rw [refs_trim (a := a)]; exact List.mem_append_left _ hy))))).mono fun e w' k => ⟨k.1, xs_goes (n_trim _ _).2.symm k.2⟩
  head := fun h hO hM hN hK => by
    obtain ⟨r, h'⟩ := xs_open h
    exact xhead_any (xsT_at h').toXRt hM (by omega)
  tail := fun h hO hM hN hK => by
    obtain ⟨r, h'⟩ := xs_open h
    exact xtail_any (xsT_at h').toXRt hM (by omega)
  ready := fun h hO hM hN hK a ha => by
    obtain ⟨r, h'⟩ := xs_open h
    exact xready_any (xsT_at h').toXRt hM (by omega) a ha
  handles := fun h hO hM hN hK n hn => by
    obtain ⟨r, _, W2, _, h2, _⟩ := xs_open h
    exact xhandles_any h2 hM (by omega) n hn
theorem part_api : PartApi pT xT where
  toPartActs := part_acts
  make_no := fun h hO hN n p hn hp hno => xmake_no h hO (by omega) n p hn hp hno
  make_ok := fun h hO hN n ov h1 h2 => xmake_ok h hO (by omega) n ov h1 h2
theorem pool_api12 : PoolApi12 pT where
  drop := fun h hM hN x hx => pool_api.drop h hM hN x hx
  count := fun h hM hN k hk => pool_api.count h hM hN k hk
  free := fun h hM hN n hn => pool_api.free h hM hN n hn
  make_ok := fun n s w h1 h2 h3 h4 => pool_api.make_ok n s w h1 h2 h3 h4
end Go.Proofs.YtmmkcfiecgpkpaaGreat
