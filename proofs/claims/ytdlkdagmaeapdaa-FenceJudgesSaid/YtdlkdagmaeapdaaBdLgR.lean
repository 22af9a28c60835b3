import Derived.Test.YtdlkdagmaeapdaaLgModel
import Derived.Test.YtdlkdagmaeapdaaSitRow
import Derived.Test.YtdlkdagmaeapdaaSameSpans
import Derived.Test.YtdlkdagmaeapdaaRead
import Derived.Deep.RegionHeld3
import Derived.Deep.DeepCutAuto
import Derived.Deep.CutBlock
import Derived.Deep.RegionLaw
import Derived.Maps.AppendAt
import Derived.BigQuiet
import Derived.BigRegion
import Derived.Test.YtdlkdagmaeapdaaStepApp
import Derived.Test.YtdlkdagmaeapdaaHeld

/- The document's ledger, as it lies in memory; what can be read of it; Make, End, Is, Of. No condition but that it is one. -/
namespace Go.Proofs.Ytdlkdagmaeapdaa
open Go.RowKit
set_option linter.unusedVariables false
set_option linter.unusedSimpArgs false
set_option maxRecDepth 100000

def encSp (x : Pc) : List Value := [.int .i64 x.1, .int .i64 x.2.1]
theorem encSp_len (x : Pc) : (encSp x).length = 2 := rfl
def kindsV (l : List Pc) : List Value := l.map fun x => .bool x.2.2
theorem kindsV_get {l : List Pc} {i : Nat} {x : Pc} (h : l[i]? = some x) : (kindsV l)[i]? = some (.bool x.2.2) := by unfold kindsV; rw [List.getElem?_map, h]; rfl

abbrev zlT (q : Nat) (a : Option Addr) (c : Nat) (a2 : Option Addr) (c2 n : Nat) (M : LgM) : Thing :=
  (blkT q [.int .i64 M.b, .slice a n c, .slice a2 n c2] 79).sep ((ownT 51 2 a n c (rowOf encSp M.L)).sep (ownT 4 1 a2 n c2 (kindsV M.L)))
/-- The document's ledger. -/
def zLT (q : Nat) (M : LgM) : Thing where
  at_ w W := ∃ a c a2 c2, (zlT q a c a2 c2 M.L.length M).at_ w W
  lt := by rintro w W ⟨a, c, a2, c2, h⟩; exact Thing.lt _ h
  keep := by rintro w w' W S ⟨a, c, a2, c2, h⟩ ht hs; exact ⟨a, c, a2, c2, Thing.keep _ h ht hs⟩

structure ZlRd (q : Nat) (a : Option Addr) (c : Nat) (a2 : Option Addr) (c2 n : Nat) (M : LgM) (w : World) : Prop where
  c0 : w.cell? ⟨q, 0, none⟩ = some (.int .i64 M.b)
  c1 : w.cell? ⟨q, 1, none⟩ = some (.slice a n c)
  c2 : w.cell? ⟨q, 2, none⟩ = some (.slice a2 n c2)
  row : ∀ (i : Nat) (x : Pc), M.L[i]? = some x → ∃ g g2, a = some ⟨g, 0, none⟩ ∧ a2 = some ⟨g2, 0, none⟩ ∧ w.cell? ⟨g, i * 2, none⟩ = some (.int .i64 x.1) ∧ w.cell? ⟨g, i * 2 + 1, none⟩ = some (.int .i64 x.2.1) ∧ w.cell? ⟨g2, i, none⟩ = some (.bool x.2.2)
section
variable {q : Nat} {a a2 : Option Addr} {c c2 n : Nat} {M : LgM} {w w' : World} {W : Nat → Prop}
theorem ZlRd.still (h : ZlRd q a c a2 c2 n M w) (ht : Still w w') : ZlRd q a c a2 c2 n M w' :=
  ⟨still_cell ht h.c0 rfl, still_cell ht h.c1 rfl, still_cell ht h.c2 rfl, fun i x hx => by
    obtain ⟨g, g2, e1, e2, h1, h2, h3⟩ := h.row i x hx
    exact ⟨g, g2, e1, e2, still_cell ht h1 rfl, still_cell ht h2 rfl, still_cell ht h3 rfl⟩⟩
theorem zlT_rd (hn : n = M.L.length) (h : (zlT q a c a2 c2 n M).at_ w W) : ZlRd q a c a2 c2 n M w := by
  obtain ⟨W1, W2, ⟨h1, _⟩, ⟨W3, W4, ⟨h3, _⟩, ⟨h4, _⟩, _⟩, _⟩ := h
  refine ⟨h1.cell rfl, h1.cell rfl, h1.cell rfl, fun i x hx => ?_⟩
  have hlt := (List.getElem?_eq_some_iff.1 hx).1
  obtain ⟨g, rfl⟩ := owm_addr h3 (by omega)
  obtain ⟨g2, rfl⟩ := owm_addr h4 (by omega)
  exact ⟨g, g2, rfl, rfl, (owm_cell h3 (rowOf_get encSp_len hx (j := 0) rfl)).1, (owm_cell h3 (rowOf_get encSp_len hx (j := 1) rfl)).1, (owm_cell h4 (kindsV_get hx)).1⟩
theorem zLT_rd (h : (zLT q M).at_ w W) : ∃ a c a2 c2, ZlRd q a c a2 c2 M.L.length M w := by
  obtain ⟨a, c, a2, c2, h⟩ := h
  exact ⟨a, c, a2, c2, zlT_rd rfl h⟩

set_option maxHeartbeats 1000000 in
theorem zlgend_rd (h : ZlRd q a c a2 c2 n M w) (hn : n = M.L.length) (hm : n ≤ 256) : Calls Try.prog 11 #[.pointer (some ⟨q, 0, none⟩)] w fun e w' => e = .returned (.int .i64 M.fin) ∧ Still w w' := by
  obtain ⟨x0, x1, x2, hrow⟩ := h
  by_cases h0 : M.L = []
  · obtain rfl : n = 0 := by rw [hn, h0]; rfl
    have hf : M.fin = M.b := by unfold LgM.fin; rw [h0]; rfl
    rw [hf]
    clear hrow hn h0 hf
    go_enter Try.func11, Try.ntmps11
    go_wp2_with fail
    go_ret
    exact ⟨rfl, Turned.refl _ _⟩
  · obtain ⟨l', x, hl⟩ := last_split h0
    have hf : M.fin = x.2.1 := by unfold LgM.fin; rw [hl, endF_app]; rfl
    have hl' : n = l'.length + 1 := by rw [hn, hl]; simp
    obtain ⟨g, g2, rfl, rfl, _, y1, _⟩ := hrow l'.length x (by rw [hl]; simp)
    rw [hf]
    generalize l'.length = k at *
    generalize x.2.1 = f at *
    subst hl'
    clear hrow hn h0 hf hl
    go_enter Try.func11, Try.ntmps11
    go_wp2_with fail
    go_quiet (fail)
    go_wp2_with fail
    go_ret
    exact ⟨rfl, (Turned.refl _ _).drewN _⟩
theorem zlgend_any (h : (zLT q M).at_ w W) (hM : M.Ok) : Calls Try.prog 11 #[.pointer (some ⟨q, 0, none⟩)] w fun e w' => e = .returned (.int .i64 M.fin) ∧ Still w w' := by
  obtain ⟨a, c, a2, c2, h⟩ := zLT_rd h
  exact zlgend_rd h rfl hM.len
end
end Go.Proofs.Ytdlkdagmaeapdaa

/- What Make, Is and Of of the document's ledger do. No condition but that it is one. -/
namespace Go.Proofs.Ytdlkdagmaeapdaa
open Go.RowKit
set_option linter.unusedVariables false
set_option linter.unusedSimpArgs false
set_option maxRecDepth 100000

theorem is_at {n : Int} : ∀ {l : List Pc} {k : Nat} {x : Pc}, l[k]? = some x → (∀ (j : Nat) (y : Pc), j < k → l[j]? = some y → inPc y n = false) → inPc x n = true → lgiV l n = x.2.2 ∧ lgiE l n = 0 := by
  intro l
  induction l with
  | nil => intro k x h; simp at h
  | cons y l ih =>
    intro k x hx hno hi
    cases k with
    | zero =>
      obtain rfl : y = x := by simpa using hx
      simp [lgiV, lgiE, hi]
    | succ k =>
      have h0 := hno 0 y (by omega) rfl
      obtain ⟨h1, h2⟩ := ih (k := k) (x := x) (by simpa using hx) (fun j z hj hz => hno (j + 1) z (by omega) (by simpa using hz)) hi
      constructor
      · unfold lgiV at h1 ⊢; rw [List.find?_cons, h0]; exact h1
      · unfold lgiE at h2 ⊢; rw [List.any_cons, h0, Bool.false_or]; exact h2
theorem is_none {l : List Pc} {n : Int} (h : ∀ (j : Nat) (y : Pc), j < l.length → l[j]? = some y → inPc y n = false) : lgiV l n = false ∧ lgiE l n = 5 := by
  have h' : ∀ x ∈ l, inPc x n = false := fun x hx => by
    obtain ⟨j, hj, rfl⟩ := List.mem_iff_getElem.1 hx
    exact h j _ hj (List.getElem?_eq_getElem hj)
  constructor
  · unfold lgiV
    rw [List.find?_eq_none.2 (fun x hx => by simp [h' x hx])]; rfl
  · unfold lgiE
    rw [if_neg]
    intro ha
    obtain ⟨x, hx, hi⟩ := List.any_eq_true.1 ha
    rw [h' x hx] at hi
    cases hi
theorem spOf_snoc {l : List Pc} {k : Nat} {x : Pc} (kd : Bool) (h : l[k]? = some x) : spOf (l.take (k + 1)) kd = if x.2.2 = kd then spOf (l.take k) kd ++ [(x.1, x.2.1)] else spOf (l.take k) kd := by
  unfold spOf
  rw [List.take_add_one, h, List.filter_append]
  simp only [Option.toList_some, List.filter_cons, List.filter_nil]
  by_cases hk : x.2.2 = kd
  · rw [if_pos hk, if_pos (by simpa using hk)]; simp
  · rw [if_neg hk, if_neg (by simpa using hk)]; simp

theorem infoSpan : (Try.prog.info? 51).map (fun i => (i.zero, i.size, i.bytes)) = some (some (.agg #[.int .i64 0, .int .i64 0]), 2, 16) := by kernel_rfl
/-- What append leaves of a row of one's own. -/
theorem own_appended {w wr w6 : World} {e : TypeId} {m : Nat} {ao : Option Addr} {k cc : Nat} {xs : List Value} {o : Obj} (hs : Still w wr) (h : wr.ownsRow w.heap.size e m (.slice ao k cc) k xs) (hg : (wr.alloc o).grownBy w6 (Value.slice ao k cc).ownBlock) : Still w w6 := by
  refine (hs.alloc o).past ((Turned.refl (fun i => (Value.slice ao k cc).ownBlock = some i) _).grown hg (fun i e => .inl e)) (fun i hi => ?_)
  cases ao with
  | none => cases hi
  | some x => have := (ow_lt h x rfl).1
              have e : x.block = i := by simpa [Value.ownBlock] using hi
              exact .inr (by omega)

/-- A new ledger. -/
def LNew (LT : Nat → LgM → Thing) (w : World) (M : LgM) (q : Nat) (w' : World) : Prop := ∃ W, (LT q M).at_ w' W ∧ Still w w' ∧ ∀ k, W k → w.heap.size ≤ k

section
variable {q : Nat} {a a2 : Option Addr} {c c2 n : Nat} {M : LgM} {w w' : World} {W : Nat → Prop}
theorem zlgmake_no (b : Int) (w : World) (h : ¬ (0 ≤ b ∧ b ≤ 1099511627776)) : Calls Try.prog 40 #[.int .i64 b] w fun e w' => e = .returned (.tuple #[.pointer none, .int .i64 2]) ∧ Still w w' := by
  have HO : Hid (∀ V, Calls Try.prog 69 #[.int .i64 b] V fun e w' => e = .returned (.bool false) ∧ V = w') := Lib.hid (fun V => by
    by_cases h0 : 0 ≤ b
    · have h1 : ¬ b ≤ 1099511627776 := fun h1 => h ⟨h0, h1⟩
      clear h
      go_enter Try.func69, Try.ntmps69
      go_wp2_with fail
      go_ret
      exact ⟨rfl, rfl⟩
    · clear h
      go_enter Try.func69, Try.ntmps69
      go_wp2_with fail
      go_ret
      exact ⟨rfl, rfl⟩)
  clear h
  go_enter Try.func40, Try.ntmps40
  go_wp2_with (go_at_call 69; ((with_reducible refine (HO.out _).mono ?_)); rintro e w1 ⟨rfl, rfl⟩)
  go_ret2
  exact ⟨rfl, Turned.refl _ _⟩
theorem zlgnew (w : World) (b : Int) : LNew zLT w (LgM.new b) w.heap.size (w.alloc (.cells #[.int .i64 b, .slice none 0 0, .slice none 0 0] 79)) := by
  refine ⟨(· = w.heap.size), ⟨none, 0, none, 0, (· = w.heap.size), fun _ => False, ⟨Blk.new w [.int .i64 b, .slice none 0 0, .slice none 0 0] 79, fun _ => Iff.rfl⟩,
    ⟨fun _ => False, fun _ => False, ⟨World.ownsRow_nil _ _ _ _, fun k => ⟨fun h => h.elim, fun h => by cases h⟩⟩, ⟨World.ownsRow_nil _ _ _ _, fun k => ⟨fun h => h.elim, fun h => by cases h⟩⟩, fun _ h => h.elim, fun k => ⟨fun h => h.elim, fun h => h.elim id id⟩⟩, fun _ _ h => h, fun k => ⟨.inl, fun h => h.elim id (fun h => h.elim)⟩⟩, (Turned.refl _ _).alloc _, fun k hk => by omega⟩
theorem zlgmake_ok (b : Int) (w : World) (h0 : 0 ≤ b) (h1 : b ≤ 1099511627776) : Calls Try.prog 40 #[.int .i64 b] w fun e w' => ∃ q, e = .returned (.tuple #[.pointer (some ⟨q, 0, none⟩), .int .i64 0]) ∧ LNew zLT w (LgM.new b) q w' := by
  have HO : Hid (∀ V, Calls Try.prog 69 #[.int .i64 b] V fun e w' => e = .returned (.bool true) ∧ V = w') := Lib.hid (fun V => by
    go_enter Try.func69, Try.ntmps69
    go_wp2_with fail
    go_ret
    exact ⟨rfl, rfl⟩)
  have HN := Lib.hid (zlgnew w b)
  clear h0 h1
  go_enter Try.func40, Try.ntmps40
  go_wp2_with (go_at_call 69; ((with_reducible refine (HO.out _).mono ?_)); rintro e w1 ⟨rfl, rfl⟩)
  go_ret2
  exact ⟨_, rfl, HN.out⟩

set_option maxHeartbeats 1000000 in
theorem zlgof_any (h : (zLT q M).at_ w W) (hM : M.Ok) (kd : Bool) (m : Nat) (hm : m = (spOf M.L kd).length) : Calls Try.prog 50 #[.pointer (some ⟨q, 0, none⟩), .bool kd] w (OutSp w (spOf M.L kd) m) := by
  obtain ⟨a, c, a2, c2, h⟩ := zLT_rd h
  obtain ⟨n, hn⟩ : ∃ n, n = M.L.length := ⟨_, rfl⟩
  rw [← hn] at h
  have HRd := Lib.hid (fun V (hs : Still w V) => h.still hs)
  obtain ⟨x0, x1, x2, _⟩ := h
  have HN := Lib.hid hn
  have HEnd := Lib.hid (show spOf (M.L.take n) kd = spOf M.L kd from by rw [hn, List.take_length])
  have HM := Lib.hid hm
  have hn256 : n ≤ 256 := by have := hM.len; omega
  have HDl := Lib.hid (fun (k : Nat) => show (spOf (M.L.take k) kd).length ≤ 256 from Nat.le_trans (spOf_len _ _) (by rw [List.length_take]; have := hM.len; omega))
  obtain ⟨i0, hi, hz0, hz1, hz2⟩ := info_parts infoSpan
  have HW := Lib.hid (World.ownsRow_made (e := 51) (size := 2) w #[] 0 (Nat.le_refl _) (by simp) (by simp))
  clear hn hM hm
  go_enter Try.func50, Try.ntmps50
  go_wp2_with fail
  go_loopw [5, 6] (fun o i wr => ∃ (k d : Nat) (ao : Option Addr) (cc : Nat), k ≤ n ∧ d = (spOf (M.L.take k) kd).length ∧ i = .int .i64 k ∧ o = .slice ao d cc ∧ wr.ownsRow w.heap.size 51 2 (.slice ao d cc) d (rowOf sp2V (spOf (M.L.take k) kd)) ∧ Still w wr) (fun _ i _ => n - (intOf i).toNat)
  case atStart => exact ⟨0, 0, _, 0, Nat.zero_le _, rfl, rfl, rfl, HW.out, (Turned.refl _ _).alloc _⟩
  case round =>
    obtain ⟨k, d, ao, cc, hk, hd, rfl, rfl, hown, hst⟩ := hrel
    have hd256 : d ≤ 256 := by rw [hd]; exact HDl.out k
    have HD := Lib.hid hd
    have HO := Lib.hid hown
    have HS := Lib.hid hst
    obtain ⟨z0, z1, z2, hrow⟩ := HRd.out wr hst
    by_cases hlt : k < n
    · obtain ⟨x, hx⟩ := get_some (l := M.L) (i := k) (by rw [← HN.out]; exact hlt)
      obtain ⟨g, g2, rfl, rfl, y0, y1, y2⟩ := hrow k x hx
      have hki : (k : Int) < (n : Int) := by omega
      have HSn := Lib.hid (spOf_snoc kd hx)
      have hlo := hst.size
      obtain ⟨xf, xt, xk⟩ := x
      dsimp only at y0 y1 y2 HSn
      clear hown hst hd hrow hx x0 x1 x2
      by_cases hkd : xk = kd
      · subst hkd
        have HS1 := Lib.hid (show spOf (M.L.take (k + 1)) xk = spOf (M.L.take k) xk ++ [(xf, xt)] from by rw [HSn.out, if_pos rfl])
        clear HSn
        go_wp2_with (at_builtin; refine wpList_append_own_at _ rfl _ _ 48 rfl w.heap.size 51 i0 (.agg #[.int .i64 0, .int .i64 0]) 2 16 Try.underlying48 hi hz0 hz1 hz2 rfl (by decide) (.slice ao d cc) d (rowOf sp2V (spOf (M.L.take k) xk)) rfl (ow_still HO.out ((Turned.refl _ _).alloc _)) ⟨wr.heap.size, 0, none⟩ 1 1 [.int .i64 xf, .int .i64 xt] rfl rfl (ow_cells wr _ _) (by intro u hu; simp at hu; rcases hu with rfl | rfl <;> rfl) (by unfold maxLen; omega) (by omega) (by first | (simp; done) | (simp; omega)) ?_; intro v6 w6 hown6 hg6 _ hat6; obtain ⟨a6, c6, rfl⟩ := ow_slice hown6; have HS6 := Lib.hid (own_appended HS.out HO.out hg6); have HO6 := Lib.hid hown6; clear hown6 hg6 hat6)
        go_roundw
        case rel => exact ⟨k + 1, d + 1, a6, c6, by omega, by rw [HS1.out, List.length_append, HD.out]; rfl, by go_num, rfl, by rw [HS1.out, rowOf_append, rowOf_cons, rowOf_nil, List.append_nil]; exact HO6.out, HS6.out⟩
        case measure => simp [intOf]; omega
      · have HS1 := Lib.hid (show spOf (M.L.take (k + 1)) kd = spOf (M.L.take k) kd from by rw [HSn.out, if_neg hkd])
        have hkb : (xk == kd) = false := by rw [beq_eq_false_iff_ne]; exact hkd
        clear HSn hkd
        go_wp2_with fail
        go_roundw
        case rel => exact ⟨k + 1, d, ao, cc, by omega, by rw [HS1.out]; exact HD.out, by go_num, rfl, by rw [HS1.out]; exact HO.out, HS.out⟩
        case measure => simp [intOf]; omega
    · obtain rfl : k = n := by omega
      obtain rfl : d = m := by rw [HD.out, HM.out, HEnd.out]
      clear hown hst hrow hd
      go_wp2_with fail
      go_ret
      exact ⟨ao, cc, rfl, by have := HO.out; rwa [HEnd.out] at this, HS.out⟩
end
end Go.Proofs.Ytdlkdagmaeapdaa

/- What Add of the document's ledger does (Accept, Skip). No condition but that it is one. -/
namespace Go.Proofs.Ytdlkdagmaeapdaa
open Go.RowKit
set_option linter.unusedVariables false
set_option linter.unusedSimpArgs false
set_option maxRecDepth 100000

theorem infoBool14 : (Try.prog.info? 4).map (fun i => (i.zero, i.size, i.bytes)) = some (some (.bool false), 1, 1) := by kernel_rfl
section
variable {q : Nat} {a a2 a6 a8 : Option Addr} {c c2 c6 c8 n : Nat} {M : LgM} {w V V2 w6 w8 : World} {W : Nat → Prop}
theorem kindsV_set {l' : List Pc} {x : Pc} (tt : Int) : kindsV (l' ++ [(x.1, tt, x.2.2)]) = kindsV (l' ++ [x]) := by simp [kindsV]
theorem set_last (l' : List Pc) (x y : Pc) : (l' ++ [x]).set l'.length y = l' ++ [y] := by simp
/-- The last span ends elsewhere. -/
theorem zl_last {l' : List Pc} {x : Pc} {g : Nat} {tt : Int} (hl : M.L = l' ++ [x]) (hn : n = M.L.length) (H : Sit W w V (zlT q (some ⟨g, 0, none⟩) c a2 c2 n M)) :
    V.cell? ⟨g, l'.length * 2 + 1, none⟩ = some (.int .i64 x.2.1) ∧ V.frozen? ⟨g, l'.length * 2 + 1, none⟩ = false ∧ Hid (Goes (zLT q ⟨M.b, setTo M.L tt⟩) W w (V.setCell ⟨g, l'.length * 2 + 1, none⟩ (.int .i64 tt))) := by
  have hx : M.L[l'.length]? = some x := by rw [hl]; simp
  obtain ⟨h1, h2, h3⟩ := sit_put H (rowOf_get encSp_len hx (j := 1) (v := .int .i64 x.2.1) rfl) (.int .i64 tt)
  refine ⟨h1, h2, Lib.hid ((h3.out.goes).turn (fun h => ⟨some ⟨g, 0, none⟩, c, a2, c2, ?_⟩))⟩
  have hrow := rowOf_set encSp_len hx (j := 1) (v := .int .i64 tt) (b := (x.1, tt, x.2.2)) (by omega) rfl
  rw [hrow] at h
  have e1 : setTo M.L tt = M.L.set l'.length (x.1, tt, x.2.2) := by rw [hl, setTo_app, set_last]
  show (zlT q (some ⟨g, 0, none⟩) c a2 c2 (setTo M.L tt).length ⟨M.b, setTo M.L tt⟩).at_ _ _
  have e2 : kindsV (M.L.set l'.length (x.1, tt, x.2.2)) = kindsV M.L := by rw [hl, set_last, kindsV_set]
  have e3 : (M.L.set l'.length (x.1, tt, x.2.2)).length = n := by rw [List.length_set]; exact hn.symm
  unfold zlT
  rw [e1, e3]
  dsimp only
  rw [e2]
  exact h
/-- One span more: first the spans' row, then the kinds'. -/
theorem zl_more1 {o : Obj} {f tt : Int} (H : Sit W w V (zlT q a c a2 c2 n M)) (hown : w6.ownsRow 0 51 2 (.slice a6 (n + 1) c6) (n + 1) (rowOf encSp M.L ++ [.int .i64 f, .int .i64 tt]))
    (hg : (V.alloc o).grownBy w6 (Value.slice a n c).ownBlock) (hat : (Value.slice a6 (n + 1) c6).ownBlock = (Value.slice a n c).ownBlock ∨ (Value.slice a6 (n + 1) c6).ownBlock = some (V.alloc o).heap.size) :
    w6.cell? ⟨q, 1, none⟩ = some (.slice a n c) ∧ w6.frozen? ⟨q, 1, none⟩ = false ∧
    Hid (Sit W w (w6.setCell ⟨q, 1, none⟩ (.slice a6 (n + 1) c6)) ((blkT q [.int .i64 M.b, .slice a6 (n + 1) c6, .slice a2 n c2] 79).sep ((ownT 4 1 a2 n c2 (kindsV M.L)).sep (ownT 51 2 a6 (n + 1) c6 (rowOf encSp M.L ++ [.int .i64 f, .int .i64 tt]))))) := by
  obtain ⟨h1, h2, h3⟩ := sit_app (i := 1) H rfl hown hg hat
  exact ⟨h1, h2, Lib.hid (h3.out.imp (fun h => sep_imp2 (fun h => h) (fun h => sep_swap h) h))⟩
theorem zl_more2 {o : Obj} {f tt : Int} {k : Bool} (hn : n = M.L.length) (H : Sit W w V ((blkT q [.int .i64 M.b, .slice a6 (n + 1) c6, .slice a2 n c2] 79).sep ((ownT 4 1 a2 n c2 (kindsV M.L)).sep (ownT 51 2 a6 (n + 1) c6 (rowOf encSp M.L ++ [.int .i64 f, .int .i64 tt])))))
    (hown : w8.ownsRow 0 4 1 (.slice a8 (n + 1) c8) (n + 1) (kindsV M.L ++ [.bool k])) (hg : (V.alloc o).grownBy w8 (Value.slice a2 n c2).ownBlock) (hat : (Value.slice a8 (n + 1) c8).ownBlock = (Value.slice a2 n c2).ownBlock ∨ (Value.slice a8 (n + 1) c8).ownBlock = some (V.alloc o).heap.size) :
    w8.cell? ⟨q, 2, none⟩ = some (.slice a2 n c2) ∧ w8.frozen? ⟨q, 2, none⟩ = false ∧ Hid (Goes (zLT q ⟨M.b, M.L ++ [(f, tt, k)]⟩) W w (w8.setCell ⟨q, 2, none⟩ (.slice a8 (n + 1) c8))) := by
  obtain ⟨h1, h2, h3⟩ := sit_app (i := 2) H rfl hown hg hat
  refine ⟨h1, h2, Lib.hid ((h3.out.goes).turn (fun h => ⟨a6, c6, a8, c8, ?_⟩))⟩
  have e1 : (M.L ++ [(f, tt, k)]).length = n + 1 := by rw [List.length_append, ← hn]; rfl
  have e2 : rowOf encSp (M.L ++ [(f, tt, k)]) = rowOf encSp M.L ++ [.int .i64 f, .int .i64 tt] := by rw [rowOf_append, rowOf_cons, rowOf_nil, List.append_nil]; rfl
  have e3 : kindsV (M.L ++ [(f, tt, k)]) = kindsV M.L ++ [.bool k] := by simp [kindsV]
  show (zlT q a6 c6 a8 c8 (M.L ++ [(f, tt, k)]).length ⟨M.b, M.L ++ [(f, tt, k)]⟩).at_ _ _
  unfold zlT
  dsimp only
  rw [e1, e2, e3]
  exact sep_imp2 (fun h => h) (fun h => sep_swap h) h

set_option maxHeartbeats 2000000 in
theorem zlgadd_any (h : (zLT q M).at_ w W) (hM : M.Ok) (tt : Int) (kd : Bool) :
    Calls Try.prog 46 #[.pointer (some ⟨q, 0, none⟩), .int .i64 tt, .bool kd] w fun e w' => e = .returned (.int .i64 (addE M tt kd)) ∧ Goes (zLT q (M.add tt kd)) W w w' := by
  have HEn := Lib.hid (zlgend_any h hM)
  have HS := Lib.hid (fun V (hs : Still w V) => Goes.still h hs)
  obtain ⟨a, c, a2, c2, h⟩ := h
  obtain ⟨n, hn⟩ : ∃ n, n = M.L.length := ⟨_, rfl⟩
  rw [← hn] at h
  have HRd := Lib.hid (fun V (hs : Still w V) => (zlT_rd hn h).still hs)
  have HSit := Lib.hid (fun V (hs : Still w V) => (Sit.start h).still hs)
  have hn256 : n ≤ 256 := by have := hM.len; omega
  unfold LgM.add addL
  by_cases hto : tt ≤ M.fin ∨ 1099511627776 < tt
  · have he : addE M tt kd = 2 := by unfold addE; rw [if_pos hto]
    rw [he, if_pos (by omega)]
    generalize M.fin = f at *
    clear hM hn h HRd HSit he
    by_cases h1 : tt ≤ f
    · clear hto
      go_enter Try.func46, Try.ntmps46
      go_wp2_with (go_at_call 11; ((with_reducible refine HEn.out.mono ?_)); rintro e w1 ⟨rfl, hs1⟩; have HS1 := Lib.hid hs1; clear hs1)
      go_ret
      exact ⟨rfl, HS.out _ HS1.out⟩
    · have h2 : 1099511627776 < tt := by omega
      clear hto
      go_enter Try.func46, Try.ntmps46
      go_wp2_with (go_at_call 11; ((with_reducible refine HEn.out.mono ?_)); rintro e w1 ⟨rfl, hs1⟩; have HS1 := Lib.hid hs1; clear hs1)
      go_ret
      exact ⟨rfl, HS.out _ HS1.out⟩
  · have h1 : ¬ tt ≤ M.fin := fun h => hto (.inl h)
    have h2 : ¬ 1099511627776 < tt := fun h => hto (.inr h)
    by_cases hk : lastK none M.L = some kd
    · have he : addE M tt kd = 0 := by unfold addE; rw [if_neg hto, if_pos hk]
      rw [he, if_neg (by omega), if_pos hk]
      obtain ⟨l', x, hl, hx⟩ := lastK_split hk
      have hnl : n = l'.length + 1 := by rw [hn, hl]; simp
      have HX := Lib.hid (fun V (hs : Still w V) => show ∃ g g2, a = some ⟨g, 0, none⟩ ∧ a2 = some ⟨g2, 0, none⟩ ∧ V.cell? ⟨g2, l'.length, none⟩ = some (.bool kd) ∧ V.cell? ⟨g, l'.length * 2 + 1, none⟩ = some (.int .i64 x.2.1) ∧ V.frozen? ⟨g, l'.length * 2 + 1, none⟩ = false ∧ Hid (Goes (zLT q ⟨M.b, setTo M.L tt⟩) W w (V.setCell ⟨g, l'.length * 2 + 1, none⟩ (.int .i64 tt))) from by
        obtain ⟨g, g2, rfl, rfl, _, _, y2⟩ := (HRd.out V hs).row l'.length x (by rw [hl]; simp)
        obtain ⟨z1, z2, z3⟩ := zl_last (tt := tt) hl hn (HSit.out V hs)
        exact ⟨g, g2, rfl, rfl, by rw [← hx]; exact y2, z1, z2, z3⟩)
      have HC := Lib.hid (fun V (hs : Still w V) => (⟨(HRd.out V hs).c1, (HRd.out V hs).c2⟩ : V.cell? ⟨q, 1, none⟩ = some (.slice a n c) ∧ V.cell? ⟨q, 2, none⟩ = some (.slice a2 n c2)))
      generalize M.fin = f at *
      generalize l'.length = i at *
      subst hnl
      have hi0 : (0 : Int) < ((i + 1 : Nat) : Int) := by omega
      clear hM h HRd HSit he hto hl hk hn hx HS
      go_enter Try.func46, Try.ntmps46
      go_wp2_with (go_at_call 11; ((with_reducible refine HEn.out.mono ?_)); rintro e w1 ⟨rfl, hs1⟩; obtain ⟨c1, c3⟩ := HC.out w1 hs1; obtain ⟨g, g2, rfl, rfl, y0, y1, y2, y3⟩ := HX.out w1 hs1; clear hs1)
      go_ret
      exact ⟨rfl, y3.out⟩
    · by_cases hfull : 256 ≤ M.L.length
      · have he : addE M tt kd = 4 := by unfold addE; rw [if_neg hto, if_neg hk, if_pos hfull]
        rw [he, if_pos (by omega)]
        have hne : M.L ≠ [] := by intro h0; rw [h0] at hfull; simp at hfull
        obtain ⟨l', x, hl⟩ := last_split hne
        have hnl : n = l'.length + 1 := by rw [hn, hl]; simp
        have hx : (x.2.2 == kd) = false := by
          rw [beq_eq_false_iff_ne]
          intro hx
          apply hk
          rw [hl, lastK_app, ← hx]; rfl
        have HX := Lib.hid (fun V (hs : Still w V) => show ∃ g g2, a = some ⟨g, 0, none⟩ ∧ a2 = some ⟨g2, 0, none⟩ ∧ V.cell? ⟨g2, l'.length, none⟩ = some (.bool x.2.2) from by
          obtain ⟨g, g2, rfl, rfl, _, _, y2⟩ := (HRd.out V hs).row l'.length x (by rw [hl]; simp)
          exact ⟨g, g2, rfl, rfl, y2⟩)
        have HC := Lib.hid (fun V (hs : Still w V) => (⟨(HRd.out V hs).c1, (HRd.out V hs).c2⟩ : V.cell? ⟨q, 1, none⟩ = some (.slice a n c) ∧ V.cell? ⟨q, 2, none⟩ = some (.slice a2 n c2)))
        have hfi : (256 : Int) ≤ (n : Int) := by omega
        generalize M.fin = f at *
        generalize l'.length = i at *
        generalize x.2.2 = xk at *
        subst hnl
        have hi0 : (0 : Int) < ((i + 1 : Nat) : Int) := by omega
        clear hM h HRd HSit he hto hl hk hn hfull hne
        go_enter Try.func46, Try.ntmps46
        go_wp2_with (go_at_call 11; ((with_reducible refine HEn.out.mono ?_)); rintro e w1 ⟨rfl, hs1⟩; have HS1 := Lib.hid hs1; obtain ⟨c1, c3⟩ := HC.out w1 hs1; obtain ⟨g, g2, rfl, rfl, y0⟩ := HX.out w1 hs1; clear hs1)
        go_ret
        exact ⟨rfl, HS.out _ HS1.out⟩
      · have he : addE M tt kd = 0 := by unfold addE; rw [if_neg hto, if_neg hk, if_neg hfull]
        rw [he, if_neg (by omega), if_neg hk]
        have hG : M.L = [] ∨ ∃ l' x, M.L = l' ++ [x] ∧ (x.2.2 == kd) = false := by
          by_cases h0 : M.L = []
          · exact .inl h0
          · obtain ⟨l', x, hl⟩ := last_split h0
            refine .inr ⟨l', x, hl, ?_⟩
            rw [beq_eq_false_iff_ne]
            intro hx
            apply hk
            rw [hl, lastK_app, ← hx]; rfl
        have HX := Lib.hid (show n = 0 ∨ ∃ i xk, n = i + 1 ∧ (xk == kd) = false ∧ ∀ V, Still w V → ∃ g2, a2 = some ⟨g2, 0, none⟩ ∧ V.cell? ⟨g2, i, none⟩ = some (.bool xk) from by
          rcases hG with h0 | ⟨l', x, hl, hx⟩
          · exact .inl (by rw [hn, h0]; rfl)
          · refine .inr ⟨l'.length, x.2.2, by rw [hn, hl]; simp, hx, fun V hs => ?_⟩
            obtain ⟨g, g2, _, e2, _, _, y2⟩ := (HRd.out V hs).row l'.length x (by rw [hl]; simp)
            exact ⟨g2, e2, y2⟩)
        have HC := Lib.hid (fun V (hs : Still w V) => (⟨(HRd.out V hs).c1, (HRd.out V hs).c2⟩ : V.cell? ⟨q, 1, none⟩ = some (.slice a n c) ∧ V.cell? ⟨q, 2, none⟩ = some (.slice a2 n c2)))
        have HR1 := Lib.hid (fun V (hs : Still w V) => show V.ownsRow 0 51 2 (.slice a n c) n (rowOf encSp M.L) from by
          obtain ⟨_, h1, _⟩ := (HSit.out V hs).turn.fst
          exact h1.1)
        have HM1 := Lib.hid (fun (V w6 : World) (o : Obj) (a6 : Option Addr) (c6 : Nat) (hs : Still w V) hown hg hat => zl_more1 (w6 := w6) (o := o) (a6 := a6) (c6 := c6) (f := M.fin) (tt := tt) (HSit.out V hs) hown hg hat)
        have HM2 := Lib.hid (fun (V w8 : World) (o : Obj) (a6 a8 : Option Addr) (c6 c8 : Nat) H hown hg hat => zl_more2 (q := q) (a2 := a2) (c2 := c2) (V := V) (w8 := w8) (o := o) (a6 := a6) (c6 := c6) (a8 := a8) (c8 := c8) (f := M.fin) (tt := tt) (k := kd) (W := W) (w := w) hn H hown hg hat)
        have HR2 := Lib.hid (fun (V : World) (a6 : Option Addr) (c6 : Nat) (H : Sit W w V ((blkT q [.int .i64 M.b, .slice a6 (n + 1) c6, .slice a2 n c2] 79).sep ((ownT 4 1 a2 n c2 (kindsV M.L)).sep (ownT 51 2 a6 (n + 1) c6 (rowOf encSp M.L ++ [.int .i64 M.fin, .int .i64 tt]))))) =>
          show V.cell? ⟨q, 2, none⟩ = some (.slice a2 n c2) ∧ V.ownsRow 0 4 1 (.slice a2 n c2) n (kindsV M.L) from by
            obtain ⟨_, h1, _⟩ := H.turn.fst
            obtain ⟨_, h2, _⟩ := H.fst
            exact ⟨h2.1.cell rfl, h1.1⟩)
        have hlt : (n : Int) < 256 := by omega
        obtain ⟨i0, hi, hz0, hz1, hz2⟩ := info_parts infoSpan
        obtain ⟨j0, ji, jz0, jz1, jz2⟩ := info_parts infoBool14
        generalize M.fin = f at *
        clear hM h HRd HSit he hto hk hn hfull hG HS
        rcases HX.out with h0 | ⟨i, xk, hni, hxk, HY⟩
        · clear HX
          subst h0
          go_enter Try.func46, Try.ntmps46
          go_wp2_with (first
            | (go_at_call 11; ((with_reducible refine HEn.out.mono ?_)); rintro e w1 ⟨rfl, hs1⟩; have HS1 := Lib.hid hs1; obtain ⟨c1, c3⟩ := HC.out w1 hs1; have HO1 := Lib.hid (HR1.out w1 hs1); clear hs1)
            | (at_builtin; refine wpList_append_own_at _ rfl _ _ 48 rfl 0 51 i0 (.agg #[.int .i64 0, .int .i64 0]) 2 16 Try.underlying48 hi hz0 hz1 hz2 rfl (by decide) (.slice a 0 c) 0 (rowOf encSp M.L) rfl (ow_still HO1.out ((Turned.refl _ _).alloc _)) ⟨w1.heap.size, 0, none⟩ 1 1 [.int .i64 f, .int .i64 tt] rfl rfl (ow_cells w1 _ _) (by intro u hu; simp at hu; rcases hu with rfl | rfl <;> rfl) (by unfold maxLen; omega) (by omega) (Nat.zero_le _) ?_; intro v6 w6 hown6 hg6 _ hat6; obtain ⟨a6, c6, rfl⟩ := ow_slice hown6; obtain ⟨z1, z2, HZ6⟩ := HM1.out w1 w6 _ a6 c6 HS1.out hown6 hg6 hat6; obtain ⟨z3, z4⟩ := HR2.out _ a6 c6 HZ6.out; have HO7 := Lib.hid z4; clear hown6 hg6 hat6 z4)
            | (at_builtin; refine wpList_append_own_at _ rfl _ _ 77 rfl 0 4 j0 (.bool false) 1 1 Try.underlying77 ji jz0 jz1 jz2 rfl (by decide) (.slice a2 0 c2) 0 (kindsV M.L) rfl (ow_still HO7.out ((Turned.refl _ _).alloc _)) ⟨w6.heap.size, 0, none⟩ 1 1 [.bool kd] rfl rfl (by intro j u hj; have := ow_cells (w6.setCell ⟨q, 1, none⟩ (.slice a6 (0 + 1) c6)) [.bool kd] 4 j u hj; simpa [World.setCell] using this) (by intro u hu; simp at hu; subst hu; rfl) (by unfold maxLen; omega) (by omega) (Nat.zero_le _) ?_; intro v8 w8 hown8 hg8 _ hat8; obtain ⟨a8, c8, rfl⟩ := ow_slice hown8; obtain ⟨z5, z6, HZ8⟩ := HM2.out _ w8 _ a6 a8 c6 c8 HZ6.out hown8 hg8 hat8; clear hown8 hg8 hat8))
          go_ret
          exact ⟨rfl, HZ8.out⟩
        · subst hni
          have hi0 : (0 : Int) < ((i + 1 : Nat) : Int) := by omega
          clear HX
          have HY := Lib.hid HY
          go_enter Try.func46, Try.ntmps46
          go_wp2_with (first
            | (go_at_call 11; ((with_reducible refine HEn.out.mono ?_)); rintro e w1 ⟨rfl, hs1⟩; have HS1 := Lib.hid hs1; obtain ⟨c1, c3⟩ := HC.out w1 hs1; have HO1 := Lib.hid (HR1.out w1 hs1); obtain ⟨g2, rfl, y0⟩ := HY.out w1 hs1; clear hs1)
            | (at_builtin; refine wpList_append_own_at _ rfl _ _ 48 rfl 0 51 i0 (.agg #[.int .i64 0, .int .i64 0]) 2 16 Try.underlying48 hi hz0 hz1 hz2 rfl (by decide) (.slice a (i + 1) c) (i + 1) (rowOf encSp M.L) rfl (ow_still HO1.out ((Turned.refl _ _).alloc _)) ⟨w1.heap.size, 0, none⟩ 1 1 [.int .i64 f, .int .i64 tt] rfl rfl (ow_cells w1 _ _) (by intro u hu; simp at hu; rcases hu with rfl | rfl <;> rfl) (by unfold maxLen; omega) (by omega) (Nat.zero_le _) ?_; intro v6 w6 hown6 hg6 _ hat6; obtain ⟨a6, c6, rfl⟩ := ow_slice hown6; obtain ⟨z1, z2, HZ6⟩ := HM1.out w1 w6 _ a6 c6 HS1.out hown6 hg6 hat6; obtain ⟨z3, z4⟩ := HR2.out _ a6 c6 HZ6.out; have HO7 := Lib.hid z4; clear hown6 hg6 hat6 z4)
            | (at_builtin; refine wpList_append_own_at _ rfl _ _ 77 rfl 0 4 j0 (.bool false) 1 1 Try.underlying77 ji jz0 jz1 jz2 rfl (by decide) (.slice (some ⟨g2, 0, none⟩) (i + 1) c2) (i + 1) (kindsV M.L) rfl (ow_still HO7.out ((Turned.refl _ _).alloc _)) ⟨w6.heap.size, 0, none⟩ 1 1 [.bool kd] rfl rfl (by intro j u hj; have := ow_cells (w6.setCell ⟨q, 1, none⟩ (.slice a6 (i + 1 + 1) c6)) [.bool kd] 4 j u hj; simpa [World.setCell] using this) (by intro u hu; simp at hu; subst hu; rfl) (by unfold maxLen; omega) (by omega) (Nat.zero_le _) ?_; intro v8 w8 hown8 hg8 _ hat8; obtain ⟨a8, c8, rfl⟩ := ow_slice hown8; obtain ⟨z5, z6, HZ8⟩ := HM2.out _ w8 _ a6 a8 c6 c8 HZ6.out hown8 hg8 hat8; clear hown8 hg8 hat8))
          go_ret
          exact ⟨rfl, HZ8.out⟩
end
end Go.Proofs.Ytdlkdagmaeapdaa

/- What Back of the document's ledger does. No condition but that it is one. -/
namespace Go.Proofs.Ytdlkdagmaeapdaa
open Go.RowKit
set_option linter.unusedVariables false
set_option linter.unusedSimpArgs false
set_option maxRecDepth 100000

theorem backL_snoc {l : List Pc} {k : Nat} {x : Pc} (tt : Int) (h : l[k]? = some x) : backL (l.take (k + 1)) tt = if x.1 < tt then backL (l.take k) tt ++ [cutPc tt x] else backL (l.take k) tt := by
  unfold backL
  rw [List.take_add_one, h, List.filter_append]
  simp only [Option.toList_some, List.filter_cons, List.filter_nil]
  by_cases hk : x.1 < tt
  · rw [if_pos hk, if_pos (by simpa using hk)]; simp
  · rw [if_neg hk, if_neg (by simpa using hk)]; simp
section
variable {q : Nat} {a a2 sa sa' ka ka' : Option Addr} {c c2 sc sc' kc kc' n d : Nat} {M : LgM} {B : List Pc} {w V w6 : World} {W : Nat → Prop} {o : Obj}
abbrev zlgbT (q : Nat) (a : Option Addr) (c : Nat) (a2 : Option Addr) (c2 n : Nat) (M : LgM) (sa : Option Addr) (sc : Nat) (ka : Option Addr) (kc d : Nat) (B : List Pc) : Thing :=
  (zlT q a c a2 c2 n M).sep ((ownT 51 2 sa d sc (rowOf encSp B)).sep (ownT 4 1 ka d kc (kindsV B)))
theorem zb_rd (hn : n = M.L.length) (H : Sit W w V (zlgbT q a c a2 c2 n M sa sc ka kc d B)) : ZlRd q a c a2 c2 n M V ∧ V.ownsRow 0 51 2 (.slice sa d sc) d (rowOf encSp B) ∧ V.ownsRow 0 4 1 (.slice ka d kc) d (kindsV B) := by
  obtain ⟨_, h1, _⟩ := H.fst
  obtain ⟨_, h2, _⟩ := H.snd.fst
  obtain ⟨_, h3, _⟩ := H.snd.snd.use
  exact ⟨zlT_rd hn h1, h2.1, h3.1⟩
/-- Both rows grow. -/
theorem zb_sp {f t : Int} (H : Sit W w V (zlgbT q a c a2 c2 n M sa sc ka kc d B)) (hown : w6.ownsRow 0 51 2 (.slice sa' (d + 1) sc') (d + 1) (rowOf encSp B ++ [.int .i64 f, .int .i64 t]))
    (hg : (V.alloc o).grownBy w6 (Value.slice sa d sc).ownBlock) (hat : (Value.slice sa' (d + 1) sc').ownBlock = (Value.slice sa d sc).ownBlock ∨ (Value.slice sa' (d + 1) sc').ownBlock = some (V.alloc o).heap.size) :
    Hid (Sit W w w6 ((zlT q a c a2 c2 n M).sep ((ownT 51 2 sa' (d + 1) sc' (rowOf encSp B ++ [.int .i64 f, .int .i64 t])).sep (ownT 4 1 ka d kc (kindsV B))))) := by
  obtain ⟨U, h1, h2⟩ := H.turn.fst
  exact Lib.hid (h2 _ _ (ownT_grown h1 hown hg hat)).turn
theorem zb_mid {f t : Int} (hn : n = M.L.length) (H : Sit W w V ((zlT q a c a2 c2 n M).sep ((ownT 51 2 sa' (d + 1) sc' (rowOf encSp B ++ [.int .i64 f, .int .i64 t])).sep (ownT 4 1 ka d kc (kindsV B))))) :
    ZlRd q a c a2 c2 n M V ∧ V.ownsRow 0 4 1 (.slice ka d kc) d (kindsV B) := by
  obtain ⟨_, h1, _⟩ := H.fst
  obtain ⟨_, h3, _⟩ := H.snd.snd.use
  exact ⟨zlT_rd hn h1, h3.1⟩
theorem zb_kd {f t : Int} {k : Bool} (H : Sit W w V ((zlT q a c a2 c2 n M).sep ((ownT 51 2 sa' (d + 1) sc' (rowOf encSp B ++ [.int .i64 f, .int .i64 t])).sep (ownT 4 1 ka d kc (kindsV B)))))
    (hown : w6.ownsRow 0 4 1 (.slice ka' (d + 1) kc') (d + 1) (kindsV B ++ [.bool k]))
    (hg : (V.alloc o).grownBy w6 (Value.slice ka d kc).ownBlock) (hat : (Value.slice ka' (d + 1) kc').ownBlock = (Value.slice ka d kc).ownBlock ∨ (Value.slice ka' (d + 1) kc').ownBlock = some (V.alloc o).heap.size) :
    Hid (Sit W w w6 (zlgbT q a c a2 c2 n M sa' sc' ka' kc' (d + 1) (B ++ [(f, t, k)]))) := by
  have H1 := H.imp (B := (ownT 4 1 ka d kc (kindsV B)).sep ((zlT q a c a2 c2 n M).sep (ownT 51 2 sa' (d + 1) sc' (rowOf encSp B ++ [.int .i64 f, .int .i64 t])))) (fun h => sep_swap (sep_assoc' h))
  obtain ⟨U, h1, h2⟩ := H1.fst
  have H2 := h2 _ _ (ownT_grown h1 hown hg hat)
  have e1 : rowOf encSp (B ++ [(f, t, k)]) = rowOf encSp B ++ [.int .i64 f, .int .i64 t] := by rw [rowOf_append, rowOf_cons, rowOf_nil, List.append_nil]; rfl
  have e2 : kindsV (B ++ [(f, t, k)]) = kindsV B ++ [.bool k] := by simp [kindsV]
  refine Lib.hid (H2.imp (fun h => ?_))
  unfold zlgbT
  rw [e1, e2]
  exact sep_assoc (sep_swap h)
/-- They come into the ledger. -/
theorem zb_end (hd : d = B.length) (H : Sit W w V (zlgbT q a c a2 c2 n M sa sc ka kc d B)) :
    (V.cell? ⟨q, 1, none⟩ = some (.slice a n c) ∧ V.frozen? ⟨q, 1, none⟩ = false ∧ (V.setCell ⟨q, 1, none⟩ (.slice sa d sc)).cell? ⟨q, 2, none⟩ = some (.slice a2 n c2) ∧ (V.setCell ⟨q, 1, none⟩ (.slice sa d sc)).frozen? ⟨q, 2, none⟩ = false) ∧
    Hid (Goes (zLT q ⟨M.b, B⟩) W w ((V.setCell ⟨q, 1, none⟩ (.slice sa d sc)).setCell ⟨q, 2, none⟩ (.slice ka d kc))) := by
  obtain ⟨h1, h2, h3⟩ := sit_row (o := 1) H.assoc rfl (.slice sa d sc)
  obtain ⟨h4, h5, h6⟩ := sit_row (o := 2) h3.out rfl (.slice ka d kc)
  refine ⟨⟨h1, h2, h4, h5⟩, Lib.hid (((h6.out.imp (fun h => sep_assoc' (sep_imp2 (fun h => h) (fun h => sep_swap h) h))).drop).goes.turn (fun h => ⟨sa, sc, ka, kc, ?_⟩))⟩
  show (zlT q sa sc ka kc B.length ⟨M.b, B⟩).at_ _ _
  rw [← hd]
  exact h
theorem zb_start (h : (zlT q a c a2 c2 n M).at_ w W) : Sit W w ((w.alloc (.cells #[] 51)).alloc (.cells #[] 4)) (zlgbT q a c a2 c2 n M (some ⟨w.heap.size, 0, none⟩) 0 (some ⟨w.heap.size + 1, 0, none⟩) 0 0 []) := by
  have H1 := (Sit.start h).new (ownT_new w 51 2)
  have H2 := H1.new (ownT_new (w.alloc (.cells #[] 51)) 4 1)
  have e : (w.alloc (.cells #[] 51)).heap.size = w.heap.size + 1 := by simp
  rw [e] at H2
  exact H2.assoc

end
end Go.Proofs.Ytdlkdagmaeapdaa

/- What the statements of layer 14 want of the program's ledger, told of the plain one: one word for each call; what works does. The words are shown of the program in another text. No condition but the words. -/
namespace Go.Proofs.Ytdlkdagmaeapdaa
open Go.RowKit
set_option linter.unusedVariables false
set_option linter.unusedSimpArgs false
set_option maxRecDepth 100000

structure LedgerApi (LT : Nat → LgM → Thing) : Prop where
  make_no : ∀ (b : Int) (w : World), ¬ (0 ≤ b ∧ b ≤ 1099511627776) → Calls Try.prog 39 #[.int .i64 b] w fun e w' => e = .returned (.tuple #[.pointer none, .int .i64 2]) ∧ Still w w'
  make_ok : ∀ (b : Int) (w : World), 0 ≤ b → b ≤ 1099511627776 → Calls Try.prog 39 #[.int .i64 b] w fun e w' => ∃ q, e = .returned (.tuple #[.pointer (some ⟨q, 0, none⟩), .int .i64 0]) ∧ LNew LT w (LgM.new b) q w'
  accept : ∀ {w : World} {W : Nat → Prop} {q : Nat} {M : LgM}, (LT q M).at_ w W → M.Ok → ∀ x : Int, -9223372036854775808 ≤ x → x ≤ 9223372036854775807 →
    Calls Try.prog 45 #[.pointer (some ⟨q, 0, none⟩), .int .i64 x] w fun e w' => e = .returned (.int .i64 (addE M x true)) ∧ Goes (LT q (M.add x true)) W w w'
  skip : ∀ {w : World} {W : Nat → Prop} {q : Nat} {M : LgM}, (LT q M).at_ w W → M.Ok → ∀ x : Int, -9223372036854775808 ≤ x → x ≤ 9223372036854775807 →
    Calls Try.prog 70 #[.pointer (some ⟨q, 0, none⟩), .int .i64 x] w fun e w' => e = .returned (.int .i64 (addE M x false)) ∧ Goes (LT q (M.add x false)) W w w'
  from_ : ∀ {w : World} {W : Nat → Prop} {q : Nat} {M : LgM}, (LT q M).at_ w W → M.Ok →
    Calls Try.prog 27 #[.pointer (some ⟨q, 0, none⟩)] w fun e w' => e = .returned (.int .i64 M.b) ∧ Still w w'
  end_ : ∀ {w : World} {W : Nat → Prop} {q : Nat} {M : LgM}, (LT q M).at_ w W → M.Ok →
    Calls Try.prog 28 #[.pointer (some ⟨q, 0, none⟩)] w fun e w' => e = .returned (.int .i64 M.fin) ∧ Still w w'
  accepted : ∀ {w : World} {W : Nat → Prop} {q : Nat} {M : LgM}, (LT q M).at_ w W → M.Ok → ∀ m, m = (spOf M.L true).length →
    Calls Try.prog 29 #[.pointer (some ⟨q, 0, none⟩)] w (OutSp w (spOf M.L true) m)
  skipped : ∀ {w : World} {W : Nat → Prop} {q : Nat} {M : LgM}, (LT q M).at_ w W → M.Ok → ∀ m, m = (spOf M.L false).length →
    Calls Try.prog 30 #[.pointer (some ⟨q, 0, none⟩)] w (OutSp w (spOf M.L false) m)
  copy : ∀ {w : World} {W : Nat → Prop} {q : Nat} {M : LgM}, (LT q M).at_ w W → M.Ok →
    Calls Try.prog 51 #[.pointer (some ⟨q, 0, none⟩)] w fun e w' => ∃ q', e = .returned (.pointer (some ⟨q', 0, none⟩)) ∧ LNew LT w M q' w'
section
variable {LT : Nat → LgM → Thing} {w0 w : World} {q : Nat} {M : LgM} {R : Thing}
theorem Held.accL (A : LedgerApi LT) (H : Held w0 w ((LT q M).sep R)) (hM : M.Ok) {x r : Int} {M' : LgM} (h1 : -9223372036854775808 ≤ x) (h2 : x ≤ 9223372036854775807) (he : addE M x true = r) (hm : M.add x true = M') :
    Calls Try.prog 45 #[.pointer (some ⟨q, 0, none⟩), .int .i64 x] w fun e w' => e = .returned (.int .i64 r) ∧ Held w0 w' ((LT q M').sep R) := by
  subst he hm; exact H.call (fun _ h => A.accept h hM x h1 h2)
theorem Held.skpL (A : LedgerApi LT) (H : Held w0 w ((LT q M).sep R)) (hM : M.Ok) {x r : Int} {M' : LgM} (h1 : -9223372036854775808 ≤ x) (h2 : x ≤ 9223372036854775807) (he : addE M x false = r) (hm : M.add x false = M') :
    Calls Try.prog 70 #[.pointer (some ⟨q, 0, none⟩), .int .i64 x] w fun e w' => e = .returned (.int .i64 r) ∧ Held w0 w' ((LT q M').sep R) := by
  subst he hm; exact H.call (fun _ h => A.skip h hM x h1 h2)
theorem Held.endL (A : LedgerApi LT) (H : Held w0 w ((LT q M).sep R)) (hM : M.Ok) {f : Int} (hf : M.fin = f) :
    Calls Try.prog 28 #[.pointer (some ⟨q, 0, none⟩)] w fun e w' => e = .returned (.int .i64 f) ∧ Still w w' := by
  subst hf; obtain ⟨_, h, _⟩ := H.fst; exact A.end_ h hM
theorem Held.fromL (A : LedgerApi LT) (H : Held w0 w ((LT q M).sep R)) (hM : M.Ok) {f : Int} (hf : M.b = f) :
    Calls Try.prog 27 #[.pointer (some ⟨q, 0, none⟩)] w fun e w' => e = .returned (.int .i64 f) ∧ Still w w' := by
  subst hf; obtain ⟨_, h, _⟩ := H.fst; exact A.from_ h hM
theorem Held.acdL (A : LedgerApi LT) (H : Held w0 w ((LT q M).sep R)) (hM : M.Ok) {l : List (Int × Int)} {m : Nat} (hl : spOf M.L true = l) (hm : m = l.length) :
    Calls Try.prog 29 #[.pointer (some ⟨q, 0, none⟩)] w fun e w' => ∃ a c, e = .returned (.slice a m c) ∧ SpAt w' a l ∧ Still w w' := by
  subst hl; obtain ⟨_, h, _⟩ := H.fst; exact (A.accepted h hM m hm).mono fun e w' ho => ho.at hm
theorem Held.skdL (A : LedgerApi LT) (H : Held w0 w ((LT q M).sep R)) (hM : M.Ok) {l : List (Int × Int)} {m : Nat} (hl : spOf M.L false = l) (hm : m = l.length) :
    Calls Try.prog 30 #[.pointer (some ⟨q, 0, none⟩)] w fun e w' => ∃ a c, e = .returned (.slice a m c) ∧ SpAt w' a l ∧ Still w w' := by
  subst hl; obtain ⟨_, h, _⟩ := H.fst; exact (A.skipped h hM m hm).mono fun e w' ho => ho.at hm
end
theorem SpAt.still {w w' : World} {a : Option Addr} {l : List (Int × Int)} (h : SpAt w a l) (ht : Still w w') : SpAt w' a l := RowAt.stays h ht

end Go.Proofs.Ytdlkdagmaeapdaa
