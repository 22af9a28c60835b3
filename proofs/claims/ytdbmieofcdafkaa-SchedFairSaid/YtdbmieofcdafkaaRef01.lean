/- What the calls of the document's own plain memory (package postriderref01) do, in the words of package cell's contracts: the same list of cells (number, holder, writes) tells it. Conditions: it was made by Make, and holders are sessions or nobody. -/
import Derived.Test.YtdbmieofcdafkaaCellMake
import Derived.Test.YtdbmieofcdafkaaBase
namespace Go.Proofs.Ytdbmieofcdafkaa
open Go.RowKit
set_option linter.unusedVariables false
set_option maxRecDepth 100000

def vs (st : List Cel) : List Int := st.map (·.n)
def bys (st : List Cel) : List Int := st.map (·.h)
def wrs (st : List Cel) : List Int := st.map (·.w)
theorem vs_len (st : List Cel) : (vs st).length = st.length := by simp [vs]
theorem bys_len (st : List Cel) : (bys st).length = st.length := by simp [bys]
theorem wrs_len (st : List Cel) : (wrs st).length = st.length := by simp [wrs]

structure Ref (w : World) (rb vb bb wb : Nat) (st : List Cel) : Prop where
  hd : Blk w rb [.slice (some ⟨vb, 0, none⟩) st.length st.length, .slice (some ⟨bb, 0, none⟩) st.length st.length, .slice (some ⟨wb, 0, none⟩) st.length st.length] 96
  rowV : Blk w vb (ints (vs st)) 3
  rowB : Blk w bb (ints (bys st)) 3
  rowW : Blk w wb (ints (wrs st)) 3
  n1 : rb ≠ vb
  n2 : rb ≠ bb
  n3 : rb ≠ wb
  n4 : vb ≠ bb
  n5 : vb ≠ wb
  n6 : bb ≠ wb
  pos : 0 < st.length
  le : st.length ≤ 64

variable {w : World} {rb vb bb wb : Nat} {st : List Cel}

theorem Ref.hdV (h : Ref w rb vb bb wb st) : w.cell? ⟨rb, 0, none⟩ = some (.slice (some ⟨vb, 0, none⟩) st.length st.length) := h.hd.cell rfl
theorem Ref.hdB (h : Ref w rb vb bb wb st) : w.cell? ⟨rb, 1, none⟩ = some (.slice (some ⟨bb, 0, none⟩) st.length st.length) := h.hd.cell rfl
theorem Ref.hdW (h : Ref w rb vb bb wb st) : w.cell? ⟨rb, 2, none⟩ = some (.slice (some ⟨wb, 0, none⟩) st.length st.length) := h.hd.cell rfl
theorem Ref.cellN (h : Ref w rb vb bb wb st) {i : Nat} {c : Cel} (hi : st[i]? = some c) : w.cell? ⟨vb, i, none⟩ = some (.int .i64 c.n) := h.rowV.cell (ints_get (by simp [vs, hi]))
theorem Ref.cellH (h : Ref w rb vb bb wb st) {i : Nat} {c : Cel} (hi : st[i]? = some c) : w.cell? ⟨bb, i, none⟩ = some (.int .i64 c.h) := h.rowB.cell (ints_get (by simp [bys, hi]))
theorem Ref.cellW (h : Ref w rb vb bb wb st) {i : Nat} {c : Cel} (hi : st[i]? = some c) : w.cell? ⟨wb, i, none⟩ = some (.int .i64 c.w) := h.rowW.cell (ints_get (by simp [wrs, hi]))

theorem Ref.turned {S : Nat → Prop} {w' : World} (h : Ref w rb vb bb wb st) (ht : Turned S w w') (h1 : ¬ S rb) (h2 : ¬ S vb) (h3 : ¬ S bb) (h4 : ¬ S wb) : Ref w' rb vb bb wb st :=
  ⟨h.hd.turned ht h1, h.rowV.turned ht h2, h.rowB.turned ht h3, h.rowW.turned ht h4, h.n1, h.n2, h.n3, h.n4, h.n5, h.n6, h.pos, h.le⟩

theorem map_set_n {f : Cel → Int} {i : Nat} {c d : Cel} (hi : st[i]? = some c) (h : f d = f c) : (st.set i d).map f = st.map f := by
  rw [List.map_set, h]
  apply List.ext_getElem?
  intro j
  rw [List.getElem?_set]
  split
  · rename_i e; subst e
    split
    · simp [hi]
    · rename_i h2; simp at h2; simp [h2]
  · rfl

theorem Ref.setN (h : Ref w rb vb bb wb st) {i : Nat} {c : Cel} (hi : st[i]? = some c) (v : Int) : Ref (w.setCell ⟨vb, i, none⟩ (.int .i64 v)) rb vb bb wb (st.set i { c with n := v }) := by
  refine ⟨?_, ?_, ?_, ?_, h.n1, h.n2, h.n3, h.n4, h.n5, h.n6, by simpa using h.pos, by simpa using h.le⟩
  · rw [List.length_set]; exact h.hd.other (p := ⟨vb, i, none⟩) (fun e => h.n1 e.symm) _
  · have := h.rowV.set i (.int .i64 v)
    rw [ints_set] at this
    rw [show vs (st.set i { c with n := v }) = (vs st).set i v from by simp [vs, List.map_set]]; exact this
  · rw [show bys (st.set i { c with n := v }) = bys st from map_set_n hi rfl]; exact h.rowB.other (p := ⟨vb, i, none⟩) h.n4 _
  · rw [show wrs (st.set i { c with n := v }) = wrs st from map_set_n hi rfl]; exact h.rowW.other (p := ⟨vb, i, none⟩) h.n5 _
theorem Ref.setH (h : Ref w rb vb bb wb st) {i : Nat} {c : Cel} (hi : st[i]? = some c) (v : Int) : Ref (w.setCell ⟨bb, i, none⟩ (.int .i64 v)) rb vb bb wb (st.set i { c with h := v }) := by
  refine ⟨?_, ?_, ?_, ?_, h.n1, h.n2, h.n3, h.n4, h.n5, h.n6, by simpa using h.pos, by simpa using h.le⟩
  · rw [List.length_set]; exact h.hd.other (p := ⟨bb, i, none⟩) (fun e => h.n2 e.symm) _
  · rw [show vs (st.set i { c with h := v }) = vs st from map_set_n hi rfl]; exact h.rowV.other (p := ⟨bb, i, none⟩) (fun e => h.n4 e.symm) _
  · have := h.rowB.set i (.int .i64 v)
    rw [ints_set] at this
    rw [show bys (st.set i { c with h := v }) = (bys st).set i v from by simp [bys, List.map_set]]; exact this
  · rw [show wrs (st.set i { c with h := v }) = wrs st from map_set_n hi rfl]; exact h.rowW.other (p := ⟨bb, i, none⟩) h.n6 _
theorem Ref.setW (h : Ref w rb vb bb wb st) {i : Nat} {c : Cel} (hi : st[i]? = some c) (v : Int) : Ref (w.setCell ⟨wb, i, none⟩ (.int .i64 v)) rb vb bb wb (st.set i { c with w := v }) := by
  refine ⟨?_, ?_, ?_, ?_, h.n1, h.n2, h.n3, h.n4, h.n5, h.n6, by simpa using h.pos, by simpa using h.le⟩
  · rw [List.length_set]; exact h.hd.other (p := ⟨wb, i, none⟩) (fun e => h.n3 e.symm) _
  · rw [show vs (st.set i { c with w := v }) = vs st from map_set_n hi rfl]; exact h.rowV.other (p := ⟨wb, i, none⟩) (fun e => h.n5 e.symm) _
  · rw [show bys (st.set i { c with w := v }) = bys st from map_set_n hi rfl]; exact h.rowB.other (p := ⟨wb, i, none⟩) (fun e => h.n6 e.symm) _
  · have := h.rowW.set i (.int .i64 v)
    rw [ints_set] at this
    rw [show wrs (st.set i { c with w := v }) = (wrs st).set i v from by simp [wrs, List.map_set]]; exact this

theorem ris_ok (H : Ref w rb vb bb wb st) {a : Int} (ha : InR st a) :
    Calls Try.prog 71 #[.pointer (some ⟨rb, 0, none⟩), .int .i64 a] w fun e w' => e = .returned (.bool true) ∧ w = w' := by
  have hv := H.hdV
  unfold InR at ha
  obtain ⟨h1, h2⟩ := ha
  clear H
  go_enter Try.func71, Try.ntmps71
  go_wp2
  go_ret
  exact ⟨rfl, rfl⟩

theorem ris_no (H : Ref w rb vb bb wb st) {a : Int} (ha : ¬ InR st a) :
    Calls Try.prog 71 #[.pointer (some ⟨rb, 0, none⟩), .int .i64 a] w fun e w' => e = .returned (.bool false) ∧ w = w' := by
  have hv := H.hdV
  unfold InR at ha
  clear H
  by_cases h1 : 0 ≤ a
  · have h2 : (st.length : Int) ≤ a := by omega
    clear ha
    go_enter Try.func71, Try.ntmps71
    go_wp2
    go_ret
    exact ⟨ret_bool (decide_eq_false (by omega)), rfl⟩
  · have h2 : a < 0 := by omega
    clear ha h1
    go_enter Try.func71, Try.ntmps71
    go_wp2
    go_ret
    exact ⟨rfl, rfl⟩

theorem rses_ok (who : Int) (h : Ses who) (w : World) :
    Calls Try.prog 72 #[.int .i64 who] w fun e w' => e = .returned (.bool true) ∧ w = w' := by
  obtain ⟨h1, h2⟩ := h
  go_enter Try.func72, Try.ntmps72
  go_wp2
  go_ret
  exact ⟨rfl, rfl⟩

theorem rses_no (who : Int) (h : ¬ Ses who) (w : World) :
    Calls Try.prog 72 #[.int .i64 who] w fun e w' => e = .returned (.bool false) ∧ w = w' := by
  unfold Ses at h
  by_cases h1 : 0 ≤ who
  · have h2 : 16 ≤ who := by omega
    clear h
    go_enter Try.func72, Try.ntmps72
    go_wp2
    go_ret
    exact ⟨ret_bool (decide_eq_false (by omega)), rfl⟩
  · have h2 : who < 0 := by omega
    clear h h1
    go_enter Try.func72, Try.ntmps72
    go_wp2
    go_ret
    exact ⟨rfl, rfl⟩

theorem rload_ok (H : Ref w rb vb bb wb st) {i : Nat} {c : Cel} (hi : st[i]? = some c) :
    Calls Try.prog 44 #[.pointer (some ⟨rb, 0, none⟩), .int .i64 i] w fun e w' => e = .returned (.tuple #[.int .i64 c.n, .int .i64 0]) ∧ w = w' := by
  have h1 := get_lt hi
  have hv := H.hdV
  have hn := H.cellN hi
  have HI := Lib.hid (ris_ok H (a := i) ⟨by omega, by omega⟩)
  clear H hi
  go_enter Try.func44, Try.ntmps44
  go_wp2_with (go_at_call 71; refine HI.out.mono ?_; rintro e w' ⟨rfl, rfl⟩)
  go_ret2
  exact ⟨rfl, rfl⟩

theorem rload_arg (H : Ref w rb vb bb wb st) {a : Int} (ha : ¬ InR st a) :
    Calls Try.prog 44 #[.pointer (some ⟨rb, 0, none⟩), .int .i64 a] w fun e w' => e = .returned (.tuple #[.int .i64 0, .int .i64 2]) ∧ w = w' := by
  have HI := Lib.hid (ris_no H ha)
  clear H ha
  go_enter Try.func44, Try.ntmps44
  go_wp2_with (go_at_call 71; refine HI.out.mono ?_; rintro e w' ⟨rfl, rfl⟩)
  go_ret2
  exact ⟨rfl, rfl⟩

/-- Only the three rows turn. -/
def rS (vb bb wb : Nat) : Nat → Prop := fun k => k = vb ∨ k = bb ∨ k = wb

theorem rstore_ok (H : Ref w rb vb bb wb st) {i : Nat} {c : Cel} (hi : st[i]? = some c) (v : Int) :
    Calls Try.prog 45 #[.pointer (some ⟨rb, 0, none⟩), .int .i64 i, .int .i64 v] w fun e w' => e = .returned (.int .i64 0) ∧ Ref w' rb vb bb wb (st.set i { c with n := v, w := wrap64 (c.w + 1) }) ∧ Turned (rS vb bb wb) w w' := by
  have h1 := get_lt hi
  have hv := H.hdV
  have hw := H.hdW
  have hcw := H.cellW hi
  have hcv := H.cellN hi
  have hf := H.rowV.free i
  have hf2 := H.rowW.free i
  have n1 := H.n1
  have n3 := H.n3
  have n5 := H.n5
  have HI := Lib.hid (ris_ok H (a := i) ⟨by omega, by omega⟩)
  have HR := Lib.hid ((H.setN hi v).setW (i := i) (c := { c with n := v }) (by simp [h1]) (wrap64 (c.w + 1)))
  clear H hi
  go_enter Try.func45, Try.ntmps45
  go_wp2_with (go_at_call 71; refine HI.out.mono ?_; rintro e w' ⟨rfl, rfl⟩)
  go_ret
  refine ⟨rfl, ?_, ((Turned.refl _ _).setCell (p := ⟨vb, i, none⟩) (.inl (.inl rfl)) _).setCell (p := ⟨wb, i, none⟩) (.inl (.inr (.inr rfl))) _⟩
  have := HR.out
  rwa [List.set_set] at this

theorem rstore_arg (H : Ref w rb vb bb wb st) {a : Int} (ha : ¬ InR st a) (v : Int) :
    Calls Try.prog 45 #[.pointer (some ⟨rb, 0, none⟩), .int .i64 a, .int .i64 v] w fun e w' => e = .returned (.int .i64 2) ∧ w = w' := by
  have HI := Lib.hid (ris_no H ha)
  clear H ha
  go_enter Try.func45, Try.ntmps45
  go_wp2_with (go_at_call 71; refine HI.out.mono ?_; rintro e w' ⟨rfl, rfl⟩)
  go_ret
  exact ⟨rfl, rfl⟩

theorem wrap_add_u64 (a b : Int) : wrap64 (IntKind.u64.wrap (IntKind.u64.wrap a + IntKind.u64.wrap b)) = wrap64 (a + b) := by
  simp [wrap64, IntKind.wrap, IntKind.signed, IntKind.bits]

theorem radd_ok (H : Ref w rb vb bb wb st) {i : Nat} {c : Cel} (hi : st[i]? = some c) (d : Int) :
    Calls Try.prog 47 #[.pointer (some ⟨rb, 0, none⟩), .int .i64 i, .int .i64 d] w fun e w' => e = .returned (.tuple #[.int .i64 c.n, .int .i64 0]) ∧ Ref w' rb vb bb wb (st.set i { c with n := wrap64 (c.n + d), w := wrap64 (c.w + 1) }) ∧ Turned (rS vb bb wb) w w' := by
  have h1 := get_lt hi
  have hv := H.hdV
  have hcv := H.cellN hi
  have HI := Lib.hid (ris_ok H (a := i) ⟨by omega, by omega⟩)
  have HS := Lib.hid (fun v => rstore_ok H hi v)
  have HW := Lib.hid (wrap_add_u64 c.n d)
  clear H hi
  go_enter Try.func47, Try.ntmps47
  go_wp2_with (first | (go_at_call 71; refine HI.out.mono ?_; rintro e w' ⟨rfl, rfl⟩) | (go_at_call 45; refine (HS.out _).mono ?_; rintro e w' ⟨rfl, hR, hT⟩))
  go_ret2
  rw [HW.out] at hR
  exact ⟨rfl, hR, hT⟩

theorem radd_arg (H : Ref w rb vb bb wb st) {a : Int} (ha : ¬ InR st a) (d : Int) :
    Calls Try.prog 47 #[.pointer (some ⟨rb, 0, none⟩), .int .i64 a, .int .i64 d] w fun e w' => e = .returned (.tuple #[.int .i64 0, .int .i64 2]) ∧ w = w' := by
  have HI := Lib.hid (ris_no H ha)
  clear H ha
  go_enter Try.func47, Try.ntmps47
  go_wp2_with (go_at_call 71; refine HI.out.mono ?_; rintro e w' ⟨rfl, rfl⟩)
  go_ret2
  exact ⟨rfl, rfl⟩

theorem rswap_yes (H : Ref w rb vb bb wb st) {i : Nat} {c : Cel} (hi : st[i]? = some c) (v : Int) :
    Calls Try.prog 46 #[.pointer (some ⟨rb, 0, none⟩), .int .i64 i, .int .i64 c.n, .int .i64 v] w fun e w' => e = .returned (.tuple #[.bool true, .int .i64 0]) ∧ Ref w' rb vb bb wb (st.set i { c with n := v, w := wrap64 (c.w + 1) }) ∧ Turned (rS vb bb wb) w w' := by
  have h1 := get_lt hi
  have hv := H.hdV
  have hcv := H.cellN hi
  have HI := Lib.hid (ris_ok H (a := i) ⟨by omega, by omega⟩)
  have HS := Lib.hid (rstore_ok H hi v)
  clear H hi
  go_enter Try.func46, Try.ntmps46
  go_wp2_with (first | (go_at_call 71; refine HI.out.mono ?_; rintro e w' ⟨rfl, rfl⟩) | (go_at_call 45; refine HS.out.mono ?_; rintro e w' ⟨rfl, hR, hT⟩))
  go_ret2
  exact ⟨rfl, hR, hT⟩

theorem rswap_no (H : Ref w rb vb bb wb st) {i : Nat} {c : Cel} (hi : st[i]? = some c) {was : Int} (hw : c.n ≠ was) (v : Int) :
    Calls Try.prog 46 #[.pointer (some ⟨rb, 0, none⟩), .int .i64 i, .int .i64 was, .int .i64 v] w fun e w' => e = .returned (.tuple #[.bool false, .int .i64 0]) ∧ w = w' := by
  have h1 := get_lt hi
  have hv := H.hdV
  have hcv := H.cellN hi
  have HI := Lib.hid (ris_ok H (a := i) ⟨by omega, by omega⟩)
  have hb : (c.n == was) = false := by simpa using hw
  have hb' : (c.n != was) = true := by simpa using hw
  clear H hi
  go_enter Try.func46, Try.ntmps46
  go_wp2_with (go_at_call 71; refine HI.out.mono ?_; rintro e w' ⟨rfl, rfl⟩)
  go_ret2
  exact ⟨rfl, rfl⟩

theorem rswap_arg (H : Ref w rb vb bb wb st) {a : Int} (ha : ¬ InR st a) (was v : Int) :
    Calls Try.prog 46 #[.pointer (some ⟨rb, 0, none⟩), .int .i64 a, .int .i64 was, .int .i64 v] w fun e w' => e = .returned (.tuple #[.bool false, .int .i64 2]) ∧ w = w' := by
  have HI := Lib.hid (ris_no H ha)
  clear H ha
  go_enter Try.func46, Try.ntmps46
  go_wp2_with (go_at_call 71; refine HI.out.mono ?_; rintro e w' ⟨rfl, rfl⟩)
  go_ret2
  exact ⟨rfl, rfl⟩

theorem rlock_ok (H : Ref w rb vb bb wb st) {i : Nat} {c : Cel} (hi : st[i]? = some c) (hc : c.h = -1) {who : Int} (hs : Ses who) :
    Calls Try.prog 48 #[.pointer (some ⟨rb, 0, none⟩), .int .i64 i, .int .i64 who] w fun e w' => e = .returned (.int .i64 0) ∧ Ref w' rb vb bb wb (st.set i { c with h := who }) ∧ Turned (rS vb bb wb) w w' := by
  have h1 := get_lt hi
  have hb := H.hdB
  have hcb := H.cellH hi
  have hf := H.rowB.free i
  rw [hc] at hcb
  have HI := Lib.hid (ris_ok H (a := i) ⟨by omega, by omega⟩)
  have HR := Lib.hid (H.setH hi who)
  have HS := Lib.hid (rses_ok who hs)
  clear H hi hc hs
  go_enter Try.func48, Try.ntmps48
  go_wp2_with (first | (go_at_call 71; refine HI.out.mono ?_; rintro e w' ⟨rfl, rfl⟩) | (go_at_call 72; refine (HS.out _).mono ?_; rintro e w' ⟨rfl, rfl⟩))
  go_ret
  exact ⟨rfl, HR.out, (Turned.refl _ _).setCell (p := ⟨bb, i, none⟩) (.inl (.inr (.inl rfl))) _⟩

theorem rlock_busy (H : Ref w rb vb bb wb st) {i : Nat} {c : Cel} (hi : st[i]? = some c) (hc : 0 ≤ c.h) {who : Int} (hs : Ses who) :
    Calls Try.prog 48 #[.pointer (some ⟨rb, 0, none⟩), .int .i64 i, .int .i64 who] w fun e w' => e = .returned (.int .i64 8) ∧ w = w' := by
  have h1 := get_lt hi
  have hb := H.hdB
  have hcb := H.cellH hi
  have HI := Lib.hid (ris_ok H (a := i) ⟨by omega, by omega⟩)
  have HS := Lib.hid (rses_ok who hs)
  clear H hi hs
  go_enter Try.func48, Try.ntmps48
  go_wp2_with (first | (go_at_call 71; refine HI.out.mono ?_; rintro e w' ⟨rfl, rfl⟩) | (go_at_call 72; refine (HS.out _).mono ?_; rintro e w' ⟨rfl, rfl⟩))
  go_ret
  exact ⟨rfl, rfl⟩

theorem rlock_arg (H : Ref w rb vb bb wb st) {a who : Int} (ha : ¬ (InR st a ∧ Ses who)) :
    Calls Try.prog 48 #[.pointer (some ⟨rb, 0, none⟩), .int .i64 a, .int .i64 who] w fun e w' => e = .returned (.int .i64 2) ∧ w = w' := by
  by_cases h : InR st a
  · have HI := Lib.hid (ris_ok H h)
    have HS := Lib.hid (rses_no who (fun hs => ha ⟨h, hs⟩))
    clear H ha h
    go_enter Try.func48, Try.ntmps48
    go_wp2_with (first | (go_at_call 71; refine HI.out.mono ?_; rintro e w' ⟨rfl, rfl⟩) | (go_at_call 72; refine (HS.out _).mono ?_; rintro e w' ⟨rfl, rfl⟩))
    go_ret
    exact ⟨rfl, rfl⟩
  · have HI := Lib.hid (ris_no H h)
    clear H ha h
    go_enter Try.func48, Try.ntmps48
    go_wp2_with (go_at_call 71; refine HI.out.mono ?_; rintro e w' ⟨rfl, rfl⟩)
    go_ret
    exact ⟨rfl, rfl⟩

theorem rfree_ok (H : Ref w rb vb bb wb st) {i : Nat} {c : Cel} (hi : st[i]? = some c) (hs : Ses c.h) :
    Calls Try.prog 49 #[.pointer (some ⟨rb, 0, none⟩), .int .i64 i, .int .i64 c.h] w fun e w' => e = .returned (.int .i64 0) ∧ Ref w' rb vb bb wb (st.set i { c with h := -1 }) ∧ Turned (rS vb bb wb) w w' := by
  have h1 := get_lt hi
  have hb := H.hdB
  have hcb := H.cellH hi
  have hf := H.rowB.free i
  have HI := Lib.hid (ris_ok H (a := i) ⟨by omega, by omega⟩)
  have HR := Lib.hid (H.setH hi (-1))
  have HS := Lib.hid (rses_ok c.h hs)
  clear H hi hs
  go_enter Try.func49, Try.ntmps49
  go_wp2_with (first | (go_at_call 71; refine HI.out.mono ?_; rintro e w' ⟨rfl, rfl⟩) | (go_at_call 72; refine (HS.out _).mono ?_; rintro e w' ⟨rfl, rfl⟩))
  go_ret
  exact ⟨rfl, HR.out, (Turned.refl _ _).setCell (p := ⟨bb, i, none⟩) (.inl (.inr (.inl rfl))) _⟩

theorem rfree_none (H : Ref w rb vb bb wb st) {i : Nat} {c : Cel} (hi : st[i]? = some c) {who : Int} (hc : c.h ≠ who) (hs : Ses who) :
    Calls Try.prog 49 #[.pointer (some ⟨rb, 0, none⟩), .int .i64 i, .int .i64 who] w fun e w' => e = .returned (.int .i64 5) ∧ w = w' := by
  have h1 := get_lt hi
  have hb := H.hdB
  have hcb := H.cellH hi
  have HI := Lib.hid (ris_ok H (a := i) ⟨by omega, by omega⟩)
  have HS := Lib.hid (rses_ok who hs)
  have hbb : (c.h != who) = true := by simpa using hc
  have hbb' : (c.h == who) = false := by simpa using hc
  clear H hi hs hc
  go_enter Try.func49, Try.ntmps49
  go_wp2_with (first | (go_at_call 71; refine HI.out.mono ?_; rintro e w' ⟨rfl, rfl⟩) | (go_at_call 72; refine (HS.out _).mono ?_; rintro e w' ⟨rfl, rfl⟩))
  go_ret
  exact ⟨rfl, rfl⟩

theorem rfree_arg (H : Ref w rb vb bb wb st) {a who : Int} (ha : ¬ (InR st a ∧ Ses who)) :
    Calls Try.prog 49 #[.pointer (some ⟨rb, 0, none⟩), .int .i64 a, .int .i64 who] w fun e w' => e = .returned (.int .i64 2) ∧ w = w' := by
  by_cases h : InR st a
  · have HI := Lib.hid (ris_ok H h)
    have HS := Lib.hid (rses_no who (fun hs => ha ⟨h, hs⟩))
    clear H ha h
    go_enter Try.func49, Try.ntmps49
    go_wp2_with (first | (go_at_call 71; refine HI.out.mono ?_; rintro e w' ⟨rfl, rfl⟩) | (go_at_call 72; refine (HS.out _).mono ?_; rintro e w' ⟨rfl, rfl⟩))
    go_ret
    exact ⟨rfl, rfl⟩
  · have HI := Lib.hid (ris_no H h)
    clear H ha h
    go_enter Try.func49, Try.ntmps49
    go_wp2_with (go_at_call 71; refine HI.out.mono ?_; rintro e w' ⟨rfl, rfl⟩)
    go_ret
    exact ⟨rfl, rfl⟩

end Go.Proofs.Ytdbmieofcdafkaa