/- What the calls of package cell do with a memory, call by call: the memory is told by its list of cells (number, holder, writes). No condition but that the memory was made by Make or Copy. -/
import Derived.Test.YtdbmieofcdafkaaRows
import Derived.Test.YtdbmieofcdafkaaKit
import Derived.BigQuiet
namespace Go.Proofs.Ytdbmieofcdafkaa
open Go.RowKit
set_option linter.unusedVariables false
set_option maxRecDepth 100000

structure Cel where
  n : Int
  h : Int
  w : Int

/-- A cell as the value of its struct. -/
def Cel.val (c : Cel) : Value := .agg #[.int .i64 c.n, .int .i64 c.h, .int .i64 c.w]
def celEnc (c : Cel) : List Value := [.int .i64 c.n, .int .i64 c.h, .int .i64 c.w]
theorem celEnc_len (c : Cel) : (celEnc c).length = 3 := rfl

structure Mem (w : World) (mb ab : Nat) (st : List Cel) : Prop where
  hd : Blk w mb [.slice (some ⟨ab, 0, none⟩) st.length st.length] 105
  row : Blk w ab (rowOf celEnc st) 107
  ne : mb ≠ ab
  pos : 0 < st.length
  le : st.length ≤ 64

theorem Mem.cellHd {w : World} {mb ab : Nat} {st : List Cel} (h : Mem w mb ab st) : w.cell? ⟨mb, 0, none⟩ = some (.slice (some ⟨ab, 0, none⟩) st.length st.length) := h.hd.cell rfl
theorem Mem.cellN {w : World} {mb ab : Nat} {st : List Cel} (h : Mem w mb ab st) {i : Nat} {c : Cel} (hi : st[i]? = some c) : w.cell? ⟨ab, i * 3, none⟩ = some (.int .i64 c.n) := h.row.cell (rowOf_get (m := 3) celEnc_len hi (j := 0) rfl)
theorem Mem.cellH {w : World} {mb ab : Nat} {st : List Cel} (h : Mem w mb ab st) {i : Nat} {c : Cel} (hi : st[i]? = some c) : w.cell? ⟨ab, i * 3 + 1, none⟩ = some (.int .i64 c.h) := h.row.cell (rowOf_get (m := 3) celEnc_len hi (j := 1) rfl)
theorem Mem.cellW {w : World} {mb ab : Nat} {st : List Cel} (h : Mem w mb ab st) {i : Nat} {c : Cel} (hi : st[i]? = some c) : w.cell? ⟨ab, i * 3 + 2, none⟩ = some (.int .i64 c.w) := h.row.cell (rowOf_get (m := 3) celEnc_len hi (j := 2) rfl)
theorem Mem.turned {S : Nat → Prop} {w w' : World} {mb ab : Nat} {st : List Cel} (h : Mem w mb ab st) (ht : Turned S w w') (h1 : ¬ S mb) (h2 : ¬ S ab) : Mem w' mb ab st :=
  ⟨h.hd.turned ht h1, h.row.turned ht h2, h.ne, h.pos, h.le⟩

theorem Mem.drewN {w : World} {mb ab : Nat} {st : List Cel} (h : Mem w mb ab st) (n : Nat) : Mem (w.drewN n) mb ab st := ⟨h.hd, h.row, h.ne, h.pos, h.le⟩

theorem Mem.drew {w : World} {mb ab : Nat} {st : List Cel} (h : Mem w mb ab st) : Mem w.drew mb ab st := ⟨h.hd, h.row, h.ne, h.pos, h.le⟩

theorem Mem.setN {w : World} {mb ab : Nat} {st : List Cel} (h : Mem w mb ab st) {i : Nat} {c : Cel} (hi : st[i]? = some c) (v : Int) : Mem (w.setCell ⟨ab, i * 3, none⟩ (.int .i64 v)) mb ab (st.set i { c with n := v }) := by
  refine ⟨?_, ?_, h.ne, by simpa using h.pos, by simpa using h.le⟩
  · rw [List.length_set]; exact h.hd.other (p := ⟨ab, i * 3, none⟩) (fun e => h.ne e.symm) _
  · have := h.row.set (i * 3) (.int .i64 v)
    rwa [show i * 3 = i * 3 + 0 from rfl, rowOf_set (m := 3) celEnc_len hi (b := { c with n := v }) (by omega) rfl] at this
theorem Mem.setH {w : World} {mb ab : Nat} {st : List Cel} (h : Mem w mb ab st) {i : Nat} {c : Cel} (hi : st[i]? = some c) (v : Int) : Mem (w.setCell ⟨ab, i * 3 + 1, none⟩ (.int .i64 v)) mb ab (st.set i { c with h := v }) := by
  refine ⟨?_, ?_, h.ne, by simpa using h.pos, by simpa using h.le⟩
  · rw [List.length_set]; exact h.hd.other (p := ⟨ab, i * 3 + 1, none⟩) (fun e => h.ne e.symm) _
  · have := h.row.set (i * 3 + 1) (.int .i64 v)
    rwa [rowOf_set (m := 3) celEnc_len hi (b := { c with h := v }) (by omega) rfl] at this
theorem Mem.setW {w : World} {mb ab : Nat} {st : List Cel} (h : Mem w mb ab st) {i : Nat} {c : Cel} (hi : st[i]? = some c) (v : Int) : Mem (w.setCell ⟨ab, i * 3 + 2, none⟩ (.int .i64 v)) mb ab (st.set i { c with w := v }) := by
  refine ⟨?_, ?_, h.ne, by simpa using h.pos, by simpa using h.le⟩
  · rw [List.length_set]; exact h.hd.other (p := ⟨ab, i * 3 + 2, none⟩) (fun e => h.ne e.symm) _
  · have := h.row.set (i * 3 + 2) (.int .i64 v)
    rwa [rowOf_set (m := 3) celEnc_len hi (b := { c with w := v }) (by omega) rfl] at this

/-- Is there such a cell? -/
def InR (st : List Cel) (at_ : Int) : Prop := 0 ≤ at_ ∧ at_ < st.length
/-- Is there such a session? -/
def Ses (who : Int) : Prop := 0 ≤ who ∧ who < 16

section
variable {w : World} {mb ab : Nat} {st : List Cel}

theorem made_yes (w : World) (mb ab n : Nat) (hm : w.cell? ⟨mb, 0, none⟩ = some (.slice (some ⟨ab, 0, none⟩) n n)) (hn : 0 < n) :
    Calls Try.prog 79 #[.pointer (some ⟨mb, 0, none⟩)] w fun e w' => e = .returned (.bool true) ∧ w = w' := by
  go_enter Try.func79, Try.ntmps79
  go_wp2
  go_ret
  exact ⟨rfl, rfl⟩

theorem refuse_ok (w : World) (mb ab n : Nat) (hm : w.cell? ⟨mb, 0, none⟩ = some (.slice (some ⟨ab, 0, none⟩) n n)) (hn : 0 < n)
    (at_ : Int) (h0 : 0 ≤ at_) (h1 : at_ < n) :
    Calls Try.prog 81 #[.pointer (some ⟨mb, 0, none⟩), .int .i64 at_] w fun e w' => e = .returned (.int .i64 0) ∧ w = w' := by
  go_enter Try.func81, Try.ntmps81
  go_wp2_with (go_at_call 79; refine (made_yes _ mb ab n hm hn).mono ?_; rintro e w' ⟨rfl, rfl⟩)
  go_ret
  exact ⟨rfl, rfl⟩

theorem refuse_arg (w : World) (mb ab n : Nat) (hm : w.cell? ⟨mb, 0, none⟩ = some (.slice (some ⟨ab, 0, none⟩) n n)) (hn : 0 < n)
    (at_ : Int) (h0 : ¬ (0 ≤ at_ ∧ at_ < n)) :
    Calls Try.prog 81 #[.pointer (some ⟨mb, 0, none⟩), .int .i64 at_] w fun e w' => e = .returned (.int .i64 2) ∧ w = w' := by
  by_cases h1 : at_ < 0
  all_goals
    go_enter Try.func81, Try.ntmps81
    go_wp2_with (go_at_call 79; refine (made_yes _ mb ab n hm hn).mono ?_; rintro e w' ⟨rfl, rfl⟩)
    go_ret
    exact ⟨rfl, rfl⟩

theorem refuseS_ok (w : World) (mb ab n : Nat) (hm : w.cell? ⟨mb, 0, none⟩ = some (.slice (some ⟨ab, 0, none⟩) n n)) (hn : 0 < n)
    (at_ : Int) (h0 : 0 ≤ at_) (h1 : at_ < n) (who : Int) (h2 : 0 ≤ who) (h3 : who < 16) :
    Calls Try.prog 84 #[.pointer (some ⟨mb, 0, none⟩), .int .i64 at_, .int .i64 who] w fun e w' => e = .returned (.int .i64 0) ∧ w = w' := by
  go_enter Try.func84, Try.ntmps84
  go_wp2_with (go_at_call 81; refine (refuse_ok _ mb ab n hm hn _ (by omega) (by omega)).mono ?_; rintro e w' ⟨rfl, rfl⟩)
  go_ret
  exact ⟨rfl, rfl⟩

theorem refuseS_arg (w : World) (mb ab n : Nat) (hm : w.cell? ⟨mb, 0, none⟩ = some (.slice (some ⟨ab, 0, none⟩) n n)) (hn : 0 < n)
    (at_ who : Int) (h0 : ¬ ((0 ≤ at_ ∧ at_ < n) ∧ (0 ≤ who ∧ who < 16))) :
    Calls Try.prog 84 #[.pointer (some ⟨mb, 0, none⟩), .int .i64 at_, .int .i64 who] w fun e w' => e = .returned (.int .i64 2) ∧ w = w' := by
  by_cases h1 : 0 ≤ at_ ∧ at_ < n
  · by_cases h2 : who < 0
    all_goals
      go_enter Try.func84, Try.ntmps84
      go_wp2_with (go_at_call 81; refine (refuse_ok _ mb ab n hm hn _ (by omega) (by omega)).mono ?_; rintro e w' ⟨rfl, rfl⟩)
      go_ret
      exact ⟨rfl, rfl⟩
  · go_enter Try.func84, Try.ntmps84
    go_wp2_with (go_at_call 81; refine (refuse_arg _ mb ab n hm hn _ h1).mono ?_; rintro e w' ⟨rfl, rfl⟩)
    go_ret
    exact ⟨rfl, rfl⟩

theorem load_ok (H : Mem w mb ab st) {i : Nat} {c : Cel} (hi : st[i]? = some c) :
    Calls Try.prog 65 #[.pointer (some ⟨mb, 0, none⟩), .int .i64 i] w fun e w' => e = .returned (.tuple #[.int .i64 c.n, .int .i64 0]) ∧ w = w' := by
  have h1 := get_lt hi
  have hm := H.cellHd
  have hc := H.cellN hi
  have h2 := H.le
  obtain ⟨cn, ch, cw⟩ := c
  clear hi H
  generalize st.length = n at *
  go_enter Try.func65, Try.ntmps65
  go_wp2_with (go_at_call 81; refine (refuse_ok _ mb ab n hm (by omega) _ (by omega) (by omega)).mono ?_; rintro e w' ⟨rfl, rfl⟩)
  go_ret2
  exact ⟨rfl, rfl⟩

theorem load_arg (H : Mem w mb ab st) {a : Int} (ha : ¬ InR st a) :
    Calls Try.prog 65 #[.pointer (some ⟨mb, 0, none⟩), .int .i64 a] w fun e w' => e = .returned (.tuple #[.int .i64 0, .int .i64 2]) ∧ w = w' := by
  have hm := H.cellHd
  have hp := H.pos
  unfold InR at ha
  clear H
  generalize st.length = n at *
  go_enter Try.func65, Try.ntmps65
  go_wp2_with (go_at_call 81; refine (refuse_arg _ mb ab n hm hp _ ha).mono ?_; rintro e w' ⟨rfl, rfl⟩)
  go_ret2
  exact ⟨rfl, rfl⟩

theorem write_ok (H : Mem w mb ab st) {i : Nat} {c : Cel} (hi : st[i]? = some c) (v : Int) :
    Calls Try.prog 82 #[.pointer (some ⟨mb, 0, none⟩), .int .i64 i, .int .i64 v] w fun e w' => e = .returned (.tuple #[]) ∧ Mem w' mb ab (st.set i { c with n := v, w := wrap64 (c.w + 1) }) ∧ Turned (· = ab) w w' := by
  have h1 := get_lt hi
  have hm := H.cellHd
  have hw := H.cellW hi
  have hn := H.cellN hi
  have hf := H.row.free (i * 3)
  have hf2 := H.row.free (i * 3 + 2)
  have hne := H.ne
  have HH := Lib.hid H
  have HI := Lib.hid hi
  clear H hi
  go_enter Try.func82, Try.ntmps82
  go_wp2
  go_end0
  refine ⟨rfl, ?_, turned_set (turned_set (Turned.refl _ _) _ _) _ _⟩
  have := (HH.out.setN HI.out v).setW (i := i) (c := { c with n := v }) (by simp [h1]) (wrap64 (c.w + 1))
  rwa [List.set_set] at this

theorem store_ok (H : Mem w mb ab st) {i : Nat} {c : Cel} (hi : st[i]? = some c) (v : Int) :
    Calls Try.prog 66 #[.pointer (some ⟨mb, 0, none⟩), .int .i64 i, .int .i64 v] w fun e w' => e = .returned (.int .i64 0) ∧ Mem w' mb ab (st.set i { c with n := v, w := wrap64 (c.w + 1) }) ∧ Turned (· = ab) w w' := by
  have h1 := get_lt hi
  have hm := H.cellHd
  have hp := H.pos
  have HW := Lib.hid (write_ok H hi v)
  clear H hi
  go_enter Try.func66, Try.ntmps66
  go_wp2_with (first | (go_at_call 81; refine (refuse_ok _ mb ab st.length hm hp _ (by omega) (by omega)).mono ?_; rintro e w' ⟨rfl, rfl⟩) | (go_at_call 82; refine HW.out.mono ?_; rintro e w' ⟨rfl, hM, hT⟩))
  go_ret
  exact ⟨rfl, hM, hT⟩

theorem store_arg (H : Mem w mb ab st) {a : Int} (ha : ¬ InR st a) (v : Int) :
    Calls Try.prog 66 #[.pointer (some ⟨mb, 0, none⟩), .int .i64 a, .int .i64 v] w fun e w' => e = .returned (.int .i64 2) ∧ w = w' := by
  have hm := H.cellHd
  have hp := H.pos
  unfold InR at ha
  clear H
  go_enter Try.func66, Try.ntmps66
  go_wp2_with (go_at_call 81; refine (refuse_arg _ mb ab st.length hm hp _ ha).mono ?_; rintro e w' ⟨rfl, rfl⟩)
  go_ret
  exact ⟨rfl, rfl⟩

theorem add_ok (H : Mem w mb ab st) {i : Nat} {c : Cel} (hi : st[i]? = some c) (d : Int) :
    Calls Try.prog 68 #[.pointer (some ⟨mb, 0, none⟩), .int .i64 i, .int .i64 d] w fun e w' => e = .returned (.tuple #[.int .i64 c.n, .int .i64 0]) ∧ Mem w' mb ab (st.set i { c with n := wrap64 (c.n + d), w := wrap64 (c.w + 1) }) ∧ Turned (· = ab) w w' := by
  have h1 := get_lt hi
  have hm := H.cellHd
  have hn := H.cellN hi
  have hp := H.pos
  have HW := Lib.hid (fun v => write_ok H hi v)
  clear H hi
  go_enter Try.func68, Try.ntmps68
  go_wp2_with (first | (go_at_call 81; refine (refuse_ok _ mb ab st.length hm hp _ (by omega) (by omega)).mono ?_; rintro e w' ⟨rfl, rfl⟩) | (go_at_call 82; refine (HW.out _).mono ?_; rintro e w' ⟨rfl, hM, hT⟩))
  go_ret2
  exact ⟨rfl, hM, hT⟩

theorem add_arg (H : Mem w mb ab st) {a : Int} (ha : ¬ InR st a) (d : Int) :
    Calls Try.prog 68 #[.pointer (some ⟨mb, 0, none⟩), .int .i64 a, .int .i64 d] w fun e w' => e = .returned (.tuple #[.int .i64 0, .int .i64 2]) ∧ w = w' := by
  have hm := H.cellHd
  have hp := H.pos
  unfold InR at ha
  clear H
  go_enter Try.func68, Try.ntmps68
  go_wp2_with (go_at_call 81; refine (refuse_arg _ mb ab st.length hm hp _ ha).mono ?_; rintro e w' ⟨rfl, rfl⟩)
  go_ret2
  exact ⟨rfl, rfl⟩

theorem swap_yes (H : Mem w mb ab st) {i : Nat} {c : Cel} (hi : st[i]? = some c) (v : Int) :
    Calls Try.prog 83 #[.pointer (some ⟨mb, 0, none⟩), .int .i64 i, .int .i64 c.n, .int .i64 v] w fun e w' => e = .returned (.tuple #[.bool true, .int .i64 0]) ∧ Mem w' mb ab (st.set i { c with n := v, w := wrap64 (c.w + 1) }) ∧ Turned (· = ab) w w' := by
  have h1 := get_lt hi
  have hm := H.cellHd
  have hn := H.cellN hi
  have hp := H.pos
  have HW := Lib.hid (write_ok H hi v)
  clear H hi
  go_enter Try.func83, Try.ntmps83
  go_wp2_with (first | (go_at_call 81; refine (refuse_ok _ mb ab st.length hm hp _ (by omega) (by omega)).mono ?_; rintro e w' ⟨rfl, rfl⟩) | (go_at_call 82; refine HW.out.mono ?_; rintro e w' ⟨rfl, hM, hT⟩))
  go_ret2
  exact ⟨rfl, hM, hT⟩

theorem swap_no (H : Mem w mb ab st) {i : Nat} {c : Cel} (hi : st[i]? = some c) {was : Int} (hw : c.n ≠ was) (v : Int) :
    Calls Try.prog 83 #[.pointer (some ⟨mb, 0, none⟩), .int .i64 i, .int .i64 was, .int .i64 v] w fun e w' => e = .returned (.tuple #[.bool false, .int .i64 0]) ∧ w = w' := by
  have h1 := get_lt hi
  have hm := H.cellHd
  have hn := H.cellN hi
  have hp := H.pos
  have hb : (c.n == was) = false := by simpa using hw
  have hb' : (c.n != was) = true := by simpa using hw
  clear H hi
  go_enter Try.func83, Try.ntmps83
  go_wp2_with (go_at_call 81; refine (refuse_ok _ mb ab st.length hm hp _ (by omega) (by omega)).mono ?_; rintro e w' ⟨rfl, rfl⟩)
  go_ret2
  exact ⟨rfl, rfl⟩

theorem swap_arg (H : Mem w mb ab st) {a : Int} (ha : ¬ InR st a) (was v : Int) :
    Calls Try.prog 83 #[.pointer (some ⟨mb, 0, none⟩), .int .i64 a, .int .i64 was, .int .i64 v] w fun e w' => e = .returned (.tuple #[.bool false, .int .i64 2]) ∧ w = w' := by
  have hm := H.cellHd
  have hp := H.pos
  unfold InR at ha
  clear H
  go_enter Try.func83, Try.ntmps83
  go_wp2_with (go_at_call 81; refine (refuse_arg _ mb ab st.length hm hp _ ha).mono ?_; rintro e w' ⟨rfl, rfl⟩)
  go_ret2
  exact ⟨rfl, rfl⟩

theorem lock_ok (H : Mem w mb ab st) {i : Nat} {c : Cel} (hi : st[i]? = some c) (hc : c.h = -1) {who : Int} (hs : Ses who) :
    Calls Try.prog 69 #[.pointer (some ⟨mb, 0, none⟩), .int .i64 i, .int .i64 who] w fun e w' => e = .returned (.int .i64 0) ∧ Mem w' mb ab (st.set i { c with h := who }) ∧ Turned (· = ab) w w' := by
  have h1 := get_lt hi
  have hm := H.cellHd
  have hn := H.cellH hi
  have hp := H.pos
  have hf := H.row.free (i * 3 + 1)
  have HM := Lib.hid (H.setH hi who)
  rw [hc] at hn
  unfold Ses at hs
  clear H hi hc
  go_enter Try.func69, Try.ntmps69
  go_wp2_with (go_at_call 84; refine (refuseS_ok _ mb ab st.length hm hp _ (by omega) (by omega) _ hs.1 hs.2).mono ?_; rintro e w' ⟨rfl, rfl⟩)
  go_ret
  exact ⟨rfl, HM.out, turned_set (Turned.refl _ _) _ _⟩

theorem lock_busy (H : Mem w mb ab st) {i : Nat} {c : Cel} (hi : st[i]? = some c) (hc : c.h ≠ -1) {who : Int} (hs : Ses who) :
    Calls Try.prog 69 #[.pointer (some ⟨mb, 0, none⟩), .int .i64 i, .int .i64 who] w fun e w' => e = .returned (.int .i64 8) ∧ w = w' := by
  have h1 := get_lt hi
  have hm := H.cellHd
  have hn := H.cellH hi
  have hp := H.pos
  have hb : (c.h != -1) = true := by simpa using hc
  have hb' : (c.h == -1) = false := by simpa using hc
  unfold Ses at hs
  clear H hi hc
  go_enter Try.func69, Try.ntmps69
  go_wp2_with (go_at_call 84; refine (refuseS_ok _ mb ab st.length hm hp _ (by omega) (by omega) _ hs.1 hs.2).mono ?_; rintro e w' ⟨rfl, rfl⟩)
  go_ret
  exact ⟨rfl, rfl⟩

theorem lock_arg (H : Mem w mb ab st) {a who : Int} (ha : ¬ (InR st a ∧ Ses who)) :
    Calls Try.prog 69 #[.pointer (some ⟨mb, 0, none⟩), .int .i64 a, .int .i64 who] w fun e w' => e = .returned (.int .i64 2) ∧ w = w' := by
  have hm := H.cellHd
  have hp := H.pos
  unfold InR Ses at ha
  clear H
  go_enter Try.func69, Try.ntmps69
  go_wp2_with (go_at_call 84; refine (refuseS_arg _ mb ab st.length hm hp _ _ ha).mono ?_; rintro e w' ⟨rfl, rfl⟩)
  go_ret
  exact ⟨rfl, rfl⟩

theorem free_ok (H : Mem w mb ab st) {i : Nat} {c : Cel} (hi : st[i]? = some c) (hs : Ses c.h) :
    Calls Try.prog 70 #[.pointer (some ⟨mb, 0, none⟩), .int .i64 i, .int .i64 c.h] w fun e w' => e = .returned (.int .i64 0) ∧ Mem w' mb ab (st.set i { c with h := -1 }) ∧ Turned (· = ab) w w' := by
  have h1 := get_lt hi
  have hm := H.cellHd
  have hn := H.cellH hi
  have hp := H.pos
  have hf := H.row.free (i * 3 + 1)
  have HM := Lib.hid (H.setH hi (-1))
  unfold Ses at hs
  clear H hi
  go_enter Try.func70, Try.ntmps70
  go_wp2_with (go_at_call 84; refine (refuseS_ok _ mb ab st.length hm hp _ (by omega) (by omega) _ hs.1 hs.2).mono ?_; rintro e w' ⟨rfl, rfl⟩)
  go_ret
  exact ⟨rfl, HM.out, turned_set (Turned.refl _ _) _ _⟩

theorem free_none (H : Mem w mb ab st) {i : Nat} {c : Cel} (hi : st[i]? = some c) {who : Int} (hc : c.h ≠ who) (hs : Ses who) :
    Calls Try.prog 70 #[.pointer (some ⟨mb, 0, none⟩), .int .i64 i, .int .i64 who] w fun e w' => e = .returned (.int .i64 5) ∧ w = w' := by
  have h1 := get_lt hi
  have hm := H.cellHd
  have hn := H.cellH hi
  have hp := H.pos
  have hb : (c.h != who) = true := by simpa using hc
  have hb' : (c.h == who) = false := by simpa using hc
  unfold Ses at hs
  clear H hi hc
  go_enter Try.func70, Try.ntmps70
  go_wp2_with (go_at_call 84; refine (refuseS_ok _ mb ab st.length hm hp _ (by omega) (by omega) _ hs.1 hs.2).mono ?_; rintro e w' ⟨rfl, rfl⟩)
  go_ret
  exact ⟨rfl, rfl⟩

theorem free_arg (H : Mem w mb ab st) {a who : Int} (ha : ¬ (InR st a ∧ Ses who)) :
    Calls Try.prog 70 #[.pointer (some ⟨mb, 0, none⟩), .int .i64 a, .int .i64 who] w fun e w' => e = .returned (.int .i64 2) ∧ w = w' := by
  have hm := H.cellHd
  have hp := H.pos
  unfold InR Ses at ha
  clear H
  go_enter Try.func70, Try.ntmps70
  go_wp2_with (go_at_call 84; refine (refuseS_arg _ mb ab st.length hm hp _ _ ha).mono ?_; rintro e w' ⟨rfl, rfl⟩)
  go_ret
  exact ⟨rfl, rfl⟩

theorem holder_ok (H : Mem w mb ab st) {i : Nat} {c : Cel} (hi : st[i]? = some c) :
    Calls Try.prog 73 #[.pointer (some ⟨mb, 0, none⟩), .int .i64 i] w fun e w' => e = .returned (.int .i64 c.h) ∧ w = w' := by
  have h1 := get_lt hi
  have hm := H.cellHd
  have hn := H.cellH hi
  have hp := H.pos
  clear H hi
  go_enter Try.func73, Try.ntmps73
  go_wp2_with (go_at_call 81; refine (refuse_ok _ mb ab st.length hm hp _ (by omega) (by omega)).mono ?_; rintro e w' ⟨rfl, rfl⟩)
  go_ret
  exact ⟨rfl, rfl⟩

theorem holder_arg (H : Mem w mb ab st) {a : Int} (ha : ¬ InR st a) :
    Calls Try.prog 73 #[.pointer (some ⟨mb, 0, none⟩), .int .i64 a] w fun e w' => e = .returned (.int .i64 (-1)) ∧ w = w' := by
  have hm := H.cellHd
  have hp := H.pos
  unfold InR at ha
  clear H
  go_enter Try.func73, Try.ntmps73
  go_wp2_with (go_at_call 81; refine (refuse_arg _ mb ab st.length hm hp _ ha).mono ?_; rintro e w' ⟨rfl, rfl⟩)
  go_ret
  exact ⟨rfl, rfl⟩

end
end Go.Proofs.Ytdbmieofcdafkaa