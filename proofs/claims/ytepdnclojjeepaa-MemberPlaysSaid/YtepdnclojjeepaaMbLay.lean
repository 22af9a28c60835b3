/- The program's list of members, as it lies in memory: a row of sinces, and the time; what it says of itself. No condition but that it is one. -/
import Derived.Test.YtepdnclojjeepaaMbRefDo
import Derived.Test.YtepdnclojjeepaaOwn
namespace Go.Proofs.Ytepdnclojjeepaa
open Go.RowKit
set_option linter.unusedVariables false
set_option linter.unusedSimpArgs false
set_option maxRecDepth 100000

def sVi (M : MbM) : List Value := M.S.map fun n => .int .i64 ((n : Nat) : Int)
abbrev mbX (q g : Nat) (M : MbM) : Thing := (blkT q [.slice (some ⟨g, 0, none⟩) 16 16, .int .i64 ((M.T : Nat) : Int)] 48).sep (blkT g (sVi M) 3)
/-- The program's list. -/
def mbT (q : Nat) (M : MbM) : Thing where
  at_ w W := ∃ g, (mbX q g M).at_ w W
  lt := by rintro w W ⟨g, h⟩; exact Thing.lt _ h
  keep := by rintro w w' W S ⟨g, h⟩ ht hs; exact ⟨g, Thing.keep _ h ht hs⟩

structure MbRd (q g : Nat) (M : MbM) (w : World) : Prop where
  c0 : w.cell? ⟨q, 0, none⟩ = some (.slice (some ⟨g, 0, none⟩) 16 16)
  c1 : w.cell? ⟨q, 1, none⟩ = some (.int .i64 ((M.T : Nat) : Int))
  cell : ∀ i, i < 16 → w.cell? ⟨g, i, none⟩ = some (.int .i64 ((M.at i : Nat) : Int))
section
variable {q g K : Nat} {M : MbM} {w V w' : World} {W : Nat → Prop}
theorem sVi_get (hM : M.Ok K) {i : Nat} (hi : i < 16) : (sVi M)[i]? = some (.int .i64 ((M.at i : Nat) : Int)) := by
  unfold sVi MbM.at
  rw [List.getElem?_map]
  obtain ⟨s, hs⟩ := get_some (l := M.S) (i := i) (by rw [hM.len]; exact hi)
  rw [hs]; rfl
theorem sVi_put (k v : Nat) : (sVi M).set k (.int .i64 ((v : Nat) : Int)) = sVi (M.put (k : Int) v) := by
  unfold sVi MbM.put
  dsimp only
  rw [Int.toNat_natCast, ← List.map_set]
theorem MbRd.still (h : MbRd q g M w) (ht : Still w w') : MbRd q g M w' := ⟨still_cell ht h.c0 rfl, still_cell ht h.c1 rfl, fun i hi => still_cell ht (h.cell i hi) rfl⟩
theorem mbX_rd (hM : M.Ok K) (h : (mbX q g M).at_ w W) : MbRd q g M w := by
  obtain ⟨W1, W2, ⟨h1, _⟩, ⟨h2, _⟩, _⟩ := h
  exact ⟨h1.cell rfl, h1.cell rfl, fun i hi => h2.cell (sVi_get hM hi)⟩
theorem mbT_rd (hM : M.Ok K) (h : (mbT q M).at_ w W) : ∃ g, MbRd q g M w := by
  obtain ⟨g, h⟩ := h
  exact ⟨g, mbX_rd hM h⟩

theorem mbmade_any (c0 : w.cell? ⟨q, 0, none⟩ = some (.slice (some ⟨g, 0, none⟩) 16 16)) : Calls Try.prog 30 #[.pointer (some ⟨q, 0, none⟩)] w fun e w' => e = .returned (.bool true) ∧ w = w' := by
  go_enter Try.func30, Try.ntmps30
  go_wp2_with fail
  go_ret
  exact ⟨by first | rfl | simp, rfl⟩
theorem mbses_no (id : Int) (w : World) (h : ¬ (0 ≤ id ∧ id < 16)) : Calls Try.prog 31 #[.int .i64 id] w fun e w' => e = .returned (.bool false) ∧ w = w' := by
  by_cases h0 : 0 ≤ id
  · have h1 : ¬ id < 16 := fun h1 => h ⟨h0, h1⟩
    clear h
    go_enter Try.func31, Try.ntmps31
    go_wp2_with fail
    go_ret
    exact ⟨rfl, rfl⟩
  · clear h
    go_enter Try.func31, Try.ntmps31
    go_wp2_with fail
    go_ret
    exact ⟨rfl, rfl⟩
theorem mbses_yes (k : Nat) (w : World) (h : k < 16) : Calls Try.prog 31 #[.int .i64 (k : Int)] w fun e w' => e = .returned (.bool true) ∧ w = w' := by
  have hk : (k : Int) < 16 := by omega
  clear h
  go_enter Try.func31, Try.ntmps31
  go_wp2_with fail
  go_ret
  exact ⟨rfl, rfl⟩
theorem mbref_any (h : MbRd q g M w) (id : Int) : Calls Try.prog 34 #[.pointer (some ⟨q, 0, none⟩), .int .i64 id] w fun e w' => e = .returned (.int .i64 (M.findE id)) ∧ w = w' := by
  have HMd := Lib.hid (mbmade_any h.c0)
  by_cases hs : 0 ≤ id ∧ id < 16
  · obtain ⟨k, rfl⟩ : ∃ k : Nat, id = k := ⟨id.toNat, by omega⟩
    have hk : k < 16 := by omega
    have HS := Lib.hid (mbses_yes k w hk)
    have c0 := h.c0
    have c1 := h.cell k hk
    rw [findE_nat hk]
    have hki : (k : Int) < 16 := by omega
    generalize M.at k = a at *
    clear h hs
    by_cases ha : a = 0
    · subst ha
      go_enter Try.func34, Try.ntmps34
      go_wp2_with (first
        | (go_at_call 30; ((with_reducible refine HMd.out.mono ?_)); rintro e w1 ⟨rfl, rfl⟩)
        | (go_at_call 31; ((with_reducible refine HS.out.mono ?_)); rintro e w1 ⟨rfl, rfl⟩))
      go_ret
      exact ⟨by first | rfl | simp, rfl⟩
    · have hai : ((a : Nat) : Int) ≠ 0 := by omega
      have hai2 : (((a : Nat) : Int) == 0) = false := by simpa using ha
      rw [if_neg ha]
      go_enter Try.func34, Try.ntmps34
      go_wp2_with (first
        | (go_at_call 30; ((with_reducible refine HMd.out.mono ?_)); rintro e w1 ⟨rfl, rfl⟩)
        | (go_at_call 31; ((with_reducible refine HS.out.mono ?_)); rintro e w1 ⟨rfl, rfl⟩))
      go_ret
      exact ⟨by first | rfl | simp, rfl⟩
  · have HS := Lib.hid (mbses_no id w hs)
    rw [findE_no hs]
    clear h hs
    go_enter Try.func34, Try.ntmps34
    go_wp2_with (first
      | (go_at_call 30; ((with_reducible refine HMd.out.mono ?_)); rintro e w1 ⟨rfl, rfl⟩)
      | (go_at_call 31; ((with_reducible refine HS.out.mono ?_)); rintro e w1 ⟨rfl, rfl⟩))
    go_ret
    exact ⟨rfl, rfl⟩
theorem mbhas_any (h : MbRd q g M w) (id : Int) : Calls Try.prog 20 #[.pointer (some ⟨q, 0, none⟩), .int .i64 id] w fun e w' => e = .returned (.bool (decide (M.findE id = 0))) ∧ w = w' := by
  have HF := Lib.hid (mbref_any h id)
  clear h
  generalize M.findE id = r at *
  go_enter Try.func20, Try.ntmps20
  go_wp2_with (go_at_call 34; ((with_reducible refine HF.out.mono ?_)); rintro e w1 ⟨rfl, rfl⟩)
  go_ret
  exact ⟨by first | rfl | simp | (congr 2; rw [Bool.eq_iff_iff]; simp), rfl⟩
theorem mbtime_any (h : MbRd q g M w) : Calls Try.prog 25 #[.pointer (some ⟨q, 0, none⟩)] w fun e w' => e = .returned (.int .i64 ((M.T : Nat) : Int)) ∧ w = w' := by
  have HMd := Lib.hid (mbmade_any h.c0)
  have c1 := h.c1
  generalize M.T = t at *
  clear h
  go_enter Try.func25, Try.ntmps25
  go_wp2_with (go_at_call 30; ((with_reducible refine HMd.out.mono ?_)); rintro e w1 ⟨rfl, rfl⟩)
  go_ret
  exact ⟨rfl, rfl⟩
theorem mbsince_any (h : MbRd q g M w) (id : Int) : Calls Try.prog 14 #[.pointer (some ⟨q, 0, none⟩), .int .i64 id] w fun e w' => e = .returned (.tuple #[.int .i64 ((M.sinceV id : Nat) : Int), .int .i64 (M.findE id)]) ∧ w = w' := by
  have HF := Lib.hid (mbref_any h id)
  unfold MbM.sinceV
  by_cases he : M.findE id = 0
  · obtain ⟨hs, _⟩ := findE_ok he
    obtain ⟨k, rfl⟩ : ∃ k : Nat, id = k := ⟨id.toNat, by omega⟩
    have hk : k < 16 := by omega
    have c0 := h.c0
    have c1 := h.cell k hk
    rw [if_pos he, Int.toNat_natCast]
    rw [he] at HF ⊢
    have hki : (k : Int) < 16 := by omega
    generalize M.at k = a at *
    clear h hs he
    go_enter Try.func14, Try.ntmps14
    go_wp2_with (go_at_call 34; ((with_reducible refine HF.out.mono ?_)); rintro e w1 ⟨rfl, rfl⟩)
    go_ret2
    exact ⟨rfl, rfl⟩
  · rw [if_neg he]
    generalize M.findE id = r at *
    have hr : (r != 0) = true := by simpa using he
    clear h
    go_enter Try.func14, Try.ntmps14
    go_wp2_with (go_at_call 34; ((with_reducible refine HF.out.mono ?_)); rintro e w1 ⟨rfl, rfl⟩)
    go_ret2
    exact ⟨rfl, rfl⟩
theorem made16 : madeCells #[.int .i64 0] 16 = (sVi MbM.new).toArray := by kernel_rfl
theorem mbmake_any (w : World) : Calls Try.prog 8 #[] w fun e w' => ∃ q, e = .returned (.pointer (some ⟨q, 0, none⟩)) ∧ MNew mbT w MbM.new q w' := by
  obtain ⟨i0, hi, hz0, hz1, hz2⟩ := info_parts infoIntW
  have hmk := fun W : World => run_make (P := Try.prog) W 35 3 i0 _ Try.underlying35 hi hz0 .i64 .i64 (16 : Int) (16 : Int) (by omega) (Int.le_refl _) (by rw [hz2]; omega) (by omega)
  simp only [hz1, show (16 : Int).toNat = 16 from rfl, Nat.mul_one, show Value.cells (.int .i64 0) = #[.int .i64 0] from rfl, made16] at hmk
  have hs : (w.alloc (.cells (sVi MbM.new).toArray 3)).heap.size = w.heap.size + 1 := by simp
  have HN := Lib.hid (show MNew mbT w MbM.new (w.heap.size + 1) ((w.alloc (.cells (sVi MbM.new).toArray 3)).alloc (.cells #[.slice (some ⟨w.heap.size, 0, none⟩) 16 16, .int .i64 0] 48)) from by
    have hb := Blk.new (w.alloc (.cells (sVi MbM.new).toArray 3)) [.slice (some ⟨w.heap.size, 0, none⟩) 16 16, .int .i64 0] 48
    rw [hs] at hb
    exact ⟨fun k => k = w.heap.size + 1 ∨ k = w.heap.size, ⟨w.heap.size, (· = w.heap.size + 1), (· = w.heap.size), ⟨hb, fun _ => Iff.rfl⟩, ⟨(Blk.new w _ _).alloc _, fun _ => Iff.rfl⟩, fun k h1 h2 => by omega, fun _ => Iff.rfl⟩,
      ((Turned.refl _ _).alloc _).alloc _, fun k hk => by omega⟩)
  clear hs hi hz0 hz1 hz2
  go_enter Try.func8, Try.ntmps8
  go_wp2_with fail
  go_ret
  exact ⟨_, rfl, HN.out⟩
end
end Go.Proofs.Ytepdnclojjeepaa
