/- What From, End, Make, Accept and Skip of the program's ledger do. No condition but that it is one. -/
import Derived.Test.YtdlkdagmaeapdaaLgLay
import Derived.Test.YtdlkdagmaeapdaaLgRefAdd
namespace Go.Proofs.Ytdlkdagmaeapdaa
open Go.RowKit
set_option linter.unusedVariables false
set_option linter.unusedSimpArgs false
set_option maxRecDepth 100000

section
variable {q : Nat} {a a6 : Option Addr} {c c6 N n : Nat} {f : Bool} {M : LgM} {w V w6 w' : World} {W : Nat → Prop}
theorem lgfrom_any (h : (lgT q M).at_ w W) : Calls Try.prog 27 #[.pointer (some ⟨q, 0, none⟩)] w fun e w' => e = .returned (.int .i64 M.b) ∧ Still w w' := by
  obtain ⟨a, c, f, hr, _⟩ := lgT_rd h
  have HMd := Lib.hid (lgmade_any hr.c0 (by omega))
  have c0 := hr.c0
  obtain ⟨g, rfl, y0⟩ := hr.row 0 M.b rfl
  generalize M.b = b at *
  obtain ⟨N, hN⟩ : ∃ N, N = M.L.length + 1 := ⟨_, rfl⟩
  rw [← hN] at c0
  have hN0 : (0 : Int) < (N : Int) := by omega
  clear hr h hN
  go_enter Try.func27, Try.ntmps27
  go_wp2_with (go_at_call 52; ((with_reducible refine HMd.out.mono ?_)); rintro e w1 ⟨rfl, rfl⟩)
  go_ret
  exact ⟨rfl, Turned.refl _ _⟩
theorem lgend_any (h : (lgT q M).at_ w W) (hM : M.Ok) : Calls Try.prog 28 #[.pointer (some ⟨q, 0, none⟩)] w fun e w' => e = .returned (.int .i64 M.fin) ∧ Still w w' := by
  obtain ⟨a, c, f, hr, _⟩ := lgT_rd h
  have HMd := Lib.hid (lgmade_any hr.c0 (by omega))
  have c0 := hr.c0
  obtain ⟨g, rfl, y0⟩ := hr.row _ _ (marks_fin M)
  have hn256 := hM.len
  generalize M.fin = f at *
  generalize M.L.length = n at *
  clear hr h hM
  go_enter Try.func28, Try.ntmps28
  go_wp2_with (go_at_call 52; ((with_reducible refine HMd.out.mono ?_)); rintro e w1 ⟨rfl, rfl⟩)
  go_quiet (fail)
  go_wp2_with fail
  go_ret
  exact ⟨rfl, (Turned.refl _ _).drewN _⟩
theorem lgmake_no (b : Int) (w : World) (h : ¬ (0 ≤ b ∧ b ≤ 1099511627776)) : Calls Try.prog 39 #[.int .i64 b] w fun e w' => e = .returned (.tuple #[.pointer none, .int .i64 2]) ∧ Still w w' := by
  by_cases h0 : b < 0
  · clear h
    go_enter Try.func39, Try.ntmps39
    go_wp2_with fail
    go_ret2
    exact ⟨rfl, Turned.refl _ _⟩
  · have h1 : 1099511627776 < b := by omega
    clear h
    go_enter Try.func39, Try.ntmps39
    go_wp2_with fail
    go_ret2
    exact ⟨rfl, Turned.refl _ _⟩
theorem lgnew (w : World) (b : Int) : LNew lgT w (LgM.new b) (w.heap.size + 1) ((w.alloc (.cells #[.int .i64 b] 3)).alloc (.cells #[.slice (some ⟨w.heap.size, 0, none⟩) 1 1, .bool false] 87)) := by
  have hs : (w.alloc (.cells #[.int .i64 b] 3)).heap.size = w.heap.size + 1 := by simp
  have hb := Blk.new (w.alloc (.cells #[.int .i64 b] 3)) [.slice (some ⟨w.heap.size, 0, none⟩) 1 1, .bool false] 87
  rw [hs] at hb
  refine ⟨fun k => k = w.heap.size + 1 ∨ k = w.heap.size, ⟨some ⟨w.heap.size, 0, none⟩, 1, false, ⟨(· = w.heap.size + 1), (· = w.heap.size), ⟨hb, fun _ => Iff.rfl⟩,
    ⟨ow_still (ow_one w (.int .i64 b) 3 (Nat.zero_le _)) ((Turned.refl _ _).alloc _), fun k => ⟨fun h => by rw [h]; rfl, fun h => by cases h; rfl⟩⟩, fun k h1 h2 => by omega, fun _ => Iff.rfl⟩, fun x hx => by simp [LgM.new] at hx⟩,
    ((Turned.refl _ _).alloc _).alloc _, fun k hk => by omega⟩
theorem lgmake_ok (b : Int) (w : World) (h0 : 0 ≤ b) (h1 : b ≤ 1099511627776) : Calls Try.prog 39 #[.int .i64 b] w fun e w' => ∃ q, e = .returned (.tuple #[.pointer (some ⟨q, 0, none⟩), .int .i64 0]) ∧ LNew lgT w (LgM.new b) q w' := by
  have HN := Lib.hid (lgnew w b)
  go_enter Try.func39, Try.ntmps39
  go_wp2_with fail
  go_ret2
  exact ⟨_, rfl, HN.out⟩

/-! ### Accept, Skip -/
theorem marks_set {l' : List Pc} {x : Pc} (b tt : Int) : marks ⟨b, l' ++ [(x.1, tt, x.2.2)]⟩ = (marks ⟨b, l' ++ [x]⟩).set (l'.length + 1) tt := by
  unfold marks
  dsimp only
  rw [List.map_append, List.map_append, List.set_cons_succ, List.set_append_right _ _ (by simp)]
  simp
theorem marks_snoc (M : LgM) (y : Pc) : marks ⟨M.b, M.L ++ [y]⟩ = marks M ++ [y.2.1] := by simp [marks]
theorem set_one (l : List Value) (b : Nat) (v : Value) : l.set b v = l.set b v := rfl
/-- The last span ends elsewhere. -/
theorem lg_last {l' : List Pc} {x : Pc} {g : Nat} {tt : Int} (hl : M.L = l' ++ [x]) (hN : N = M.L.length + 1) (hf : ∀ x, M.L[0]? = some x → x.2.2 = f) (H : Sit W w V (lgX q (some ⟨g, 0, none⟩) c N f M)) :
    V.cell? ⟨g, l'.length + 1, none⟩ = some (.int .i64 x.2.1) ∧ V.frozen? ⟨g, l'.length + 1, none⟩ = false ∧ Hid (Goes (lgT q ⟨M.b, setTo M.L tt⟩) W w (V.setCell ⟨g, l'.length + 1, none⟩ (.int .i64 tt))) := by
  have hx : (marks M)[l'.length + 1]? = some x.2.1 := by unfold marks; rw [hl]; simp
  have H' : Sit W w V (((blkT q [.slice (some ⟨g, 0, none⟩) N c, .bool f] 87)).sep ((ownT 3 1 (some ⟨g, 0, none⟩) N c (ints (marks M))).sep Thing.none)) := H.imp (fun h => by
    obtain ⟨W1, W2, h1, h2, h3, h4⟩ := h
    exact ⟨W1, W2, h1, ⟨W2, fun _ => False, h2, fun _ h => h, fun _ _ h => h, fun k => ⟨.inl, fun h => h.elim id (fun h => h.elim)⟩⟩, h3, h4⟩)
  obtain ⟨h1, h2, h3⟩ := sit_put H' (ints_get hx) (.int .i64 tt)
  refine ⟨h1, h2, Lib.hid ((h3.out.goes).turn (fun h => ?_))⟩
  have e1 : setTo M.L tt = l' ++ [(x.1, tt, x.2.2)] := by rw [hl, setTo_app]
  have e2 : marks ⟨M.b, setTo M.L tt⟩ = (marks M).set (l'.length + 1) tt := by
    have : marks M = marks ⟨M.b, l' ++ [x]⟩ := by rw [← hl]
    rw [e1, marks_set, this]
  have e3 : (setTo M.L tt).length + 1 = N := by rw [e1, hN, hl]; simp
  refine ⟨some ⟨g, 0, none⟩, c, f, ?_, fun y hy => ?_⟩
  · show (lgX q (some ⟨g, 0, none⟩) c ((setTo M.L tt).length + 1) f ⟨M.b, setTo M.L tt⟩).at_ _ _
    unfold lgX
    rw [e2, e3, ← ints_set]
    obtain ⟨W1, W2, g1, ⟨W3, W4, g3, g4, _, g5⟩, g6, g7⟩ := h
    refine ⟨W1, W3, g1, g3, fun k hk hk' => g6 k hk ((g5 k).2 (.inl hk')), fun k => (g7 k).trans ⟨fun h => h.imp id (fun h => ((g5 k).1 h).elim id (fun h => (g4 k h).elim)), fun h => h.imp id (fun h => (g5 k).2 (.inl h))⟩⟩
  · show y.2.2 = f
    replace hy : (setTo M.L tt)[0]? = some y := hy
    rw [e1] at hy
    cases l' with
    | nil =>
      obtain rfl : (x.1, tt, x.2.2) = y := by simpa using hy
      exact hf x (by rw [hl]; rfl)
    | cons z l' =>
      obtain rfl : z = y := by simpa using hy
      exact hf z (by rw [hl]; rfl)
/-- One span more: the marks' row grows (from a box that may have its kind set anew). -/
theorem lg_more {o : Obj} {tt : Int} {kd : Bool} (hn : n = M.L.length) (hN : N = n + 1) (hf : ∀ x, M.L[0]? = some x → x.2.2 = f) (h0 : n = 0 → f = kd) (H : Sit W w V (lgX q a c N f M)) (hown : w6.ownsRow 0 3 1 (.slice a6 (N + 1) c6) (N + 1) (ints (marks M) ++ [.int .i64 tt]))
    (hg : (V.alloc o).grownBy w6 (Value.slice a N c).ownBlock) (hat : (Value.slice a6 (N + 1) c6).ownBlock = (Value.slice a N c).ownBlock ∨ (Value.slice a6 (N + 1) c6).ownBlock = some (V.alloc o).heap.size) :
    w6.cell? ⟨q, 0, none⟩ = some (.slice a N c) ∧ w6.frozen? ⟨q, 0, none⟩ = false ∧ Hid (Goes (lgT q ⟨M.b, M.L ++ [(M.fin, tt, kd)]⟩) W w (w6.setCell ⟨q, 0, none⟩ (.slice a6 (N + 1) c6))) := by
  have H' : Sit W w V (((blkT q [.slice a N c, .bool f] 87)).sep ((ownT 3 1 a N c (ints (marks M))).sep Thing.none)) := H.imp (fun h => by
    obtain ⟨W1, W2, h1, h2, h3, h4⟩ := h
    exact ⟨W1, W2, h1, ⟨W2, fun _ => False, h2, fun _ h => h, fun _ _ h => h, fun k => ⟨.inl, fun h => h.elim id (fun h => h.elim)⟩⟩, h3, h4⟩)
  obtain ⟨h1, h2, h3⟩ := sit_app (i := 0) H' rfl hown hg hat
  refine ⟨h1, h2, Lib.hid ((h3.out.goes).turn (fun h => ⟨a6, c6, f, ?_, fun y hy => ?_⟩))⟩
  · have e1 : (M.L ++ [(M.fin, tt, kd)]).length + 1 = N + 1 := by rw [List.length_append, ← hn, hN]; rfl
    show (lgX q a6 c6 ((M.L ++ [(M.fin, tt, kd)]).length + 1) f ⟨M.b, M.L ++ [(M.fin, tt, kd)]⟩).at_ _ _
    unfold lgX
    rw [e1, marks_snoc, show ints (marks M ++ [tt]) = ints (marks M) ++ [.int .i64 tt] by simp [ints]]
    obtain ⟨W1, W2, g1, ⟨W3, W4, g3, g4, _, g5⟩, g6, g7⟩ := h
    refine ⟨W1, W3, g1, g3, fun k hk hk' => g6 k hk ((g5 k).2 (.inl hk')), fun k => (g7 k).trans ⟨fun h => h.imp id (fun h => ((g5 k).1 h).elim id (fun h => (g4 k h).elim)), fun h => h.imp id (fun h => (g5 k).2 (.inl h))⟩⟩
  · show y.2.2 = f
    replace hy : (M.L ++ [(M.fin, tt, kd)])[0]? = some y := hy
    by_cases hl : M.L = []
    · rw [hl] at hy
      obtain rfl : (M.fin, tt, kd) = y := by simpa using hy
      exact (h0 (by rw [hn, hl]; rfl)).symm
    · obtain ⟨z, l', hz⟩ := List.exists_cons_of_ne_nil hl
      rw [hz] at hy
      obtain rfl : z = y := by simpa using hy
      exact hf z (by rw [hz]; rfl)
/-- The kind of the first span is set, where there is none yet. -/
theorem lg_first {kd : Bool} (H : Sit W w V (lgX q a c N f M)) : V.cell? ⟨q, 1, none⟩ = some (.bool f) ∧ V.frozen? ⟨q, 1, none⟩ = false ∧ Hid (Sit W w (V.setCell ⟨q, 1, none⟩ (.bool kd)) (lgX q a c N kd M)) :=
  sit_row (o := 1) H rfl (.bool kd)
end
end Go.Proofs.Ytdlkdagmaeapdaa
