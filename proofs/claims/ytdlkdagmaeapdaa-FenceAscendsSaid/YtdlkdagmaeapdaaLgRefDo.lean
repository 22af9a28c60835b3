/- What Make, Is and Of of the document's ledger do. No condition but that it is one. -/
import Derived.Test.YtdlkdagmaeapdaaLgRef
namespace Go.Proofs.Ytdlkdagmaeapdaa
open Go.RowKit
set_option linter.unusedVariables false
set_option linter.unusedSimpArgs false
set_option maxRecDepth 100000

theorem is_at {n : Int} : ∀ {l : List Pc} {k : Nat} {x : Pc}, l[k]? = some x → (∀ (j : Nat) (y : Pc), j < k → l[j]? = some y → inPc y n = false) → inPc x n = true → lgiV l n = x.2.2 ∧ lgiE l n = 0 := by
  intro l
  induction l with
  | nil => intro k x h; simp at h
  | cons y l ih =>
    intro k x hx hno hi
    cases k with
    | zero =>
      obtain rfl : y = x := by simpa using hx
      simp [lgiV, lgiE, hi]
    | succ k =>
      have h0 := hno 0 y (by omega) rfl
      obtain ⟨h1, h2⟩ := ih (k := k) (x := x) (by simpa using hx) (fun j z hj hz => hno (j + 1) z (by omega) (by simpa using hz)) hi
      constructor
      · unfold lgiV at h1 ⊢; rw [List.find?_cons, h0]; exact h1
      · unfold lgiE at h2 ⊢; rw [List.any_cons, h0, Bool.false_or]; exact h2
theorem is_none {l : List Pc} {n : Int} (h : ∀ (j : Nat) (y : Pc), j < l.length → l[j]? = some y → inPc y n = false) : lgiV l n = false ∧ lgiE l n = 5 := by
  have h' : ∀ x ∈ l, inPc x n = false := fun x hx => by
    obtain ⟨j, hj, rfl⟩ := List.mem_iff_getElem.1 hx
    exact h j _ hj (List.getElem?_eq_getElem hj)
  constructor
  · unfold lgiV
    rw [List.find?_eq_none.2 (fun x hx => by simp [h' x hx])]; rfl
  · unfold lgiE
    rw [if_neg]
    intro ha
    obtain ⟨x, hx, hi⟩ := List.any_eq_true.1 ha
    rw [h' x hx] at hi
    cases hi
theorem spOf_snoc {l : List Pc} {k : Nat} {x : Pc} (kd : Bool) (h : l[k]? = some x) : spOf (l.take (k + 1)) kd = if x.2.2 = kd then spOf (l.take k) kd ++ [(x.1, x.2.1)] else spOf (l.take k) kd := by
  unfold spOf
  rw [List.take_add_one, h, List.filter_append]
  simp only [Option.toList_some, List.filter_cons, List.filter_nil]
  by_cases hk : x.2.2 = kd
  · rw [if_pos hk, if_pos (by simpa using hk)]; simp
  · rw [if_neg hk, if_neg (by simpa using hk)]; simp

theorem infoSpan : (Try.prog.info? 51).map (fun i => (i.zero, i.size, i.bytes)) = some (some (.agg #[.int .i64 0, .int .i64 0]), 2, 16) := by kernel_rfl
/-- What append leaves of a row of one's own. -/
theorem own_appended {w wr w6 : World} {e : TypeId} {m : Nat} {ao : Option Addr} {k cc : Nat} {xs : List Value} {o : Obj} (hs : Still w wr) (h : wr.ownsRow w.heap.size e m (.slice ao k cc) k xs) (hg : (wr.alloc o).grownBy w6 (Value.slice ao k cc).ownBlock) : Still w w6 := by
  refine (hs.alloc o).past ((Turned.refl (fun i => (Value.slice ao k cc).ownBlock = some i) _).grown hg (fun i e => .inl e)) (fun i hi => ?_)
  cases ao with
  | none => cases hi
  | some x => have := (ow_lt h x rfl).1
              have e : x.block = i := by simpa [Value.ownBlock] using hi
              exact .inr (by omega)

/-- A new ledger. -/
def LNew (LT : Nat → LgM → Thing) (w : World) (M : LgM) (q : Nat) (w' : World) : Prop := ∃ W, (LT q M).at_ w' W ∧ Still w w' ∧ ∀ k, W k → w.heap.size ≤ k

section
variable {q : Nat} {a a2 : Option Addr} {c c2 n : Nat} {M : LgM} {w w' : World} {W : Nat → Prop}
theorem zlgmake_no (b : Int) (w : World) (h : ¬ (0 ≤ b ∧ b ≤ 1099511627776)) : Calls Try.prog 40 #[.int .i64 b] w fun e w' => e = .returned (.tuple #[.pointer none, .int .i64 2]) ∧ Still w w' := by
  have HO : Hid (∀ V, Calls Try.prog 69 #[.int .i64 b] V fun e w' => e = .returned (.bool false) ∧ V = w') := Lib.hid (fun V => by
    by_cases h0 : 0 ≤ b
    · have h1 : ¬ b ≤ 1099511627776 := fun h1 => h ⟨h0, h1⟩
      clear h
      go_enter Try.func69, Try.ntmps69
      go_wp2_with fail
      go_ret
      exact ⟨rfl, rfl⟩
    · clear h
      go_enter Try.func69, Try.ntmps69
      go_wp2_with fail
      go_ret
      exact ⟨rfl, rfl⟩)
  clear h
  go_enter Try.func40, Try.ntmps40
  go_wp2_with (go_at_call 69; ((with_reducible refine (HO.out _).mono ?_)); rintro e w1 ⟨rfl, rfl⟩)
  go_ret2
  exact ⟨rfl, Turned.refl _ _⟩
theorem zlgnew (w : World) (b : Int) : LNew zLT w (LgM.new b) w.heap.size (w.alloc (.cells #[.int .i64 b, .slice none 0 0, .slice none 0 0] 79)) := by
  refine ⟨(· = w.heap.size), ⟨none, 0, none, 0, (· = w.heap.size), fun _ => False, ⟨Blk.new w [.int .i64 b, .slice none 0 0, .slice none 0 0] 79, fun _ => Iff.rfl⟩,
    ⟨fun _ => False, fun _ => False, ⟨World.ownsRow_nil _ _ _ _, fun k => ⟨fun h => h.elim, fun h => by cases h⟩⟩, ⟨World.ownsRow_nil _ _ _ _, fun k => ⟨fun h => h.elim, fun h => by cases h⟩⟩, fun _ h => h.elim, fun k => ⟨fun h => h.elim, fun h => h.elim id id⟩⟩, fun _ _ h => h, fun k => ⟨.inl, fun h => h.elim id (fun h => h.elim)⟩⟩, (Turned.refl _ _).alloc _, fun k hk => by omega⟩
theorem zlgmake_ok (b : Int) (w : World) (h0 : 0 ≤ b) (h1 : b ≤ 1099511627776) : Calls Try.prog 40 #[.int .i64 b] w fun e w' => ∃ q, e = .returned (.tuple #[.pointer (some ⟨q, 0, none⟩), .int .i64 0]) ∧ LNew zLT w (LgM.new b) q w' := by
  have HO : Hid (∀ V, Calls Try.prog 69 #[.int .i64 b] V fun e w' => e = .returned (.bool true) ∧ V = w') := Lib.hid (fun V => by
    go_enter Try.func69, Try.ntmps69
    go_wp2_with fail
    go_ret
    exact ⟨rfl, rfl⟩)
  have HN := Lib.hid (zlgnew w b)
  clear h0 h1
  go_enter Try.func40, Try.ntmps40
  go_wp2_with (go_at_call 69; ((with_reducible refine (HO.out _).mono ?_)); rintro e w1 ⟨rfl, rfl⟩)
  go_ret2
  exact ⟨_, rfl, HN.out⟩

set_option maxHeartbeats 1000000 in
theorem zlgof_any (h : (zLT q M).at_ w W) (hM : M.Ok) (kd : Bool) (m : Nat) (hm : m = (spOf M.L kd).length) : Calls Try.prog 50 #[.pointer (some ⟨q, 0, none⟩), .bool kd] w (OutSp w (spOf M.L kd) m) := by
  obtain ⟨a, c, a2, c2, h⟩ := zLT_rd h
  obtain ⟨n, hn⟩ : ∃ n, n = M.L.length := ⟨_, rfl⟩
  rw [← hn] at h
  have HRd := Lib.hid (fun V (hs : Still w V) => h.still hs)
  obtain ⟨x0, x1, x2, _⟩ := h
  have HN := Lib.hid hn
  have HEnd := Lib.hid (show spOf (M.L.take n) kd = spOf M.L kd from by rw [hn, List.take_length])
  have HM := Lib.hid hm
  have hn256 : n ≤ 256 := by have := hM.len; omega
  have HDl := Lib.hid (fun (k : Nat) => show (spOf (M.L.take k) kd).length ≤ 256 from Nat.le_trans (spOf_len _ _) (by rw [List.length_take]; have := hM.len; omega))
  obtain ⟨i0, hi, hz0, hz1, hz2⟩ := info_parts infoSpan
  have HW := Lib.hid (World.ownsRow_made (e := 51) (size := 2) w #[] 0 (Nat.le_refl _) (by simp) (by simp))
  clear hn hM hm
  go_enter Try.func50, Try.ntmps50
  go_wp2_with fail
  go_loopw [5, 6] (fun o i wr => ∃ (k d : Nat) (ao : Option Addr) (cc : Nat), k ≤ n ∧ d = (spOf (M.L.take k) kd).length ∧ i = .int .i64 k ∧ o = .slice ao d cc ∧ wr.ownsRow w.heap.size 51 2 (.slice ao d cc) d (rowOf sp2V (spOf (M.L.take k) kd)) ∧ Still w wr) (fun _ i _ => n - (intOf i).toNat)
  case atStart => exact ⟨0, 0, _, 0, Nat.zero_le _, rfl, rfl, rfl, HW.out, (Turned.refl _ _).alloc _⟩
  case round =>
    obtain ⟨k, d, ao, cc, hk, hd, rfl, rfl, hown, hst⟩ := hrel
    have hd256 : d ≤ 256 := by rw [hd]; exact HDl.out k
    have HD := Lib.hid hd
    have HO := Lib.hid hown
    have HS := Lib.hid hst
    obtain ⟨z0, z1, z2, hrow⟩ := HRd.out wr hst
    by_cases hlt : k < n
    · obtain ⟨x, hx⟩ := get_some (l := M.L) (i := k) (by rw [← HN.out]; exact hlt)
      obtain ⟨g, g2, rfl, rfl, y0, y1, y2⟩ := hrow k x hx
      have hki : (k : Int) < (n : Int) := by omega
      have HSn := Lib.hid (spOf_snoc kd hx)
      have hlo := hst.size
      obtain ⟨xf, xt, xk⟩ := x
      dsimp only at y0 y1 y2 HSn
      clear hown hst hd hrow hx x0 x1 x2
      by_cases hkd : xk = kd
      · subst hkd
        have HS1 := Lib.hid (show spOf (M.L.take (k + 1)) xk = spOf (M.L.take k) xk ++ [(xf, xt)] from by rw [HSn.out, if_pos rfl])
        clear HSn
        go_wp2_with (at_builtin; refine wpList_append_own_at _ rfl _ _ 48 rfl w.heap.size 51 i0 (.agg #[.int .i64 0, .int .i64 0]) 2 16 Try.underlying48 hi hz0 hz1 hz2 rfl (by decide) (.slice ao d cc) d (rowOf sp2V (spOf (M.L.take k) xk)) rfl (ow_still HO.out ((Turned.refl _ _).alloc _)) ⟨wr.heap.size, 0, none⟩ 1 1 [.int .i64 xf, .int .i64 xt] rfl rfl (ow_cells wr _ _) (by intro u hu; simp at hu; rcases hu with rfl | rfl <;> rfl) (by unfold maxLen; omega) (by omega) (by first | (simp; done) | (simp; omega)) ?_; intro v6 w6 hown6 hg6 _ hat6; obtain ⟨a6, c6, rfl⟩ := ow_slice hown6; have HS6 := Lib.hid (own_appended HS.out HO.out hg6); have HO6 := Lib.hid hown6; clear hown6 hg6 hat6)
        go_roundw
        case rel => exact ⟨k + 1, d + 1, a6, c6, by omega, by rw [HS1.out, List.length_append, HD.out]; rfl, by go_num, rfl, by rw [HS1.out, rowOf_append, rowOf_cons, rowOf_nil, List.append_nil]; exact HO6.out, HS6.out⟩
        case measure => simp [intOf]; omega
      · have HS1 := Lib.hid (show spOf (M.L.take (k + 1)) kd = spOf (M.L.take k) kd from by rw [HSn.out, if_neg hkd])
        have hkb : (xk == kd) = false := by rw [beq_eq_false_iff_ne]; exact hkd
        clear HSn hkd
        go_wp2_with fail
        go_roundw
        case rel => exact ⟨k + 1, d, ao, cc, by omega, by rw [HS1.out]; exact HD.out, by go_num, rfl, by rw [HS1.out]; exact HO.out, HS.out⟩
        case measure => simp [intOf]; omega
    · obtain rfl : k = n := by omega
      obtain rfl : d = m := by rw [HD.out, HM.out, HEnd.out]
      clear hown hst hrow hd
      go_wp2_with fail
      go_ret
      exact ⟨ao, cc, rfl, by have := HO.out; rwa [HEnd.out] at this, HS.out⟩
end
end Go.Proofs.Ytdlkdagmaeapdaa
