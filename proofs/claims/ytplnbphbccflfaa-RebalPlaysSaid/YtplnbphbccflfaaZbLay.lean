/- The document's table, as it lies in memory; what it says of itself. No condition but that it is one. -/
import Derived.Test.YtplnbphbccflfaaRbLem
import Derived.Test.YtplnbphbccflfaaHeldPut
namespace Go.Proofs.Ytplnbphbccflfaa
open Go.RowKit
set_option linter.unusedVariables false
set_option linter.unusedSimpArgs false
set_option maxRecDepth 100000

abbrev zbX (q : Nat) (ao : Option Addr) (co : Nat) (at_ : Option Addr) (ct : Nat) (aw : Option Addr) (cw : Nat) (M : TbM) : Thing :=
  (blkT q [.slice ao M.O.length co, .slice at_ M.T.length ct, .slice aw M.W.length cw, .int .i64 ((M.G : Nat) : Int)] 40).sep ((ownsT ao M.O.length co M.O).sep ((ownsT at_ M.T.length ct M.T).sep (intsT aw M.W.length cw M.W)))
/-- The document's table. -/
def zbT (q : Nat) (M : TbM) : Thing where
  at_ w W := ∃ ao co at_ ct aw cw, (zbX q ao co at_ ct aw cw M).at_ w W
  lt := by rintro w W ⟨ao, co, at_, ct, aw, cw, h⟩; exact Thing.lt _ h
  keep := by rintro w w' W S ⟨ao, co, at_, ct, aw, cw, h⟩ ht hs; exact ⟨ao, co, at_, ct, aw, cw, Thing.keep _ h ht hs⟩
structure ZbRd (q : Nat) (ao : Option Addr) (co : Nat) (at_ : Option Addr) (ct : Nat) (aw : Option Addr) (cw : Nat) (M : TbM) (w : World) : Prop where
  c0 : w.cell? ⟨q, 0, none⟩ = some (.slice ao M.O.length co)
  c1 : w.cell? ⟨q, 1, none⟩ = some (.slice at_ M.T.length ct)
  c2 : w.cell? ⟨q, 2, none⟩ = some (.slice aw M.W.length cw)
  c3 : w.cell? ⟨q, 3, none⟩ = some (.int .i64 ((M.G : Nat) : Int))
  ro : OwAt w ao M.O
  rt : OwAt w at_ M.T
  rw_ : NumsAt w aw M.W
section
variable {q K : Nat} {M : TbM} {w w' : World} {W : Nat → Prop} {ao at_ aw : Option Addr} {co ct cw : Nat}
theorem zbX_rd (h : (zbX q ao co at_ ct aw cw M).at_ w W) : ZbRd q ao co at_ ct aw cw M w := by
  obtain ⟨W1, W2, ⟨h1, _⟩, ⟨W3, W4, ⟨h2, _⟩, ⟨W5, W6, ⟨h3, _⟩, ⟨h4, _⟩, _⟩, _⟩, _⟩ := h
  exact ⟨h1.cell rfl, h1.cell rfl, h1.cell rfl, h1.cell rfl, RowAt.of_own encOw_len h2 rfl, RowAt.of_own encOw_len h3 rfl, NumsAt.of_own h4 rfl⟩
theorem zbT_rd (h : (zbT q M).at_ w W) : ∃ ao co at_ ct aw cw, ZbRd q ao co at_ ct aw cw M w := by
  obtain ⟨ao, co, at_, ct, aw, cw, h⟩ := h
  exact ⟨ao, co, at_, ct, aw, cw, zbX_rd h⟩
theorem ZbRd.still (h : ZbRd q ao co at_ ct aw cw M w) (hs : Still w w') : ZbRd q ao co at_ ct aw cw M w' :=
  ⟨still_cell hs h.c0 rfl, still_cell hs h.c1 rfl, still_cell hs h.c2 rfl, still_cell hs h.c3 rfl, row_still h.ro hs, row_still h.rt hs, h.rw_.still hs⟩
theorem zrbmake_any (w : World) : Calls Try.prog 9 #[] w fun e w' => ∃ q, e = .returned (.pointer (some ⟨q, 0, none⟩)) ∧ BNew zbT w TbM.new q w' := by
  have HN := Lib.hid (show BNew zbT w TbM.new w.heap.size (w.alloc (.cells #[.slice none 0 0, .slice none 0 0, .slice none 0 0, .int .i64 0] 40)) from by
    refine ⟨(· = w.heap.size), ⟨none, 0, none, 0, none, 0, (· = w.heap.size), fun _ => False, ⟨Blk.new w [.slice none 0 0, .slice none 0 0, .slice none 0 0, .int .i64 0] 40, fun _ => Iff.rfl⟩,
      ⟨fun _ => False, fun _ => False, ⟨World.ownsRow_nil _ _ _ _, fun k => ⟨fun h => h.elim, fun h => by cases h⟩⟩, ⟨fun _ => False, fun _ => False, ⟨World.ownsRow_nil _ _ _ _, fun k => ⟨fun h => h.elim, fun h => by cases h⟩⟩, ⟨World.ownsRow_nil _ _ _ _, fun k => ⟨fun h => h.elim, fun h => by cases h⟩⟩, fun _ h => h.elim, fun k => ⟨fun h => h.elim, fun h => h.elim id id⟩⟩, fun _ h => h.elim, fun k => ⟨fun h => h.elim, fun h => h.elim id id⟩⟩,
      fun _ _ h => h.elim, fun k => ⟨.inl, fun h => h.elim id (fun h => h.elim)⟩⟩, (Turned.refl _ _).alloc _, fun k hk => by omega⟩)
  go_enter Try.func9, Try.ntmps9
  go_wp2_with fail
  go_ret
  exact ⟨_, rfl, HN.out⟩
theorem zrbset_any (h : ZbRd q ao co at_ ct aw cw M w) : Calls Try.prog 42 #[.pointer (some ⟨q, 0, none⟩)] w fun e w' => e = .returned (.bool (decide (M.W = []))) ∧ w = w' := by
  have c2 := h.c2
  by_cases hw : M.W = []
  · have hl : M.W.length = 0 := by rw [hw]; rfl
    rw [decide_eq_true hw]
    rw [hl] at c2
    clear h
    go_enter Try.func42, Try.ntmps42
    go_wp2_with fail
    go_ret
    exact ⟨by first | rfl | simp, rfl⟩
  · have hl : 0 < M.W.length := List.length_pos_iff.2 hw
    rw [decide_eq_false hw]
    generalize M.W.length = k at *
    have hk : ((k : Int) == 0) = false := by rw [beq_eq_false_iff_ne]; omega
    clear h hw
    go_enter Try.func42, Try.ntmps42
    go_wp2_with fail
    go_ret
    exact ⟨by first | rfl | simp | (simp; omega), rfl⟩
theorem zrbin_any (w : World) (ao : Option Addr) (l : List Int) (n cap : Nat) (x : Int) (hn : n = l.length) (hmax : n ≤ 9223372036854775807) (hA : NumsAt w ao l) :
    Calls Try.prog 34 #[.slice ao n cap, .int .i64 x] w fun e w' => e = .returned (.bool (decide (x ∈ l))) ∧ w = w' := by
  have HA := Lib.hid hA
  have HN := Lib.hid hn
  clear hA hn
  go_enter Try.func34, Try.ntmps34
  go_wp2
  go_loopw [5] (fun i wr => ∃ k : Nat, k ≤ n ∧ i = .int .i64 k ∧ x ∉ l.take k ∧ w = wr) (fun i _ => n - (intOf i).toNat)
  case atStart => exact ⟨0, Nat.zero_le _, rfl, by simp, rfl⟩
  case round =>
    obtain ⟨k, hk, rfl, hno, hw⟩ := hrel
    subst hw
    have HNO := Lib.hid hno
    clear hno
    by_cases hlt : k < n
    · obtain ⟨y, hy⟩ := get_some (l := l) (i := k) (by rw [← HN.out]; exact hlt)
      obtain ⟨b, o, rfl, hc⟩ := HA.out k y hy
      have HY := Lib.hid hy
      have hki : (k : Int) < (n : Int) := by omega
      clear hy
      by_cases hxy : y = x
      · subst hxy
        have HF := Lib.hid (show decide (y ∈ l) = true from decide_eq_true (List.mem_of_getElem? HY.out))
        go_wp2_with fail
        go_ret
        exact ⟨ret_bool HF.out.symm, rfl⟩
      · have HF := Lib.hid (show x ∉ l.take (k + 1) from by
          rw [List.take_add_one, HY.out]
          intro hm
          rcases List.mem_append.1 hm with h | h
          · exact HNO.out h
          · have : x = y := by simpa using h
            exact hxy this.symm)
        go_wp2_with fail
        go_roundw
        case rel => exact ⟨k + 1, by omega, by go_num, HF.out, by first | rfl | trivial⟩
        case measure => simp [intOf]; omega
    · obtain rfl : k = n := by omega
      have HF := Lib.hid (show decide (x ∈ l) = false from decide_eq_false (by
        have := HNO.out
        rwa [List.take_of_length_le (by rw [HN.out]; exact Nat.le_refl _)] at this))
      clear hlt
      go_wp2_with fail
      go_ret
      exact ⟨ret_bool HF.out.symm, rfl⟩
def revTo (O T : List Own) (x : Int) (k : Nat) : List Plc := (((O.zip T).take k).filter (isRev x)).map (·.1.1)
theorem revTo_step {O T : List Own} {x : Int} {k : Nat} {o t : Own} (h1 : O[k]? = some o) (h2 : T[k]? = some t) : revTo O T x (k + 1) = if isRev x (o, t) = true then revTo O T x k ++ [o.1] else revTo O T x k := by
  unfold revTo
  rw [List.take_add_one, zip_at h1 h2, List.filter_append, List.map_append]
  show _ ++ (List.filter _ [(o, t)]).map _ = _
  rw [List.filter_cons, List.filter_nil]
  by_cases h : isRev x (o, t) = true
  · rw [if_pos h, if_pos h]; rfl
  · rw [if_neg h, if_neg h]; simp
theorem revTo_len (O T : List Own) (x : Int) (k : Nat) : (revTo O T x k).length ≤ k := by
  unfold revTo
  rw [List.length_map]
  refine Nat.le_trans (List.length_filter_le _ _) ?_
  rw [List.length_take]; omega
set_option maxHeartbeats 4000000 in
theorem zrbrev_len (h : ZbRd q ao co at_ ct aw cw M w) (hML2 : M.O.length = M.T.length) (hML : M.O.length ≤ 256) (x : Int) (n : Nat) (hn : n = (revI M.O M.T x).length) :
    Calls Try.prog 36 #[.pointer (some ⟨q, 0, none⟩), .int .i64 x] w (OutRow encPl 2 49 w (revI M.O M.T x) n) := by
  obtain ⟨pi, qi, pz0, pz1, pz2⟩ := info_parts infoPl17
  have HW := Lib.hid (World.ownsRow_made (e := 49) (size := 2) w #[] 0 (Nat.le_refl _) (by simp) (by simp))
  have HRd := Lib.hid (fun V (hs : Still w V) => h.still hs)
  have HL2 := Lib.hid hML2
  obtain ⟨m, hm⟩ : ∃ m, m = M.O.length := ⟨_, rfl⟩
  have hm256 : m ≤ 256 := by rw [hm]; exact hML
  have HM := Lib.hid hm
  have HAll := Lib.hid (show revTo M.O M.T x m = revI M.O M.T x from by
    unfold revTo revI; rw [List.take_of_length_le (by rw [List.length_zip]; omega)])
  have HN := Lib.hid hn
  have c0 := h.c0
  have c1 := h.c1
  rw [← hML2, ← hm] at c1
  rw [← hm] at c0
  have HC := Lib.hid (fun V (hs : Still w V) => show V.cell? ⟨q, 0, none⟩ = some (.slice ao m co) ∧ V.cell? ⟨q, 1, none⟩ = some (.slice at_ m ct) from ⟨still_cell hs c0 rfl, still_cell hs c1 rfl⟩)
  clear h hML2 hML hn hm
  go_enter Try.func36, Try.ntmps36
  go_wp2_with fail
  clear c0 c1
  go_loopw [5, 6] (fun ll ix wq => ∃ (i d : Nat) (a2 : Option Addr) (c4 : Nat), i ≤ m ∧ ix = .int .i64 i ∧ d = (revTo M.O M.T x i).length ∧ ll = .slice a2 d c4 ∧ wq.ownsRow w.heap.size 49 2 (.slice a2 d c4) d (rowOf encPl (revTo M.O M.T x i)) ∧ Still w wq) (fun _ ix _ => m - (intOf ix).toNat)
  case atStart => exact ⟨0, 0, _, 0, Nat.zero_le _, rfl, rfl, rfl, HW.out, (Turned.refl _ _).alloc _⟩
  case round =>
    obtain ⟨i, d, a2, c4, hi, rfl, hd, rfl, hown, hst⟩ := hrel
    have HO := Lib.hid hown
    have HS := Lib.hid hst
    have HD := Lib.hid hd
    have hd2 : d ≤ i := by rw [hd]; exact revTo_len _ _ _ _
    have hlo := hst.size
    obtain ⟨c0, c1⟩ := HC.out _ hst
    by_cases hlt : i < m
    · obtain ⟨⟨⟨pf, pt⟩, oi⟩, ho⟩ := get_some (l := M.O) (i := i) (by rw [← HM.out]; exact hlt)
      obtain ⟨⟨tp, ti⟩, ht⟩ := get_some (l := M.T) (i := i) (by rw [← HL2.out, ← HM.out]; exact hlt)
      have hrd := HRd.out _ hst
      obtain ⟨b1, o1, rfl, r1⟩ := hrd.ro i _ ho
      obtain ⟨b2, o2, rfl, r2⟩ := hrd.rt i _ ht
      have x0 : wr.cell? ⟨b1, o1 + i * 3, none⟩ = some (.int .i64 pf) := r1 0 _ rfl
      have x1 : wr.cell? ⟨b1, o1 + i * 3 + 1, none⟩ = some (.int .i64 pt) := by rw [Nat.add_assoc]; exact r1 1 _ rfl
      have x2 : wr.cell? ⟨b1, o1 + i * 3 + 2, none⟩ = some (.int .i64 oi) := by rw [Nat.add_assoc]; exact r1 2 _ rfl
      have t2 : wr.cell? ⟨b2, o2 + i * 3 + 2, none⟩ = some (.int .i64 ti) := by rw [Nat.add_assoc]; exact r2 2 _ rfl
      have HSt := Lib.hid (revTo_step (x := x) ho ht)
      have hii : (i : Int) < (m : Int) := by omega
      clear hown hst hd hrd r1 r2 ho ht
      by_cases h1 : oi = x
      · subst h1
        by_cases h2 : 0 ≤ oi
        · have h2b : decide (0 ≤ oi) = true := decide_eq_true h2
          by_cases h3 : ti = oi
          · subst h3
            have HS2 := Lib.hid (show revTo M.O M.T ti (i + 1) = revTo M.O M.T ti i from by rw [HSt.out, if_neg (by unfold isRev; simp)])
            go_wp2_with fail
            go_roundw
            case rel => exact ⟨i + 1, d, a2, c4, by omega, by go_num, by rw [HS2.out]; exact HD.out, rfl, by rw [HS2.out]; exact HO.out, HS.out⟩
            case measure => simp [intOf]; omega
          · have HS2 := Lib.hid (show revTo M.O M.T oi (i + 1) = revTo M.O M.T oi i ++ [(pf, pt)] from by rw [HSt.out, if_pos (by unfold isRev; simp [h2, h3])])
            go_wp2_with (at_builtin; refine wpList_append_own_at _ rfl _ _ 23 rfl w.heap.size 49 pi (.agg #[.int .i64 0, .int .i64 0]) 2 16 Try.underlying23 qi pz0 pz1 pz2 rfl (by decide) (.slice a2 d c4) d (rowOf encPl (revTo M.O M.T oi i)) rfl (ow_still HO.out ((Turned.refl _ _).alloc _)) ⟨wr.heap.size, 0, none⟩ 1 1 [.int .i64 pf, .int .i64 pt] rfl rfl (ow_cells wr _ _) (ow_ints rfl) (by unfold maxLen; omega) (by omega) (by simp; omega) ?_; intro v6 w6 hown6 hg6 _ hat6; obtain ⟨a6, c6, rfl⟩ := ow_slice hown6; have HS6 := Lib.hid (row_appended HS.out HO.out hg6); have HO6 := Lib.hid hown6; clear hown6 hg6 hat6)
            go_roundw
            case rel => exact ⟨i + 1, d + 1, a6, c6, by omega, by go_num, by rw [HS2.out, List.length_append, ← HD.out]; rfl, rfl, by rw [HS2.out, rowOf_append, rowOf_cons, rowOf_nil, List.append_nil]; exact HO6.out, HS6.out⟩
            case measure => simp [intOf]; omega
        · have h2b : decide (0 ≤ oi) = false := decide_eq_false h2
          have HS2 := Lib.hid (show revTo M.O M.T oi (i + 1) = revTo M.O M.T oi i from by rw [HSt.out, if_neg (by unfold isRev; simp [h2])])
          go_wp2_with fail
          go_roundw
          case rel => exact ⟨i + 1, d, a2, c4, by omega, by go_num, by rw [HS2.out]; exact HD.out, rfl, by rw [HS2.out]; exact HO.out, HS.out⟩
          case measure => simp [intOf]; omega
      · have h1b : (oi == x) = false := by rw [beq_eq_false_iff_ne]; exact h1
        have HS2 := Lib.hid (show revTo M.O M.T x (i + 1) = revTo M.O M.T x i from by rw [HSt.out, if_neg (by unfold isRev; simp [h1])])
        go_wp2_with fail
        go_roundw
        case rel => exact ⟨i + 1, d, a2, c4, by omega, by go_num, by rw [HS2.out]; exact HD.out, rfl, by rw [HS2.out]; exact HO.out, HS.out⟩
        case measure => simp [intOf]; omega
    · obtain rfl : i = m := by omega
      obtain rfl : d = n := by rw [HD.out, HN.out, HAll.out]
      clear hown hst hd hlt
      go_wp2_with fail
      go_ret
      exact ⟨a2, c4, rfl, by rw [← HAll.out]; exact HO.out, HS.out⟩
theorem zrbrev_any (h : ZbRd q ao co at_ ct aw cw M w) (hM : M.Pre K) (x : Int) (n : Nat) (hn : n = (revI M.O M.T x).length) :
    Calls Try.prog 36 #[.pointer (some ⟨q, 0, none⟩), .int .i64 x] w (OutRow encPl 2 49 w (revI M.O M.T x) n) := zrbrev_len h hM.len2 hM.len x n hn
end
end Go.Proofs.Ytplnbphbccflfaa
