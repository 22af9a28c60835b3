import Derived.Test.YtdlkdagmaeapdaaBdRbM
import Derived.Test.YtdlkdagmaeapdaaHeldPut
import Derived.Laws.AppendOwnNone
import Derived.Test.YtdlkdagmaeapdaaShBits
import Derived.Test.YtdlkdagmaeapdaaBdShI
import Derived.Test.YtdlkdagmaeapdaaStepApp
import Derived.Test.YtdlkdagmaeapdaaSameOw
import Derived.Test.YtdlkdagmaeapdaaPtAppNums
import Derived.Test.YtdlkdagmaeapdaaIntsCopy
import Derived.Deep.DeepCutAuto

/- The document's table, as it lies in memory; what it says of itself. No condition but that it is one. -/
namespace Go.Proofs.Ytdlkdagmaeapdaa
open Go.RowKit
set_option linter.unusedVariables false
set_option linter.unusedSimpArgs false
set_option maxRecDepth 100000

abbrev zbX (q : Nat) (ao : Option Addr) (co : Nat) (at_ : Option Addr) (ct : Nat) (aw : Option Addr) (cw : Nat) (M : TbM) : Thing :=
  (blkT q [.slice ao M.O.length co, .slice at_ M.T.length ct, .slice aw M.W.length cw, .int .i64 ((M.G : Nat) : Int)] 67).sep ((ownsT ao M.O.length co M.O).sep ((ownsT at_ M.T.length ct M.T).sep (intsT aw M.W.length cw M.W)))
/-- The document's table. -/
def zbT (q : Nat) (M : TbM) : Thing where
  at_ w W := ∃ ao co at_ ct aw cw, (zbX q ao co at_ ct aw cw M).at_ w W
  lt := by rintro w W ⟨ao, co, at_, ct, aw, cw, h⟩; exact Thing.lt _ h
  keep := by rintro w w' W S ⟨ao, co, at_, ct, aw, cw, h⟩ ht hs; exact ⟨ao, co, at_, ct, aw, cw, Thing.keep _ h ht hs⟩
structure ZbRd (q : Nat) (ao : Option Addr) (co : Nat) (at_ : Option Addr) (ct : Nat) (aw : Option Addr) (cw : Nat) (M : TbM) (w : World) : Prop where
  c0 : w.cell? ⟨q, 0, none⟩ = some (.slice ao M.O.length co)
  c1 : w.cell? ⟨q, 1, none⟩ = some (.slice at_ M.T.length ct)
  c2 : w.cell? ⟨q, 2, none⟩ = some (.slice aw M.W.length cw)
  c3 : w.cell? ⟨q, 3, none⟩ = some (.int .i64 ((M.G : Nat) : Int))
  ro : OwAt w ao M.O
  rt : OwAt w at_ M.T
  rw_ : NumsAt w aw M.W
section
variable {q K : Nat} {M : TbM} {w w' : World} {W : Nat → Prop} {ao at_ aw : Option Addr} {co ct cw : Nat}
theorem zbX_rd (h : (zbX q ao co at_ ct aw cw M).at_ w W) : ZbRd q ao co at_ ct aw cw M w := by
  obtain ⟨W1, W2, ⟨h1, _⟩, ⟨W3, W4, ⟨h2, _⟩, ⟨W5, W6, ⟨h3, _⟩, ⟨h4, _⟩, _⟩, _⟩, _⟩ := h
  exact ⟨h1.cell rfl, h1.cell rfl, h1.cell rfl, h1.cell rfl, RowAt.of_own encOw_len h2 rfl, RowAt.of_own encOw_len h3 rfl, NumsAt.of_own h4 rfl⟩
theorem zbT_rd (h : (zbT q M).at_ w W) : ∃ ao co at_ ct aw cw, ZbRd q ao co at_ ct aw cw M w := by
  obtain ⟨ao, co, at_, ct, aw, cw, h⟩ := h
  exact ⟨ao, co, at_, ct, aw, cw, zbX_rd h⟩
theorem ZbRd.still (h : ZbRd q ao co at_ ct aw cw M w) (hs : Still w w') : ZbRd q ao co at_ ct aw cw M w' :=
  ⟨still_cell hs h.c0 rfl, still_cell hs h.c1 rfl, still_cell hs h.c2 rfl, still_cell hs h.c3 rfl, row_still h.ro hs, row_still h.rt hs, h.rw_.still hs⟩
theorem zrbmake_any (w : World) : Calls Try.prog 32 #[] w fun e w' => ∃ q, e = .returned (.pointer (some ⟨q, 0, none⟩)) ∧ BNew zbT w TbM.new q w' := by
  have HN := Lib.hid (show BNew zbT w TbM.new w.heap.size (w.alloc (.cells #[.slice none 0 0, .slice none 0 0, .slice none 0 0, .int .i64 0] 67)) from by
    refine ⟨(· = w.heap.size), ⟨none, 0, none, 0, none, 0, (· = w.heap.size), fun _ => False, ⟨Blk.new w [.slice none 0 0, .slice none 0 0, .slice none 0 0, .int .i64 0] 67, fun _ => Iff.rfl⟩,
      ⟨fun _ => False, fun _ => False, ⟨World.ownsRow_nil _ _ _ _, fun k => ⟨fun h => h.elim, fun h => by cases h⟩⟩, ⟨fun _ => False, fun _ => False, ⟨World.ownsRow_nil _ _ _ _, fun k => ⟨fun h => h.elim, fun h => by cases h⟩⟩, ⟨World.ownsRow_nil _ _ _ _, fun k => ⟨fun h => h.elim, fun h => by cases h⟩⟩, fun _ h => h.elim, fun k => ⟨fun h => h.elim, fun h => h.elim id id⟩⟩, fun _ h => h.elim, fun k => ⟨fun h => h.elim, fun h => h.elim id id⟩⟩,
      fun _ _ h => h.elim, fun k => ⟨.inl, fun h => h.elim id (fun h => h.elim)⟩⟩, (Turned.refl _ _).alloc _, fun k hk => by omega⟩)
  go_enter Try.func32, Try.ntmps32
  go_wp2_with fail
  go_ret
  exact ⟨_, rfl, HN.out⟩
theorem zrbin_any (w : World) (ao : Option Addr) (l : List Int) (n cap : Nat) (x : Int) (hn : n = l.length) (hmax : n ≤ 9223372036854775807) (hA : NumsAt w ao l) :
    Calls Try.prog 60 #[.slice ao n cap, .int .i64 x] w fun e w' => e = .returned (.bool (decide (x ∈ l))) ∧ w = w' := by
  have HA := Lib.hid hA
  have HN := Lib.hid hn
  clear hA hn
  go_enter Try.func60, Try.ntmps60
  go_wp2
  go_loopw [5] (fun i wr => ∃ k : Nat, k ≤ n ∧ i = .int .i64 k ∧ x ∉ l.take k ∧ w = wr) (fun i _ => n - (intOf i).toNat)
  case atStart => exact ⟨0, Nat.zero_le _, rfl, by simp, rfl⟩
  case round =>
    obtain ⟨k, hk, rfl, hno, hw⟩ := hrel
    subst hw
    have HNO := Lib.hid hno
    clear hno
    by_cases hlt : k < n
    · obtain ⟨y, hy⟩ := get_some (l := l) (i := k) (by rw [← HN.out]; exact hlt)
      obtain ⟨b, o, rfl, hc⟩ := HA.out k y hy
      have HY := Lib.hid hy
      have hki : (k : Int) < (n : Int) := by omega
      clear hy
      by_cases hxy : y = x
      · subst hxy
        have HF := Lib.hid (show decide (y ∈ l) = true from decide_eq_true (List.mem_of_getElem? HY.out))
        go_wp2_with fail
        go_ret
        exact ⟨ret_bool HF.out.symm, rfl⟩
      · have HF := Lib.hid (show x ∉ l.take (k + 1) from by
          rw [List.take_add_one, HY.out]
          intro hm
          rcases List.mem_append.1 hm with h | h
          · exact HNO.out h
          · have : x = y := by simpa using h
            exact hxy this.symm)
        go_wp2_with fail
        go_roundw
        case rel => exact ⟨k + 1, by omega, by go_num, HF.out, by first | rfl | trivial⟩
        case measure => simp [intOf]; omega
    · obtain rfl : k = n := by omega
      have HF := Lib.hid (show decide (x ∈ l) = false from decide_eq_false (by
        have := HNO.out
        rwa [List.take_of_length_le (by rw [HN.out]; exact Nat.le_refl _)] at this))
      clear hlt
      go_wp2_with fail
      go_ret
      exact ⟨ret_bool HF.out.symm, rfl⟩
def revTo (O T : List Own) (x : Int) (k : Nat) : List Plc := (((O.zip T).take k).filter (isRev x)).map (·.1.1)
theorem revTo_step {O T : List Own} {x : Int} {k : Nat} {o t : Own} (h1 : O[k]? = some o) (h2 : T[k]? = some t) : revTo O T x (k + 1) = if isRev x (o, t) = true then revTo O T x k ++ [o.1] else revTo O T x k := by
  unfold revTo
  rw [List.take_add_one, zip_at h1 h2, List.filter_append, List.map_append]
  show _ ++ (List.filter _ [(o, t)]).map _ = _
  rw [List.filter_cons, List.filter_nil]
  by_cases h : isRev x (o, t) = true
  · rw [if_pos h, if_pos h]; rfl
  · rw [if_neg h, if_neg h]; simp
theorem revTo_len (O T : List Own) (x : Int) (k : Nat) : (revTo O T x k).length ≤ k := by
  unfold revTo
  rw [List.length_map]
  refine Nat.le_trans (List.length_filter_le _ _) ?_
  rw [List.length_take]; omega
set_option maxHeartbeats 4000000 in
theorem zrbrev_len (h : ZbRd q ao co at_ ct aw cw M w) (hML2 : M.O.length = M.T.length) (hML : M.O.length ≤ 256) (x : Int) (n : Nat) (hn : n = (revI M.O M.T x).length) :
    Calls Try.prog 62 #[.pointer (some ⟨q, 0, none⟩), .int .i64 x] w (OutRow encPl 2 54 w (revI M.O M.T x) n) := by
  obtain ⟨pi, qi, pz0, pz1, pz2⟩ := info_parts infoPl17
  have HW := Lib.hid (World.ownsRow_made (e := 54) (size := 2) w #[] 0 (Nat.le_refl _) (by simp) (by simp))
  have HRd := Lib.hid (fun V (hs : Still w V) => h.still hs)
  have HL2 := Lib.hid hML2
  obtain ⟨m, hm⟩ : ∃ m, m = M.O.length := ⟨_, rfl⟩
  have hm256 : m ≤ 256 := by rw [hm]; exact hML
  have HM := Lib.hid hm
  have HAll := Lib.hid (show revTo M.O M.T x m = revI M.O M.T x from by
    unfold revTo revI; rw [List.take_of_length_le (by rw [List.length_zip]; omega)])
  have HN := Lib.hid hn
  have c0 := h.c0
  have c1 := h.c1
  rw [← hML2, ← hm] at c1
  rw [← hm] at c0
  have HC := Lib.hid (fun V (hs : Still w V) => show V.cell? ⟨q, 0, none⟩ = some (.slice ao m co) ∧ V.cell? ⟨q, 1, none⟩ = some (.slice at_ m ct) from ⟨still_cell hs c0 rfl, still_cell hs c1 rfl⟩)
  clear h hML2 hML hn hm
  go_enter Try.func62, Try.ntmps62
  go_wp2_with fail
  clear c0 c1
  go_loopw [5, 6] (fun ll ix wq => ∃ (i d : Nat) (a2 : Option Addr) (c4 : Nat), i ≤ m ∧ ix = .int .i64 i ∧ d = (revTo M.O M.T x i).length ∧ ll = .slice a2 d c4 ∧ wq.ownsRow w.heap.size 54 2 (.slice a2 d c4) d (rowOf encPl (revTo M.O M.T x i)) ∧ Still w wq) (fun _ ix _ => m - (intOf ix).toNat)
  case atStart => exact ⟨0, 0, _, 0, Nat.zero_le _, rfl, rfl, rfl, HW.out, (Turned.refl _ _).alloc _⟩
  case round =>
    obtain ⟨i, d, a2, c4, hi, rfl, hd, rfl, hown, hst⟩ := hrel
    have HO := Lib.hid hown
    have HS := Lib.hid hst
    have HD := Lib.hid hd
    have hd2 : d ≤ i := by rw [hd]; exact revTo_len _ _ _ _
    have hlo := hst.size
    obtain ⟨c0, c1⟩ := HC.out _ hst
    by_cases hlt : i < m
    · obtain ⟨⟨⟨pf, pt⟩, oi⟩, ho⟩ := get_some (l := M.O) (i := i) (by rw [← HM.out]; exact hlt)
      obtain ⟨⟨tp, ti⟩, ht⟩ := get_some (l := M.T) (i := i) (by rw [← HL2.out, ← HM.out]; exact hlt)
      have hrd := HRd.out _ hst
      obtain ⟨b1, o1, rfl, r1⟩ := hrd.ro i _ ho
      obtain ⟨b2, o2, rfl, r2⟩ := hrd.rt i _ ht
      have x0 : wr.cell? ⟨b1, o1 + i * 3, none⟩ = some (.int .i64 pf) := r1 0 _ rfl
      have x1 : wr.cell? ⟨b1, o1 + i * 3 + 1, none⟩ = some (.int .i64 pt) := by rw [Nat.add_assoc]; exact r1 1 _ rfl
      have x2 : wr.cell? ⟨b1, o1 + i * 3 + 2, none⟩ = some (.int .i64 oi) := by rw [Nat.add_assoc]; exact r1 2 _ rfl
      have t2 : wr.cell? ⟨b2, o2 + i * 3 + 2, none⟩ = some (.int .i64 ti) := by rw [Nat.add_assoc]; exact r2 2 _ rfl
      have HSt := Lib.hid (revTo_step (x := x) ho ht)
      have hii : (i : Int) < (m : Int) := by omega
      clear hown hst hd hrd r1 r2 ho ht
      by_cases h1 : oi = x
      · subst h1
        by_cases h2 : 0 ≤ oi
        · have h2b : decide (0 ≤ oi) = true := decide_eq_true h2
          by_cases h3 : ti = oi
          · subst h3
            have HS2 := Lib.hid (show revTo M.O M.T ti (i + 1) = revTo M.O M.T ti i from by rw [HSt.out, if_neg (by unfold isRev; simp)])
            go_wp2_with fail
            go_roundw
            case rel => exact ⟨i + 1, d, a2, c4, by omega, by go_num, by rw [HS2.out]; exact HD.out, rfl, by rw [HS2.out]; exact HO.out, HS.out⟩
            case measure => simp [intOf]; omega
          · have HS2 := Lib.hid (show revTo M.O M.T oi (i + 1) = revTo M.O M.T oi i ++ [(pf, pt)] from by rw [HSt.out, if_pos (by unfold isRev; simp [h2, h3])])
            go_wp2_with (at_builtin; refine wpList_append_own_at _ rfl _ _ 59 rfl w.heap.size 54 pi (.agg #[.int .i64 0, .int .i64 0]) 2 16 Try.underlying59 qi pz0 pz1 pz2 rfl (by decide) (.slice a2 d c4) d (rowOf encPl (revTo M.O M.T oi i)) rfl (ow_still HO.out ((Turned.refl _ _).alloc _)) ⟨wr.heap.size, 0, none⟩ 1 1 [.int .i64 pf, .int .i64 pt] rfl rfl (ow_cells wr _ _) (ow_ints rfl) (by unfold maxLen; omega) (by omega) (by simp; omega) ?_; intro v6 w6 hown6 hg6 _ hat6; obtain ⟨a6, c6, rfl⟩ := ow_slice hown6; have HS6 := Lib.hid (row_appended HS.out HO.out hg6); have HO6 := Lib.hid hown6; clear hown6 hg6 hat6)
            go_roundw
            case rel => exact ⟨i + 1, d + 1, a6, c6, by omega, by go_num, by rw [HS2.out, List.length_append, ← HD.out]; rfl, rfl, by rw [HS2.out, rowOf_append, rowOf_cons, rowOf_nil, List.append_nil]; exact HO6.out, HS6.out⟩
            case measure => simp [intOf]; omega
        · have h2b : decide (0 ≤ oi) = false := decide_eq_false h2
          have HS2 := Lib.hid (show revTo M.O M.T oi (i + 1) = revTo M.O M.T oi i from by rw [HSt.out, if_neg (by unfold isRev; simp [h2])])
          go_wp2_with fail
          go_roundw
          case rel => exact ⟨i + 1, d, a2, c4, by omega, by go_num, by rw [HS2.out]; exact HD.out, rfl, by rw [HS2.out]; exact HO.out, HS.out⟩
          case measure => simp [intOf]; omega
      · have h1b : (oi == x) = false := by rw [beq_eq_false_iff_ne]; exact h1
        have HS2 := Lib.hid (show revTo M.O M.T x (i + 1) = revTo M.O M.T x i from by rw [HSt.out, if_neg (by unfold isRev; simp [h1])])
        go_wp2_with fail
        go_roundw
        case rel => exact ⟨i + 1, d, a2, c4, by omega, by go_num, by rw [HS2.out]; exact HD.out, rfl, by rw [HS2.out]; exact HO.out, HS.out⟩
        case measure => simp [intOf]; omega
    · obtain rfl : i = m := by omega
      obtain rfl : d = n := by rw [HD.out, HN.out, HAll.out]
      clear hown hst hd hlt
      go_wp2_with fail
      go_ret
      exact ⟨a2, c4, rfl, by rw [← HAll.out]; exact HO.out, HS.out⟩
theorem zrbrev_any (h : ZbRd q ao co at_ ct aw cw M w) (hM : M.Pre K) (x : Int) (n : Nat) (hn : n = (revI M.O M.T x).length) :
    Calls Try.prog 62 #[.pointer (some ⟨q, 0, none⟩), .int .i64 x] w (OutRow encPl 2 54 w (revI M.O M.T x) n) := zrbrev_len h hM.len2 hM.len x n hn
end
end Go.Proofs.Ytdlkdagmaeapdaa

/- What settling leaves of the document's table. No condition but that it is one. -/
namespace Go.Proofs.Ytdlkdagmaeapdaa
open Go.RowKit
set_option linter.unusedVariables false
set_option linter.unusedSimpArgs false
set_option maxRecDepth 100000

section
variable {q K n n2 k g : Nat} {M : TbM} {w V w' : World} {W Q0 : Nat → Prop} {ao at_ aw a6 : Option Addr} {co ct cw c6 : Nat} {O T : List Own} {Wl : List Int}
/-- Another row of owners comes into the table, and the generation is one more. -/
theorem zb_swap (hn2 : n2 = T.length)
    (H : Sit Q0 w V ((blkT q [.slice ao n co, .slice at_ n2 ct, .slice aw k cw, .int .i64 (g : Int)] 67).sep ((ownsT ao n co O).sep ((ownsT at_ n2 ct T).sep (intsT aw k cw Wl)))))
    (hown : w'.ownsRow V.heap.size 99 3 (.slice a6 n2 c6) n2 (rowOf encOw T)) (hs : Still V w') :
    (w'.cell? ⟨q, 0, none⟩ = some (.slice ao n co) ∧ w'.frozen? ⟨q, 0, none⟩ = false) ∧ ((w'.setCell ⟨q, 0, none⟩ (.slice a6 n2 c6)).cell? ⟨q, 3, none⟩ = some (.int .i64 (g : Int)) ∧ (w'.setCell ⟨q, 0, none⟩ (.slice a6 n2 c6)).frozen? ⟨q, 3, none⟩ = false) ∧
      Hid (Sit Q0 w ((w'.setCell ⟨q, 0, none⟩ (.slice a6 n2 c6)).setCell ⟨q, 3, none⟩ (.int .i64 ((g : Int) + 1))) ((blkT q [.slice a6 n2 c6, .slice at_ n2 ct, .slice aw k cw, .int .i64 ((g : Int) + 1)] 67).sep ((ownsT a6 n2 c6 T).sep ((ownsT at_ n2 ct T).sep (intsT aw k cw Wl))))) := by
  have hnew : ∃ W, (ownsT a6 n2 c6 T).at_ w' W ∧ Still V w' ∧ ∀ k, W k → V.heap.size ≤ k := by
    refine ⟨fun k => (Value.slice a6 n2 c6).ownBlock = some k, ⟨ow_base hown (Nat.zero_le _), fun k => Iff.rfl⟩, hs, fun k hk => ?_⟩
    cases a6 with
    | none => cases hk
    | some z =>
      have h1 := (ow_lt hown z rfl).1
      have h2 : z.block = k := by simpa [Value.ownBlock] using hk
      omega
  have H1 := (H.new hnew).assoc
  obtain ⟨h1, h2, h3⟩ := sit_row (o := 0) H1 rfl (.slice a6 n2 c6)
  obtain ⟨h4, h5, h6⟩ := sit_row (o := 3) h3.out rfl (.int .i64 ((g : Int) + 1))
  refine ⟨⟨h1, h2⟩, ⟨h4, h5⟩, Lib.hid ?_⟩
  have H2 := h6.out.imp (fun h => sep_imp2 (fun h => h) (fun h => sep_assoc h) h)
  have H3 := H2.turn.snd
  exact H3.imp (fun h => sep_imp2 (fun h => h) (fun h => sep_swap h) h)
theorem oneOw (l : List Own) : ∀ u ∈ rowOf encOw l, u.oneCell' = true := by
  intro u hu
  unfold rowOf at hu
  obtain ⟨x, _, hx⟩ := List.mem_flatMap.1 hu
  unfold encOw encPl encI at hx
  simp at hx
  rcases hx with rfl | rfl | rfl <;> rfl
theorem infoOwZ : (Try.prog.info? 99).map (fun i => (i.zero, i.size, i.bytes)) = some (some (.agg #[.int .i64 0, .int .i64 0, .int .i64 0]), 3, 24) := by kernel_rfl
theorem own_none {w : World} {B n c : Nat} {l : List Own} (h : w.ownsRow B 99 3 (.slice none n c) n (rowOf encOw l)) : n = 0 ∧ c = 0 ∧ l = [] := by
  obtain ⟨e1, e2⟩ := (ow_le h).2.2 rfl
  refine ⟨e1, e2, ?_⟩
  have h1 := h.1
  rw [rowOf_length encOw_len, e1] at h1
  exact List.eq_nil_of_length_eq_zero (by omega)

set_option maxHeartbeats 4000000 in
theorem zrbsettle_sit (hM : M.Pre K) (hK : K < 1000000) (H : Sit Q0 w V (zbT q M)) :
    Calls Try.prog 63 #[.pointer (some ⟨q, 0, none⟩)] V fun e w' => e = .returned (.bool (decide (M.W = []))) ∧ Goes (zbT q M.settle) Q0 w w' := by
  obtain ⟨Q1, ⟨ao, co, at_, ct, aw, cw, h⟩, hsi⟩ := H
  have hrd := zbX_rd h
  have c0 := hrd.c0
  have c1 := hrd.c1
  have c2 := hrd.c2
  have c3 := hrd.c3
  have HG0 := Lib.hid (show Goes (zbT q M) Q0 w V from hsi.goes ⟨ao, co, at_, ct, aw, cw, h⟩)
  unfold TbM.settle
  by_cases hw : M.W = []
  · rw [if_pos hw, decide_eq_true hw]
    have hT : (ownsT at_ M.T.length ct M.T).at_ V (fun k => (Value.slice at_ M.T.length ct).ownBlock = some k) := by
      obtain ⟨_, _, _, ⟨_, _, _, ⟨_, _, ht, _⟩, _⟩, _⟩ := h
      exact ⟨ht.1, fun k => Iff.rfl⟩
    have HSw := Lib.hid (fun (w' : World) (a6 : Option Addr) (c6 n2 : Nat) (hn2 : n2 = M.T.length) hown hs => zb_swap (q := q) (n := M.O.length) (k := M.W.length) (g := M.G) (ao := ao) (co := co) (at_ := at_) (ct := ct) (aw := aw) (cw := cw) (O := M.O) (T := M.T) (Wl := M.W) (n2 := n2) (a6 := a6) (c6 := c6) (w' := w') (Q0 := Q0) (w := w) (V := V) hn2 (by subst hn2; exact ⟨Q1, h, hsi⟩) hown hs)
    have HEnd := Lib.hid (fun (w' : World) (a6 : Option Addr) (c6 n2 : Nat) (hn2 : n2 = M.T.length) (hs : Sit Q0 w w' ((blkT q [.slice a6 n2 c6, .slice at_ n2 ct, .slice aw M.W.length cw, .int .i64 ((M.G : Int) + 1)] 67).sep ((ownsT a6 n2 c6 M.T).sep ((ownsT at_ n2 ct M.T).sep (intsT aw M.W.length cw M.W))))) =>
      show Goes (zbT q ⟨M.T, M.T, [], M.G + 1⟩) Q0 w w' from by
        subst hn2
        rw [hw] at hs
        exact hs.goes.turn (fun h => ⟨a6, c6, at_, ct, aw, cw, h⟩))
    have hl : M.W.length = 0 := by rw [hw]; rfl
    rw [hl] at c2 HSw HEnd
    obtain ⟨n2, hn2⟩ : ∃ n2, n2 = M.T.length := ⟨_, rfl⟩
    have hn256 : n2 ≤ 256 := by rw [hn2, ← hM.len2]; exact hM.len
    have HN2 := Lib.hid hn2
    have hg : M.G < 1000000 := by have := hM.low; omega
    rw [← hn2] at c1 hT
    obtain ⟨pi, qi, pz0, pz1, pz2⟩ := info_parts infoOwZ
    generalize M.T = T at *
    generalize M.G = g at *
    generalize M.O.length = n at *
    clear hM hrd h hsi hw hl hn2
    cases at_ with
    | none =>
      obtain ⟨rfl, rfl, rfl⟩ := own_none hT.1
      have HO := Lib.hid (World.ownsRow_made (e := 99) (size := 3) V #[] 0 (Nat.le_refl _) (by simp) (by simp))
      have c1a := still_cell ((Turned.refl (fun _ => False) V).alloc (.cells #[] 99)) c1 rfl
      clear hT
      go_enter Try.func63, Try.ntmps63
      go_wp2_with (at_builtin; refine wpList_append_own_none rfl _ _ 65 rfl V.heap.size 99 pi 3 Try.underlying65 qi _ 0 [] rfl HO.out rfl ?_; obtain ⟨⟨z1, z2⟩, ⟨z3, z4⟩, z5⟩ := HSw.out _ _ _ 0 HN2.out HO.out ((Turned.refl _ _).alloc _))
      go_ret
      exact ⟨rfl, HEnd.out _ _ _ 0 HN2.out z5.out⟩
    | some ad =>
      obtain ⟨ga, rfl⟩ := owm_addr' hT.1
      have HC := Lib.hid (show ∀ (j : Nat) (u : Value), (rowOf encOw T)[j]? = some u → (V.alloc (.cells #[] 99)).cell? ((⟨ga, 0, none⟩ : Addr).add j) = some u from fun j u hj => by
        have := (owm_cell hT.1 hj).1
        have := still_cell ((Turned.refl (fun _ => False) V).alloc (.cells #[] 99)) this rfl
        simpa [Addr.add_lit] using this)
      have HL := Lib.hid (show (rowOf encOw T).length = n2 * 3 from by rw [rowOf_length encOw_len, HN2.out])
      have H1 := Lib.hid (oneOw T)
      have c1a := still_cell ((Turned.refl (fun _ => False) V).alloc (.cells #[] 99)) c1 rfl
      clear hT
      go_enter Try.func63, Try.ntmps63
      go_wp2_with (at_builtin; refine wpList_append_own_at _ rfl _ _ 65 rfl V.heap.size 99 pi (.agg #[.int .i64 0, .int .i64 0, .int .i64 0]) 3 24 Try.underlying65 qi pz0 pz1 pz2 rfl (by decide) _ _ _ rfl (World.ownsRow_made V #[] 0 (Nat.le_refl _) (by simp) (by simp)) ⟨ga, 0, none⟩ n2 ct (rowOf encOw T) rfl HL.out HC.out H1.out (by unfold maxLen; omega) (by omega) (by simp) ?_; intro v' w1 hown hgrow hnil hat; obtain ⟨aa, cc, rfl⟩ := ow_slice hown; rw [Nat.zero_add] at hown ⊢; obtain ⟨⟨z1, z2⟩, ⟨z3, z4⟩, z5⟩ := HSw.out _ _ _ n2 HN2.out hown (((Turned.refl (fun _ => False) V).alloc _).grown hgrow (fun k e => .inr (by cases e; exact Nat.le_refl _))); clear hown hgrow hnil hat)
      go_ret
      exact ⟨rfl, HEnd.out _ _ _ n2 HN2.out z5.out⟩
  · rw [if_neg hw, decide_eq_false hw]
    have hl : 0 < M.W.length := List.length_pos_iff.2 hw
    generalize M.W.length = k at *
    have hki : (0 : Int) < (k : Int) := by omega
    clear hrd h hsi hw hM
    go_enter Try.func63, Try.ntmps63
    go_wp2_with fail
    go_ret
    exact ⟨rfl, HG0.out⟩
end
end Go.Proofs.Ytdlkdagmaeapdaa

/- What Ack and Has of the document's table do. No condition but that it is one. -/
namespace Go.Proofs.Ytdlkdagmaeapdaa
open Go.RowKit
set_option linter.unusedVariables false
set_option linter.unusedSimpArgs false
set_option maxRecDepth 100000

section
variable {q K n n2 k d : Nat} {M : TbM} {w V w' : World} {W Q0 : Nat → Prop} {ao at_ aw a6 : Option Addr} {co ct cw c6 : Nat} {O T : List Own} {Wl Wn : List Int} {gv : Value}
/-- Another row of those who must acknowledge comes into the table. -/
theorem zb_swapW (H : Sit Q0 w V ((blkT q [.slice ao n co, .slice at_ n2 ct, .slice aw k cw, gv] 67).sep ((ownsT ao n co O).sep ((ownsT at_ n2 ct T).sep (intsT aw k cw Wl)))))
    (hown : w'.ownsRow V.heap.size 3 1 (.slice a6 d c6) d (ints Wn)) (hs : Still V w') :
    (w'.cell? ⟨q, 2, none⟩ = some (.slice aw k cw) ∧ w'.frozen? ⟨q, 2, none⟩ = false) ∧
      Hid (Sit Q0 w (w'.setCell ⟨q, 2, none⟩ (.slice a6 d c6)) ((blkT q [.slice ao n co, .slice at_ n2 ct, .slice a6 d c6, gv] 67).sep ((ownsT ao n co O).sep ((ownsT at_ n2 ct T).sep (intsT a6 d c6 Wn))))) := by
  have hnew : ∃ W, (intsT a6 d c6 Wn).at_ w' W ∧ Still V w' ∧ ∀ k, W k → V.heap.size ≤ k := by
    refine ⟨fun k => (Value.slice a6 d c6).ownBlock = some k, ⟨ow_base hown (Nat.zero_le _), fun k => Iff.rfl⟩, hs, fun k hk => ?_⟩
    cases a6 with
    | none => cases hk
    | some z =>
      have h1 := (ow_lt hown z rfl).1
      have h2 : z.block = k := by simpa [Value.ownBlock] using hk
      omega
  have H1 := (H.new hnew).assoc
  obtain ⟨h1, h2, h3⟩ := sit_row (o := 2) H1 rfl (.slice a6 d c6)
  refine ⟨⟨h1, h2⟩, Lib.hid ?_⟩
  have H2 := h3.out.imp (fun h => sep_imp2 (fun h => h) (fun h => sep_turn (sep_imp2 (fun h => h) (fun h => sep_turn (sep_assoc h)) (sep_assoc h))) h)
  exact H2.turn.snd
def leftTo (l : List Int) (x : Int) (k : Nat) : List Int := (l.take k).filter (fun m => decide (m ≠ x))
theorem leftTo_step {l : List Int} {x y : Int} {k : Nat} (h : l[k]? = some y) : leftTo l x (k + 1) = if y = x then leftTo l x k else leftTo l x k ++ [y] := by
  unfold leftTo
  rw [List.take_add_one, h, List.filter_append]
  show _ ++ List.filter _ [y] = _
  rw [List.filter_cons, List.filter_nil]
  by_cases e : y = x
  · rw [if_neg (by simpa using e), if_pos e, List.append_nil]
  · rw [if_pos (by simpa using e), if_neg e]
theorem leftTo_len (l : List Int) (x : Int) (k : Nat) : (leftTo l x k).length ≤ k := by
  unfold leftTo
  refine Nat.le_trans (List.length_filter_le _ _) ?_
  rw [List.length_take]; omega
theorem set_same {α : Type} {l : List α} {i : Nat} {o : α} (h : l[i]? = some o) : l.set i o = l := by
  obtain ⟨hi, rfl⟩ := List.getElem?_eq_some_iff.1 h
  exact List.set_getElem_self hi
/-- Owners of whom so many were taken off. -/
def offTo (O T : List Own) (id : Int) (i : Nat) : List Own := ((O.zip T).map (offI id)).take i ++ O.drop i
theorem offTo_len {O T : List Own} (h : O.length = T.length) (id : Int) (i : Nat) : (offTo O T id i).length = O.length := by
  unfold offTo
  rw [List.length_append, List.length_take, List.length_map, List.length_zip, List.length_drop]; omega
theorem offTo_get {O T : List Own} (h : O.length = T.length) {id : Int} {i : Nat} {o : Own} (ho : O[i]? = some o) : (offTo O T id i)[i]? = some o := by
  have hi := (List.getElem?_eq_some_iff.1 ho).1
  unfold offTo
  rw [List.getElem?_append_right (by rw [List.length_take]; omega), List.getElem?_drop]
  rw [← ho]; congr 1
  rw [List.length_take, List.length_map, List.length_zip]; omega
theorem offTo_set {O T : List Own} (h : O.length = T.length) {id : Int} {i : Nat} {o t : Own} (ho : O[i]? = some o) (ht : T[i]? = some t) : (offTo O T id i).set i (offI id (o, t)) = offTo O T id (i + 1) := by
  have hi := (List.getElem?_eq_some_iff.1 ho).1
  have hz : ((O.zip T).map (offI id))[i]? = some (offI id (o, t)) := by rw [List.getElem?_map, zip_at ho ht]; rfl
  have hl : (((O.zip T).map (offI id)).take i).length = i := by rw [List.length_take, List.length_map, List.length_zip]; omega
  unfold offTo
  rw [List.set_append_right _ _ (by omega), hl, Nat.sub_self, List.drop_eq_getElem_cons hi, List.set_cons_zero, List.take_add_one, hz]
  simp
theorem offTo_all {O T : List Own} (h : O.length = T.length) (id : Int) : offTo O T id O.length = (O.zip T).map (offI id) := by
  unfold offTo
  rw [List.take_of_length_le (by rw [List.length_map, List.length_zip]; omega), List.drop_length, List.append_nil]

set_option maxHeartbeats 8000000 in
theorem zrback_any (h : (zbT q M).at_ w W) (hM : M.Ok K) (hK : K < 1000000) (x : Int) :
    Calls Try.prog 36 #[.pointer (some ⟨q, 0, none⟩), .int .i64 x] w fun e w' => e = .returned (.tuple #[.bool (M.ackV x), .int .i64 (M.ackE x)]) ∧ Goes (zbT q (M.ack x)) W w w' := by
  obtain ⟨ao, co, at_, ct, aw, cw, hX⟩ := h
  have hrd := zbX_rd hX
  have HI := Lib.hid (zrbin_any w aw M.W M.W.length cw x rfl (by have := hM.wl; omega) hrd.rw_)
  have HG0 := Lib.hid (fun V (hs : Still w V) => show Goes (zbT q M) W w V from Goes.still (Q := zbT q M) ⟨ao, co, at_, ct, aw, cw, hX⟩ hs)
  have c2 := hrd.c2
  unfold TbM.ackV TbM.ackE TbM.ack
  by_cases hi : x ∈ M.W
  · rw [decide_eq_true hi] at HI
    rw [if_pos hi, if_pos hi]
    have hx0 := hM.wp x hi
    obtain ⟨M', hM'⟩ : ∃ M', M' = M.acked x := ⟨_, rfl⟩
    have hP' : M'.Pre K := by rw [hM']; exact acked_pre hM.toPre hi
    have HSt := Lib.hid (fun V (H : Sit W w V (zbT q M')) => zrbsettle_sit hP' hK H)
    have HV := Lib.hid (show decide (x ∈ M.W ∧ M'.W = []) = decide (M'.W = []) from by rw [Bool.eq_iff_iff]; simp [hi])
    rw [← hM', HV.out]
    have HM' := Lib.hid hM'
    have HSit := Lib.hid (show Sit W w w (zbX q ao co at_ ct aw cw M) from Sit.start hX)
    have HWr := Lib.hid hrd.rw_
    have HC2 := Lib.hid (fun V (hs : Still w V) => still_cell hs c2 rfl)
    have HL2 := Lib.hid hM.len2
    obtain ⟨nw, hnw⟩ : ∃ nw, nw = M.W.length := ⟨_, rfl⟩
    have hw8 : nw ≤ 8 := by rw [hnw]; exact hM.wl
    have HNw := Lib.hid hnw
    rw [← hnw] at c2 HI HC2
    obtain ⟨no, hno⟩ : ∃ no, no = M.O.length := ⟨_, rfl⟩
    have ho256 : no ≤ 256 := by rw [hno]; exact hM.len
    have HNo := Lib.hid hno
    obtain ⟨i0, fi, hz0, hz1, hz2⟩ := info_parts infoIntW
    have HW0 := Lib.hid (fun V => World.ownsRow_made (e := 3) (size := 1) V #[] 0 (Nat.le_refl _) (by simp) (by simp))
    clear hrd hX hi hM hM' hP' hnw hno
    go_enter Try.func36, Try.ntmps36
    go_wp2_with (go_at_call 60; ((with_reducible refine HI.out.mono ?_)); rintro e w1 ⟨rfl, rfl⟩)
    clear c2
    go_loopw [6, 7] (fun ll kx wq => ∃ (k d : Nat) (a2 : Option Addr) (c4 : Nat), k ≤ nw ∧ kx = .int .i64 k ∧ d = (leftTo M.W x k).length ∧ ll = .slice a2 d c4 ∧ wq.ownsRow w.heap.size 3 1 (.slice a2 d c4) d (ints (leftTo M.W x k)) ∧ Still w wq) (fun _ kx _ => nw - (intOf kx).toNat)
    case atStart => exact ⟨0, 0, _, 0, Nat.zero_le _, rfl, rfl, rfl, HW0.out w, (Turned.refl _ _).alloc _⟩
    case round =>
      obtain ⟨k, d, a2, c4, hk, rfl, hd, rfl, hown, hst⟩ := hrel
      have HO := Lib.hid hown
      have HS := Lib.hid hst
      have HD := Lib.hid hd
      have hd2 : d ≤ k := by rw [hd]; exact leftTo_len _ _ _
      have hlo := hst.size
      have c2 := HC2.out _ hst
      by_cases hlt : k < nw
      · obtain ⟨y, hy⟩ := get_some (l := M.W) (i := k) (by rw [← HNw.out]; exact hlt)
        obtain ⟨b, o, rfl, cy⟩ := (HWr.out.still hst) k y hy
        have HSt2 := Lib.hid (leftTo_step (x := x) hy)
        have hki : (k : Int) < (nw : Int) := by omega
        clear hown hst hd hy
        by_cases e : y = x
        · subst e
          have HS2 := Lib.hid (show leftTo M.W y (k + 1) = leftTo M.W y k from by rw [HSt2.out, if_pos rfl])
          go_wp2_with fail
          go_roundw
          case rel => exact ⟨k + 1, d, a2, c4, by omega, by go_num, by rw [HS2.out]; exact HD.out, rfl, by rw [HS2.out]; exact HO.out, HS.out⟩
          case measure => simp [intOf]; omega
        · have eb : (y != x) = true := by rw [bne_iff_ne]; exact e
          have HS2 := Lib.hid (show leftTo M.W x (k + 1) = leftTo M.W x k ++ [y] from by rw [HSt2.out, if_neg e])
          go_wp2_with (at_builtin; refine wpList_append_own_at _ rfl _ _ 44 rfl w.heap.size 3 i0 (.int .i64 0) 1 8 Try.underlying44 fi hz0 hz1 hz2 rfl (by decide) (.slice a2 d c4) d (ints (leftTo M.W x k)) rfl (ow_still HO.out ((Turned.refl _ _).alloc _)) ⟨wr.heap.size, 0, none⟩ 1 1 [.int .i64 y] rfl rfl (ow_cells wr _ _) (ow_ints rfl) (by unfold maxLen; omega) (by omega) (by first | (simp; done) | (simp; omega)) ?_; intro v6 w6 hown6 hg6 _ hat6; obtain ⟨a6, c6, rfl⟩ := ow_slice hown6; have HS6 := Lib.hid (row_appended HS.out HO.out hg6); have HO6 := Lib.hid hown6; clear hown6 hg6 hat6)
          go_roundw
          case rel => exact ⟨k + 1, d + 1, a6, c6, by omega, by go_num, by rw [HS2.out, List.length_append, ← HD.out]; rfl, rfl, by rw [HS2.out]; have := HO6.out; simpa [ints] using this, HS6.out⟩
          case measure => simp [intOf]; omega
      · obtain rfl : k = nw := by omega
        have hlf : leftTo M.W x k = M'.W := by
          rw [HM'.out]; unfold leftTo; rw [List.take_of_length_le (by rw [HNw.out]; exact Nat.le_refl _)]; rfl
        rw [hlf] at hown hd
        have hH : Sit W w w ((blkT q [.slice ao M.O.length co, .slice at_ M.T.length ct, .slice aw M.W.length cw, .int .i64 ((M.G : Nat) : Int)] 67).sep ((ownsT ao M.O.length co M.O).sep ((ownsT at_ M.T.length ct M.T).sep (intsT aw M.W.length cw M.W)))) := HSit.out
        obtain ⟨⟨s1, s2⟩, s3⟩ := zb_swapW hH hown hst
        rw [← HNw.out] at s1
        obtain ⟨L, hLd⟩ : ∃ L : Nat → List Own, L = offTo M.O M.T x := ⟨_, rfl⟩
        have HS3 := Lib.hid (show Sit W w (wr.setCell ⟨q, 2, none⟩ (.slice a2 d c4)) ((blkT q [.slice ao no co, .slice at_ no ct, .slice a2 d c4, .int .i64 ((M.G : Nat) : Int)] 67).sep ((ownsT ao no co (L 0)).sep ((ownsT at_ no ct M.T).sep (intsT a2 d c4 M'.W)))) from by
          have h3 := s3.out
          rw [← HL2.out, ← HNo.out] at h3
          rw [hLd, show offTo M.O M.T x 0 = M.O from by unfold offTo; simp]
          exact h3)
        have HLst := Lib.hid (fun (i : Nat) (o t : Own) (ho : M.O[i]? = some o) (ht : M.T[i]? = some t) => show (L i)[i]? = some o ∧ (L i).set i (offI x (o, t)) = L (i + 1) from by
          rw [hLd]; exact ⟨offTo_get HL2.out ho, offTo_set HL2.out ho ht⟩)
        have HLa := Lib.hid (show L no = M'.O from by rw [hLd, HNo.out, offTo_all HL2.out, HM'.out]; rfl)
        have HLl := Lib.hid (fun i => show (L i).length = no from by rw [hLd, offTo_len HL2.out]; exact HNo.out.symm)
        have hDw : d = M'.W.length := hd
        have HDw := Lib.hid hDw
        have HTG := Lib.hid (show M'.T = M.T ∧ M'.G = M.G from by rw [HM'.out]; exact ⟨rfl, rfl⟩)
        have HTl := Lib.hid (show M'.T.length = no ∧ M'.O.length = no from by
          rw [HTG.out.1, ← HL2.out, ← HLa.out]; exact ⟨HNo.out.symm, HLl.out no⟩)
        clear hown hst hd hlf hH s3 hDw hlt hLd HO HS HD
        go_wp2_with fail
        clear s1 s2 c2
        go_loopw [8] (fun ix wq => ∃ i : Nat, i ≤ no ∧ ix = .int .i64 i ∧ Sit W w wq ((blkT q [.slice ao no co, .slice at_ no ct, .slice a2 d c4, .int .i64 ((M.G : Nat) : Int)] 67).sep ((ownsT ao no co (L i)).sep ((ownsT at_ no ct M.T).sep (intsT a2 d c4 M'.W))))) (fun ix _ => no - (intOf ix).toNat)
        case atStart => exact ⟨0, Nat.zero_le _, rfl, HS3.out⟩
        case round =>
          clear HS3
          obtain ⟨i, hi, rfl, hH⟩ := hrel
          have KH := Lib.hid hH
          obtain ⟨c0, c1⟩ : wr.cell? ⟨q, 0, none⟩ = some (.slice ao no co) ∧ wr.cell? ⟨q, 1, none⟩ = some (.slice at_ no ct) := by
            obtain ⟨_, ⟨_, _, ⟨hb, _⟩, _⟩, _⟩ := hH
            exact ⟨hb.cell rfl, hb.cell rfl⟩
          by_cases hlt : i < no
          · obtain ⟨⟨⟨pf, pt⟩, oi⟩, ho⟩ := get_some (l := M.O) (i := i) (by rw [← HNo.out]; exact hlt)
            obtain ⟨⟨tp, ti⟩, ht⟩ := get_some (l := M.T) (i := i) (by rw [← HL2.out, ← HNo.out]; exact hlt)
            obtain ⟨hlo2, hls⟩ := HLst.out i _ _ ho ht
            obtain ⟨g1, rfl⟩ : ∃ g1, ao = some ⟨g1, 0, none⟩ := by
              obtain ⟨_, ⟨_, _, _, ⟨_, _, ⟨h, _⟩, _⟩, _⟩, _⟩ := hH
              exact owm_addr h (by omega)
            obtain ⟨g2, rfl⟩ : ∃ g2, at_ = some ⟨g2, 0, none⟩ := by
              obtain ⟨_, ⟨_, _, _, ⟨_, _, _, ⟨_, _, ⟨h, _⟩, _⟩, _⟩, _⟩, _⟩ := hH
              exact owm_addr h (by omega)
            have hro : (rowOf encOw (L i))[i * 3 + 2]? = some (.int .i64 oi) := rowOf_get encOw_len hlo2 (j := 2) rfl
            have hrt : (rowOf encOw M.T)[i * 3 + 2]? = some (.int .i64 ti) := rowOf_get encOw_len ht (j := 2) rfl
            obtain ⟨s1, s2, s3⟩ := sit_put hH hro (.int .i64 (-1))
            have t1 : wr.cell? ⟨g2, i * 3 + 2, none⟩ = some (.int .i64 ti) := by
              obtain ⟨_, ⟨_, _, _, ⟨_, _, _, ⟨_, _, ⟨h, _⟩, _⟩, _⟩, _⟩, _⟩ := hH
              exact (owm_cell h hrt).1
            have hii : (i : Int) < (no : Int) := by omega
            by_cases h1 : oi = x
            · subst h1
              by_cases h3 : ti = oi
              · subst h3
                have HNx := Lib.hid (show L (i + 1) = L i from by
                  rw [← hls]
                  unfold offI
                  rw [if_neg (by unfold isRev; simp)]
                  exact set_same hlo2)
                clear hH ho ht hlo2 hls hro hrt s3
                go_wp2_with fail
                go_roundw
                case rel => exact ⟨i + 1, by omega, by go_num, by rw [HNx.out]; exact KH.out⟩
                case measure => simp [intOf]; omega
              · have h3b : (ti != oi) = true := by rw [bne_iff_ne]; exact h3
                have HNx := Lib.hid (show rowOf encOw (L (i + 1)) = (rowOf encOw (L i)).set (i * 3 + 2) (.int .i64 (-1)) from by
                  rw [← hls]
                  unfold offI
                  rw [if_pos (by unfold isRev; simp [h3, hx0.1])]
                  exact (rowOf_set encOw_len hlo2 (j := 2) (b := ((pf, pt), -1)) (by omega) rfl).symm)
                clear hH ho ht hlo2 hls hro hrt
                go_wp2_with fail
                go_roundw
                case rel => exact ⟨i + 1, by omega, by go_num, by unfold ownsT; rw [HNx.out]; exact s3.out⟩
                case measure => simp [intOf]; omega
            · have h1b : (oi == x) = false := by rw [beq_eq_false_iff_ne]; exact h1
              have HNx := Lib.hid (show L (i + 1) = L i from by
                rw [← hls]
                unfold offI
                rw [if_neg (by unfold isRev; simp [h1])]
                exact set_same hlo2)
              clear hH ho ht hlo2 hls hro hrt s3
              go_wp2_with fail
              go_roundw
              case rel => exact ⟨i + 1, by omega, by go_num, by rw [HNx.out]; exact KH.out⟩
              case measure => simp [intOf]; omega
          · obtain rfl : i = no := by omega
            have HSx := Lib.hid (show Sit W w wr (zbT q M') from by
              have h3 := hH
              rw [HLa.out] at h3
              refine h3.imp (fun h => ⟨ao, co, at_, ct, a2, c4, ?_⟩)
              show (zbX q ao co at_ ct a2 c4 M').at_ _ _
              unfold zbX
              rw [HTl.out.1, HTl.out.2, ← HDw.out, HTG.out.1, HTG.out.2]
              exact h)
            have HSc := Lib.hid (HSt.out _ HSx.out)
            clear hH hlt
            go_wp2_with (go_at_call 63; ((with_reducible refine HSc.out.mono ?_)); rintro e w9 ⟨rfl, hg⟩; have HG9 := Lib.hid hg; clear hg)
            go_ret2
            exact ⟨rfl, HG9.out⟩
  · rw [decide_eq_false hi] at HI
    rw [if_neg hi, if_neg hi, show decide (x ∈ M.W ∧ (M.acked x).W = []) = false from decide_eq_false (fun e => hi e.1)]
    clear hrd hX hi hM
    go_enter Try.func36, Try.ntmps36
    go_wp2_with (go_at_call 60; ((with_reducible refine HI.out.mono ?_)); rintro e w1 ⟨rfl, rfl⟩)
    go_ret2
    exact ⟨rfl, HG0.out _ (Turned.refl _ _)⟩
end
end Go.Proofs.Ytdlkdagmaeapdaa

/- Who may be shared among: what right of the document's share answers. No condition. -/
namespace Go.Proofs.Ytdlkdagmaeapdaa
open Go.RowKit
set_option linter.unusedVariables false
set_option linter.unusedSimpArgs false
set_option maxRecDepth 100000

def risTo (ms : List Int) (i : Nat) : Prop := (∀ x, x ∈ ms.take i → 0 ≤ x ∧ x < 16) ∧ (ms.take i).Pairwise (· < ·)
def disTo (ps : List Plc) (i : Nat) : Prop := (∀ p, p ∈ ps.take i → 0 ≤ p.1 ∧ 0 ≤ p.2) ∧ (ps.take i).Nodup
theorem risTo_zero (ms : List Int) : risTo ms 0 := ⟨fun x h => by simp at h, by simp⟩
theorem disTo_zero (ps : List Plc) : disTo ps 0 := ⟨fun x h => by simp at h, by simp⟩
theorem risTo_step {ms : List Int} {i : Nat} {x : Int} (h : risTo ms i) (hx : ms[i]? = some x) (h1 : 0 ≤ x) (h2 : x < 16) (h3 : ∀ (j : Nat) (y : Int), i = j + 1 → ms[j]? = some y → y < x) : risTo ms (i + 1) := by
  have ht : ms.take (i + 1) = ms.take i ++ [x] := by rw [List.take_add_one, hx]; rfl
  refine ⟨fun y hy => ?_, ?_⟩
  · rw [ht] at hy
    rcases List.mem_append.1 hy with hy | hy
    · exact h.1 y hy
    · obtain rfl : y = x := by simpa using hy
      exact ⟨h1, h2⟩
  · rw [ht, List.pairwise_append]
    refine ⟨h.2, by simp, fun a ha b hb => ?_⟩
    obtain rfl : b = x := by simpa using hb
    cases i with
    | zero => simp at ha
    | succ j =>
      obtain ⟨y, hy⟩ := get_some (l := ms) (i := j) (by have := (List.getElem?_eq_some_iff.1 hx).1; omega)
      have hyb := h3 j y rfl hy
      have hs : ms.take (j + 1) = ms.take j ++ [y] := by rw [List.take_add_one, hy]; rfl
      have h2' := h.2
      rw [hs] at ha h2'
      rcases List.mem_append.1 ha with ha | ha
      · have := (List.pairwise_append.1 h2').2.2 a ha y (by simp)
        show a < b; omega
      · obtain rfl : a = y := by simpa using ha
        exact hyb
theorem risTo_all {ms : List Int} (h8 : ms.length ≤ 8) (h : risTo ms ms.length) : risI ms := by
  unfold risTo at h
  rw [List.take_length] at h
  exact ⟨h8, h.1, h.2⟩
theorem ris_not {ms : List Int} {i : Nat} {x : Int} (hx : ms[i]? = some x) (h : x < 0 ∨ 16 ≤ x ∨ ∃ (j : Nat) (y : Int), i = j + 1 ∧ ms[j]? = some y ∧ x ≤ y) : ¬ risI ms := fun hr => by
  have hb := hr.2.1 x (List.mem_of_getElem? hx)
  rcases h with h | h | ⟨j, y, rfl, hy, hxy⟩
  · omega
  · omega
  · obtain ⟨hi, e1⟩ := List.getElem?_eq_some_iff.1 hx
    obtain ⟨hj, e2⟩ := List.getElem?_eq_some_iff.1 hy
    have := List.pairwise_iff_getElem.1 hr.2.2 j (j + 1) hj hi (by omega)
    rw [e1, e2] at this
    omega
theorem disTo_step {ps : List Plc} {i : Nat} {p : Plc} (h : disTo ps i) (hp : ps[i]? = some p) (h1 : 0 ≤ p.1) (h2 : 0 ≤ p.2) (h3 : p ∉ ps.take i) : disTo ps (i + 1) := by
  have ht : ps.take (i + 1) = ps.take i ++ [p] := by rw [List.take_add_one, hp]; rfl
  refine ⟨fun y hy => ?_, ?_⟩
  · rw [ht] at hy
    rcases List.mem_append.1 hy with hy | hy
    · exact h.1 y hy
    · obtain rfl : y = p := by simpa using hy
      exact ⟨h1, h2⟩
  · rw [ht, List.nodup_append]
    refine ⟨h.2, by simp, fun a ha b hb => ?_⟩
    obtain rfl : b = p := by simpa using hb
    exact fun e => h3 (e ▸ ha)
theorem disTo_all {ps : List Plc} (h : disTo ps ps.length) : disI ps := by
  unfold disTo at h
  rw [List.take_length] at h
  exact h
theorem dis_not {ps : List Plc} {i : Nat} {p : Plc} (hp : ps[i]? = some p) (h : p.1 < 0 ∨ p.2 < 0 ∨ ∃ j : Nat, j < i ∧ ps[j]? = some p) : ¬ disI ps := fun hd => by
  have hb := hd.1 p (List.mem_of_getElem? hp)
  rcases h with h | h | ⟨j, hj, hq⟩
  · omega
  · omega
  · obtain ⟨h1, e1⟩ := List.getElem?_eq_some_iff.1 hp
    obtain ⟨h2, e2⟩ := List.getElem?_eq_some_iff.1 hq
    have := List.pairwise_iff_getElem.1 hd.2 j i h2 h1 hj
    rw [e1, e2] at this
    exact this rfl
def rightB (ms : List Int) (ps : List Plc) : Bool := decide (risI ms ∧ disI ps)
theorem right_no1 {ms : List Int} {ps : List Plc} (h : ¬ risI ms) : rightB ms ps = false := decide_eq_false fun e => h e.1
theorem right_no2 {ms : List Int} {ps : List Plc} (h : ¬ disI ps) : rightB ms ps = false := decide_eq_false fun e => h e.2

set_option maxHeartbeats 4000000 in
theorem zshright_any (w : World) (ao bo : Option Addr) (ms : List Int) (ps : List Plc) (m n c1 c2 : Nat) (hm : m = ms.length) (hn : n = ps.length) (h1 : m ≤ 1000) (h2 : n ≤ 1000) (hA : NumsAt w ao ms) (hB : PlAt w bo ps) :
    Calls Try.prog 86 #[.slice ao m c1, .slice bo n c2] w fun e w' => e = .returned (.bool (rightB ms ps)) ∧ Still w w' := by
  by_cases h8 : m ≤ 8
  · have h8i : ¬ (8 : Int) < (m : Int) := by omega
    have HA := Lib.hid hA
    have HB := Lib.hid hB
    have HM := Lib.hid hm
    have HN := Lib.hid hn
    clear hA hB hm hn
    go_enter Try.func86, Try.ntmps86
    go_wp2_with fail
    go_loopw [5] (fun ix wr => ∃ i : Nat, i ≤ m ∧ ix = .int .i64 i ∧ risTo ms i ∧ Still w wr) (fun ix _ => m - (intOf ix).toNat)
    case atStart => exact ⟨0, Nat.zero_le _, rfl, risTo_zero ms, Turned.refl _ _⟩
    case round =>
      obtain ⟨i, hi, rfl, hr, hs⟩ := hrel
      have HS := Lib.hid hs
      by_cases hlt : i < m
      · obtain ⟨x, hx⟩ := get_some (l := ms) (i := i) (by rw [← HM.out]; exact hlt)
        obtain ⟨b, o, rfl, cx⟩ := (HA.out.still hs) i x hx
        have hii : (i : Int) < (m : Int) := by omega
        by_cases g1 : x < 0
        · have HF := Lib.hid (right_no1 (ps := ps) (ris_not hx (.inl g1)))
          have g1b : decide (x < 0) = true := decide_eq_true g1
          clear hx hr hs
          go_wp2_with fail
          go_quiet (fail)
          go_wp2_with fail
          go_ret
          exact ⟨ret_bool HF.out.symm, HS.out.drewN _⟩
        · have g1b : decide (x < 0) = false := decide_eq_false g1
          by_cases g2 : 16 ≤ x
          · have HF := Lib.hid (right_no1 (ps := ps) (ris_not hx (.inr (.inl g2))))
            have g2b : decide ((16 : Int) ≤ x) = true := decide_eq_true g2
            clear hx hr hs
            go_wp2_with fail
            go_quiet (fail)
            go_wp2_with fail
            go_ret
            exact ⟨ret_bool HF.out.symm, HS.out.drewN _⟩
          · have g2b : decide ((16 : Int) ≤ x) = false := decide_eq_false g2
            by_cases g3 : i = 0
            · have HR := Lib.hid (risTo_step hr hx (by omega) (by omega) (fun j y e _ => by omega))
              have hib : decide (0 < i) = false := decide_eq_false (by omega)
              have hib2 : ¬ (0 : Int) < (i : Int) := by omega
              clear hx hr hs g3
              go_wp2_with fail
              go_quiet (fail)
              go_wp2_with fail
              go_roundw
              case rel => exact ⟨i + 1, by omega, by go_num, HR.out, HS.out.drewN _⟩
              case measure => simp [intOf]; omega
            · obtain ⟨j, rfl⟩ : ∃ j, i = j + 1 := ⟨i - 1, by omega⟩
              obtain ⟨y, hy⟩ := get_some (l := ms) (i := j) (by rw [← HM.out]; omega)
              obtain ⟨b', o', e, cy⟩ := (HA.out.still hs) j y hy
              obtain ⟨rfl, rfl⟩ : b = b' ∧ o = o' := by simpa using e
              obtain ⟨i', hi'⟩ : ∃ i', i' = j + 1 := ⟨_, rfl⟩
              rw [← hi'] at hx cx hr hlt hii ⊢
              have hip : (0 : Int) < (i' : Int) := by omega
              have hipb : decide (0 < i') = true := decide_eq_true (by omega)
              have hij : (i' : Int) - 1 = (j : Int) := by omega
              have hjm : (j : Int) < (m : Int) := by omega
              by_cases g4 : x ≤ y
              · have HF := Lib.hid (right_no1 (ps := ps) (ris_not hx (.inr (.inr ⟨j, y, hi', hy, g4⟩))))
                have g4b : decide (x ≤ y) = true := decide_eq_true g4
                clear hx hr hs hy hi' g3
                go_wp2_with fail
                go_quiet (fail)
                go_wp2_with fail
                go_ret
                exact ⟨ret_bool HF.out.symm, HS.out.drewN _⟩
              · have g4b : decide (x ≤ y) = false := decide_eq_false g4
                have HR := Lib.hid (risTo_step hr hx (by omega) (by omega) (fun j2 y2 e h2 => by
                  obtain rfl : j2 = j := by omega
                  rw [hy] at h2
                  obtain rfl := Option.some.inj h2
                  omega))
                clear hx hr hs hy hi' g3
                go_wp2_with fail
                go_quiet (fail)
                go_wp2_with fail
                go_roundw
                case rel => exact ⟨i' + 1, by omega, by go_num, HR.out, HS.out.drewN _⟩
                case measure => simp [intOf]; omega
      · obtain rfl : i = m := by omega
        have HR := Lib.hid (risTo_all (by rw [← HM.out]; exact h8) (by rw [← HM.out]; exact hr))
        clear hr hs hlt
        go_wp2_with fail
        go_loopw [6] (fun ix wr => ∃ i : Nat, i ≤ n ∧ ix = .int .i64 i ∧ disTo ps i ∧ Still w wr) (fun ix _ => n - (intOf ix).toNat)
        case atStart => exact ⟨0, Nat.zero_le _, rfl, disTo_zero ps, HS.out⟩
        case round =>
          clear HS
          obtain ⟨k, hk, rfl, hd, hs⟩ := hrel
          have HS := Lib.hid hs
          by_cases hlt : k < n
          · obtain ⟨⟨pf, pt⟩, hp⟩ := get_some (l := ps) (i := k) (by rw [← HN.out]; exact hlt)
            obtain ⟨b, o, rfl, hc⟩ := row_still HB.out hs k _ hp
            have c0 : wr.cell? ⟨b, o + k * 2, none⟩ = some (.int .i64 pf) := hc 0 _ rfl
            have c1' : wr.cell? ⟨b, o + k * 2 + 1, none⟩ = some (.int .i64 pt) := by rw [Nat.add_assoc]; exact hc 1 _ rfl
            have hki : (k : Int) < (n : Int) := by omega
            by_cases g1 : pf < 0
            · have HF := Lib.hid (right_no2 (ms := ms) (dis_not hp (.inl g1)))
              clear hp hd hs hc
              go_wp2_with fail
              go_ret
              exact ⟨ret_bool HF.out.symm, HS.out⟩
            · by_cases g2 : pt < 0
              · have HF := Lib.hid (right_no2 (ms := ms) (dis_not hp (.inr (.inl g2))))
                clear hp hd hs hc
                go_wp2_with fail
                go_ret
                exact ⟨ret_bool HF.out.symm, HS.out⟩
              · have HD := Lib.hid hd
                have HP := Lib.hid hp
                clear hp hd hs hc
                go_wp2_with fail
                go_loopw [7] (fun jx wq => ∃ j : Nat, j ≤ k ∧ jx = .int .i64 j ∧ (pf, pt) ∉ ps.take j ∧ Still w wq) (fun jx _ => k - (intOf jx).toNat)
                case atStart => exact ⟨0, Nat.zero_le _, rfl, by simp, HS.out⟩
                case round =>
                  clear HS c0 c1'
                  obtain ⟨j, hj, rfl, hno, hs⟩ := hrel
                  have HS := Lib.hid hs
                  by_cases hjk : j < k
                  · obtain ⟨⟨qf, qt⟩, hq⟩ := get_some (l := ps) (i := j) (by rw [← HN.out]; omega)
                    obtain ⟨b1, o1, e1, hc⟩ := row_still HB.out hs k _ HP.out
                    obtain ⟨b2, o2, e2, hd⟩ := row_still HB.out hs j _ hq
                    obtain ⟨rfl, rfl⟩ : b = b1 ∧ o = o1 := by simpa using e1
                    obtain ⟨rfl, rfl⟩ : b = b2 ∧ o = o2 := by simpa using e2
                    have c0 : wr.cell? ⟨b, o + k * 2, none⟩ = some (.int .i64 pf) := hc 0 _ rfl
                    have c1' : wr.cell? ⟨b, o + k * 2 + 1, none⟩ = some (.int .i64 pt) := by rw [Nat.add_assoc]; exact hc 1 _ rfl
                    have d0 : wr.cell? ⟨b, o + j * 2, none⟩ = some (.int .i64 qf) := hd 0 _ rfl
                    have d1 : wr.cell? ⟨b, o + j * 2 + 1, none⟩ = some (.int .i64 qt) := by rw [Nat.add_assoc]; exact hd 1 _ rfl
                    have hji : (j : Int) < (k : Int) := by omega
                    have hjn : (j : Int) < (n : Int) := by omega
                    by_cases he : qf = pf ∧ qt = pt
                    · obtain ⟨rfl, rfl⟩ := he
                      have HF := Lib.hid (right_no2 (ms := ms) (dis_not HP.out (.inr (.inr ⟨j, hjk, hq⟩))))
                      clear hs hc hd hq hno e1 e2
                      go_wp2_with fail
                      go_quiet (fail)
                      go_wp2_with fail
                      go_ret
                      exact ⟨ret_bool HF.out.symm, HS.out.drewN _⟩
                    · have HNo := Lib.hid (show (pf, pt) ∉ ps.take (j + 1) from by
                        rw [List.take_add_one, hq]
                        intro hmem
                        rcases List.mem_append.1 hmem with h | h
                        · exact hno h
                        · have : (pf, pt) = (qf, qt) := by simpa using h
                          exact he ⟨(congrArg Prod.fst this).symm, (congrArg Prod.snd this).symm⟩)
                      have he' : qf ≠ pf ∨ (qf = pf ∧ qt ≠ pt) := by
                        by_cases h : qf = pf
                        · exact .inr ⟨h, fun h2 => he ⟨h, h2⟩⟩
                        · exact .inl h
                      clear hs hc hd hq hno e1 e2 he
                      rcases he' with h1 | ⟨rfl, h1⟩
                      all_goals (
                        go_wp2_with fail
                        go_quiet (fail)
                        go_wp2_with fail
                        go_roundw
                        case rel => exact ⟨j + 1, by omega, by go_num, HNo.out, HS.out.drewN _⟩
                        case measure => simp [intOf]; omega)
                  · obtain rfl : j = k := by omega
                    have HD2 := Lib.hid (disTo_step HD.out HP.out (by show 0 ≤ pf; omega) (by show 0 ≤ pt; omega) hno)
                    clear hs hno hjk
                    go_wp2_with fail
                    go_roundw
                    case rel => exact ⟨j + 1, by omega, by go_num, HD2.out, HS.out⟩
                    case measure => simp [intOf]; omega
          · obtain rfl : k = n := by omega
            have HD := Lib.hid (disTo_all (by rw [← HN.out]; exact hd))
            have HF := Lib.hid (show rightB ms ps = true from decide_eq_true ⟨HR.out, HD.out⟩)
            clear hs hd hlt
            go_wp2_with fail
            go_ret
            exact ⟨ret_bool HF.out.symm, HS.out⟩
  · have h8i : (8 : Int) < (m : Int) := by omega
    have HF := Lib.hid (right_no1 (ps := ps) (ms := ms) (fun hr => h8 (by rw [hm]; exact hr.1)))
    clear hA hB hm hn
    go_enter Try.func86, Try.ntmps86
    go_wp2_with fail
    go_ret
    exact ⟨ret_bool HF.out.symm, Turned.refl _ _⟩
end Go.Proofs.Ytdlkdagmaeapdaa

/- What Assign of the document's share answers. No condition. -/
namespace Go.Proofs.Ytdlkdagmaeapdaa
open Go.RowKit
set_option linter.unusedVariables false
set_option linter.unusedSimpArgs false
set_option maxRecDepth 100000

/-- Without members, or with them: what lies ahead of it. -/
theorem zshassign_long (w : World) (ao bo co : Option Addr) (m n k c1 c2 c3 : Nat) (h : 256 < n ∨ 256 < k) : Calls Try.prog 61 #[.slice ao m c1, .slice bo n c2, .slice co k c3] w (OutAsg w [] 0 3) := by
  by_cases hn : 256 < n
  · have hni : (256 : Int) < (n : Int) := by omega
    clear h
    go_enter Try.func61, Try.ntmps61
    go_wp2_with fail
    go_ret2
    exact ⟨none, 0, rfl, World.ownsRow_nil _ _ _ _, Turned.refl _ _⟩
  · have hni : ¬ (256 : Int) < (n : Int) := by omega
    have hki : (256 : Int) < (k : Int) := by omega
    clear h
    go_enter Try.func61, Try.ntmps61
    go_wp2_with fail
    go_ret2
    exact ⟨none, 0, rfl, World.ownsRow_nil _ _ _ _, Turned.refl _ _⟩
theorem zshassign_arg (w : World) (ao bo co : Option Addr) (ms : List Int) (ps : List Plc) (m n k c1 c2 c3 : Nat) (hm : m = ms.length) (hn : n = ps.length) (h1 : m ≤ 1000) (h2 : n ≤ 256) (h3 : k ≤ 256) (hA : NumsAt w ao ms) (hB : PlAt w bo ps) (hr : rightB ms ps = false) :
    Calls Try.prog 61 #[.slice ao m c1, .slice bo n c2, .slice co k c3] w (OutAsg w [] 0 2) := by
  have HR := Lib.hid (zshright_any w ao bo ms ps m n c1 c2 hm hn h1 (by omega) hA hB)
  rw [hr] at HR
  have hni : ¬ (256 : Int) < (n : Int) := by omega
  have hki : ¬ (256 : Int) < (k : Int) := by omega
  clear hA hB hr hm hn
  go_enter Try.func61, Try.ntmps61
  go_wp2_with (go_at_call 86; ((with_reducible refine HR.out.mono ?_)); rintro e w1 ⟨rfl, hs⟩; have S1 := Lib.hid hs; clear hs)
  go_ret2
  exact ⟨none, 0, rfl, World.ownsRow_nil _ _ _ _, S1.out⟩
theorem rep_take {ps : List Plc} {i : Nat} {p : Plc} (hp : ps[i]? = some p) : oL (ps.take (i + 1)) (List.replicate (i + 1) (-1)) = oL (ps.take i) (List.replicate i (-1)) ++ [(p, -1)] := by
  have hi := (List.getElem?_eq_some_iff.1 hp).1
  have ht : ps.take (i + 1) = ps.take i ++ [p] := by rw [List.take_add_one, hp]; rfl
  unfold oL
  rw [ht, List.replicate_succ', List.zipWith_append (by rw [List.length_take, List.length_replicate]; omega)]
  rfl

set_option maxHeartbeats 32000000 in
theorem zshassign_ok (w : World) (ao bo co : Option Addr) (ms : List Int) (ps : List Plc) (os : List Own) (m n k c1 c2 c3 : Nat) (hm : m = ms.length) (hn : n = ps.length) (hk : k = os.length) (h1 : m ≤ 1000) (h2 : n ≤ 256) (h3 : k ≤ 256)
    (hA : NumsAt w ao ms) (hB : PlAt w bo ps) (hC : OwAt w co os) (hrt : rightB ms ps = true) :
    Calls Try.prog 61 #[.slice ao m c1, .slice bo n c2, .slice co k c3] w (OutAsg w (asgI ms ps os) n 0) := by
  have HR := Lib.hid (zshright_any w ao bo ms ps m n c1 c2 hm hn h1 (by omega) hA hB)
  rw [hrt] at HR
  have hri : risI ms ∧ disI ps := of_decide_eq_true hrt
  have HA := Lib.hid hA
  have HB := Lib.hid hB
  have HM := Lib.hid hm
  have HN := Lib.hid hn
  have HHad := Lib.hid (fun V (hs : Still w V) (p : Plc) => hadR_any V co os k c3 p hk (by omega) (row_still hC hs))
  have hm8 : m ≤ 8 := by rw [hm]; exact hri.1.1
  have HRi := Lib.hid hri.1
  have hni : ¬ (256 : Int) < (n : Int) := by omega
  have hki : ¬ (256 : Int) < (k : Int) := by omega
  obtain ⟨pi, qi, pz0, pz1, pz2⟩ := info_parts infoOw17
  have HW := Lib.hid (fun V : World => World.ownsRow_made (e := 99) (size := 3) V #[] 0 (Nat.le_refl _) (by simp) (by simp))
  clear hA hB hC hm hn hk hri hrt
  go_enter Try.func61, Try.ntmps61
  go_wp2_with (go_at_call 86; ((with_reducible refine HR.out.mono ?_)); rintro e w1 ⟨rfl, hs⟩; have S1 := Lib.hid hs; clear hs)
  have hlo1 := S1.out.size
  go_loopw [9, 10] (fun ll ix wq => ∃ (i : Nat) (a2 : Option Addr) (c4 : Nat), i ≤ n ∧ ix = .int .i64 i ∧ ll = .slice a2 i c4 ∧ wq.ownsRow w.heap.size 99 3 (.slice a2 i c4) i (rowOf encOw (oL (ps.take i) (List.replicate i (-1)))) ∧ Still w wq) (fun _ ix _ => n - (intOf ix).toNat)
  case atStart => exact ⟨0, _, 0, Nat.zero_le _, rfl, rfl, ow_base (HW.out w1) hlo1, S1.out.alloc _⟩
  case round =>
    clear S1 hlo1
    obtain ⟨i, a2, c4, hi, rfl, rfl, hown, hst⟩ := hrel
    have HO := Lib.hid hown
    have HS := Lib.hid hst
    have hlo := hst.size
    by_cases hlt : i < n
    · obtain ⟨⟨pf, pt⟩, hp⟩ := get_some (l := ps) (i := i) (by rw [← HN.out]; exact hlt)
      obtain ⟨bp, op, rfl, hc⟩ := row_still HB.out hst i _ hp
      have c0 : wr.cell? ⟨bp, op + i * 2, none⟩ = some (.int .i64 pf) := hc 0 _ rfl
      have c1' : wr.cell? ⟨bp, op + i * 2 + 1, none⟩ = some (.int .i64 pt) := by rw [Nat.add_assoc]; exact hc 1 _ rfl
      have HSn := Lib.hid (rep_take hp)
      have hii : (i : Int) < (n : Int) := by omega
      clear hown hst hp hc
      go_wp2_with (at_builtin; refine wpList_append_own_at _ rfl _ _ 65 rfl w.heap.size 99 pi (.agg #[.int .i64 0, .int .i64 0, .int .i64 0]) 3 24 Try.underlying65 qi pz0 pz1 pz2 rfl (by decide) (.slice a2 i c4) i (rowOf encOw (oL (ps.take i) (List.replicate i (-1)))) rfl (ow_still HO.out ((Turned.refl _ _).alloc _)) ⟨wr.heap.size, 0, none⟩ 1 1 [.int .i64 pf, .int .i64 pt, .int .i64 (-1)] rfl rfl (ow_cells wr _ _) (ow_ints rfl) (by unfold maxLen; omega) (by omega) (by simp; omega) ?_; intro v6 w6 hown6 hg6 _ hat6; obtain ⟨a6, c6, rfl⟩ := ow_slice hown6; have HS6 := Lib.hid (row_appended HS.out HO.out hg6); have HO6 := Lib.hid hown6; clear hown6 hg6 hat6)
      go_roundw
      case rel => exact ⟨i + 1, a6, c6, by omega, by go_num, rfl, by rw [HSn.out, rowOf_append, rowOf_cons, rowOf_nil, List.append_nil]; exact HO6.out, HS6.out⟩
      case measure => simp [intOf]; omega
    · obtain rfl : i = n := by omega
      have hps : ps.take i = ps := List.take_of_length_le (by rw [HN.out]; exact Nat.le_refl _)
      rw [hps] at HO
      by_cases hm0 : m = 0
      · have hmi : (m : Int) = 0 := by omega
        have HF := Lib.hid (show asgI ms ps os = oL ps (List.replicate i (-1)) from by rw [HN.out]; exact asg_none (by rw [← HM.out]; exact hm0))
        clear hown hst hlt hps hm0
        go_wp2_with fail
        go_ret2
        exact ⟨a2, c4, rfl, by rw [HF.out]; exact HO.out, HS.out⟩
      · have hmp : (0 : Int) < (m : Int) := by omega
        have hmz : ¬ (m : Int) = 0 := by omega
        have hmb : ((m : Int) == 0) = false := by simpa using hmz
        have K0 := Lib.hid ((Held.start (Turned.refl _ w)).got HO.out HS.out).snd
        obtain ⟨ti, fi, hz0, hz1, hz2⟩ := info_parts infoIntW
        have hmk := fun W : World => run_make (P := Try.prog) W 44 3 ti _ Try.underlying44 fi hz0 .i64 .i64 (m : Int) (m : Int) (Int.natCast_nonneg m) (Int.le_refl _) (by rw [hz2]; omega) (by omega)
        simp only [hz1, Int.toNat_natCast, Nat.mul_one, show Value.cells (.int .i64 0) = #[.int .i64 0] from rfl, madeN] at hmk
        clear hown hst hlt hps HO HS fi hz0 hz1 hz2 qi pz0 pz1 pz2 HW HR
        obtain ⟨who, hwho⟩ : ∃ who, who = whoI ms ps os := ⟨_, rfl⟩
        have HWl := Lib.hid (show who.length = i from by rw [hwho, who_len]; exact HN.out.symm)
        have HWh := Lib.hid (fun (j : Nat) (p : Plc) (hp : ps[j]? = some p) => show who[j]? = some (idxI ms (hadI os p)) from by rw [hwho]; unfold whoI; rw [List.getElem?_map, hp]; rfl)
        have HIx := Lib.hid (fun (x : Int) (j : Nat) (y : Int) (hy : ms[j]? = some y) => show idxI ms x = some j ↔ x = y from by
          obtain ⟨hj, e⟩ := List.getElem?_eq_some_iff.1 hy
          rw [idx_iff HRi.out.2.2 hj, e])
        have K1 := Lib.hid (lit_held K0.out (l := List.replicate m 0) (n := m) (by simp) (by omega)).swap
        obtain ⟨gh, hgh⟩ : ∃ gh, gh = wr.heap.size := ⟨_, rfl⟩
        have K1 := Lib.hid (show Held w (wr.alloc (.cells (ints (List.replicate m 0)).toArray 3)) ((intsT (some ⟨gh, 0, none⟩) m m (cL m (hadC who 0 0))).sep (ownsT a2 i c4 (oL ps (List.replicate i (-1))))) from by
          rw [hadC_zero, cL_zero, hgh]; exact K1.out)
        go_wp2_with fail
        rw [← hgh]
        clear hgh K0
        go_loopw [12] (fun kx wq => ∃ kk : Nat, kk ≤ m ∧ kx = .int .i64 kk ∧ Held w wq ((intsT (some ⟨gh, 0, none⟩) m m (cL m (hadC who kk 0))).sep (ownsT a2 i c4 (oL ps (List.replicate i (-1)))))) (fun kx _ => m - (intOf kx).toNat)
        case atStart => exact ⟨0, Nat.zero_le _, rfl, K1.out⟩
        case round =>
          clear K1
          obtain ⟨kk, hkk, rfl, hH⟩ := hrel
          by_cases hkm : kk < m
          · obtain ⟨mk, hmk2⟩ := get_some (l := ms) (i := kk) (by rw [← HM.out]; exact hkm)
            have KH := Lib.hid hH
            have hki2 : (kk : Int) < (m : Int) := by omega
            clear hH
            go_wp2_with fail
            go_loopw [13] (fun jx wq => ∃ j : Nat, j ≤ i ∧ jx = .int .i64 j ∧ Held w wq ((intsT (some ⟨gh, 0, none⟩) m m (cL m (hadC who kk j))).sep (ownsT a2 i c4 (oL ps (List.replicate i (-1)))))) (fun jx _ => i - (intOf jx).toNat)
            case atStart => exact ⟨0, Nat.zero_le _, rfl, KH.out⟩
            case round =>
              clear KH
              obtain ⟨j, hj, rfl, hH⟩ := hrel
              by_cases hji : j < i
              · obtain ⟨⟨pf, pt⟩, hp⟩ := get_some (l := ps) (i := j) (by rw [← HN.out]; exact hji)
                obtain ⟨bp, op, rfl, hc⟩ := row_still HB.out hH.ground j _ hp
                obtain ⟨bm, om, rfl, cm⟩ := (HA.out.still hH.ground) kk mk hmk2
                have HC := Lib.hid (fun V (hs : Still w V) => show V.cell? ⟨bp, op + j * 2, none⟩ = some (.int .i64 pf) ∧ V.cell? ⟨bp, op + j * 2 + 1, none⟩ = some (.int .i64 pt) ∧ V.cell? ⟨bm, om + kk, none⟩ = some (.int .i64 mk) from by
                  obtain ⟨b', o', e, hd⟩ := row_still HB.out hs j _ hp
                  obtain ⟨rfl, rfl⟩ : bp = b' ∧ op = o' := by simpa using e
                  obtain ⟨b'', o'', e2, hd2⟩ := (HA.out.still hs) kk mk hmk2
                  obtain ⟨rfl, rfl⟩ : bm = b'' ∧ om = o'' := by simpa using e2
                  exact ⟨hd 0 _ rfl, by rw [Nat.add_assoc]; exact hd 1 _ rfl, hd2⟩)
                have KD := Lib.hid (hH.still (Turned.refl _ _).drew)
                obtain ⟨y0, y1, y2⟩ := HC.out _ hH.ground
                obtain ⟨x0, x1, x2⟩ := HC.out _ KD.out.ground
                have HHp := Lib.hid (fun V (hs : Still w V) => HHad.out V hs (pf, pt))
                dsimp only at HHp
                obtain ⟨hd, hhd⟩ : ∃ hd, hd = hadI os (pf, pt) := ⟨_, rfl⟩
                have hix := HIx.out hd kk mk hmk2
                have hwj := HWh.out j _ hp
                rw [← hhd] at HHp hwj
                have hji2 : (j : Int) < (i : Int) := by omega
                have hc1 : cntO (who.take j) kk ≤ 256 := by
                  refine Nat.le_trans (cntO_le _ _) ?_
                  rw [List.length_take]; omega
                by_cases heq : hd = mk
                · have HNx := Lib.hid (show (cL m (hadC who kk j)).set kk ((cntO (who.take j) kk : Nat) + 1 : Int) = cL m (hadC who kk (j + 1)) from by
                    have := cL_set (m := m) (k := kk) (c := hadC who kk j) (d := hadC who kk (j + 1)) hkm (fun x _ hx => hadC_other hx)
                    rw [hadC_at, cnt_take hwj, if_pos (hix.2 heq)] at this
                    exact this)
                  have HGt := Lib.hid (show (cL m (hadC who kk j))[kk]? = some ((cntO (who.take j) kk : Nat) : Int) from by rw [cL_get _ hkm, hadC_at])
                  have heqb : (hd == mk) = true := by rw [beq_iff_eq]; exact heq
                  subst heq
                  generalize cntO (who.take j) kk = cc at *
                  clear hH hp hc hmk2 hhd hix hwj
                  go_wp2_with fail
                  go_region_held3 (fun V => V.cell? ⟨bp, op + j * 2, none⟩ = some (.int .i64 pf) ∧ V.cell? ⟨bp, op + j * 2 + 1, none⟩ = some (.int .i64 pt) ∧ V.cell? ⟨bm, om + kk, none⟩ = some (.int .i64 hd)) (first | assumption | exact ⟨by assumption, by assumption, by assumption⟩ | go_keep)
                    (first | (go_at_call 59; ((with_reducible refine (HHp.out _ KD.out.ground).mono ?_)); rintro e w5 ⟨rfl, hs⟩; have K5 := Lib.hid (KD.out.still hs); obtain ⟨z0, z1, z2⟩ := HC.out _ K5.out.ground; obtain ⟨s1, s2, s3⟩ := held_put K5.out HGt.out; have HP := Lib.hid (s3 ((cc : Int) + 1)); clear hs s3 KD))
                  go_wp2_with fail
                  go_roundw
                  case rel => exact ⟨j + 1, by omega, by go_num, by have := HP.out; rw [HNx.out] at this; exact this⟩
                  case measure => simp [intOf]; omega
                · have HNx := Lib.hid (show cL m (hadC who kk (j + 1)) = cL m (hadC who kk j) from cL_congr fun x _ => by
                    by_cases hx : x = kk
                    · subst hx; rw [hadC_at, hadC_at, cnt_take hwj, if_neg (fun e => heq (hix.1 e))]; rfl
                    · exact hadC_other hx)
                  have heqb : (hd == mk) = false := by rw [beq_eq_false_iff_ne]; exact heq
                  clear hH hp hc hmk2 hhd hix hwj
                  go_wp2_with fail
                  go_region_held3 (fun V => V.cell? ⟨bp, op + j * 2, none⟩ = some (.int .i64 pf) ∧ V.cell? ⟨bp, op + j * 2 + 1, none⟩ = some (.int .i64 pt) ∧ V.cell? ⟨bm, om + kk, none⟩ = some (.int .i64 mk)) (first | assumption | exact ⟨by assumption, by assumption, by assumption⟩ | go_keep)
                    (first | (go_at_call 59; ((with_reducible refine (HHp.out _ KD.out.ground).mono ?_)); rintro e w5 ⟨rfl, hs⟩; have K5 := Lib.hid (KD.out.still hs); obtain ⟨z0, z1, z2⟩ := HC.out _ K5.out.ground; clear hs KD))
                  go_wp2_with fail
                  go_roundw
                  case rel => exact ⟨j + 1, by omega, by go_num, by rw [HNx.out]; exact K5.out⟩
                  case measure => simp [intOf]; omega
              · obtain rfl : j = i := by omega
                have KH := Lib.hid (show Held w wr ((intsT (some ⟨gh, 0, none⟩) m m (cL m (hadC who (kk + 1) 0))).sep (ownsT a2 j c4 (oL ps (List.replicate j (-1))))) from by
                  rw [← hadC_next, HWl.out]; exact hH)
                clear hH
                go_wp2_with fail
                go_roundw
                case rel => exact ⟨kk + 1, by omega, by go_num, KH.out⟩
                case measure => simp [intOf]; omega
          · obtain rfl : kk = m := by omega
            have K2 := Lib.hid hH
            rw [hadC_all] at K2
            clear hH
            obtain ⟨h, hh⟩ : ∃ h : Nat → Nat, h = cntO who := ⟨_, rfl⟩
            rw [← hh] at K2
            have HHb := Lib.hid (show ∀ j, h j ≤ 256 from fun j => by rw [hh]; have := cntO_le who j; have := HWl.out; omega)
            obtain ⟨gq, hgq⟩ : ∃ gq, gq = wr.heap.size := ⟨_, rfl⟩
            have K3 := Lib.hid (show Held w (wr.alloc (.cells (ints (List.replicate kk 0)).toArray 3)) ((intsT (some ⟨gq, 0, none⟩) kk kk (cL kk (quoC i kk h 0))).sep ((intsT (some ⟨gh, 0, none⟩) kk kk (cL kk h)).sep (ownsT a2 i c4 (oL ps (List.replicate i (-1)))))) from by
              rw [show quoC i kk h 0 = fun _ => 0 from by funext j; unfold quoC; rw [if_neg (by omega)], cL_zero, hgq]
              exact (lit_held K2.out (l := List.replicate kk 0) (n := kk) (by simp) (by omega)).swap)
            go_wp2_with fail
            rw [← hgq]
            clear hgq K2
            obtain ⟨nq, hnq⟩ : ∃ nq, nq = i / kk := ⟨_, rfl⟩
            obtain ⟨nr, hnr⟩ : ∃ nr, nr = i % kk := ⟨_, rfl⟩
            have hnq2 : nq ≤ 256 := by rw [hnq]; have := Nat.div_le_self i kk; omega
            have hnr2 : nr < kk := by rw [hnr]; exact Nat.mod_lt _ (by omega)
            have hwq : (i : Int) / (kk : Int) = (nq : Int) := by rw [hnq]; rfl
            have hwr : (i : Int) % (kk : Int) = (nr : Int) := by rw [hnr]; rfl
            have HQn := Lib.hid (fun x => show quotaN i kk h x = nq + if aheadN kk h x < nr then 1 else 0 from by unfold quotaN; rw [hnq, hnr])
            have HQ1 := Lib.hid (fun x => show quoC1 i kk h x x = nq from by unfold quoC1; rw [if_neg (Nat.lt_irrefl _), if_pos rfl, hnq])
            clear hnq hnr
            go_loopw [15] (fun kx wq => ∃ x : Nat, x ≤ kk ∧ kx = .int .i64 x ∧ Held w wq ((intsT (some ⟨gq, 0, none⟩) kk kk (cL kk (quoC i kk h x))).sep ((intsT (some ⟨gh, 0, none⟩) kk kk (cL kk h)).sep (ownsT a2 i c4 (oL ps (List.replicate i (-1))))))) (fun kx _ => kk - (intOf kx).toNat)
            case atStart => exact ⟨0, Nat.zero_le _, rfl, K3.out⟩
            case round =>
              clear K3
              obtain ⟨x, hx, rfl, hH⟩ := hrel
              by_cases hxm : x < kk
              · have hxi : (x : Int) < (kk : Int) := by omega
                obtain ⟨s1, s2, s3⟩ := held_put hH (cL_get _ hxm)
                have K4 := Lib.hid (show Held w (wr.setCell ⟨gq, x, none⟩ (.int .i64 (nq : Int))) ((intsT (some ⟨gq, 0, none⟩) kk kk (cL kk (quoC1 i kk h x))).sep ((intsT (some ⟨gh, 0, none⟩) kk kk (cL kk h)).sep (ownsT a2 i c4 (oL ps (List.replicate i (-1)))))) from by
                  have := s3 (nq : Int)
                  rw [show ((nq : Nat) : Int) = ((quoC1 i kk h x x : Nat) : Int) from by rw [HQ1.out], cL_set hxm (d := quoC1 i kk h x) (fun j _ hj => by unfold quoC quoC1; by_cases h1 : j < x <;> simp [h1, hj])] at this
                  rw [HQ1.out] at this
                  exact this)
                clear hH s3
                go_wp2_with fail
                clear s1 s2
                go_loopw [16, 17] (fun ax jx wq => ∃ j : Nat, j ≤ kk ∧ jx = .int .i64 j ∧ ax = .int .i64 (aheadTo h x j) ∧ Held w wq ((intsT (some ⟨gq, 0, none⟩) kk kk (cL kk (quoC1 i kk h x))).sep ((intsT (some ⟨gh, 0, none⟩) kk kk (cL kk h)).sep (ownsT a2 i c4 (oL ps (List.replicate i (-1))))))) (fun _ jx _ => kk - (intOf jx).toNat)
                case atStart => exact ⟨0, Nat.zero_le _, rfl, rfl, K4.out⟩
                case round =>
                  clear K4
                  obtain ⟨j, hj, rfl, rfl, hH⟩ := hrel
                  by_cases hjm : j < kk
                  · have hji : (j : Int) < (kk : Int) := by omega
                    have nh := ints_at hH.snd.drop (cL_len kk h).symm
                    obtain ⟨b1, o1, e1, r1⟩ := nh j _ (cL_get h hjm)
                    obtain ⟨b2, o2, e2, r2⟩ := nh x _ (cL_get h hxm)
                    obtain ⟨rfl, rfl⟩ : gh = b1 ∧ 0 = o1 := by simpa using e1
                    obtain ⟨rfl, rfl⟩ : gh = b2 ∧ 0 = o2 := by simpa using e2
                    rw [Nat.zero_add] at r1 r2
                    have HSt := Lib.hid (aheadTo_step h x j)
                    have ha8 : aheadTo h x j ≤ j := aheadTo_le h x j
                    have KH := Lib.hid hH
                    have hj1 := HHb.out j
                    have hj2 := HHb.out x
                    have hjx1 : ((h j : Nat) : Int) < ((h x : Nat) : Int) ∨ h j = h x ∨ h x < h j := by omega
                    obtain ⟨vj, hvj⟩ : ∃ vj, vj = h j := ⟨_, rfl⟩
                    obtain ⟨vx, hvx⟩ : ∃ vx, vx = h x := ⟨_, rfl⟩
                    have HBf := Lib.hid (show bef h j x = (decide (vx < vj) || (decide (vj = vx) && decide (j < x))) from by unfold bef; rw [hvj, hvx])
                    rw [← hvj] at r1
                    rw [← hvx] at r2
                    generalize aheadTo h x j = ah at *
                    clear hH nh e1 e2 hvj hvx hj1 hj2 hjx1
                    by_cases g1 : vx < vj
                    · have g1b : decide (vx < vj) = true := decide_eq_true g1
                      have HS2 := Lib.hid (show aheadTo h x (j + 1) = ah + 1 from by rw [HSt.out, HBf.out, g1b]; rfl)
                      clear HSt HBf
                      go_wp2_with fail
                      go_quiet (fail)
                      go_wp2_with fail
                      go_roundw
                      case rel => exact ⟨j + 1, by omega, by go_num, by rw [HS2.out]; rfl, KH.out.still ((Turned.refl _ _).drewN _)⟩
                      case measure => simp [intOf]; omega
                    · have g1b : decide (vx < vj) = false := decide_eq_false g1
                      by_cases g2 : vj = vx ∧ j < x
                      · obtain ⟨rfl, g3⟩ := g2
                        have g3b : decide (j < x) = true := decide_eq_true g3
                        have HS2 := Lib.hid (show aheadTo h x (j + 1) = ah + 1 from by rw [HSt.out, HBf.out, g1b, g3b]; simp)
                        clear HSt HBf
                        go_wp2_with fail
                        go_quiet (fail)
                        go_wp2_with fail
                        go_roundw
                        case rel => exact ⟨j + 1, by omega, by go_num, by rw [HS2.out]; rfl, KH.out.still ((Turned.refl _ _).drewN _)⟩
                        case measure => simp [intOf]; omega
                      · have HS2 := Lib.hid (show aheadTo h x (j + 1) = ah from by
                          rw [HSt.out, HBf.out, g1b, Bool.false_or, if_neg (by simpa using fun a b => g2 ⟨a, b⟩)]; rfl)
                        have g2' : vj ≠ vx ∨ (vj = vx ∧ ¬ j < x) := by
                          by_cases h1 : vj = vx
                          · exact .inr ⟨h1, fun h2 => g2 ⟨h1, h2⟩⟩
                          · exact .inl h1
                        clear HSt HBf g2
                        rcases g2' with g4 | ⟨rfl, g4⟩
                        case' inl => have g4b : (vj == vx) = false := by rw [beq_eq_false_iff_ne]; exact g4
                        case' inl => have g4c : ((vj : Int) == (vx : Int)) = false := by rw [beq_eq_false_iff_ne]; omega
                        case' inl => have g4d : decide (vj = vx) = false := decide_eq_false g4
                        case' inr => have g4b : decide (j < x) = false := decide_eq_false g4
                        case' inr => have g4c : decide ((j : Int) < (x : Int)) = false := decide_eq_false (by omega)
                        all_goals (
                          go_wp2_with fail
                          go_quiet (fail)
                          go_wp2_with fail
                          go_roundw
                          case rel => exact ⟨j + 1, by omega, by go_num, by rw [HS2.out], KH.out.still ((Turned.refl _ _).drewN _)⟩
                          case measure => simp [intOf]; omega)
                  · obtain rfl : j = kk := by omega
                    have KH := Lib.hid hH
                    have hal : aheadTo h x j ≤ j := aheadTo_le h x j
                    have HQx := Lib.hid (show quoC i j h (x + 1) x = nq + if aheadTo h x j < nr then 1 else 0 from by
                      unfold quoC; rw [if_pos (Nat.lt_succ_self x)]; exact HQn.out x)
                    obtain ⟨s1, s2, s3⟩ := held_put hH (cL_get _ hxm)
                    rw [HQ1.out] at s1
                    by_cases hlr : aheadTo h x j < nr
                    · have K5 := Lib.hid (show Held w (wr.setCell ⟨gq, x, none⟩ (.int .i64 ((nq : Int) + 1))) ((intsT (some ⟨gq, 0, none⟩) j j (cL j (quoC i j h (x + 1)))).sep ((intsT (some ⟨gh, 0, none⟩) j j (cL j h)).sep (ownsT a2 i c4 (oL ps (List.replicate i (-1)))))) from by
                        have := s3 ((nq : Int) + 1)
                        have e1 := HQx.out
                        rw [if_pos hlr] at e1
                        have e2 := cL_set (c := quoC1 i j h x) (d := quoC i j h (x + 1)) hxm (fun y _ hy => by
                          unfold quoC quoC1
                          by_cases h1 : y < x
                          · rw [if_pos h1, if_pos (by omega)]
                          · rw [if_neg h1, if_neg hy, if_neg (by omega)])
                        rw [e1] at e2
                        rw [show ((nq : Int) + 1) = ((nq + 1 : Nat) : Int) from rfl] at this
                        rw [e2] at this
                        exact this)
                      generalize aheadTo h x j = ah at *
                      clear hH s3 KH
                      go_wp2_with fail
                      go_roundw
                      case rel => exact ⟨x + 1, by omega, by go_num, K5.out⟩
                      case measure => simp [intOf]; omega
                    · have K5 := Lib.hid (show Held w wr ((intsT (some ⟨gq, 0, none⟩) j j (cL j (quoC i j h (x + 1)))).sep ((intsT (some ⟨gh, 0, none⟩) j j (cL j h)).sep (ownsT a2 i c4 (oL ps (List.replicate i (-1)))))) from by
                        have e1 := HQx.out
                        rw [if_neg hlr] at e1
                        rw [show cL j (quoC i j h (x + 1)) = cL j (quoC1 i j h x) from cL_congr (fun y _ => by
                          by_cases hy : y = x
                          · subst hy; rw [e1, HQ1.out]; rfl
                          · unfold quoC quoC1
                            by_cases h1 : y < x
                            · rw [if_pos h1, if_pos (by omega)]
                            · rw [if_neg h1, if_neg hy, if_neg (by omega)])]
                        exact hH)
                      generalize aheadTo h x j = ah at *
                      clear hH s3 KH s1 s2
                      go_wp2_with fail
                      go_roundw
                      case rel => exact ⟨x + 1, by omega, by go_num, K5.out⟩
                      case measure => simp [intOf]; omega
              · obtain rfl : x = kk := by omega
                obtain ⟨q, hq⟩ : ∃ q, q = quoO x who := ⟨_, rfl⟩
                have hqn : cL x (quoC i x h x) = cL x q := cL_congr fun y hy => by
                  unfold quoC; rw [if_pos hy, hq]; unfold quoO; rw [HWl.out, hh]
                have HQb := Lib.hid (show ∀ y, q y ≤ 257 from fun y => by
                  rw [hq]; unfold quoO quotaN; rw [HWl.out]
                  have := Nat.div_le_self i x
                  split <;> omega)
                obtain ⟨kept, hkept⟩ : ∃ kept, kept = keptO x who := ⟨_, rfl⟩
                have hkl : kept.length = i := by rw [hkept]; unfold keptO; rw [keep_len]; exact HWl.out
                obtain ⟨ks, hks⟩ : ∃ ks, ks = kept.map (idI ms) := ⟨_, rfl⟩
                obtain ⟨neg, hneg⟩ : ∃ neg : List Int, neg = List.replicate i (-1) := ⟨_, rfl⟩
                have hkn : ks.length = neg.length := by rw [hks, hneg, List.length_map, List.length_replicate]; exact hkl
                have hnl : neg.length = i := by rw [hneg, List.length_replicate]
                obtain ⟨gc, hgc⟩ : ∃ gc, gc = wr.heap.size := ⟨_, rfl⟩
                obtain ⟨St, hSt⟩ : ∃ St : Nat → Thing, St = fun y => (intsT (some ⟨gc, 0, none⟩) x x (cL x (stK q (fun _ => 0) who y))).sep ((ownsT a2 i c4 (oL ps (mix ks neg y))).sep ((intsT (some ⟨gq, 0, none⟩) x x (cL x q)).sep (intsT (some ⟨gh, 0, none⟩) x x (cL x h)))) := ⟨_, rfl⟩
                have K6 := Lib.hid (show Held w (wr.alloc (.cells (ints (List.replicate x 0)).toArray 3)) (St 0) from by
                  rw [hqn] at hH
                  have h1 := (lit_held hH (l := List.replicate x 0) (n := x) (by simp) (by omega)).swap
                  rw [hSt]
                  show Held w _ ((intsT (some ⟨gc, 0, none⟩) x x (cL x (stK q (fun _ => 0) who 0))).sep ((ownsT a2 i c4 (oL ps (mix ks neg 0))).sep _))
                  rw [stK_zero, cL_zero, mix_zero, hneg, hgc]
                  exact h1.imp2 (fun h => sep_imp2 (fun h => h) (fun h => sep_swap (sep_assoc' h)) h))
                clear hH
                go_wp2_with fail
                rw [← hgc]
                clear hgc
                go_loopw [19] (fun yx wq => ∃ y : Nat, y ≤ i ∧ yx = .int .i64 y ∧ Held w wq (St y)) (fun yx _ => i - (intOf yx).toNat)
                case atStart => exact ⟨0, Nat.zero_le _, rfl, K6.out⟩
                case round =>
                  clear K6
                  obtain ⟨y, hy, rfl, hH⟩ := hrel
                  by_cases hyi : y < i
                  · obtain ⟨⟨pf, pt⟩, hp⟩ := get_some (l := ps) (i := y) (by rw [← HN.out]; exact hyi)
                    obtain ⟨hd, hhd⟩ : ∃ hd, hd = hadI os (pf, pt) := ⟨_, rfl⟩
                    have hwy := HWh.out y _ hp
                    rw [← hhd] at hwy
                    obtain ⟨kz, hkz⟩ : ∃ kz, kz = (idxI ms hd).getD x := ⟨_, rfl⟩
                    have hyI : (y : Int) < (i : Int) := by omega
                    have KH := Lib.hid (show Held w wr (St (if kz < 0 then y + 1 else y)) from by rw [if_neg (Nat.not_lt_zero _)]; exact hH)
                    have HHp := Lib.hid (fun V (hs : Still w V) => HHad.out V hs (pf, pt))
                    dsimp only at HHp
                    rw [← hhd] at HHp
                    obtain ⟨bp, op, rfl, hc⟩ := row_still HB.out hH.ground y _ hp
                    have HCp := Lib.hid (fun V (hs : Still w V) => show V.cell? ⟨bp, op + y * 2, none⟩ = some (.int .i64 pf) ∧ V.cell? ⟨bp, op + y * 2 + 1, none⟩ = some (.int .i64 pt) from by
                      obtain ⟨b', o', e, hd⟩ := row_still HB.out hs y _ hp
                      obtain ⟨rfl, rfl⟩ : bp = b' ∧ op = o' := by simpa using e
                      exact ⟨hd 0 _ rfl, by rw [Nat.add_assoc]; exact hd 1 _ rfl⟩)
                    clear hH hc
                    go_wp2_with fail
                    go_loopw [20] (fun zx wq => ∃ z : Nat, z ≤ x ∧ zx = .int .i64 z ∧ Held w wq (St (if kz < z then y + 1 else y))) (fun zx _ => x - (intOf zx).toNat)
                    case atStart => exact ⟨0, Nat.zero_le _, rfl, KH.out⟩
                    case round =>
                      clear KH
                      obtain ⟨z, hz, rfl, hH⟩ := hrel
                      by_cases hzx : z < x
                      · obtain ⟨mk, hmk2⟩ := get_some (l := ms) (i := z) (by rw [← HM.out]; exact hzx)
                        obtain ⟨bm, om, rfl, cm⟩ := (HA.out.still hH.ground) z mk hmk2
                        have HC := Lib.hid (fun V (hs : Still w V) => show V.cell? ⟨bp, op + y * 2, none⟩ = some (.int .i64 pf) ∧ V.cell? ⟨bp, op + y * 2 + 1, none⟩ = some (.int .i64 pt) ∧ V.cell? ⟨bm, om + z, none⟩ = some (.int .i64 mk) from by
                          obtain ⟨p1, p2⟩ := HCp.out V hs
                          obtain ⟨b'', o'', e2, hd2⟩ := (HA.out.still hs) z mk hmk2
                          obtain ⟨rfl, rfl⟩ : bm = b'' ∧ om = o'' := by simpa using e2
                          exact ⟨p1, p2, hd2⟩)
                        have hix := HIx.out hd z mk hmk2
                        have hzi : (z : Int) < (x : Int) := by omega
                        have KD := Lib.hid (hH.still (Turned.refl _ _).drew)
                        obtain ⟨y0, y1, y2⟩ := HC.out _ hH.ground
                        obtain ⟨x0, x1, x2⟩ := HC.out _ KD.out.ground
                        by_cases heq : hd = mk
                        · have hzk : kz = z := by rw [hkz, hix.2 heq]; rfl
                          subst heq
                          have hwz : who[y]? = some (some z) := by rw [hwy, hix.2 rfl]
                          obtain ⟨cc, hcc⟩ : ∃ cc, cc = stK q (fun _ => 0) who y z := ⟨_, rfl⟩
                          obtain ⟨qz, hqz⟩ : ∃ qz, qz = q z := ⟨_, rfl⟩
                          have hkp := keep_some (q := q) (c := fun _ => 0) hwz
                          have hst := stK_some (q := q) (c := fun _ => 0) hwz
                          rw [← hcc, ← hqz] at hkp hst
                          have hkq : kept[y]? = (keepL q (fun _ => 0) who)[y]? := by rw [hkept, hq]; rfl
                          have hqb := HQb.out z
                          rw [← hqz] at hqb
                          rw [if_neg (show ¬ kz < z by omega)] at hH KD
                          have HD := Lib.hid (fun V (H : Held w V (St y)) => show V.cell? ⟨gc, z, none⟩ = some (.int .i64 (cc : Int)) ∧ V.cell? ⟨gq, z, none⟩ = some (.int .i64 (qz : Int)) from by
                            rw [hSt] at H
                            obtain ⟨p1, _, _⟩ := held_put H (cL_get _ hzx)
                            rw [← hcc] at p1
                            obtain ⟨b2, o2, e2, p2⟩ := ints_at H.snd.snd.drop (cL_len x q).symm z _ (cL_get q hzx)
                            obtain ⟨rfl, rfl⟩ : gq = b2 ∧ 0 = o2 := by simpa using e2
                            rw [Nat.zero_add, ← hqz] at p2
                            exact ⟨p1, p2⟩)
                          obtain ⟨y3, y4⟩ := HD.out _ hH
                          obtain ⟨x3, x4⟩ := HD.out _ KD.out
                          have heqb : (hd == hd) = true := by simp
                          by_cases hroom : cc < qz
                          · rw [if_pos hroom] at hkp hst
                            have hksy : ks[y]? = some hd := by
                              rw [hks, List.getElem?_map, hkq, hkp]
                              show some (idI ms (some z)) = _
                              obtain ⟨hj1, hj2⟩ := List.getElem?_eq_some_iff.1 hmk2
                              rw [idI_at hj1, hj2]
                            obtain ⟨g0, hg0⟩ : ∃ g0, a2 = some ⟨g0, 0, none⟩ := by
                              have := hH; rw [hSt] at this
                              obtain ⟨_, h, _⟩ := this.snd.drop
                              exact owm_addr h.1 (by omega)
                            have hmy : (mix ks neg y)[y]? = some (-1) := by
                              rw [mix_get hkn (by omega), if_neg (Nat.lt_irrefl _), hneg, List.getElem?_replicate, if_pos hyi]
                            have HPo := Lib.hid (fun V (H : Held w V (St y)) => show V.cell? ⟨g0, y * 3 + 2, none⟩ = some (.int .i64 (-1)) ∧ V.frozen? ⟨g0, y * 3 + 2, none⟩ = false ∧ ∀ v : Int, Held w (V.setCell ⟨g0, y * 3 + 2, none⟩ (.int .i64 v)) ((intsT (some ⟨gc, 0, none⟩) x x (cL x (stK q (fun _ => 0) who y))).sep ((ownsT a2 i c4 (oL ps ((mix ks neg y).set y v))).sep ((intsT (some ⟨gq, 0, none⟩) x x (cL x q)).sep (intsT (some ⟨gh, 0, none⟩) x x (cL x h))))) from by
                              rw [hSt] at H
                              have H' := H.turn
                              rw [hg0] at H'
                              obtain ⟨p1, p2, p3⟩ := held_putO H' hp hmy
                              refine ⟨p1, p2, fun v => ?_⟩
                              rw [hg0]
                              exact (p3 v).turn)
                            have HPc := Lib.hid (fun V (H : Held w V ((intsT (some ⟨gc, 0, none⟩) x x (cL x (stK q (fun _ => 0) who y))).sep ((ownsT a2 i c4 (oL ps ((mix ks neg y).set y hd))).sep ((intsT (some ⟨gq, 0, none⟩) x x (cL x q)).sep (intsT (some ⟨gh, 0, none⟩) x x (cL x h)))))) => show V.cell? ⟨gc, z, none⟩ = some (.int .i64 (cc : Int)) ∧ V.frozen? ⟨gc, z, none⟩ = false ∧ ∀ v : Int, Held w (V.setCell ⟨gc, z, none⟩ (.int .i64 v)) ((intsT (some ⟨gc, 0, none⟩) x x ((cL x (stK q (fun _ => 0) who y)).set z v)).sep ((ownsT a2 i c4 (oL ps ((mix ks neg y).set y hd))).sep ((intsT (some ⟨gq, 0, none⟩) x x (cL x q)).sep (intsT (some ⟨gh, 0, none⟩) x x (cL x h))))) from by
                              have := held_put H (cL_get _ hzx)
                              rw [← hcc] at this
                              exact this)
                            have HNx := Lib.hid (fun V (H : Held w V ((intsT (some ⟨gc, 0, none⟩) x x ((cL x (stK q (fun _ => 0) who y)).set z ((cc : Int) + 1))).sep ((ownsT a2 i c4 (oL ps ((mix ks neg y).set y hd))).sep ((intsT (some ⟨gq, 0, none⟩) x x (cL x q)).sep (intsT (some ⟨gh, 0, none⟩) x x (cL x h)))))) => show Held w V (St (if kz < z + 1 then y + 1 else y)) from by
                              rw [if_pos (by omega), hSt]
                              have e1 := cL_set (c := stK q (fun _ => 0) who y) (d := stK q (fun _ => 0) who (y + 1)) hzx (fun j _ hj => by rw [hst]; unfold upd; rw [if_neg hj])
                              rw [show stK q (fun _ => 0) who (y + 1) z = cc + 1 from by rw [hst]; unfold upd; rw [if_pos rfl, hcc]] at e1
                              rw [show ((cc : Int) + 1) = ((cc + 1 : Nat) : Int) from rfl, e1, mix_set hkn hksy] at H
                              exact H)
                            have hri2 : (cc : Int) < (qz : Int) := by omega
                            have hrb : decide ((cc : Int) < (qz : Int)) = true := decide_eq_true hri2
                            have hrb2 : decide (cc < qz) = true := decide_eq_true hroom
                            have hqi : (qz : Int) ≤ 257 := by omega
                            rw [hg0] at HPc HNx HPo
                            clear hH hp hmk2 hhd hix hwy hkz hcc hqz hkp hst hkq hwz hksy hmy hqb hzk
                            subst hg0
                            go_wp2_with fail
                            refine wp_region_noPanic ?_
                            refine wp_region_held_drew (S := (fun V => V.cell? ⟨bp, op + y * 2, none⟩ = some (.int .i64 pf) ∧ V.cell? ⟨bp, op + y * 2 + 1, none⟩ = some (.int .i64 pt) ∧ V.cell? ⟨bm, om + z, none⟩ = some (.int .i64 hd) ∧ V.cell? ⟨gc, z, none⟩ = some (.int .i64 (cc : Int)) ∧ V.cell? ⟨gq, z, none⟩ = some (.int .i64 (qz : Int)))) (by kernel_rfl) (by exact ⟨by assumption, by assumption, by assumption, by assumption, by assumption⟩) (fun hHeld => ?_)
                            refine wpAnyH_take (i := 0) (v := ?_) (List.getElem?_toArray.trans rfl) (by kernel_rfl) (by kernel_rfl) (by kernel_rfl) (fun _ _ _ h => h) (Or.inl ⟨by rfl, ?_⟩) hHeld ?_
                            rotate_left
                            · intro V hV; obtain ⟨k0, k1, k2, k3, k4⟩ := hV; go_simp; all_goals with_reducible rfl
                            try simp only [Act.put, List.setIfInBounds_toArray, List.set_cons_zero, List.set_cons_succ]
                            refine wpAnyH_take (i := 1) (v := ?_) (List.getElem?_toArray.trans rfl) (by kernel_rfl) (by kernel_rfl) (by kernel_rfl) (fun _ _ _ h => h) (Or.inl ⟨by rfl, ?_⟩) hHeld ?_
                            rotate_left
                            · intro V hV; obtain ⟨k0, k1, k2, k3, k4⟩ := hV; go_simp; all_goals with_reducible rfl
                            try simp only [Act.put, List.setIfInBounds_toArray, List.set_cons_zero, List.set_cons_succ]
                            refine wpAnyH_take (i := 2) (v := ?_) (List.getElem?_toArray.trans rfl) (by kernel_rfl) (by kernel_rfl) (by kernel_rfl) (fun _ _ _ h => h) (Or.inl ⟨by rfl, ?_⟩) hHeld ?_
                            rotate_left
                            · intro V hV; obtain ⟨k0, k1, k2, k3, k4⟩ := hV; go_simp; all_goals with_reducible rfl
                            try simp only [Act.put, List.setIfInBounds_toArray, List.set_cons_zero, List.set_cons_succ]
                            refine wpAnyH_take (i := 3) (v := ?_) (List.getElem?_toArray.trans rfl) (by kernel_rfl) (by kernel_rfl) (by kernel_rfl) (fun _ _ _ h => h) (Or.inl ⟨by rfl, ?_⟩) hHeld ?_
                            rotate_left
                            · intro V hV; obtain ⟨k0, k1, k2, k3, k4⟩ := hV; go_simp; all_goals with_reducible rfl
                            try simp only [Act.put, List.setIfInBounds_toArray, List.set_cons_zero, List.set_cons_succ]
                            refine wpAnyH_take (i := 4) (v := ?_) (List.getElem?_toArray.trans rfl) (by kernel_rfl) (by kernel_rfl) (by kernel_rfl) (fun _ _ _ h => h) (Or.inl ⟨by rfl, ?_⟩) hHeld ?_
                            rotate_left
                            · intro V hV; obtain ⟨k0, k1, k2, k3, k4⟩ := hV; go_simp; all_goals with_reducible rfl
                            try simp only [Act.put, List.setIfInBounds_toArray, List.set_cons_zero, List.set_cons_succ]
                            refine wpAnyH_take (i := 6) (v := ?_) (List.getElem?_toArray.trans rfl) (by kernel_rfl) (by kernel_rfl) (by kernel_rfl) (fun _ _ _ h => h) (Or.inl ⟨by rfl, ?_⟩) hHeld ?_
                            rotate_left
                            · intro V hV; obtain ⟨k0, k1, k2, k3, k4⟩ := hV; go_simp; all_goals with_reducible rfl
                            try simp only [Act.put, List.setIfInBounds_toArray, List.set_cons_zero, List.set_cons_succ]
                            refine wpAnyH_take (i := 7) (v := ?_) (List.getElem?_toArray.trans rfl) (by kernel_rfl) (by kernel_rfl) (by kernel_rfl) (fun _ _ _ h => h) (Or.inl ⟨by rfl, ?_⟩) hHeld ?_
                            rotate_left
                            · intro V hV; obtain ⟨k0, k1, k2, k3, k4⟩ := hV; go_simp; all_goals with_reducible rfl
                            try simp only [Act.put, List.setIfInBounds_toArray, List.set_cons_zero, List.set_cons_succ]
                            refine wpAnyH_take (i := 8) (v := ?_) (List.getElem?_toArray.trans rfl) (by kernel_rfl) (by kernel_rfl) (by kernel_rfl) (fun _ _ _ h => h) (Or.inl ⟨by rfl, ?_⟩) hHeld ?_
                            rotate_left
                            · intro V hV; obtain ⟨k0, k1, k2, k3, k4⟩ := hV; go_simp; all_goals with_reducible rfl
                            try simp only [Act.put, List.setIfInBounds_toArray, List.set_cons_zero, List.set_cons_succ]
                            refine wpAnyH_take (i := 9) (v := ?_) (List.getElem?_toArray.trans rfl) (by kernel_rfl) (by kernel_rfl) (by kernel_rfl) (fun _ _ _ h => h) (Or.inl ⟨by rfl, ?_⟩) hHeld ?_
                            rotate_left
                            · intro V hV; obtain ⟨k0, k1, k2, k3, k4⟩ := hV; go_simp; all_goals with_reducible rfl
                            try simp only [Act.put, List.setIfInBounds_toArray, List.set_cons_zero, List.set_cons_succ]
                            refine wpAnyH_ready (rs := [5]) (by kernel_rfl) (by simp) ?_
                            refine AllReadyH.cons (List.getElem?_toArray.trans rfl) (fun K hK => ?_) ?_
                            · go_simp
                              (with_reducible refine (HHp.out _ KD.out.ground).mono ?_); rintro e w5 ⟨rfl, hs⟩; have K5 := Lib.hid (KD.out.still hs); obtain ⟨z0, z1, z2⟩ := HC.out _ K5.out.ground; obtain ⟨z3, z4⟩ := HD.out _ K5.out; clear hs KD
                              go_wp2_with fail
                              refine hK.out _ _ ?_ (fun hHeld => ?_)
                              · exact ⟨by assumption, by assumption, by assumption, by assumption, by assumption⟩
                              clear hK K
                              try simp only [Act.put, List.setIfInBounds_toArray, List.set_cons_zero, List.set_cons_succ]
                              refine wpAnyH_take (i := 10) (v := ?_) (List.getElem?_toArray.trans rfl) (by kernel_rfl) (by kernel_rfl) (by kernel_rfl) (fun _ _ _ h => h) (Or.inl ⟨by rfl, ?_⟩) hHeld ?_
                              rotate_left
                              · intro V hV; obtain ⟨k0, k1, k2, k3, k4⟩ := hV; go_simp; all_goals with_reducible rfl
                              try simp only [Act.put, List.setIfInBounds_toArray, List.set_cons_zero, List.set_cons_succ]
                              refine wpAnyH_take (i := 11) (v := ?_) (List.getElem?_toArray.trans rfl) (by kernel_rfl) (by kernel_rfl) (by kernel_rfl) (fun _ _ _ h => h) (Or.inl ⟨by rfl, ?_⟩) hHeld ?_
                              rotate_left
                              · intro V hV; obtain ⟨k0, k1, k2, k3, k4⟩ := hV; go_simp; all_goals with_reducible rfl
                              try simp only [Act.put, List.setIfInBounds_toArray, List.set_cons_zero, List.set_cons_succ]
                              refine wpAnyH_take (i := 12) (v := ?_) (List.getElem?_toArray.trans rfl) (by kernel_rfl) (by kernel_rfl) (by kernel_rfl) (fun _ _ _ h => h) (Or.inl ⟨by rfl, ?_⟩) hHeld ?_
                              rotate_left
                              · intro V hV; obtain ⟨k0, k1, k2, k3, k4⟩ := hV; go_simp; all_goals with_reducible rfl
                              try simp only [Act.put, List.setIfInBounds_toArray, List.set_cons_zero, List.set_cons_succ]
                              refine wpAnyH_take (i := 13) (v := ?_) (List.getElem?_toArray.trans rfl) (by kernel_rfl) (by kernel_rfl) (by kernel_rfl) (fun _ _ _ h => h) (Or.inl ⟨by rfl, ?_⟩) hHeld ?_
                              rotate_left
                              · intro V hV; obtain ⟨k0, k1, k2, k3, k4⟩ := hV; go_simp; all_goals with_reducible rfl
                              try simp only [Act.put, List.setIfInBounds_toArray, List.set_cons_zero, List.set_cons_succ]
                              refine wpAnyH_take (i := 14) (v := ?_) (List.getElem?_toArray.trans rfl) (by kernel_rfl) (by kernel_rfl) (by kernel_rfl) (fun _ _ _ h => h) (Or.inl ⟨by rfl, ?_⟩) hHeld ?_
                              rotate_left
                              · intro V hV; obtain ⟨k0, k1, k2, k3, k4⟩ := hV; go_simp; all_goals with_reducible rfl
                              try simp only [Act.put, List.setIfInBounds_toArray, List.set_cons_zero, List.set_cons_succ]
                              refine wpAnyH_take (i := 15) (v := ?_) (List.getElem?_toArray.trans rfl) (by kernel_rfl) (by kernel_rfl) (by kernel_rfl) (fun _ _ _ h => h) (Or.inl ⟨by rfl, ?_⟩) hHeld ?_
                              rotate_left
                              · intro V hV; obtain ⟨k0, k1, k2, k3, k4⟩ := hV; go_simp; all_goals with_reducible rfl
                              try simp only [Act.put, List.setIfInBounds_toArray, List.set_cons_zero, List.set_cons_succ]
                              refine wpAnyH_take (i := 16) (v := ?_) (List.getElem?_toArray.trans rfl) (by kernel_rfl) (by kernel_rfl) (by kernel_rfl) (fun _ _ _ h => h) (Or.inl ⟨by rfl, ?_⟩) hHeld ?_
                              rotate_left
                              · intro V hV; obtain ⟨k0, k1, k2, k3, k4⟩ := hV; go_simp; all_goals with_reducible rfl
                              try simp only [Act.put, List.setIfInBounds_toArray, List.set_cons_zero, List.set_cons_succ]
                              refine wpAnyH_take (i := 17) (v := ?_) (List.getElem?_toArray.trans rfl) (by kernel_rfl) (by kernel_rfl) (by kernel_rfl) (fun _ _ _ h => h) (Or.inl ⟨by rfl, ?_⟩) hHeld ?_
                              rotate_left
                              · intro V hV; obtain ⟨k0, k1, k2, k3, k4⟩ := hV; go_simp; all_goals with_reducible rfl
                              try simp only [Act.put, List.setIfInBounds_toArray, List.set_cons_zero, List.set_cons_succ]
                              refine wpAnyH_take (i := 18) (v := ?_) (List.getElem?_toArray.trans rfl) (by kernel_rfl) (by kernel_rfl) (by kernel_rfl) (fun _ _ _ h => h) (Or.inl ⟨by rfl, ?_⟩) hHeld ?_
                              rotate_left
                              · intro V hV; obtain ⟨k0, k1, k2, k3, k4⟩ := hV; go_simp; all_goals with_reducible rfl
                              try simp only [Act.put, List.setIfInBounds_toArray, List.set_cons_zero, List.set_cons_succ]
                              refine wpAnyH_take (i := 19) (v := ?_) (List.getElem?_toArray.trans rfl) (by kernel_rfl) (by kernel_rfl) (by kernel_rfl) (fun _ _ _ h => h) (Or.inl ⟨by rfl, ?_⟩) hHeld ?_
                              rotate_left
                              · intro V hV; obtain ⟨k0, k1, k2, k3, k4⟩ := hV; go_simp; all_goals with_reducible rfl
                              try simp only [Act.put, List.setIfInBounds_toArray, List.set_cons_zero, List.set_cons_succ]
                              refine wpAnyH_take (i := 20) (v := ?_) (List.getElem?_toArray.trans rfl) (by kernel_rfl) (by kernel_rfl) (by kernel_rfl) (fun _ _ _ h => h) (Or.inl ⟨by rfl, ?_⟩) hHeld ?_
                              rotate_left
                              · intro V hV; obtain ⟨k0, k1, k2, k3, k4⟩ := hV; go_simp; all_goals with_reducible rfl
                              try simp only [Act.put, List.setIfInBounds_toArray, List.set_cons_zero, List.set_cons_succ]
                              refine wpAnyH_take (i := 21) (v := ?_) (List.getElem?_toArray.trans rfl) (by kernel_rfl) (by kernel_rfl) (by kernel_rfl) (fun _ _ _ h => h) (Or.inl ⟨by rfl, ?_⟩) hHeld ?_
                              rotate_left
                              · intro V hV; obtain ⟨k0, k1, k2, k3, k4⟩ := hV; go_simp; all_goals with_reducible rfl
                              try simp only [Act.put, List.setIfInBounds_toArray, List.set_cons_zero, List.set_cons_succ]
                              refine wpAnyH_done (by kernel_rfl) ?_ _
                              refine NoPanic.normal ?_
                              obtain ⟨a0, a1, a2⟩ := HPo.out _ K5.out
                              obtain ⟨b0, b1, b2⟩ := HPc.out _ (a2 hd)
                              have K8 := Lib.hid (b2 ((cc : Int) + 1))
                              clear a2 b2
                              go_wp2_with fail
                              go_roundw
                              case rel => exact ⟨z + 1, by omega, by go_num, HNx.out _ K8.out⟩
                              case measure => simp [intOf]; omega
                            exact AllReadyH.nil
                          · rw [if_neg hroom] at hkp hst
                            have HNx := Lib.hid (show St (if kz < z + 1 then y + 1 else y) = St y from by
                              rw [if_pos (by omega), hSt]
                              show (intsT (some ⟨gc, 0, none⟩) x x (cL x (stK q (fun _ => 0) who (y + 1)))).sep ((ownsT a2 i c4 (oL ps (mix ks neg (y + 1)))).sep _) = _
                              rw [hst, mix_same hkn (by rw [hks, List.getElem?_map, hkq, hkp, hneg, List.getElem?_replicate, if_pos hyi]; rfl)])
                            have hri2 : ¬ (cc : Int) < (qz : Int) := by omega
                            have hrb : decide ((cc : Int) < (qz : Int)) = false := decide_eq_false hri2
                            have hrb2 : decide (cc < qz) = false := decide_eq_false hroom
                            clear hH hp hmk2 hhd hix hwy hkz hcc hqz hkp hst hkq hwz hqb hzk
                            go_wp2_with fail
                            refine wp_region_noPanic ?_
                            refine wp_region_held_drew (S := (fun V => V.cell? ⟨bp, op + y * 2, none⟩ = some (.int .i64 pf) ∧ V.cell? ⟨bp, op + y * 2 + 1, none⟩ = some (.int .i64 pt) ∧ V.cell? ⟨bm, om + z, none⟩ = some (.int .i64 hd) ∧ V.cell? ⟨gc, z, none⟩ = some (.int .i64 (cc : Int)) ∧ V.cell? ⟨gq, z, none⟩ = some (.int .i64 (qz : Int)))) (by kernel_rfl) (by exact ⟨by assumption, by assumption, by assumption, by assumption, by assumption⟩) (fun hHeld => ?_)
                            refine wpAnyH_take (i := 0) (v := ?_) (List.getElem?_toArray.trans rfl) (by kernel_rfl) (by kernel_rfl) (by kernel_rfl) (fun _ _ _ h => h) (Or.inl ⟨by rfl, ?_⟩) hHeld ?_
                            rotate_left
                            · intro V hV; obtain ⟨k0, k1, k2, k3, k4⟩ := hV; go_simp; all_goals with_reducible rfl
                            try simp only [Act.put, List.setIfInBounds_toArray, List.set_cons_zero, List.set_cons_succ]
                            refine wpAnyH_take (i := 1) (v := ?_) (List.getElem?_toArray.trans rfl) (by kernel_rfl) (by kernel_rfl) (by kernel_rfl) (fun _ _ _ h => h) (Or.inl ⟨by rfl, ?_⟩) hHeld ?_
                            rotate_left
                            · intro V hV; obtain ⟨k0, k1, k2, k3, k4⟩ := hV; go_simp; all_goals with_reducible rfl
                            try simp only [Act.put, List.setIfInBounds_toArray, List.set_cons_zero, List.set_cons_succ]
                            refine wpAnyH_take (i := 2) (v := ?_) (List.getElem?_toArray.trans rfl) (by kernel_rfl) (by kernel_rfl) (by kernel_rfl) (fun _ _ _ h => h) (Or.inl ⟨by rfl, ?_⟩) hHeld ?_
                            rotate_left
                            · intro V hV; obtain ⟨k0, k1, k2, k3, k4⟩ := hV; go_simp; all_goals with_reducible rfl
                            try simp only [Act.put, List.setIfInBounds_toArray, List.set_cons_zero, List.set_cons_succ]
                            refine wpAnyH_take (i := 3) (v := ?_) (List.getElem?_toArray.trans rfl) (by kernel_rfl) (by kernel_rfl) (by kernel_rfl) (fun _ _ _ h => h) (Or.inl ⟨by rfl, ?_⟩) hHeld ?_
                            rotate_left
                            · intro V hV; obtain ⟨k0, k1, k2, k3, k4⟩ := hV; go_simp; all_goals with_reducible rfl
                            try simp only [Act.put, List.setIfInBounds_toArray, List.set_cons_zero, List.set_cons_succ]
                            refine wpAnyH_take (i := 4) (v := ?_) (List.getElem?_toArray.trans rfl) (by kernel_rfl) (by kernel_rfl) (by kernel_rfl) (fun _ _ _ h => h) (Or.inl ⟨by rfl, ?_⟩) hHeld ?_
                            rotate_left
                            · intro V hV; obtain ⟨k0, k1, k2, k3, k4⟩ := hV; go_simp; all_goals with_reducible rfl
                            try simp only [Act.put, List.setIfInBounds_toArray, List.set_cons_zero, List.set_cons_succ]
                            refine wpAnyH_take (i := 6) (v := ?_) (List.getElem?_toArray.trans rfl) (by kernel_rfl) (by kernel_rfl) (by kernel_rfl) (fun _ _ _ h => h) (Or.inl ⟨by rfl, ?_⟩) hHeld ?_
                            rotate_left
                            · intro V hV; obtain ⟨k0, k1, k2, k3, k4⟩ := hV; go_simp; all_goals with_reducible rfl
                            try simp only [Act.put, List.setIfInBounds_toArray, List.set_cons_zero, List.set_cons_succ]
                            refine wpAnyH_take (i := 7) (v := ?_) (List.getElem?_toArray.trans rfl) (by kernel_rfl) (by kernel_rfl) (by kernel_rfl) (fun _ _ _ h => h) (Or.inl ⟨by rfl, ?_⟩) hHeld ?_
                            rotate_left
                            · intro V hV; obtain ⟨k0, k1, k2, k3, k4⟩ := hV; go_simp; all_goals with_reducible rfl
                            try simp only [Act.put, List.setIfInBounds_toArray, List.set_cons_zero, List.set_cons_succ]
                            refine wpAnyH_take (i := 8) (v := ?_) (List.getElem?_toArray.trans rfl) (by kernel_rfl) (by kernel_rfl) (by kernel_rfl) (fun _ _ _ h => h) (Or.inl ⟨by rfl, ?_⟩) hHeld ?_
                            rotate_left
                            · intro V hV; obtain ⟨k0, k1, k2, k3, k4⟩ := hV; go_simp; all_goals with_reducible rfl
                            try simp only [Act.put, List.setIfInBounds_toArray, List.set_cons_zero, List.set_cons_succ]
                            refine wpAnyH_take (i := 9) (v := ?_) (List.getElem?_toArray.trans rfl) (by kernel_rfl) (by kernel_rfl) (by kernel_rfl) (fun _ _ _ h => h) (Or.inl ⟨by rfl, ?_⟩) hHeld ?_
                            rotate_left
                            · intro V hV; obtain ⟨k0, k1, k2, k3, k4⟩ := hV; go_simp; all_goals with_reducible rfl
                            try simp only [Act.put, List.setIfInBounds_toArray, List.set_cons_zero, List.set_cons_succ]
                            refine wpAnyH_ready (rs := [5]) (by kernel_rfl) (by simp) ?_
                            refine AllReadyH.cons (List.getElem?_toArray.trans rfl) (fun K hK => ?_) ?_
                            · go_simp
                              (with_reducible refine (HHp.out _ KD.out.ground).mono ?_); rintro e w5 ⟨rfl, hs⟩; have K5 := Lib.hid (KD.out.still hs); obtain ⟨z0, z1, z2⟩ := HC.out _ K5.out.ground; obtain ⟨z3, z4⟩ := HD.out _ K5.out; clear hs KD
                              go_wp2_with fail
                              refine hK.out _ _ ?_ (fun hHeld => ?_)
                              · exact ⟨by assumption, by assumption, by assumption, by assumption, by assumption⟩
                              clear hK K
                              try simp only [Act.put, List.setIfInBounds_toArray, List.set_cons_zero, List.set_cons_succ]
                              refine wpAnyH_take (i := 10) (v := ?_) (List.getElem?_toArray.trans rfl) (by kernel_rfl) (by kernel_rfl) (by kernel_rfl) (fun _ _ _ h => h) (Or.inl ⟨by rfl, ?_⟩) hHeld ?_
                              rotate_left
                              · intro V hV; obtain ⟨k0, k1, k2, k3, k4⟩ := hV; go_simp; all_goals with_reducible rfl
                              try simp only [Act.put, List.setIfInBounds_toArray, List.set_cons_zero, List.set_cons_succ]
                              refine wpAnyH_take (i := 11) (v := ?_) (List.getElem?_toArray.trans rfl) (by kernel_rfl) (by kernel_rfl) (by kernel_rfl) (fun _ _ _ h => h) (Or.inl ⟨by rfl, ?_⟩) hHeld ?_
                              rotate_left
                              · intro V hV; obtain ⟨k0, k1, k2, k3, k4⟩ := hV; go_simp; all_goals with_reducible rfl
                              try simp only [Act.put, List.setIfInBounds_toArray, List.set_cons_zero, List.set_cons_succ]
                              refine wpAnyH_take (i := 12) (v := ?_) (List.getElem?_toArray.trans rfl) (by kernel_rfl) (by kernel_rfl) (by kernel_rfl) (fun _ _ _ h => h) (Or.inl ⟨by rfl, ?_⟩) hHeld ?_
                              rotate_left
                              · intro V hV; obtain ⟨k0, k1, k2, k3, k4⟩ := hV; go_simp; all_goals with_reducible rfl
                              try simp only [Act.put, List.setIfInBounds_toArray, List.set_cons_zero, List.set_cons_succ]
                              refine wpAnyH_take (i := 13) (v := ?_) (List.getElem?_toArray.trans rfl) (by kernel_rfl) (by kernel_rfl) (by kernel_rfl) (fun _ _ _ h => h) (Or.inl ⟨by rfl, ?_⟩) hHeld ?_
                              rotate_left
                              · intro V hV; obtain ⟨k0, k1, k2, k3, k4⟩ := hV; go_simp; all_goals with_reducible rfl
                              try simp only [Act.put, List.setIfInBounds_toArray, List.set_cons_zero, List.set_cons_succ]
                              refine wpAnyH_take (i := 14) (v := ?_) (List.getElem?_toArray.trans rfl) (by kernel_rfl) (by kernel_rfl) (by kernel_rfl) (fun _ _ _ h => h) (Or.inl ⟨by rfl, ?_⟩) hHeld ?_
                              rotate_left
                              · intro V hV; obtain ⟨k0, k1, k2, k3, k4⟩ := hV; go_simp; all_goals with_reducible rfl
                              try simp only [Act.put, List.setIfInBounds_toArray, List.set_cons_zero, List.set_cons_succ]
                              refine wpAnyH_take (i := 15) (v := ?_) (List.getElem?_toArray.trans rfl) (by kernel_rfl) (by kernel_rfl) (by kernel_rfl) (fun _ _ _ h => h) (Or.inl ⟨by rfl, ?_⟩) hHeld ?_
                              rotate_left
                              · intro V hV; obtain ⟨k0, k1, k2, k3, k4⟩ := hV; go_simp; all_goals with_reducible rfl
                              try simp only [Act.put, List.setIfInBounds_toArray, List.set_cons_zero, List.set_cons_succ]
                              refine wpAnyH_take (i := 16) (v := ?_) (List.getElem?_toArray.trans rfl) (by kernel_rfl) (by kernel_rfl) (by kernel_rfl) (fun _ _ _ h => h) (Or.inl ⟨by rfl, ?_⟩) hHeld ?_
                              rotate_left
                              · intro V hV; obtain ⟨k0, k1, k2, k3, k4⟩ := hV; go_simp; all_goals with_reducible rfl
                              try simp only [Act.put, List.setIfInBounds_toArray, List.set_cons_zero, List.set_cons_succ]
                              refine wpAnyH_take (i := 17) (v := ?_) (List.getElem?_toArray.trans rfl) (by kernel_rfl) (by kernel_rfl) (by kernel_rfl) (fun _ _ _ h => h) (Or.inl ⟨by rfl, ?_⟩) hHeld ?_
                              rotate_left
                              · intro V hV; obtain ⟨k0, k1, k2, k3, k4⟩ := hV; go_simp; all_goals with_reducible rfl
                              try simp only [Act.put, List.setIfInBounds_toArray, List.set_cons_zero, List.set_cons_succ]
                              refine wpAnyH_take (i := 18) (v := ?_) (List.getElem?_toArray.trans rfl) (by kernel_rfl) (by kernel_rfl) (by kernel_rfl) (fun _ _ _ h => h) (Or.inl ⟨by rfl, ?_⟩) hHeld ?_
                              rotate_left
                              · intro V hV; obtain ⟨k0, k1, k2, k3, k4⟩ := hV; go_simp; all_goals with_reducible rfl
                              try simp only [Act.put, List.setIfInBounds_toArray, List.set_cons_zero, List.set_cons_succ]
                              refine wpAnyH_take (i := 19) (v := ?_) (List.getElem?_toArray.trans rfl) (by kernel_rfl) (by kernel_rfl) (by kernel_rfl) (fun _ _ _ h => h) (Or.inl ⟨by rfl, ?_⟩) hHeld ?_
                              rotate_left
                              · intro V hV; obtain ⟨k0, k1, k2, k3, k4⟩ := hV; go_simp; all_goals with_reducible rfl
                              try simp only [Act.put, List.setIfInBounds_toArray, List.set_cons_zero, List.set_cons_succ]
                              refine wpAnyH_take (i := 20) (v := ?_) (List.getElem?_toArray.trans rfl) (by kernel_rfl) (by kernel_rfl) (by kernel_rfl) (fun _ _ _ h => h) (Or.inl ⟨by rfl, ?_⟩) hHeld ?_
                              rotate_left
                              · intro V hV; obtain ⟨k0, k1, k2, k3, k4⟩ := hV; go_simp; all_goals with_reducible rfl
                              try simp only [Act.put, List.setIfInBounds_toArray, List.set_cons_zero, List.set_cons_succ]
                              refine wpAnyH_take (i := 21) (v := ?_) (List.getElem?_toArray.trans rfl) (by kernel_rfl) (by kernel_rfl) (by kernel_rfl) (fun _ _ _ h => h) (Or.inl ⟨by rfl, ?_⟩) hHeld ?_
                              rotate_left
                              · intro V hV; obtain ⟨k0, k1, k2, k3, k4⟩ := hV; go_simp; all_goals with_reducible rfl
                              try simp only [Act.put, List.setIfInBounds_toArray, List.set_cons_zero, List.set_cons_succ]
                              refine wpAnyH_done (by kernel_rfl) ?_ _
                              refine NoPanic.normal ?_
                              go_wp2_with fail
                              go_roundw
                              case rel => exact ⟨z + 1, by omega, by go_num, by rw [HNx.out]; exact K5.out⟩
                              case measure => simp [intOf]; omega
                            exact AllReadyH.nil
                        · have HNx := Lib.hid (show St (if kz < z + 1 then y + 1 else y) = St (if kz < z then y + 1 else y) from by
                            have : kz ≠ z := by
                              rw [hkz]
                              cases hi : idxI ms hd with
                              | none => show x ≠ z; omega
                              | some k0 => show k0 ≠ z; rintro rfl; exact heq (hix.1 hi)
                            by_cases h1 : kz < z
                            · rw [if_pos h1, if_pos (by omega)]
                            · rw [if_neg h1, if_neg (by omega)])
                          have heqb : (hd == mk) = false := by rw [beq_eq_false_iff_ne]; exact heq
                          clear hH hp hmk2 hhd hix hwy hkz
                          go_wp2_with fail
                          refine wp_region_noPanic ?_
                          refine wp_region_held_drew (S := (fun V => V.cell? ⟨bp, op + y * 2, none⟩ = some (.int .i64 pf) ∧ V.cell? ⟨bp, op + y * 2 + 1, none⟩ = some (.int .i64 pt) ∧ V.cell? ⟨bm, om + z, none⟩ = some (.int .i64 mk))) (by kernel_rfl) (by exact ⟨by assumption, by assumption, by assumption⟩) (fun hHeld => ?_)
                          refine wpAnyH_take (i := 0) (v := ?_) (List.getElem?_toArray.trans rfl) (by kernel_rfl) (by kernel_rfl) (by kernel_rfl) (fun _ _ _ h => h) (Or.inl ⟨by rfl, ?_⟩) hHeld ?_
                          rotate_left
                          · intro V hV; obtain ⟨k0, k1, k2⟩ := hV; go_simp; all_goals with_reducible rfl
                          try simp only [Act.put, List.setIfInBounds_toArray, List.set_cons_zero, List.set_cons_succ]
                          refine wpAnyH_take (i := 1) (v := ?_) (List.getElem?_toArray.trans rfl) (by kernel_rfl) (by kernel_rfl) (by kernel_rfl) (fun _ _ _ h => h) (Or.inl ⟨by rfl, ?_⟩) hHeld ?_
                          rotate_left
                          · intro V hV; obtain ⟨k0, k1, k2⟩ := hV; go_simp; all_goals with_reducible rfl
                          try simp only [Act.put, List.setIfInBounds_toArray, List.set_cons_zero, List.set_cons_succ]
                          refine wpAnyH_take (i := 2) (v := ?_) (List.getElem?_toArray.trans rfl) (by kernel_rfl) (by kernel_rfl) (by kernel_rfl) (fun _ _ _ h => h) (Or.inl ⟨by rfl, ?_⟩) hHeld ?_
                          rotate_left
                          · intro V hV; obtain ⟨k0, k1, k2⟩ := hV; go_simp; all_goals with_reducible rfl
                          try simp only [Act.put, List.setIfInBounds_toArray, List.set_cons_zero, List.set_cons_succ]
                          refine wpAnyH_take (i := 3) (v := ?_) (List.getElem?_toArray.trans rfl) (by kernel_rfl) (by kernel_rfl) (by kernel_rfl) (fun _ _ _ h => h) (Or.inl ⟨by rfl, ?_⟩) hHeld ?_
                          rotate_left
                          · intro V hV; obtain ⟨k0, k1, k2⟩ := hV; go_simp; all_goals with_reducible rfl
                          try simp only [Act.put, List.setIfInBounds_toArray, List.set_cons_zero, List.set_cons_succ]
                          refine wpAnyH_take (i := 4) (v := ?_) (List.getElem?_toArray.trans rfl) (by kernel_rfl) (by kernel_rfl) (by kernel_rfl) (fun _ _ _ h => h) (Or.inl ⟨by rfl, ?_⟩) hHeld ?_
                          rotate_left
                          · intro V hV; obtain ⟨k0, k1, k2⟩ := hV; go_simp; all_goals with_reducible rfl
                          try simp only [Act.put, List.setIfInBounds_toArray, List.set_cons_zero, List.set_cons_succ]
                          refine wpAnyH_take (i := 6) (v := ?_) (List.getElem?_toArray.trans rfl) (by kernel_rfl) (by kernel_rfl) (by kernel_rfl) (fun _ _ _ h => h) (Or.inl ⟨by rfl, ?_⟩) hHeld ?_
                          rotate_left
                          · intro V hV; obtain ⟨k0, k1, k2⟩ := hV; go_simp; all_goals with_reducible rfl
                          try simp only [Act.put, List.setIfInBounds_toArray, List.set_cons_zero, List.set_cons_succ]
                          refine wpAnyH_take (i := 7) (v := ?_) (List.getElem?_toArray.trans rfl) (by kernel_rfl) (by kernel_rfl) (by kernel_rfl) (fun _ _ _ h => h) (Or.inl ⟨by rfl, ?_⟩) hHeld ?_
                          rotate_left
                          · intro V hV; obtain ⟨k0, k1, k2⟩ := hV; go_simp; all_goals with_reducible rfl
                          try simp only [Act.put, List.setIfInBounds_toArray, List.set_cons_zero, List.set_cons_succ]
                          refine wpAnyH_take (i := 8) (v := ?_) (List.getElem?_toArray.trans rfl) (by kernel_rfl) (by kernel_rfl) (by kernel_rfl) (fun _ _ _ h => h) (Or.inl ⟨by rfl, ?_⟩) hHeld ?_
                          rotate_left
                          · intro V hV; obtain ⟨k0, k1, k2⟩ := hV; go_simp; all_goals with_reducible rfl
                          try simp only [Act.put, List.setIfInBounds_toArray, List.set_cons_zero, List.set_cons_succ]
                          refine wpAnyH_take (i := 9) (v := ?_) (List.getElem?_toArray.trans rfl) (by kernel_rfl) (by kernel_rfl) (by kernel_rfl) (fun _ _ _ h => h) (Or.inl ⟨by rfl, ?_⟩) hHeld ?_
                          rotate_left
                          · intro V hV; obtain ⟨k0, k1, k2⟩ := hV; go_simp; all_goals with_reducible rfl
                          try simp only [Act.put, List.setIfInBounds_toArray, List.set_cons_zero, List.set_cons_succ]
                          refine wpAnyH_ready (rs := [5]) (by kernel_rfl) (by simp) ?_
                          refine AllReadyH.cons (List.getElem?_toArray.trans rfl) (fun K hK => ?_) ?_
                          · go_simp
                            (with_reducible refine (HHp.out _ KD.out.ground).mono ?_); rintro e w5 ⟨rfl, hs⟩; have K5 := Lib.hid (KD.out.still hs); obtain ⟨z0, z1, z2⟩ := HC.out _ K5.out.ground; clear hs KD
                            go_wp2_with fail
                            refine hK.out _ _ ?_ (fun hHeld => ?_)
                            · exact ⟨by assumption, by assumption, by assumption⟩
                            clear hK K
                            try simp only [Act.put, List.setIfInBounds_toArray, List.set_cons_zero, List.set_cons_succ]
                            refine wpAnyH_take (i := 10) (v := ?_) (List.getElem?_toArray.trans rfl) (by kernel_rfl) (by kernel_rfl) (by kernel_rfl) (fun _ _ _ h => h) (Or.inl ⟨by rfl, ?_⟩) hHeld ?_
                            rotate_left
                            · intro V hV; obtain ⟨k0, k1, k2⟩ := hV; go_simp; all_goals with_reducible rfl
                            try simp only [Act.put, List.setIfInBounds_toArray, List.set_cons_zero, List.set_cons_succ]
                            refine wpAnyH_take (i := 11) (v := ?_) (List.getElem?_toArray.trans rfl) (by kernel_rfl) (by kernel_rfl) (by kernel_rfl) (fun _ _ _ h => h) (Or.inl ⟨by rfl, ?_⟩) hHeld ?_
                            rotate_left
                            · intro V hV; obtain ⟨k0, k1, k2⟩ := hV; go_simp; all_goals with_reducible rfl
                            try simp only [Act.put, List.setIfInBounds_toArray, List.set_cons_zero, List.set_cons_succ]
                            refine wpAnyH_take (i := 12) (v := undef) (List.getElem?_toArray.trans rfl) (by kernel_rfl) (by kernel_rfl) (by kernel_rfl) (fun _ _ _ h => h) (Or.inr ⟨by rfl, rfl⟩) hHeld ?_
                            try simp only [Act.put, List.setIfInBounds_toArray, List.set_cons_zero, List.set_cons_succ]
                            refine wpAnyH_take (i := 13) (v := undef) (List.getElem?_toArray.trans rfl) (by kernel_rfl) (by kernel_rfl) (by kernel_rfl) (fun _ _ _ h => h) (Or.inr ⟨by rfl, rfl⟩) hHeld ?_
                            try simp only [Act.put, List.setIfInBounds_toArray, List.set_cons_zero, List.set_cons_succ]
                            refine wpAnyH_take (i := 14) (v := undef) (List.getElem?_toArray.trans rfl) (by kernel_rfl) (by kernel_rfl) (by kernel_rfl) (fun _ _ _ h => h) (Or.inr ⟨by rfl, rfl⟩) hHeld ?_
                            try simp only [Act.put, List.setIfInBounds_toArray, List.set_cons_zero, List.set_cons_succ]
                            refine wpAnyH_take (i := 15) (v := undef) (List.getElem?_toArray.trans rfl) (by kernel_rfl) (by kernel_rfl) (by kernel_rfl) (fun _ _ _ h => h) (Or.inr ⟨by rfl, rfl⟩) hHeld ?_
                            try simp only [Act.put, List.setIfInBounds_toArray, List.set_cons_zero, List.set_cons_succ]
                            refine wpAnyH_take (i := 16) (v := undef) (List.getElem?_toArray.trans rfl) (by kernel_rfl) (by kernel_rfl) (by kernel_rfl) (fun _ _ _ h => h) (Or.inr ⟨by rfl, rfl⟩) hHeld ?_
                            try simp only [Act.put, List.setIfInBounds_toArray, List.set_cons_zero, List.set_cons_succ]
                            refine wpAnyH_take (i := 17) (v := undef) (List.getElem?_toArray.trans rfl) (by kernel_rfl) (by kernel_rfl) (by kernel_rfl) (fun _ _ _ h => h) (Or.inr ⟨by rfl, rfl⟩) hHeld ?_
                            try simp only [Act.put, List.setIfInBounds_toArray, List.set_cons_zero, List.set_cons_succ]
                            refine wpAnyH_take (i := 18) (v := undef) (List.getElem?_toArray.trans rfl) (by kernel_rfl) (by kernel_rfl) (by kernel_rfl) (fun _ _ _ h => h) (Or.inr ⟨by rfl, rfl⟩) hHeld ?_
                            try simp only [Act.put, List.setIfInBounds_toArray, List.set_cons_zero, List.set_cons_succ]
                            refine wpAnyH_take (i := 19) (v := undef) (List.getElem?_toArray.trans rfl) (by kernel_rfl) (by kernel_rfl) (by kernel_rfl) (fun _ _ _ h => h) (Or.inr ⟨by rfl, rfl⟩) hHeld ?_
                            try simp only [Act.put, List.setIfInBounds_toArray, List.set_cons_zero, List.set_cons_succ]
                            refine wpAnyH_take (i := 20) (v := undef) (List.getElem?_toArray.trans rfl) (by kernel_rfl) (by kernel_rfl) (by kernel_rfl) (fun _ _ _ h => h) (Or.inr ⟨by rfl, rfl⟩) hHeld ?_
                            try simp only [Act.put, List.setIfInBounds_toArray, List.set_cons_zero, List.set_cons_succ]
                            refine wpAnyH_take (i := 21) (v := ?_) (List.getElem?_toArray.trans rfl) (by kernel_rfl) (by kernel_rfl) (by kernel_rfl) (fun _ _ _ h => h) (Or.inl ⟨by rfl, ?_⟩) hHeld ?_
                            rotate_left
                            · intro V hV; obtain ⟨k0, k1, k2⟩ := hV; go_simp; all_goals with_reducible rfl
                            try simp only [Act.put, List.setIfInBounds_toArray, List.set_cons_zero, List.set_cons_succ]
                            refine wpAnyH_done (by kernel_rfl) ?_ _
                            refine NoPanic.normal ?_
                            go_wp2_with fail
                            go_roundw
                            case rel => exact ⟨z + 1, by omega, by go_num, by rw [HNx.out]; exact K5.out⟩
                            case measure => simp [intOf]; omega
                          exact AllReadyH.nil
                      · obtain rfl : z = x := by omega
                        have K7 := Lib.hid (show Held w wr (St (y + 1)) from by
                          cases hi : idxI ms hd with
                          | some k0 =>
                            rw [hi] at hkz
                            have : kz < z := by
                              rw [hkz]
                              have := idx_lt hi
                              rw [← HM.out] at this
                              exact this
                            rw [if_pos this] at hH
                            exact hH
                          | none =>
                            rw [hi] at hkz hwy
                            rw [if_neg (show ¬ kz < z by rw [hkz]; exact Nat.lt_irrefl _)] at hH
                            have hkp := keep_none (q := q) (c := fun _ => 0) hwy
                            have hkq : kept[y]? = (keepL q (fun _ => 0) who)[y]? := by rw [hkept, hq]; rfl
                            have : St (y + 1) = St y := by
                              rw [hSt]
                              show (intsT (some ⟨gc, 0, none⟩) z z (cL z (stK q (fun _ => 0) who (y + 1)))).sep ((ownsT a2 i c4 (oL ps (mix ks neg (y + 1)))).sep _) = _
                              rw [stK_none hwy, mix_same hkn (by rw [hks, List.getElem?_map, hkq, hkp, hneg, List.getElem?_replicate, if_pos hyi]; rfl)]
                            rw [this]; exact hH)
                        clear hH hkz hwy hhd hp
                        go_wp2_with fail
                        go_roundw
                        case rel => exact ⟨y + 1, by omega, by go_num, K7.out⟩
                        case measure => simp [intOf]; omega
                  · obtain rfl : y = i := by omega
                    obtain ⟨outs, houts⟩ : ∃ outs, outs = asgO x who := ⟨_, rfl⟩
                    obtain ⟨zs, hzs⟩ : ∃ zs, zs = outs.map (idI ms) := ⟨_, rfl⟩
                    have hol : outs.length = y := by rw [houts]; unfold asgO; rw [fill_len]; rw [← hkept]; exact hkl
                    have hzk : zs.length = ks.length := by rw [hzs, hks, List.length_map, List.length_map, hol, hkl]
                    have hkl' : ks.length = y := by rw [hks, List.length_map]; exact hkl
                    obtain ⟨cF, hcF⟩ : ∃ cF : Nat → Nat → Nat, cF = stF x q (cntO kept) kept := ⟨_, rfl⟩
                    obtain ⟨Su, hSu⟩ : ∃ Su : Nat → Thing, Su = fun v => (intsT (some ⟨gc, 0, none⟩) x x (cL x (cF v))).sep ((ownsT a2 y c4 (oL ps (mix zs ks v))).sep ((intsT (some ⟨gq, 0, none⟩) x x (cL x q)).sep (intsT (some ⟨gh, 0, none⟩) x x (cL x h)))) := ⟨_, rfl⟩
                    have K8 := Lib.hid (show Held w wr (Su 0) from by
                      rw [hSt] at hH
                      rw [hSu]
                      show Held w wr ((intsT (some ⟨gc, 0, none⟩) x x (cL x (cF 0))).sep ((ownsT a2 y c4 (oL ps (mix zs ks 0))).sep _))
                      have e1 : cL x (cF 0) = cL x (stK q (fun _ => 0) who y) := cL_congr fun j _ => by
                        rw [hcF, stF_zero, ← HWl.out, stK_all, Nat.zero_add, hkept, hq]; rfl
                      rw [e1, mix_zero]
                      have e2 : mix ks neg y = ks := by rw [← hnl]; exact mix_all hkn
                      have hH' : Held w wr ((intsT (some ⟨gc, 0, none⟩) x x (cL x (stK q (fun _ => 0) who y))).sep ((ownsT a2 y c4 (oL ps (mix ks neg y))).sep ((intsT (some ⟨gq, 0, none⟩) x x (cL x q)).sep (intsT (some ⟨gh, 0, none⟩) x x (cL x h))))) := hH
                      rw [e2] at hH'
                      exact hH')
                    have HFin := Lib.hid (show oL ps (mix zs ks y) = asgI ms ps os from by
                      have e : mix zs ks y = zs := by rw [← hkl']; exact mix_all hzk
                      rw [e, hzs, houts, hwho]
                      unfold oL asgI outI
                      rw [List.zipWith_map_right, HM.out])
                    have HKo := Lib.hid (fun (j : Nat) (o : Option Nat) (ho : kept[j]? = some o) => show o = none ∨ ∃ k0, k0 < x ∧ o = some k0 from by
                      have := keep_ok (m := x) (q := quoO x who) (c := fun _ => 0) (l := who) (by rw [hwho, HM.out]; exact who_ok ms ps os)
                      exact this o (by rw [hkept] at ho; exact List.mem_of_getElem? ho))
                    have HOs := Lib.hid (fun (j k0 : Nat) (ho : kept[j]? = some (some k0)) => show outs[j]? = some (some k0) from by
                      rw [houts]; unfold asgO; rw [hkept] at ho; exact fill_keep _ _ _ _ _ _ ho)
                    have HOn := Lib.hid (fun (j : Nat) (ho : kept[j]? = some none) => show outs[j]? = some (roomK x q (cF j)) from by
                      rw [houts, hcF, hq, hkept]; unfold asgO; rw [hkept] at ho; exact fill_none ho)
                    have HFs := Lib.hid (fun (j k0 : Nat) (ho : kept[j]? = some (some k0)) => show cF (j + 1) = cF j from by rw [hcF]; exact stF_some ho)
                    have HFn := Lib.hid (fun (j : Nat) (ho : kept[j]? = some none) => show cF (j + 1) = (match roomK x q (cF j) with | some k => upd (cF j) k | none => cF j) from by rw [hcF]; exact stF_none ho)
                    clear hH hSt houts hcF hkept hkn hnl hneg hq hwho
                    go_wp2_with fail
                    go_loopw [21] (fun vx wq => ∃ v : Nat, v ≤ y ∧ vx = .int .i64 v ∧ Held w wq (Su v)) (fun vx _ => y - (intOf vx).toNat)
                    case atStart => exact ⟨0, Nat.zero_le _, rfl, K8.out⟩
                    case round =>
                      clear K8
                      obtain ⟨v, hv, rfl, hH⟩ := hrel
                      by_cases hvy : v < y
                      · obtain ⟨o, ho⟩ := get_some (l := kept) (i := v) (by omega)
                        obtain ⟨⟨pf, pt⟩, hp⟩ := get_some (l := ps) (i := v) (by rw [← HN.out]; exact hvy)
                        obtain ⟨g0, hg0⟩ : ∃ g0, a2 = some ⟨g0, 0, none⟩ := by
                          have := hH; rw [hSu] at this
                          obtain ⟨_, h, _⟩ := this.snd.drop
                          exact owm_addr h.1 (by omega)
                        have hvi : (v : Int) < (y : Int) := by omega
                        have hksv : ks[v]? = some (idI ms o) := by rw [hks, List.getElem?_map, ho]; rfl
                        have hmv : (mix zs ks v)[v]? = some (idI ms o) := by rw [mix_get hzk (by omega), if_neg (Nat.lt_irrefl _)]; exact hksv
                        -- who a place was given to, told of any world
                        have HId := Lib.hid (fun (u : Nat) (e : Int) (he : (mix zs ks u)[v]? = some e) V (H : Held w V (Su u)) => show V.cell? ⟨g0, v * 3 + 2, none⟩ = some (.int .i64 e) from by
                          rw [hSu] at H
                          have H' := H.turn
                          rw [hg0] at H'
                          exact (held_putO H' hp he).1)
                        rcases HKo.out v o ho with rfl | ⟨k0, hk0, rfl⟩
                        · -- nobody's yet
                          have hon := HOn.out v ho
                          have hfn := HFn.out v ho
                          obtain ⟨c, hc⟩ : ∃ c, c = cF v := ⟨_, rfl⟩
                          rw [← hc] at hon hfn
                          have hz1 : zs[v]? = some (idI ms (roomK x q c)) := by rw [hzs, List.getElem?_map, hon]; rfl
                          have hks1 : ks[v]? = some (-1) := hksv
                          have HM1 := Lib.hid (show (mix zs ks v)[v]? = some (-1) from hmv)
                          have HM2 := Lib.hid (fun (k0 : Nat) (hr : roomK x q c = some k0) (hk0 : k0 < x) => show ∃ e, ms[k0]? = some e ∧ 0 ≤ e ∧ (mix zs ks (v + 1))[v]? = some e from by
                            obtain ⟨e, he⟩ := get_some (l := ms) (i := k0) (by rw [← HM.out]; exact hk0)
                            refine ⟨e, he, (HRi.out.2.1 e (List.mem_of_getElem? he)).1, ?_⟩
                            rw [mix_get hzk (by omega), if_pos (Nat.lt_succ_self v), hz1, hr]
                            obtain ⟨h1, h2⟩ := List.getElem?_eq_some_iff.1 he
                            rw [idI_at h1, h2])
                          have HNo := Lib.hid (fun (hr : roomK x q c = none) => show Su (v + 1) = Su v from by
                            rw [hSu]
                            show (intsT (some ⟨gc, 0, none⟩) x x (cL x (cF (v + 1)))).sep ((ownsT a2 y c4 (oL ps (mix zs ks (v + 1)))).sep _) = _
                            rw [hr] at hfn hz1
                            rw [hfn, mix_same hzk (by rw [hz1, hks1]; rfl), hc])
                          have HGo := Lib.hid (fun (k0 : Nat) (e : Int) (hk0 : k0 < x) (hr : roomK x q c = some k0) (he : ms[k0]? = some e) V (H : Held w V (Su v)) =>
                            show (V.cell? ⟨g0, v * 3 + 2, none⟩ = some (.int .i64 (-1)) ∧ V.frozen? ⟨g0, v * 3 + 2, none⟩ = false) ∧ ((V.setCell ⟨g0, v * 3 + 2, none⟩ (.int .i64 e)).cell? ⟨gc, k0, none⟩ = some (.int .i64 ((c k0 : Nat) : Int)) ∧ (V.setCell ⟨g0, v * 3 + 2, none⟩ (.int .i64 e)).frozen? ⟨gc, k0, none⟩ = false) ∧
                              Held w ((V.setCell ⟨g0, v * 3 + 2, none⟩ (.int .i64 e)).setCell ⟨gc, k0, none⟩ (.int .i64 (((c k0 : Nat) : Int) + 1))) (Su (v + 1)) from by
                            rw [hSu] at H
                            have H' := H.turn
                            rw [hg0] at H'
                            obtain ⟨p1, p2, p3⟩ := held_putO H' hp HM1.out
                            have H2 := (p3 e).turn
                            rw [← hc] at H2
                            obtain ⟨q1, q2, q3⟩ := held_put H2 (cL_get _ hk0)
                            refine ⟨⟨p1, p2⟩, ⟨q1, q2⟩, ?_⟩
                            have H3 := q3 (((c k0 : Nat) : Int) + 1)
                            rw [hr] at hfn hz1
                            have hze : zs[v]? = some e := by
                              rw [hz1]
                              obtain ⟨h1, h2⟩ := List.getElem?_eq_some_iff.1 he
                              rw [idI_at h1, h2]
                            have e1 := cL_set (c := c) (d := cF (v + 1)) hk0 (fun j _ hj => by rw [hfn]; show c j = upd c k0 j; unfold upd; rw [if_neg hj])
                            rw [show cF (v + 1) k0 = c k0 + 1 from by rw [hfn]; show upd c k0 k0 = _; unfold upd; rw [if_pos rfl]] at e1
                            rw [show (((c k0 : Nat) : Int) + 1) = ((c k0 + 1 : Nat) : Int) from rfl, e1, mix_set hzk hze] at H3
                            rw [hSu, hg0]
                            exact H3)
                          have HRd := Lib.hid (fun (z : Nat) (hz : z < x) V (H : Held w V (Su v)) => show V.cell? ⟨gc, z, none⟩ = some (.int .i64 ((c z : Nat) : Int)) ∧ V.cell? ⟨gq, z, none⟩ = some (.int .i64 ((q z : Nat) : Int)) from by
                            rw [hSu] at H
                            obtain ⟨p1, _, _⟩ := held_put H (cL_get _ hz)
                            rw [← hc] at p1
                            obtain ⟨b2, o2, e2, p2⟩ := ints_at H.snd.snd.drop (cL_len x q).symm z _ (cL_get q hz)
                            obtain ⟨rfl, rfl⟩ : gq = b2 ∧ 0 = o2 := by simpa using e2
                            rw [Nat.zero_add] at p2
                            exact ⟨p1, p2⟩)
                          have KH := Lib.hid hH
                          clear hH ho hp hksv hmv hon hfn hz1 hks1
                          clear hc
                          subst hg0
                          go_wp2_with fail
                          go_loopw [22] (fun zx wq => ∃ z : Nat, z ≤ x ∧ zx = .int .i64 z ∧ ((Held w wq (Su v) ∧ ∀ j, j < z → ¬ c j < q j) ∨ ∃ k0, z = k0 + 1 ∧ roomK x q c = some k0 ∧ Held w wq (Su (v + 1)))) (fun zx _ => x - (intOf zx).toNat)
                          case atStart => exact ⟨0, Nat.zero_le _, rfl, .inl ⟨KH.out, fun j hj => by omega⟩⟩
                          case round =>
                           as_aux_lemma =>
                            clear KH
                            obtain ⟨z, hz, rfl, ⟨hH, hno⟩ | ⟨k0, rfl, hr, hH⟩⟩ := hrel
                            · have i0 := HId.out v (-1) HM1.out _ hH
                              by_cases hzx : z < x
                              · have hzi : (z : Int) < (x : Int) := by omega
                                obtain ⟨r1, r2⟩ := HRd.out z hzx _ hH
                                have hqb := HQb.out z
                                by_cases hroom : c z < q z
                                · have HRm := Lib.hid (room_is hzx hroom hno)
                                  obtain ⟨e, he, he0, _⟩ := HM2.out z HRm.out hzx
                                  have hcz : decide (c z < q z) = true := decide_eq_true hroom
                                  have hczi : ((c z : Nat) : Int) < ((q z : Nat) : Int) := by omega
                                  have hc257 : ((c z : Nat) : Int) < 257 := by omega
                                  have KH := Lib.hid hH
                                  have HGz := Lib.hid (HGo.out z e hzx HRm.out he)
                                  have HMe := Lib.hid (fun V (hs : Still w V) => (HA.out.still hs) z e he)
                                  generalize c z = cz at *
                                  generalize q z = qz at *
                                  obtain ⟨bm, om, rfl, cm⟩ := HMe.out wr hH.ground
                                  clear hH hno he hroom hqb
                                  go_wp2_with fail
                                  go_quiet (fail)
                                  obtain ⟨V, hV⟩ : ∃ V, V = wr.drewN nq := ⟨_, rfl⟩
                                  have KV := Lib.hid (show Held w V (Su v) from by rw [hV]; exact KH.out.still ((Turned.refl _ _).drewN _))
                                  have cv : V.cell? ⟨bm, om + z, none⟩ = some (.int .i64 e) := by rw [hV]; exact cm
                                  rw [← hV]
                                  clear hV cm i0 r1 r2
                                  obtain ⟨⟨p1, p2⟩, ⟨q1, q2⟩, p3⟩ := HGz.out V KV.out
                                  have K9 := Lib.hid p3
                                  clear p3
                                  go_wp2_with fail
                                  go_roundw
                                  case rel => exact ⟨z + 1, by omega, by go_num, .inr ⟨z, rfl, HRm.out, K9.out⟩⟩
                                  case measure => simp [intOf]; omega
                                · have hno2 : ∀ j, j < z + 1 → ¬ c j < q j := fun j hj => by
                                    rcases Nat.lt_succ_iff_lt_or_eq.1 hj with h | rfl
                                    · exact hno j h
                                    · exact hroom
                                  have HN2 := Lib.hid hno2
                                  have hcz : decide (c z < q z) = false := decide_eq_false hroom
                                  have hczi : ¬ ((c z : Nat) : Int) < ((q z : Nat) : Int) := by omega
                                  have KH := Lib.hid hH
                                  obtain ⟨cz, hcz2⟩ : ∃ cz, cz = c z := ⟨_, rfl⟩
                                  obtain ⟨qz, hqz2⟩ : ∃ qz, qz = q z := ⟨_, rfl⟩
                                  rw [← hcz2] at r1 hcz hczi
                                  rw [← hqz2] at r2 hcz hczi
                                  clear hH hno hno2 hroom hqb hcz2 hqz2
                                  go_wp2_with fail
                                  go_quiet (fail)
                                  go_wp2_with fail
                                  go_roundw
                                  case rel => exact ⟨z + 1, by omega, by go_num, .inl ⟨KH.out.still ((Turned.refl _ _).drewN _), HN2.out⟩⟩
                                  case measure => simp [intOf]; omega
                              · obtain rfl : z = x := by omega
                                have K9 := Lib.hid (show Held w wr (Su (v + 1)) from by rw [HNo.out (room_no hno)]; exact hH)
                                clear hH hno hzx
                                go_wp2_with fail
                                go_roundw
                                case rel => exact ⟨v + 1, by omega, by go_num, K9.out⟩
                                case measure => simp [intOf]; omega
                            · obtain ⟨e, he, he0, hmz⟩ := HM2.out k0 hr (by omega)
                              have i0 := HId.out (v + 1) e hmz _ hH
                              have hei : ¬ e < 0 := by omega
                              have K9 := Lib.hid hH
                              clear hH hr he hmz
                              by_cases hzx : k0 + 1 < x
                              · have hzi : (k0 : Int) + 1 < (x : Int) := by omega
                                go_wp2_with fail
                                go_roundw
                                case rel => exact ⟨v + 1, by omega, by go_num, K9.out⟩
                                case measure => simp [intOf]; omega
                              · have hzi : ¬ (k0 : Int) + 1 < (x : Int) := by omega
                                go_wp2_with fail
                                go_roundw
                                case rel => exact ⟨v + 1, by omega, by go_num, K9.out⟩
                                case measure => simp [intOf]; omega
                        · -- kept
                          obtain ⟨e, he⟩ := get_some (l := ms) (i := k0) (by rw [← HM.out]; exact hk0)
                          have he0 : ¬ e < 0 := by have := (HRi.out.2.1 e (List.mem_of_getElem? he)).1; omega
                          have hide : idI ms (some k0) = e := by
                            obtain ⟨h1, h2⟩ := List.getElem?_eq_some_iff.1 he
                            rw [idI_at h1, h2]
                          rw [hide] at hksv hmv
                          have i0 := HId.out v e hmv _ hH
                          have K9 := Lib.hid (show Held w wr (Su (v + 1)) from by
                            have hos := HOs.out v k0 ho
                            have : Su (v + 1) = Su v := by
                              rw [hSu]
                              show (intsT (some ⟨gc, 0, none⟩) x x (cL x (cF (v + 1)))).sep ((ownsT a2 y c4 (oL ps (mix zs ks (v + 1)))).sep _) = _
                              rw [HFs.out v k0 ho, mix_same hzk (by rw [hksv, hzs, List.getElem?_map, hos]; show some (idI ms (some k0)) = _; rw [hide])]
                            rw [this]; exact hH)
                          clear hH ho hp hksv hmv he hide
                          subst hg0
                          go_wp2_with fail
                          go_loopw [22] (fun zx wq => zx = .int .i64 0 ∧ wq = wr) (fun zx _ => 0)
                          case atStart => exact ⟨rfl, rfl⟩
                          case round =>
                            obtain ⟨rfl, rfl⟩ := hrel
                            go_wp2_with fail
                            go_roundw
                            case rel => exact ⟨v + 1, by omega, by go_num, K9.out⟩
                            case measure => simp [intOf]; omega
                      · obtain rfl : v = y := by omega
                        have KF := Lib.hid hH
                        rw [hSu] at KF
                        have KG := Lib.hid (show Held w wr (ownsT a2 v c4 (asgI ms ps os)) from by
                          have h := KF.out.snd.drop
                          rw [HFin.out] at h
                          exact h)
                        clear hH KF hvy
                        go_wp2_with fail
                        go_ret2
                        exact ⟨a2, c4, rfl, (ow_raise KG.out).1, (ow_raise KG.out).2⟩
theorem rightB_iff {ms : List Int} {ps : List Plc} : rightB ms ps = true ↔ risI ms ∧ disI ps := decide_eq_true_iff
theorem zshassign_any (w : World) (ao bo co : Option Addr) (ms : List Int) (ps : List Plc) (os : List Own) (m n k c1 c2 c3 r : Nat) (hm : m = ms.length) (hn : n = ps.length) (hk : k = os.length) (h1 : m ≤ 1000) (h2 : n ≤ 1000) (h3 : k ≤ 1000)
    (hA : NumsAt w ao ms) (hB : PlAt w bo ps) (hC : OwAt w co os) (hr : r = (asgV ms ps os).length) :
    Calls Try.prog 61 #[.slice ao m c1, .slice bo n c2, .slice co k c3] w (OutAsg w (asgV ms ps os) r (asgE ms ps os)) := by
  by_cases hl : 256 < n ∨ 256 < k
  · have e : asgE ms ps os = 3 := by unfold asgE; rw [if_pos (by rw [← hn, ← hk]; exact hl)]
    have ev : asgV ms ps os = [] := asgV_no (by rw [e]; decide)
    rw [ev] at hr ⊢
    rw [e]
    subst hr
    exact zshassign_long w ao bo co m n k c1 c2 c3 hl
  · cases hrt : rightB ms ps with
    | false =>
      have hno : ¬ (risI ms ∧ disI ps) := of_decide_eq_false hrt
      have e : asgE ms ps os = 2 := by unfold asgE; rw [if_neg (by rw [← hn, ← hk]; exact hl), if_neg hno]
      have ev : asgV ms ps os = [] := asgV_no (by rw [e]; decide)
      rw [ev] at hr ⊢
      rw [e]
      subst hr
      exact zshassign_arg w ao bo co ms ps m n k c1 c2 c3 hm hn h1 (by omega) (by omega) hA hB hrt
    | true =>
      have hyes := rightB_iff.1 hrt
      have e : asgE ms ps os = 0 := asgE_of (by omega) (by omega) hyes.1 hyes.2
      have ev : asgV ms ps os = asgI ms ps os := asgV_ok e
      rw [ev] at hr ⊢
      rw [e]
      rw [asgI_len, ← hn] at hr
      subst hr
      exact zshassign_ok w ao bo co ms ps os m _ k c1 c2 c3 hm hn hk h1 (by omega) (by omega) hA hB hC hrt
end Go.Proofs.Ytdlkdagmaeapdaa

/- What Begin of the document's table does. No condition but that it is one. -/
namespace Go.Proofs.Ytdlkdagmaeapdaa
open Go.RowKit
set_option linter.unusedVariables false
set_option linter.unusedSimpArgs false
set_option maxRecDepth 100000

theorem now_step {ms : List Int} {ps : List Plc} {O : List Own} {k : Nat} {p : Plc} (h : ps[k]? = some p) : nowI ms (ps.take (k + 1)) O = nowI ms (ps.take k) O ++ [(p, if hadI O p ∈ ms then hadI O p else -1)] := by
  unfold nowI
  rw [List.take_add_one, h, List.map_append]; rfl
theorem begE_take (ms : List Int) (ps : List Plc) (O : List Own) : asgE ms ps ((nowI ms ps O).take 256) = begE ps ms := by
  unfold begE asgE
  have : ¬ 256 < ((nowI ms ps O).take 256).length := by rw [List.length_take]; omega
  simp only [this, or_false]
  simp
def waitTo (ms : List Int) (O T : List Own) (k : Nat) : List Int := (ms.take k).filter fun m => decide (0 < (revI O T m).length)
theorem waitTo_step {ms : List Int} {O T : List Own} {k : Nat} {y : Int} (h : ms[k]? = some y) : waitTo ms O T (k + 1) = if 0 < (revI O T y).length then waitTo ms O T k ++ [y] else waitTo ms O T k := by
  unfold waitTo
  rw [List.take_add_one, h, List.filter_append]
  show _ ++ List.filter _ [y] = _
  rw [List.filter_cons, List.filter_nil]
  by_cases e : 0 < (revI O T y).length
  · rw [if_pos (by simpa using e), if_pos e]
  · rw [if_neg (by simpa using e), if_neg e, List.append_nil]
theorem waitTo_len (ms : List Int) (O T : List Own) (k : Nat) : (waitTo ms O T k).length ≤ k := by
  unfold waitTo
  refine Nat.le_trans (List.length_filter_le _ _) ?_
  rw [List.length_take]; omega
section
variable {q K n n2 k d : Nat} {M : TbM} {w V w2 w3 w' : World} {W Q0 : Nat → Prop} {ao at_ aw a2 a3 : Option Addr} {co ct cw c4 c5 : Nat} {O T : List Own} {Wl : List Int} {o t v gv : Value} {R : Thing}
theorem row_fresh {V w' : World} {a : Option Addr} {n c : Nat} {l : List Own} (hown : w'.ownsRow V.heap.size 99 3 (.slice a n c) n (rowOf encOw l)) (hs : Still V w') : ∃ W, (ownsT a n c l).at_ w' W ∧ Still V w' ∧ ∀ k, W k → V.heap.size ≤ k := by
  refine ⟨fun k => (Value.slice a n c).ownBlock = some k, ⟨ow_base hown (Nat.zero_le _), fun k => Iff.rfl⟩, hs, fun k hk => ?_⟩
  cases a with
  | none => cases hk
  | some z =>
    have h1 := (ow_lt hown z rfl).1
    have h2 : z.block = k := by simpa [Value.ownBlock] using hk
    omega
/-- The table's parts while those who must acknowledge are told. -/
abbrev zbY (q : Nat) (a2 : Option Addr) (n c4 : Nat) (a3 : Option Addr) (c5 : Nat) (aw : Option Addr) (d cw : Nat) (O T : List Own) (Wl : List Int) (g : Nat) : Thing :=
  (blkT q [.slice a2 n c4, .slice a3 n c5, .slice aw d cw, .int .i64 ((g : Nat) : Int)] 67).sep ((intsT aw d cw Wl).sep ((ownsT a2 n c4 O).sep (ownsT a3 n c5 T)))
theorem zb_three {g : Nat} (H : Sit Q0 w V ((blkT q [o, t, v, .int .i64 ((g : Nat) : Int)] 67).sep R))
    (h2 : w2.ownsRow V.heap.size 99 3 (.slice a2 n c4) n (rowOf encOw O)) (s2 : Still V w2)
    (h3 : w3.ownsRow w2.heap.size 99 3 (.slice a3 n c5) n (rowOf encOw T)) (s3 : Still w2 w3) :
    (w3.cell? ⟨q, 0, none⟩ = some o ∧ w3.frozen? ⟨q, 0, none⟩ = false) ∧ ((w3.setCell ⟨q, 0, none⟩ (.slice a2 n c4)).cell? ⟨q, 1, none⟩ = some t ∧ (w3.setCell ⟨q, 0, none⟩ (.slice a2 n c4)).frozen? ⟨q, 1, none⟩ = false) ∧
      (((w3.setCell ⟨q, 0, none⟩ (.slice a2 n c4)).setCell ⟨q, 1, none⟩ (.slice a3 n c5)).cell? ⟨q, 2, none⟩ = some v ∧ ((w3.setCell ⟨q, 0, none⟩ (.slice a2 n c4)).setCell ⟨q, 1, none⟩ (.slice a3 n c5)).frozen? ⟨q, 2, none⟩ = false) ∧
      Hid (Sit Q0 w (((w3.setCell ⟨q, 0, none⟩ (.slice a2 n c4)).setCell ⟨q, 1, none⟩ (.slice a3 n c5)).setCell ⟨q, 2, none⟩ (.slice none 0 0)) (zbY q a2 n c4 a3 c5 none 0 0 O T [] g)) := by
  have H1 := ((H.new (row_fresh h2 s2)).new (row_fresh h3 s3))
  have H2 := H1.new (B := intsT none 0 0 []) (w' := w3) ⟨fun _ => False, ⟨World.ownsRow_nil _ _ _ _, fun k => ⟨fun h => h.elim, fun h => by cases h⟩⟩, Turned.refl _ _, fun k h => h.elim⟩
  have H3 := H2.assoc.assoc.assoc
  obtain ⟨x1, x2, x3⟩ := sit_row (o := 0) H3 rfl (.slice a2 n c4)
  obtain ⟨x4, x5, x6⟩ := sit_row (o := 1) x3.out rfl (.slice a3 n c5)
  obtain ⟨x7, x8, x9⟩ := sit_row (o := 2) x6.out rfl (.slice none 0 0)
  refine ⟨⟨x1, x2⟩, ⟨x4, x5⟩, ⟨x7, x8⟩, Lib.hid ?_⟩
  have H4 := x9.out.turn.snd
  exact H4.imp (fun h => sep_imp2 (fun h => h) (fun h => sep_swap (sep_assoc' h)) h)
theorem zbY_rd {g : Nat} (hn : n = O.length) (hn' : n = T.length) (hd : d = Wl.length) (H : Sit Q0 w V (zbY q a2 n c4 a3 c5 aw d cw O T Wl g)) : ZbRd q a2 c4 a3 c5 aw cw ⟨O, T, Wl, g⟩ V := by
  obtain ⟨U, ⟨W1, W2, ⟨h1, _⟩, ⟨W5, W6, ⟨h4, _⟩, ⟨W3, W4, ⟨h2, _⟩, ⟨h3, _⟩, _⟩, _⟩, _⟩, _⟩ := H
  exact ⟨by rw [← hn]; exact h1.cell rfl, by show V.cell? _ = some (.slice a3 T.length c5); rw [← hn']; exact h1.cell rfl, by show V.cell? _ = some (.slice aw Wl.length cw); rw [← hd]; exact h1.cell rfl, h1.cell rfl, RowAt.of_own encOw_len h2 hn, RowAt.of_own encOw_len h3 hn', NumsAt.of_own h4 hd⟩
set_option maxHeartbeats 8000000 in
theorem zrbbegin_any (h : (zbT q M).at_ w W) (hM : M.Ok K) (hK : K < 1000000) {bo ai : Option Addr} {ps : List Plc} {ms : List Int} {n m c1 c2 : Nat} (hn : n = ps.length) (hm : m = ms.length) (h1 : n ≤ 1000) (h2 : m ≤ 1000)
    (hB : PlAt w bo ps) (hA : NumsAt w ai ms) (ha : ms ≠ [] → ∀ a, ai = some a → ¬ W a.block) :
    Calls Try.prog 34 #[.pointer (some ⟨q, 0, none⟩), .slice bo n c1, .slice ai m c2] w fun e w' => e = .returned (.tuple #[.bool (M.beginV ps ms), .int .i64 (begE ps ms)]) ∧ Goes (zbT q (M.begin_ ps ms)) W w w' := by
  obtain ⟨ao, co, at_, ct, aw, cw, hX⟩ := h
  have hrd := zbX_rd hX
  have HG0 := Lib.hid (fun V (hs : Still w V) => show Goes (zbT q M) W w V from Goes.still (Q := zbT q M) ⟨ao, co, at_, ct, aw, cw, hX⟩ hs)
  have HSit := Lib.hid (show Sit W w w (zbX q ao co at_ ct aw cw M) from Sit.start hX)
  obtain ⟨no, hno⟩ : ∃ no, no = M.O.length := ⟨_, rfl⟩
  have ho256 : no ≤ 256 := by rw [hno]; exact hM.len
  have HC := Lib.hid (fun V (hs : Still w V) => show V.cell? ⟨q, 0, none⟩ = some (.slice ao no co) from by rw [hno]; exact (hrd.still hs).c0)
  have HHad := Lib.hid (fun V (hs : Still w V) (pf pt : Int) => show Calls Try.prog 59 #[.slice ao no co, .agg #[.int .i64 pf, .int .i64 pt]] V fun e w' => e = .returned (.int .i64 (hadI M.O (pf, pt))) ∧ Still V w' from hadR_any V ao M.O no co (pf, pt) hno (by omega) (hrd.still hs).ro)
  have HIn := Lib.hid (fun V (hs : Still w V) (x : Int) => zrbin_any V ai ms m c2 x hm (by omega) (hA.still hs))
  have HPl := Lib.hid (fun V (hs : Still w V) => show PlAt V bo ps from row_still hB hs)
  have HNu := Lib.hid (fun V (hs : Still w V) => hA.still hs)
  have HAt := Lib.hid (fun V (hs : Turned W w V) => show NumsAt V ai ms from fun i x hx => hA.turned hs (ha (fun e => by rw [e] at hx; cases hx)) i x hx)
  have HMk := Lib.hid hM
  have HN := Lib.hid hn
  have HM := Lib.hid hm
  obtain ⟨E, hE⟩ : ∃ E, E = begE ps ms := ⟨_, rfl⟩
  obtain ⟨BV, hBV⟩ : ∃ b, b = M.beginV ps ms := ⟨_, rfl⟩
  obtain ⟨M9, hM9⟩ : ∃ x, x = M.begin_ ps ms := ⟨_, rfl⟩
  rw [← hE, ← hBV, ← hM9]
  have HE := Lib.hid hE
  have HBV := Lib.hid hBV
  have HM9 := Lib.hid hM9
  obtain ⟨i0, fi, hz0, hz1, hz2⟩ := info_parts infoIntW
  obtain ⟨pi, qi, pz0, pz1, pz2⟩ := info_parts infoOwZ
  have HW0 := Lib.hid (World.ownsRow_made (e := 99) (size := 3) w #[] 0 (Nat.le_refl _) (by simp) (by simp))
  clear hrd hX hM hn hm hB hA ha hno hE hBV hM9
  go_enter Try.func34, Try.ntmps34
  go_wp2_with fail
  go_loopw [8, 9] (fun ll ix wq => ∃ (i : Nat) (a2 : Option Addr) (c4 : Nat), i ≤ n ∧ ix = .int .i64 i ∧ ll = .slice a2 i c4 ∧ wq.ownsRow w.heap.size 99 3 (.slice a2 i c4) i (rowOf encOw (nowI ms (ps.take i) M.O)) ∧ Still w wq) (fun _ ix _ => n - (intOf ix).toNat)
  case atStart => exact ⟨0, _, 0, Nat.zero_le _, rfl, rfl, HW0.out, (Turned.refl _ _).alloc _⟩
  case round =>
    obtain ⟨i, a2, c4, hi, rfl, rfl, hown, hst⟩ := hrel
    have HO := Lib.hid hown
    have HS := Lib.hid hst
    have hlo := hst.size
    by_cases hlt : i < n
    · obtain ⟨⟨pf, pt⟩, hp⟩ := get_some (l := ps) (i := i) (by rw [← HN.out]; exact hlt)
      have HSd := Lib.hid (show Still w wr.drew from hst.drew)
      obtain ⟨bp, op, rfl, hc⟩ := HPl.out _ hst i _ hp
      have x0 : wr.cell? ⟨bp, op + i * 2, none⟩ = some (.int .i64 pf) := hc 0 _ rfl
      have x1 : wr.cell? ⟨bp, op + i * 2 + 1, none⟩ = some (.int .i64 pt) := by rw [Nat.add_assoc]; exact hc 1 _ rfl
      have HX0 := Lib.hid (fun V (hs : Still wr V) => show V.cell? ⟨bp, op + i * 2, none⟩ = some (.int .i64 pf) ∧ V.cell? ⟨bp, op + i * 2 + 1, none⟩ = some (.int .i64 pt) from ⟨still_cell hs x0 rfl, still_cell hs x1 rfl⟩)
      have c0 := HC.out _ hst
      have HSt := Lib.hid (now_step (ms := ms) (O := M.O) hp)
      have HHd := Lib.hid (fun V (hs : Still w V) => HHad.out V hs pf pt)
      obtain ⟨hd, hhd⟩ : ∃ hd, hd = hadI M.O (pf, pt) := ⟨_, rfl⟩
      rw [← hhd] at HSt HHd
      have hii : (i : Int) < (n : Int) := by omega
      have HR := Lib.hid (fun (z : Int) (w5 w6 : World) (a6 : Option Addr) (c6 : Nat) (hz : (if hd ∈ ms then hd else -1) = z) (hs5 : Still wr w5) (hown : w6.ownsRow w.heap.size 99 3 (.slice a6 (i + 1) c6) (i + 1) (rowOf encOw (nowI ms (ps.take i) M.O) ++ [.int .i64 pf, .int .i64 pt, .int .i64 z])) (hg : (w5.alloc (.cells #[.int .i64 pf, .int .i64 pt, .int .i64 z] 99)).grownBy w6 (Value.slice a2 i c4).ownBlock) =>
        show w6.ownsRow w.heap.size 99 3 (.slice a6 (i + 1) c6) (i + 1) (rowOf encOw (nowI ms (ps.take (i + 1)) M.O)) ∧ Still w w6 from
        ⟨by rw [HSt.out, rowOf_append, rowOf_cons, rowOf_nil, List.append_nil, hz]; exact hown, row_appended (HS.out.trans hs5) (ow_still HO.out hs5) hg⟩)
      clear hc hp hown hst hhd HSt
      by_cases hin : hd ∈ ms
      · rw [if_pos hin] at HR
        have HInk := Lib.hid (fun V (hs : Still w V) => HIn.out V hs hd)
        rw [decide_eq_true hin] at HInk
        clear hin
        go_wp2_with fail
        go_region_held3 (fun V => V.cell? ⟨q, 0, none⟩ = some (.slice ao no co) ∧ V.cell? ⟨bp, op + i * 2, none⟩ = some (.int .i64 pf) ∧ V.cell? ⟨bp, op + i * 2 + 1, none⟩ = some (.int .i64 pt)) (first | assumption | exact ⟨by assumption, by assumption, by assumption⟩ | go_keep)
          (first | (go_at_call 59; ((with_reducible refine (HHd.out _ HSd.out).mono ?_)); rintro e w5 ⟨rfl, hs⟩; have c05 := HC.out _ (HSd.out.trans hs); have hs5 : Still wr w5 := ((Turned.refl _ wr).drew).trans hs; obtain ⟨z0, z1⟩ := HX0.out _ hs5; have HS5 := Lib.hid hs5; clear hs hs5))
        go_wp2_with (first
          | (go_at_call 60; ((with_reducible refine (HInk.out _ (HS.out.trans HS5.out)).mono ?_)); rintro e w6 ⟨rfl, rfl⟩)
          | (at_builtin; refine wpList_append_own_at _ rfl _ _ 65 rfl w.heap.size 99 pi (.agg #[.int .i64 0, .int .i64 0, .int .i64 0]) 3 24 Try.underlying65 qi pz0 pz1 pz2 rfl (by decide) (.slice a2 i c4) i (rowOf encOw (nowI ms (ps.take i) M.O)) rfl (ow_still (ow_still HO.out HS5.out) ((Turned.refl _ _).alloc _)) ⟨w5.heap.size, 0, none⟩ 1 1 [.int .i64 pf, .int .i64 pt, .int .i64 hd] rfl rfl (ow_cells w5 _ _) (ow_ints rfl) (by unfold maxLen; omega) (by omega) (by have := HS5.out.size; simp; omega) ?_; intro v6 w6 hown6 hg6 _ hat6; obtain ⟨a6, c6, rfl⟩ := ow_slice hown6; obtain ⟨ho6, hs6⟩ := HR.out hd w5 w6 a6 c6 rfl HS5.out hown6 hg6; have HO6 := Lib.hid ho6; have HS6 := Lib.hid hs6; clear hown6 hg6 hat6 ho6 hs6))
        go_roundw
        case rel => exact ⟨i + 1, a6, c6, by omega, by go_num, rfl, HO6.out, HS6.out⟩
        case measure => simp [intOf]; omega
      · rw [if_neg hin] at HR
        have HInk := Lib.hid (fun V (hs : Still w V) => HIn.out V hs hd)
        rw [decide_eq_false hin] at HInk
        clear hin
        go_wp2_with fail
        go_region_held3 (fun V => V.cell? ⟨q, 0, none⟩ = some (.slice ao no co) ∧ V.cell? ⟨bp, op + i * 2, none⟩ = some (.int .i64 pf) ∧ V.cell? ⟨bp, op + i * 2 + 1, none⟩ = some (.int .i64 pt)) (first | assumption | exact ⟨by assumption, by assumption, by assumption⟩ | go_keep)
          (first | (go_at_call 59; ((with_reducible refine (HHd.out _ HSd.out).mono ?_)); rintro e w5 ⟨rfl, hs⟩; have c05 := HC.out _ (HSd.out.trans hs); have hs5 : Still wr w5 := ((Turned.refl _ wr).drew).trans hs; obtain ⟨z0, z1⟩ := HX0.out _ hs5; have HS5 := Lib.hid hs5; clear hs hs5))
        go_wp2_with (first
          | (go_at_call 60; ((with_reducible refine (HInk.out _ (HS.out.trans HS5.out)).mono ?_)); rintro e w6 ⟨rfl, rfl⟩)
          | (at_builtin; refine wpList_append_own_at _ rfl _ _ 65 rfl w.heap.size 99 pi (.agg #[.int .i64 0, .int .i64 0, .int .i64 0]) 3 24 Try.underlying65 qi pz0 pz1 pz2 rfl (by decide) (.slice a2 i c4) i (rowOf encOw (nowI ms (ps.take i) M.O)) rfl (ow_still (ow_still HO.out HS5.out) ((Turned.refl _ _).alloc _)) ⟨w5.heap.size, 0, none⟩ 1 1 [.int .i64 pf, .int .i64 pt, .int .i64 (-1)] rfl rfl (ow_cells w5 _ _) (ow_ints rfl) (by unfold maxLen; omega) (by omega) (by have := HS5.out.size; simp; omega) ?_; intro v6 w6 hown6 hg6 _ hat6; obtain ⟨a6, c6, rfl⟩ := ow_slice hown6; obtain ⟨ho6, hs6⟩ := HR.out (-1) w5 w6 a6 c6 rfl HS5.out hown6 hg6; have HO6 := Lib.hid ho6; have HS6 := Lib.hid hs6; clear hown6 hg6 hat6 ho6 hs6))
        go_roundw
        case rel => exact ⟨i + 1, a6, c6, by omega, by go_num, rfl, HO6.out, HS6.out⟩
        case measure => simp [intOf]; omega
    · obtain rfl : i = n := by omega
      obtain ⟨L, hL⟩ : ∃ L, L = nowI ms ps M.O := ⟨_, rfl⟩
      have hps : nowI ms (ps.take i) M.O = L := by rw [hL, List.take_of_length_le (by rw [HN.out]; exact Nat.le_refl _)]
      rw [hps] at HO hown
      have hLl : i = L.length := by rw [hL, now_len, HN.out]
      have hcc := (ow_le hown).1
      have hcm := (ow_le hown).2.1
      obtain ⟨r, hr⟩ : ∃ r, r = (asgV ms ps (L.take 256)).length := ⟨_, rfl⟩
      obtain ⟨u, hu⟩ : ∃ u, u = min i 256 := ⟨_, rfl⟩
      have hAs := zshassign_any wr ai bo a2 ms ps (L.take 256) m i u c2 c1 c4 r HM.out HN.out (by rw [List.length_take, ← hLl, hu]; omega) h2 h1 (by omega) (HNu.out _ hst) (HPl.out _ hst) (row_take (RowAt.of_own encOw_len hown hLl) 256) hr
      have hE1 : asgE ms ps (L.take 256) = E := by rw [HE.out, hL]; exact begE_take ms ps M.O
      rw [hE1] at hAs
      have hif : (if (256 : Int) < (i : Int) then (256 : Int) else (i : Int)) = (u : Int) := by split <;> omega
      have huc : u ≤ c4 := by omega
      have HLL := Lib.hid hLl
      have HLd := Lib.hid hL
      by_cases hE0 : E = 0
      · subst hE0
        have hb0 : begE ps ms = 0 := HE.out.symm
        obtain ⟨b1, b2, b3⟩ := begE_ok hb0
        have hi256 : i ≤ 256 := by rw [HN.out]; exact b1
        have hm8 : m ≤ 8 := by rw [HM.out]; exact b2.1
        obtain rfl : i = u := by omega
        have hL256 : L.take 256 = L := List.take_of_length_le (by omega)
        rw [asgV_ok hE1, hL256] at hAs hr
        obtain rfl : i = r := by rw [hr, asgI_len, HN.out]
        obtain ⟨T, hT⟩ : ∃ T, T = asgI ms ps L := ⟨_, rfl⟩
        have hTl : i = T.length := by rw [hT, asgI_len, HN.out]
        rw [← hT] at hAs
        have HAs := Lib.hid hAs
        have HTl := Lib.hid hTl
        obtain ⟨M', hM'⟩ : ∃ M', M' = M.begun ps ms := ⟨_, rfl⟩
        have hP' : M'.Pre K := by rw [hM']; exact TbM.begun_pre HMk.out hb0
        have e1 : BV = decide (M'.W = []) := by rw [HBV.out, hM']; unfold TbM.beginV; rw [Bool.eq_iff_iff]; simp [hb0]
        have e2 : M9 = M'.settle := by rw [HM9.out, hM']; unfold TbM.begin_; rw [if_pos hb0]
        have HSt := Lib.hid (fun V (H : Sit W w V (zbT q M')) => show Calls Try.prog 63 #[.pointer (some ⟨q, 0, none⟩)] V fun e w' => e = .returned (.bool BV) ∧ Goes (zbT q M9) W w w' from by
          rw [e1, e2]; exact zrbsettle_sit hP' hK H)
        have hMO : M'.O = L ∧ M'.T = T ∧ M'.W = waitTo ms L T m ∧ M'.G = M.G := by
          rw [hM', hT, hL]
          refine ⟨rfl, rfl, ?_, rfl⟩
          unfold waitTo
          rw [List.take_of_length_le (by rw [HM.out]; exact Nat.le_refl _)]; rfl
        obtain ⟨g, hg⟩ : ∃ g, g = M.G := ⟨_, rfl⟩
        have HEnd := Lib.hid (fun (V : World) (a3 aw' : Option Addr) (c5 d cw' : Nat) (hd : d = (waitTo ms L T m).length) (H : Sit W w V (zbY q a2 i c4 a3 c5 aw' d cw' L T (waitTo ms L T m) g)) => show Sit W w V (zbT q M') from by
          refine H.imp (fun h => ⟨a2, c4, a3, c5, aw', cw', ?_⟩)
          unfold zbX
          rw [hMO.1, hMO.2.1, hMO.2.2.1, hMO.2.2.2, ← HLL.out, ← hTl, ← hd, ← hg]
          exact sep_imp2 (fun h => h) (fun h => sep_assoc (sep_swap h)) h)
        have HSit2 := Lib.hid (fun (w3 : World) (a3 : Option Addr) (c5 : Nat) (hown3 : w3.ownsRow wr.heap.size 99 3 (.slice a3 i c5) i (rowOf encOw T)) (hs3 : Still wr w3) => zb_three (a3 := a3) (c5 := c5) HSit.out HO.out HS.out hown3 hs3)
        rw [← hg] at HSit2
        clear hu hAs hE1 hps hown hL hLl hr hst hlt hb0 b1 b2 b3 hL256 hT hTl hM' hP' e1 e2 hMO hg hcc
        clear HG0 HSit HHad HIn HPl HNu HBV HM9 HE HLd HO
        go_wp2_with (go_at_call 61; ((with_reducible refine HAs.out.mono ?_)); rintro e w3 ⟨a3, c5, rfl, hown3, hs3⟩; obtain ⟨⟨s1, s2⟩, ⟨s3, s4⟩, ⟨s5, s6⟩, s7⟩ := HSit2.out w3 a3 c5 hown3 hs3; clear hown3 hs3)
        clear s1 s2 s3 s4 s5 s6
        go_loopw [13] (fun kx wq => ∃ (k d : Nat) (aw' : Option Addr) (cw' : Nat), k ≤ m ∧ kx = .int .i64 k ∧ d = (waitTo ms L T k).length ∧ Sit W w wq (zbY q a2 i c4 a3 c5 aw' d cw' L T (waitTo ms L T k) g)) (fun kx _ => m - (intOf kx).toNat)
        case atStart => exact ⟨0, 0, none, 0, Nat.zero_le _, rfl, rfl, s7.out⟩
        case round =>
          clear s7
          obtain ⟨k, d, aw', cw', hk, rfl, hd, hS⟩ := hrel
          have HD := Lib.hid hd
          have HY := Lib.hid hS
          have hd8 : d ≤ 8 := by have := waitTo_len ms L T k; omega
          by_cases hlt : k < m
          · obtain ⟨y, hy⟩ := get_some (l := ms) (i := k) (by rw [← HM.out]; exact hlt)
            obtain ⟨b, o, rfl, cy⟩ := HAt.out _ hS.turned k y hy
            have HSt2 := Lib.hid (waitTo_step (O := L) (T := T) hy)
            obtain ⟨rl, hrl⟩ : ∃ rl, rl = (revI L T y).length := ⟨_, rfl⟩
            have HRv := Lib.hid (show Calls Try.prog 62 #[.pointer (some ⟨q, 0, none⟩), .int .i64 y] wr (OutRow encPl 2 54 wr (revI L T y) rl) from zrbrev_len (zbY_rd HLL.out HTl.out hd hS) (HLL.out.symm.trans HTl.out) (by show L.length ≤ 256; rw [← HLL.out]; exact hi256) y rl hrl)
            rw [← hrl] at HSt2
            have c2 : wr.cell? ⟨q, 2, none⟩ = some (.slice aw' d cw') := by
              obtain ⟨_, ⟨_, _, ⟨hb, _⟩, _⟩, _⟩ := hS
              exact hb.cell rfl
            have hki : (k : Int) < (m : Int) := by omega
            by_cases hr0 : 0 < rl
            · rw [if_pos hr0] at HSt2
              have hri : (0 : Int) < (rl : Int) := by omega
              clear hd hS hy hrl
              go_wp2_with (go_at_call 62; ((with_reducible refine HRv.out.mono ?_)); rintro e w5 ⟨a5, c5', rfl, _, hs5⟩; have c25 := still_cell hs5 c2 rfl; have cy5 := still_cell hs5 cy rfl; have HY5 := Lib.hid (HY.out.still hs5); clear hs5)
              have hql : q < w5.heap.size := cell_lt c25
              have hbl : b < w5.heap.size := cell_lt cy5
              have HRo := Lib.hid (show w5.ownsRow 0 3 1 (.slice aw' d cw') d (ints (waitTo ms L T k)) from by
                obtain ⟨_, ⟨_, _, _, ⟨_, _, ⟨h, _⟩, _⟩, _⟩, _⟩ := HY5.out
                exact h)
              have HRA := Lib.hid (ow_still HRo.out ((Turned.refl _ w5).alloc (.cells #[.int .i64 y] 3)).drew)
              have HCl := Lib.hid (show ∀ (j : Nat) (u : Value), [Value.int .i64 y][j]? = some u → (w5.alloc (.cells #[.int .i64 y] 3)).drew.cell? ((⟨w5.heap.size, 0, none⟩ : Addr).add j) = some u from ow_cells w5 [.int .i64 y] 3)
              have HNw := Lib.hid (fun (w6 : World) (a6 : Option Addr) (c6 : Nat) (hown : w6.ownsRow 0 3 1 (.slice a6 (d + 1) c6) (d + 1) (ints (waitTo ms L T k) ++ [.int .i64 y])) (hg : (w5.alloc (.cells #[.int .i64 y] 3)).drew.grownBy w6 (Value.slice aw' d cw').ownBlock) (hat : (Value.slice a6 (d + 1) c6).ownBlock = (Value.slice aw' d cw').ownBlock ∨ (Value.slice a6 (d + 1) c6).ownBlock = some (w5.alloc (.cells #[.int .i64 y] 3)).drew.heap.size) =>
                show w6.cell? ⟨q, 2, none⟩ = some (.slice aw' d cw') ∧ w6.frozen? ⟨q, 2, none⟩ = false ∧ Hid (Sit W w (w6.setCell ⟨q, 2, none⟩ (.slice a6 (d + 1) c6)) (zbY q a2 i c4 a3 c5 a6 (d + 1) c6 L T (waitTo ms L T (k + 1)) g)) from by
                have h := sit_app (o := .cells #[.int .i64 y] 3) HY5.out (i := 2) rfl hown ⟨hg.os, hg.tape, hg.output, hg.size, hg.block⟩ hat
                rw [HSt2.out]
                unfold zbY intsT
                rw [show ints (waitTo ms L T k ++ [y]) = ints (waitTo ms L T k) ++ [.int .i64 y] from by simp [ints]]
                exact h)
              go_region_law (refine step_app_own rfl (.tmp 86) (.tmp 91) 44 rfl 0 3 i0 (.int .i64 0) 1 8 Try.underlying44 fi hz0 hz1 hz2 rfl (by decide) (.slice aw' d cw') d (ints (waitTo ms L T k)) rfl HRA.out ⟨w5.heap.size, 0, none⟩ 1 1 [.int .i64 y] rfl rfl HCl.out (ow_ints rfl) (by unfold maxLen; omega) (by omega) (by simp) ?_; intro v6 w6 hown6 hg6 hat6; obtain ⟨a6, c6, rfl⟩ := ow_slice hown6; obtain ⟨hc6, hf6, HG6⟩ := HNw.out w6 a6 c6 hown6 hg6 hat6; clear hown6 hg6 hat6)
              all_goals (
                go_wp2_with fail
                go_roundw
                case rel => exact ⟨k + 1, d + 1, a6, c6, by omega, by go_num, by rw [HSt2.out, List.length_append, ← HD.out]; rfl, HG6.out⟩
                case measure => simp [intOf]; omega)
            · rw [if_neg hr0] at HSt2
              have hr1 : rl = 0 := by omega
              rw [hr1] at HRv
              clear hd hS hy hrl hr0 hr1
              go_wp2_with (go_at_call 62; ((with_reducible refine HRv.out.mono ?_)); rintro e w5 ⟨a5, c5', rfl, _, hs5⟩; have HY5 := Lib.hid (HY.out.still hs5); clear hs5)
              go_roundw
              case rel => exact ⟨k + 1, d, aw', cw', by omega, by go_num, by rw [HSt2.out]; exact HD.out, by rw [HSt2.out]; exact HY5.out⟩
              case measure => simp [intOf]; omega
          · obtain rfl : k = m := by omega
            have HSc := Lib.hid (HSt.out _ (HEnd.out _ _ _ _ _ _ hd hS))
            clear hS hd hlt
            go_wp2_with (go_at_call 63; ((with_reducible refine HSc.out.mono ?_)); rintro e w9 ⟨rfl, hg⟩; have HG9 := Lib.hid hg; clear hg)
            go_ret2
            exact ⟨rfl, HG9.out⟩
      · have HAs := Lib.hid hAs
        have hEb : (E != 0) = true := by rw [bne_iff_ne]; exact hE0
        have HEnd := Lib.hid (fun V (hs : Still w V) => show (BV = false ∧ Goes (zbT q M9) W w V) from
          ⟨by rw [HBV.out]; unfold TbM.beginV; exact decide_eq_false (fun e => hE0 (by rw [HE.out]; exact e.1)), by rw [HM9.out]; unfold TbM.begin_; rw [if_neg (by rw [← HE.out]; exact hE0)]; exact HG0.out V hs⟩)
        clear hAs hE1 hps hown hL hLl hr hu hst hlt hE0
        go_wp2_with (go_at_call 61; ((with_reducible refine HAs.out.mono ?_)); rintro e w3 ⟨a3, c5, rfl, hown3, hs3⟩; have HS3 := Lib.hid (HS.out.trans hs3); clear hown3 hs3)
        go_ret2
        obtain ⟨e1, e2⟩ := HEnd.out _ HS3.out
        exact ⟨by rw [e1]; rfl, e2⟩
end
end Go.Proofs.Ytdlkdagmaeapdaa

/- What Has of the document's table answers. No condition but that it is one. -/
namespace Go.Proofs.Ytdlkdagmaeapdaa
open Go.RowKit
set_option linter.unusedVariables false
set_option linter.unusedSimpArgs false
set_option maxRecDepth 100000

section
variable {q K : Nat} {M : TbM} {w w' : World} {W : Nat → Prop} {ao at_ aw : Option Addr} {co ct cw : Nat}
theorem has_step {O T : List Own} {p : Plc} {k : Nat} {o t : Own} (h1 : O[k]? = some o) (h2 : T[k]? = some t) (hno : ∀ j x, j < k → (O.zip T)[j]? = some x → x.1.1 ≠ p) : (o.1 = p → (O.zip T).find? (fun x => decide (x.1.1 = p)) = some (o, t)) := by
  intro he
  rw [List.find?_eq_some_iff_getElem]
  have hz := zip_at h1 h2
  obtain ⟨hk, e⟩ := List.getElem?_eq_some_iff.1 hz
  refine ⟨by simpa using he, k, hk, e, fun j hj => ?_⟩
  have := hno j _ hj (List.getElem?_eq_getElem (by omega))
  simpa using this
theorem has_none {O T : List Own} {p : Plc} (hno : ∀ j x, j < O.length → (O.zip T)[j]? = some x → x.1.1 ≠ p) : (O.zip T).find? (fun x => decide (x.1.1 = p)) = none := by
  rw [List.find?_eq_none]
  intro x hx
  obtain ⟨j, hj, e⟩ := List.mem_iff_getElem.1 hx
  have := hno j x (by rw [List.length_zip] at hj; omega) (by rw [List.getElem?_eq_getElem hj, e])
  simpa using this
set_option maxHeartbeats 4000000 in
theorem zrbhas_any (h : ZbRd q ao co at_ ct aw cw M w) (hM : M.Pre K) (x : Int) (p : Plc) :
    Calls Try.prog 68 #[.pointer (some ⟨q, 0, none⟩), .int .i64 x, .agg #[.int .i64 p.1, .int .i64 p.2]] w fun e w' => e = .returned (.int .i64 (M.hasE x p)) ∧ Still w w' := by
  obtain ⟨p1, p2⟩ := p
  have HRd := Lib.hid (fun V (hs : Still w V) => h.still hs)
  have HL2 := Lib.hid hM.len2
  obtain ⟨m, hm⟩ : ∃ m, m = M.O.length := ⟨_, rfl⟩
  have hm256 : m ≤ 256 := by rw [hm]; exact hM.len
  have HM := Lib.hid hm
  have c0 := h.c0
  have c1 := h.c1
  rw [← hM.len2, ← hm] at c1
  rw [← hm] at c0
  have HC := Lib.hid (fun V (hs : Still w V) => show V.cell? ⟨q, 0, none⟩ = some (.slice ao m co) ∧ V.cell? ⟨q, 1, none⟩ = some (.slice at_ m ct) from ⟨still_cell hs c0 rfl, still_cell hs c1 rfl⟩)
  obtain ⟨b, hb⟩ : ∃ b, b = w.heap.size := ⟨_, rfl⟩
  obtain ⟨Wb, hWb⟩ : ∃ Wb, Wb = w.alloc (.cells #[.int .i64 p1, .int .i64 p2] 54) := ⟨_, rfl⟩
  have hSb : Still w Wb := by rw [hWb]; exact (Turned.refl _ _).alloc _
  have hbb : Blk Wb b [.int .i64 p1, .int .i64 p2] 54 := by rw [hWb, hb]; exact Blk.new w _ _
  have HB := Lib.hid (fun V (hs : Still Wb V) => show V.cell? ⟨b, 0, none⟩ = some (.int .i64 p1) ∧ V.cell? ⟨b, 1, none⟩ = some (.int .i64 p2) from ⟨(hbb.turned hs (fun h => h)).cell rfl, (hbb.turned hs (fun h => h)).cell rfl⟩)
  have HSb := Lib.hid hSb
  have HHas := Lib.hid (fun (k : Nat) (o t : Own) (h1 : M.O[k]? = some o) (h2 : M.T[k]? = some t) (hno : ∀ j x, j < k → (M.O.zip M.T)[j]? = some x → x.1.1 ≠ (p1, p2)) (he : o.1 = (p1, p2)) => show M.hasE x (p1, p2) = if x < 0 ∨ o.2 ≠ x then 180 else if t.2 ≠ x then 170 else 0 from by
    unfold TbM.hasE; rw [has_step h1 h2 hno he])
  have HNone := Lib.hid (fun (hno : ∀ j x, j < m → (M.O.zip M.T)[j]? = some x → x.1.1 ≠ (p1, p2)) => show M.hasE x (p1, p2) = 5 from by
    unfold TbM.hasE; rw [has_none (by rw [← HM.out]; exact hno)])
  clear h hM hm hbb hSb
  dsimp only
  go_enter Try.func68, Try.ntmps68
  go_wp2_with fail
  rw [← hWb, ← hb]
  clear c0 c1 hWb hb
  go_loopw [7] (fun ix wq => ∃ i : Nat, i ≤ m ∧ ix = .int .i64 i ∧ (∀ j x, j < i → (M.O.zip M.T)[j]? = some x → x.1.1 ≠ (p1, p2)) ∧ Still Wb wq) (fun ix _ => m - (intOf ix).toNat)
  case atStart => exact ⟨0, Nat.zero_le _, rfl, fun j x hj => by omega, Turned.refl _ _⟩
  case round =>
    obtain ⟨i, hi, rfl, hno, hst⟩ := hrel
    have HS := Lib.hid hst
    have hs0 := HSb.out.trans hst
    have HS0 := Lib.hid hs0
    obtain ⟨c0, c1⟩ := HC.out _ hs0
    obtain ⟨q0, q1⟩ := HB.out _ hst
    by_cases hlt : i < m
    · obtain ⟨⟨⟨pf, pt⟩, oi⟩, ho⟩ := get_some (l := M.O) (i := i) (by rw [← HM.out]; exact hlt)
      obtain ⟨⟨tp, ti⟩, ht⟩ := get_some (l := M.T) (i := i) (by rw [← HL2.out, ← HM.out]; exact hlt)
      have hrd := HRd.out _ hs0
      obtain ⟨b1, o1, rfl, r1⟩ := hrd.ro i _ ho
      obtain ⟨b2, o2, rfl, r2⟩ := hrd.rt i _ ht
      have x0 : wr.cell? ⟨b1, o1 + i * 3, none⟩ = some (.int .i64 pf) := r1 0 _ rfl
      have x1 : wr.cell? ⟨b1, o1 + i * 3 + 1, none⟩ = some (.int .i64 pt) := by rw [Nat.add_assoc]; exact r1 1 _ rfl
      have x2 : wr.cell? ⟨b1, o1 + i * 3 + 2, none⟩ = some (.int .i64 oi) := by rw [Nat.add_assoc]; exact r1 2 _ rfl
      have t2 : wr.cell? ⟨b2, o2 + i * 3 + 2, none⟩ = some (.int .i64 ti) := by rw [Nat.add_assoc]; exact r2 2 _ rfl
      have hii : (i : Int) < (m : Int) := by omega
      by_cases he : pf = p1 ∧ pt = p2
      · obtain ⟨rfl, rfl⟩ := he
        have HE := Lib.hid (HHas.out i _ _ ho ht hno rfl)
        dsimp only at HE
        clear hrd r1 r2 ho ht hno hst hs0
        go_wp2_with fail
        go_quiet (fail)
        obtain ⟨V, hV⟩ : ∃ V, V = wr.drewN nq := ⟨_, rfl⟩
        have HSV := Lib.hid (show Still w V from by rw [hV]; exact HS0.out.drewN _)
        have v0 : V.cell? ⟨q, 0, none⟩ = some (.slice (some ⟨b1, o1, none⟩) m co) := by rw [hV]; exact c0
        have v1 : V.cell? ⟨q, 1, none⟩ = some (.slice (some ⟨b2, o2, none⟩) m ct) := by rw [hV]; exact c1
        have v2 : V.cell? ⟨b1, o1 + i * 3 + 2, none⟩ = some (.int .i64 oi) := by rw [hV]; exact x2
        have v3 : V.cell? ⟨b2, o2 + i * 3 + 2, none⟩ = some (.int .i64 ti) := by rw [hV]; exact t2
        rw [← hV]
        clear hV c0 c1 x0 x1 x2 t2 q0 q1
        by_cases g1 : x < 0
        · have HF := Lib.hid (HE.out.trans (if_pos (.inl g1)))
          go_wp2_with fail
          go_ret
          exact ⟨ret_int HF.out.symm, HSV.out⟩
        · by_cases g2 : oi = x
          · subst g2
            have g2b : (oi != oi) = false := by simp
            by_cases g3 : ti = oi
            · subst g3
              have HF := Lib.hid (HE.out.trans ((if_neg (by simp [g1])).trans (if_neg (by simp))))
              go_wp2_with fail
              go_ret
              exact ⟨ret_int HF.out.symm, HSV.out⟩
            · have g3b : (ti != oi) = true := by rw [bne_iff_ne]; exact g3
              have HF := Lib.hid (HE.out.trans ((if_neg (by simp [g1])).trans (if_pos g3)))
              go_wp2_with fail
              go_ret
              exact ⟨ret_int HF.out.symm, HSV.out⟩
          · have g2b : (oi != x) = true := by rw [bne_iff_ne]; exact g2
            have HF := Lib.hid (HE.out.trans (if_pos (.inr g2)))
            go_wp2_with fail
            go_ret
            exact ⟨ret_int HF.out.symm, HSV.out⟩
      · have HNo := Lib.hid (show ∀ j x, j < i + 1 → (M.O.zip M.T)[j]? = some x → x.1.1 ≠ (p1, p2) from fun j x hj hx => by
          rcases Nat.lt_succ_iff_lt_or_eq.1 hj with hj | rfl
          · exact hno j x hj hx
          · rw [zip_at ho ht] at hx
            obtain rfl := Option.some.inj hx
            exact fun e => he ⟨congrArg Prod.fst e, congrArg Prod.snd e⟩)
        have he' : pf ≠ p1 ∨ (pf = p1 ∧ pt ≠ p2) := by
          by_cases h : pf = p1
          · exact .inr ⟨h, fun h2 => he ⟨h, h2⟩⟩
          · exact .inl h
        clear hrd r1 r2 ho ht hno hst hs0 he
        rcases he' with h1 | ⟨rfl, h1⟩
        all_goals (
          go_wp2_with fail
          go_quiet (fail)
          go_wp2_with fail
          go_roundw
          case rel => exact ⟨i + 1, by omega, by go_num, HNo.out, HS.out.drewN _⟩
          case measure => simp [intOf]; omega)
    · obtain rfl : i = m := by omega
      have HF := Lib.hid (HNone.out hno)
      clear hno hst hs0 hlt
      go_wp2_with fail
      go_ret
      exact ⟨ret_int HF.out.symm, HS0.out⟩
end
end Go.Proofs.Ytdlkdagmaeapdaa

/- samePlaces of the statements of layer 17. No condition. -/
namespace Go.Proofs.Ytdlkdagmaeapdaa
open Go.RowKit
set_option linter.unusedVariables false
set_option linter.unusedSimpArgs false
set_option maxRecDepth 100000

end Go.Proofs.Ytdlkdagmaeapdaa

/- What the statements of layer 17 ask of both tables, where both hold the same plain one. No condition but the words. -/
namespace Go.Proofs.Ytdlkdagmaeapdaa
open Go.RowKit
set_option linter.unusedVariables false
set_option linter.unusedSimpArgs false
set_option maxRecDepth 100000

section
variable {BT : Nat → TbM → Thing} {w0 V : World} {q z K : Nat} {M : TbM}
theorem rb_zrd (H : Held w0 V ((BT q M).sep (zbT z M))) : ∃ ao co at_ ct aw cw, ZbRd z ao co at_ ct aw cw M V := by
  obtain ⟨_, h, _⟩ := H.swap.fst
  exact zbT_rd h
theorem rb_brd (H : Held w0 V ((BT q M).sep (zbT z M))) : ∃ W, (BT q M).at_ V W := by
  obtain ⟨W, h, _⟩ := H.fst
  exact ⟨W, h⟩
theorem rev_le (O T : List Own) (x : Int) : (revI O T x).length ≤ O.length := by
  unfold revI
  rw [List.length_map]
  refine Nat.le_trans (List.length_filter_le _ _) ?_
  rw [List.length_zip]; omega
end
end Go.Proofs.Ytdlkdagmaeapdaa

/- Both tables of layer 17, of one plain state: calls on both, one after the other; an append of places. No condition but the words. -/
namespace Go.Proofs.Ytdlkdagmaeapdaa
open Go.RowKit
set_option linter.unusedVariables false
set_option linter.unusedSimpArgs false
set_option maxRecDepth 100000

theorem row_cells17 {w : World} {b o : Nat} {xs : List Plc} (h : RowAt encPl 2 w (some ⟨b, o, none⟩) xs) : ∀ (j : Nat) (u : Value), (rowOf encPl xs)[j]? = some u → w.cell? ((⟨b, o, none⟩ : Addr).add j) = some u := by
  intro j u hj
  have hl : j < xs.length * 2 := by
    have := (List.getElem?_eq_some_iff.1 hj).1
    rwa [rowOf_length encPl_len] at this
  obtain ⟨x, hx⟩ := get_some (l := xs) (i := j / 2) (by omega)
  obtain ⟨b', o', e, hc⟩ := h (j / 2) x hx
  cases e
  obtain ⟨v, hv⟩ := get_some (l := encPl x) (i := j % 2) (by rw [encPl_len]; omega)
  have h1 := rowOf_get encPl_len hx hv
  rw [show j / 2 * 2 + j % 2 = j by omega, hj] at h1
  obtain rfl := Option.some.inj h1
  have h2 := hc (j % 2) u hv
  rw [Addr.add_lit]
  rw [show o + (j / 2 * 2 + j % 2) = o + j by omega] at h2
  exact h2
theorem onePl (l : List Plc) : ∀ u ∈ rowOf encPl l, u.oneCell' = true := by
  intro u hu
  unfold rowOf at hu
  obtain ⟨x, _, hx⟩ := List.mem_flatMap.1 hu
  unfold encPl encI at hx
  simp at hx
  rcases hx with rfl | rfl <;> rfl
theorem wpList_app_pl {ops : Array Oper} {rest : List Oper} {o : Oper} {a : Act} {w : World} {Q : Exit → Act → World → Prop} (hgd : o.guard = none) (s x : Operand)
    (ho : o.op = .call { callee := .builtin .append, args := #[s, x], argTypes := #[59, 59] })
    (base n k : Nat) (v : Value) (xs : List Plc) (hs : a.eval s = v) (hown : w.ownsRow base 54 2 v n (rowOf encPl xs))
    (ao : Option Addr) (m c : Nat) (l : List Plc) (hx : a.eval x = .slice ao m c) (hm : m = l.length) (hR : PlAt w ao l) (h0 : ao = none → m = 0 ∧ c = 0) (hk : k = n + m) (h63 : k ≤ 1000000) (hbase : base ≤ w.heap.size)
    (h : ∀ v' w', w'.ownsRow base 54 2 v' k (rowOf encPl (xs ++ l)) → Turned (fun i => v.ownBlock = some i) w w' → wpList Try.prog ops Q rest (a.put o.dst v') w') :
    wpList Try.prog ops Q (o :: rest) a w := by
  obtain ⟨pi, qi, pz0, pz1, pz2⟩ := info_parts infoPl17
  subst hk
  cases ao with
  | none =>
    obtain ⟨rfl, rfl⟩ := h0 rfl
    obtain rfl : l = [] := by cases l with
      | nil => rfl
      | cons _ _ => simp at hm
    refine wpList_append_own_none hgd s x 59 ho base 54 pi 2 Try.underlying59 qi v n (rowOf encPl xs) hs hown hx ?_
    exact h v w (by rw [List.append_nil, Nat.add_zero]; exact hown) (Turned.refl _ _)
  | some ad =>
    refine wpList_append_own_at _ hgd s x 59 ho base 54 pi (.agg #[.int .i64 0, .int .i64 0]) 2 16 Try.underlying59 qi pz0 pz1 pz2 rfl (by decide) v n (rowOf encPl xs) hs hown ad m c (rowOf encPl l) hx (by rw [rowOf_length encPl_len, hm]) (fun j u hj => ?_) (onePl l) (by unfold maxLen; omega) (by omega) hbase ?_
    · cases l with
      | nil => cases hj
      | cons y r =>
        obtain ⟨b, p, e, _⟩ := hR 0 y rfl
        cases e
        exact row_cells17 hR j u hj
    · intro v' w' g1 g2 _ _
      exact h v' w' (by rw [rowOf_append]; exact g1) ((Turned.refl _ _).grown g2 (fun i e => .inl e))

section
variable {BT : Nat → TbM → Thing} {w0 V : World} {q z K : Nat} {M : TbM}
theorem tb_begin (A : RebalApi BT) (hM : M.Ok K) (hK : K < 1000000) {lo bo ao am : Option Addr} {ps : List Plc} {ms : List Int} {n m cl c1 c2 cm : Nat} (hn : n = ps.length) (hm : m = ms.length) (h1 : n ≤ 1000) (h2 : m ≤ 1000)
    (hA : NumsAt w0 am ms) (H : Held w0 V ((((BT q M).sep (zbT z M)).sep (plsT lo n cl ps)).sep ((plsT bo n c1 ps).sep (intsT ao m c2 ms)))) :
    ∃ (v : Bool) (E : Int), Calls Try.prog 33 #[.pointer (some ⟨q, 0, none⟩), .slice bo n c1, .slice ao m c2] V fun e w' => e = .returned (.tuple #[.bool v, .int .i64 E]) ∧
      Calls Try.prog 34 #[.pointer (some ⟨z, 0, none⟩), .slice lo n cl, .slice am m cm] w' fun e w'' => e = .returned (.tuple #[.bool v, .int .i64 E]) ∧ ∃ M' : TbM, M'.Ok (K + 1) ∧ Held w0 w'' ((BT q M').sep (zbT z M')) := by
  have H1 : Held w0 V ((BT q M).sep (((zbT z M).sep (plsT lo n cl ps)).sep ((plsT bo n c1 ps).sep (intsT ao m c2 ms)))) := H.assoc.assoc.imp2 (fun h => sep_imp2 (fun h => h) (fun h => sep_assoc' h) h)
  refine ⟨M.beginV ps ms, begE ps ms, (Held.beginC A hM hK hn hm h1 h2 rfl rfl rfl H1).mono fun e w' ⟨he, h⟩ => ⟨he, ?_⟩⟩
  have H2 : Held w0 w' ((BT q (M.begin_ ps ms)).sep ((zbT z M).sep (plsT lo n cl ps))) := h.assoc'.drop
  have H3 : Held w0 w' ((zbT z M).sep ((BT q (M.begin_ ps ms)).sep (plsT lo n cl ps))) := H2.turn
  have hpl : PlAt w' lo ps := by
    obtain ⟨_, hp, _⟩ := H3.snd.snd
    exact RowAt.of_own encPl_len hp.1 hn
  have hlo : ∀ W, (zbT z M).at_ w' W → True := fun _ _ => trivial
  have HG := H3.ground
  obtain ⟨W, ⟨W1, W2, g1, g2, gd, gW⟩, gl, gs⟩ := H3
  have hz := zrbbegin_any (c1 := cl) (c2 := cm) g1 hM hK hn hm h1 h2 hpl (hA.still HG) (fun hne a ea hk => by
    have h5 := gl _ ((gW _).2 (.inl hk))
    cases ms with
    | nil => exact hne rfl
    | cons y r =>
      obtain ⟨b, o, e, hc⟩ := hA 0 y rfl
      rw [ea] at e
      cases e
      have h6 : b < w0.heap.size := cell_lt hc
      have h7 : w0.heap.size ≤ b := h5
      omega)
  refine hz.mono fun e w'' ⟨he, hg⟩ => ⟨he, M.begin_ ps ms, hM.begin_ ps ms, ?_⟩
  have H4 : Held w0 w' ((zbT z M).sep ((BT q (M.begin_ ps ms)).sep (plsT lo n cl ps))) := ⟨W, ⟨W1, W2, g1, g2, gd, gW⟩, gl, gs⟩
  have H5 : Held w0 w'' ((zbT z (M.begin_ ps ms)).sep ((BT q (M.begin_ ps ms)).sep (plsT lo n cl ps))) := by
    obtain ⟨Wn, q1, q2, q3⟩ := hg
    refine ⟨fun k => Wn k ∨ W2 k, ⟨Wn, W2, q1, Thing.keep _ g2 q2 (fun k hk hk1 => gd k hk1 hk), fun k hk hk2 => ?_, fun k => Iff.rfl⟩, fun k hk => ?_, gs.past q2 (fun i hi => .inr (gl i ((gW i).2 (.inl hi))))⟩
    · rcases q3 k hk with h | h
      · exact gd k h hk2
      · have := Thing.lt _ g2 k hk2; omega
    · rcases hk with hk | hk
      · rcases q3 k hk with h | h
        · exact gl k ((gW k).2 (.inl h))
        · exact Nat.le_trans gs.size h
      · exact gl k ((gW k).2 (.inr hk))
  exact H5.turn.assoc'.drop
theorem tb_ack (A : RebalApi BT) (hM : M.Ok K) (hK : K < 1000000) {x : Int} (h1 : -9223372036854775808 ≤ x) (h2 : x ≤ 9223372036854775807) (H : Held w0 V ((BT q M).sep (zbT z M))) :
    ∃ (v : Bool) (E : Int), Calls Try.prog 35 #[.pointer (some ⟨q, 0, none⟩), .int .i64 x] V fun e w' => e = .returned (.tuple #[.bool v, .int .i64 E]) ∧
      Calls Try.prog 36 #[.pointer (some ⟨z, 0, none⟩), .int .i64 x] w' fun e w'' => e = .returned (.tuple #[.bool v, .int .i64 E]) ∧ ∃ M' : TbM, M'.Ok (K + 1) ∧ Held w0 w'' ((BT q M').sep (zbT z M')) := by
  refine ⟨M.ackV x, M.ackE x, (Held.ackB A hM hK h1 h2 rfl rfl rfl H).mono fun e w' ⟨he, h⟩ => ⟨he, ?_⟩⟩
  exact (h.swap.call (fun _ h => zrback_any h hM hK x)).mono fun e w'' ⟨he, h⟩ => ⟨he, _, hM.ack x, h.swap⟩
end
end Go.Proofs.Ytdlkdagmaeapdaa

/- Who may commit in a table: the plain answer. No condition. -/
namespace Go.Proofs.Ytdlkdagmaeapdaa
open Go.RowKit
set_option linter.unusedVariables false

def jdgE (M : TbM) (id gen : Int) (p : Plc) : Int := if gen = ((M.G : Nat) : Int) then (if M.hasE id p = 170 then 0 else M.hasE id p) else 180
end Go.Proofs.Ytdlkdagmaeapdaa

/- Who may commit in a table: the plain answer, the document's, and the words wanted of the program's. No condition but the words. -/
namespace Go.Proofs.Ytdlkdagmaeapdaa
open Go.RowKit
set_option linter.unusedVariables false
set_option linter.unusedSimpArgs false
set_option maxRecDepth 100000

structure JudgeApi (BT : Nat → TbM → Thing) : Prop where
  nil_ : ∀ (x g a b : Int) (w : World), Calls Try.prog 37 #[.pointer none, .int .i64 x, .int .i64 g, .agg #[.int .i64 a, .int .i64 b]] w fun e w' => e = .returned (.int .i64 1) ∧ Still w w'
  judge : ∀ {w : World} {W : Nat → Prop} {q K : Nat} {M : TbM}, (BT q M).at_ w W → M.Ok K → K < 1000000 → ∀ (x g a b : Int), -9223372036854775808 ≤ x → x ≤ 9223372036854775807 →
    Calls Try.prog 37 #[.pointer (some ⟨q, 0, none⟩), .int .i64 x, .int .i64 g, .agg #[.int .i64 a, .int .i64 b]] w fun e w' => e = .returned (.int .i64 (jdgE M x g (a, b))) ∧ Still w w'
  begin_ : ∀ {w : World} {W : Nat → Prop} {q K : Nat} {M : TbM}, (BT q M).at_ w W → M.Ok K → K < 1000000 → ∀ {bo ao : Option Addr} {ps : List Plc} {ms : List Int} {n m c1 c2 : Nat}, n = ps.length → m = ms.length → n ≤ 1000 → m ≤ 1000 → PlAt w bo ps → NumsAt w ao ms →
    Calls Try.prog 33 #[.pointer (some ⟨q, 0, none⟩), .slice bo n c1, .slice ao m c2] w fun e w' => e = .returned (.tuple #[.bool (M.beginV ps ms), .int .i64 (begE ps ms)]) ∧ Goes (BT q (M.begin_ ps ms)) W w w'
theorem Held.fstL {w0 w : World} {A B : Thing} (h : Held w0 w (A.sep B)) : ∃ W, A.at_ w W ∧ (∀ k, W k → w0.heap.size ≤ k) ∧ ∀ (A' : Thing) (w' : World), Goes A' W w w' → Held w0 w' (A'.sep B) := by
  obtain ⟨W, ⟨W1, W2, h1, h2, hd, hW⟩, hlo, h3⟩ := h
  refine ⟨W1, h1, fun k hk => hlo k ((hW k).2 (.inl hk)), fun A' w' ⟨W', g1, g2, g3⟩ => ?_⟩
  refine ⟨fun k => W' k ∨ W2 k, ⟨W', W2, g1, B.keep h2 g2 (fun k hk hk1 => hd k hk1 hk), fun k hk hk2 => ?_, fun k => Iff.rfl⟩, fun k hk => ?_, h3.past g2 (fun i hi => .inr (hlo i ((hW i).2 (.inl hi))))⟩
  · rcases g3 k hk with h | h
    · exact hd k h hk2
    · have := B.lt h2 k hk2; omega
  · rcases hk with hk | hk
    · rcases g3 k hk with h | h
      · exact hlo k ((hW k).2 (.inl h))
      · exact Nat.le_trans h3.size h
    · exact hlo k ((hW k).2 (.inr hk))
theorem zfnjudge_any {q K : Nat} {M : TbM} {w : World} {W : Nat → Prop} (h : (zbT q M).at_ w W) (hM : M.Pre K) (x g a b : Int) :
    Calls Try.prog 38 #[.pointer (some ⟨q, 0, none⟩), .int .i64 x, .int .i64 g, .agg #[.int .i64 a, .int .i64 b]] w fun e w' => e = .returned (.int .i64 (jdgE M x g (a, b))) ∧ Still w w' := by
  obtain ⟨ao, co, at_, ct, aw, cw, hrd⟩ := zbT_rd h
  obtain ⟨W1, hW1⟩ : ∃ W1, W1 = w.alloc (.cells #[.int .i64 a, .int .i64 b] 54) := ⟨_, rfl⟩
  have hs1 : Still w W1 := by rw [hW1]; exact (Turned.refl _ _).alloc _
  have hrd := hrd.still hs1
  have HH := Lib.hid (zrbhas_any hrd hM x (a, b))
  have c3 := hrd.c3
  have HR := Lib.hid hs1
  unfold jdgE
  rw [hW1] at HH c3 HR
  clear h hrd hM hs1 hW1
  by_cases hg : g = ((M.G : Nat) : Int)
  · rw [if_pos hg]
    generalize M.hasE x (a, b) = e at *
    generalize ((M.G : Nat) : Int) = G at *
    subst hg
    by_cases he : e = 170
    · subst he
      rw [if_pos rfl]
      go_enter Try.func38, Try.ntmps38
      go_wp2_with (go_at_call 68; ((with_reducible refine HH.out.mono ?_)); rintro e w1 ⟨rfl, hs⟩; have S1 := Lib.hid (HR.out.trans hs); clear hs)
      go_ret
      exact ⟨rfl, S1.out⟩
    · have heb : (e == 170) = false := by simpa using he
      rw [if_neg he]
      clear he
      go_enter Try.func38, Try.ntmps38
      go_wp2_with (go_at_call 68; ((with_reducible refine HH.out.mono ?_)); rintro e w1 ⟨rfl, hs⟩; have S1 := Lib.hid (HR.out.trans hs); clear hs)
      go_ret
      exact ⟨rfl, S1.out⟩
  · have hgb : (g != ((M.G : Nat) : Int)) = true := by simpa using hg
    rw [if_neg hg]
    generalize ((M.G : Nat) : Int) = G at *
    clear hg HH
    go_enter Try.func38, Try.ntmps38
    go_wp2_with fail
    go_ret
    exact ⟨rfl, HR.out⟩

section
variable {BT : Nat → TbM → Thing} {w0 V : World} {q z K : Nat} {M : TbM} {R : Thing}
/-- Both tables, begun anew with places that stay, and members that lay there. -/
theorem fj_begin (A : JudgeApi BT) (hM : M.Ok K) (hK : K < 1000000) {lo am : Option Addr} {ps : List Plc} {ms : List Int} {n m cl c2 cm : Nat} (hn : n = ps.length) (hm : m = ms.length) (h1 : n ≤ 1000) (h2 : m ≤ 1000)
    (hA : NumsAt w0 am ms) (H : Held w0 V (((BT q M).sep (zbT z M)).sep ((plsT lo n cl ps).sep R))) :
    ∃ (v : Bool) (E : Int), Calls Try.prog 33 #[.pointer (some ⟨q, 0, none⟩), .slice lo n cl, .slice am m c2] V fun e w' => e = .returned (.tuple #[.bool v, .int .i64 E]) ∧ Still w0 w' ∧
      Calls Try.prog 34 #[.pointer (some ⟨z, 0, none⟩), .slice lo n cl, .slice am m cm] w' fun e w'' => e = .returned (.tuple #[.bool v, .int .i64 E]) ∧ ∃ M' : TbM, M'.Ok (K + 1) ∧ Held w0 w'' (((BT q M').sep (zbT z M')).sep ((plsT lo n cl ps).sep R)) := by
  have H1 : Held w0 V ((BT q M).sep ((zbT z M).sep ((plsT lo n cl ps).sep R))) := H.assoc
  obtain ⟨W, h, _, hgo⟩ := H1.fstL
  have hpl : ∀ {V1 : World}, Held w0 V1 (plsT lo n cl ps) → PlAt V1 lo ps := fun hh => by
    obtain ⟨_, hp, _⟩ := hh
    exact RowAt.of_own encPl_len hp.1 hn
  refine ⟨M.beginV ps ms, begE ps ms, (A.begin_ h hM hK hn hm h1 h2 (hpl H.snd.drop) (hA.still H.ground)).mono ?_⟩
  rintro e w' ⟨he, hg⟩
  have H2 : Held w0 w' ((BT q (M.begin_ ps ms)).sep ((zbT z M).sep ((plsT lo n cl ps).sep R))) := hgo _ _ hg
  refine ⟨he, H2.ground, ?_⟩
  have H3 := H2.turn
  obtain ⟨W3, h3, hl3, hgo3⟩ := H3.fstL
  refine (zrbbegin_any (c1 := cl) (c2 := cm) h3 hM hK hn hm h1 h2 (hpl H3.snd.snd.drop) (hA.still H3.ground) (fun hne a ea hk => ?_)).mono ?_
  · have h5 := hl3 _ hk
    cases ms with
    | nil => exact hne rfl
    | cons y r =>
      obtain ⟨b, o, e, hc⟩ := hA 0 y rfl
      rw [ea] at e
      cases e
      have h6 : b < w0.heap.size := cell_lt hc
      have h7 : w0.heap.size ≤ b := h5
      omega
  · rintro e w'' ⟨he, hg⟩
    exact ⟨he, M.begin_ ps ms, hM.begin_ ps ms, (hgo3 _ _ hg).turn.assoc'⟩
theorem fj_ack (A : RebalApi BT) (hM : M.Ok K) (hK : K < 1000000) {x : Int} (h1 : -9223372036854775808 ≤ x) (h2 : x ≤ 9223372036854775807) (H : Held w0 V (((BT q M).sep (zbT z M)).sep R)) :
    ∃ (v : Bool) (E : Int), Calls Try.prog 35 #[.pointer (some ⟨q, 0, none⟩), .int .i64 x] V fun e w' => e = .returned (.tuple #[.bool v, .int .i64 E]) ∧ Still w0 w' ∧
      Calls Try.prog 36 #[.pointer (some ⟨z, 0, none⟩), .int .i64 x] w' fun e w'' => e = .returned (.tuple #[.bool v, .int .i64 E]) ∧ ∃ M' : TbM, M'.Ok (K + 1) ∧ Held w0 w'' (((BT q M').sep (zbT z M')).sep R) := by
  refine ⟨M.ackV x, M.ackE x, (Held.ackB A hM hK h1 h2 rfl rfl rfl H.assoc).mono fun e w' ⟨he, h⟩ => ⟨he, h.ground, ?_⟩⟩
  exact (h.turn.call (fun _ h => zrback_any h hM hK x)).mono fun e w'' ⟨he, h⟩ => ⟨he, _, hM.ack x, h.turn.assoc'⟩
end
end Go.Proofs.Ytdlkdagmaeapdaa
