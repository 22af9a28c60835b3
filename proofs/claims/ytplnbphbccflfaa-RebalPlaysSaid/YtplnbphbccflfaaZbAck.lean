/- What Ack and Has of the document's table do. No condition but that it is one. -/
import Derived.Test.YtplnbphbccflfaaZbSettle
namespace Go.Proofs.Ytplnbphbccflfaa
open Go.RowKit
set_option linter.unusedVariables false
set_option linter.unusedSimpArgs false
set_option maxRecDepth 100000

section
variable {q K n n2 k d : Nat} {M : TbM} {w V w' : World} {W Q0 : Nat → Prop} {ao at_ aw a6 : Option Addr} {co ct cw c6 : Nat} {O T : List Own} {Wl Wn : List Int} {gv : Value}
/-- Another row of those who must acknowledge comes into the table. -/
theorem zb_swapW (H : Sit Q0 w V ((blkT q [.slice ao n co, .slice at_ n2 ct, .slice aw k cw, gv] 40).sep ((ownsT ao n co O).sep ((ownsT at_ n2 ct T).sep (intsT aw k cw Wl)))))
    (hown : w'.ownsRow V.heap.size 3 1 (.slice a6 d c6) d (ints Wn)) (hs : Still V w') :
    (w'.cell? ⟨q, 2, none⟩ = some (.slice aw k cw) ∧ w'.frozen? ⟨q, 2, none⟩ = false) ∧
      Hid (Sit Q0 w (w'.setCell ⟨q, 2, none⟩ (.slice a6 d c6)) ((blkT q [.slice ao n co, .slice at_ n2 ct, .slice a6 d c6, gv] 40).sep ((ownsT ao n co O).sep ((ownsT at_ n2 ct T).sep (intsT a6 d c6 Wn))))) := by
  have hnew : ∃ W, (intsT a6 d c6 Wn).at_ w' W ∧ Still V w' ∧ ∀ k, W k → V.heap.size ≤ k := by
    refine ⟨fun k => (Value.slice a6 d c6).ownBlock = some k, ⟨ow_base hown (Nat.zero_le _), fun k => Iff.rfl⟩, hs, fun k hk => ?_⟩
    cases a6 with
    | none => cases hk
    | some z =>
      have h1 := (ow_lt hown z rfl).1
      have h2 : z.block = k := by simpa [Value.ownBlock] using hk
      omega
  have H1 := (H.new hnew).assoc
  obtain ⟨h1, h2, h3⟩ := sit_row (o := 2) H1 rfl (.slice a6 d c6)
  refine ⟨⟨h1, h2⟩, Lib.hid ?_⟩
  have H2 := h3.out.imp (fun h => sep_imp2 (fun h => h) (fun h => sep_turn (sep_imp2 (fun h => h) (fun h => sep_turn (sep_assoc h)) (sep_assoc h))) h)
  exact H2.turn.snd
def leftTo (l : List Int) (x : Int) (k : Nat) : List Int := (l.take k).filter (fun m => decide (m ≠ x))
theorem leftTo_step {l : List Int} {x y : Int} {k : Nat} (h : l[k]? = some y) : leftTo l x (k + 1) = if y = x then leftTo l x k else leftTo l x k ++ [y] := by
  unfold leftTo
  rw [List.take_add_one, h, List.filter_append]
  show _ ++ List.filter _ [y] = _
  rw [List.filter_cons, List.filter_nil]
  by_cases e : y = x
  · rw [if_neg (by simpa using e), if_pos e, List.append_nil]
  · rw [if_pos (by simpa using e), if_neg e]
theorem leftTo_len (l : List Int) (x : Int) (k : Nat) : (leftTo l x k).length ≤ k := by
  unfold leftTo
  refine Nat.le_trans (List.length_filter_le _ _) ?_
  rw [List.length_take]; omega
theorem set_same {α : Type} {l : List α} {i : Nat} {o : α} (h : l[i]? = some o) : l.set i o = l := by
  obtain ⟨hi, rfl⟩ := List.getElem?_eq_some_iff.1 h
  exact List.set_getElem_self hi
/-- Owners of whom so many were taken off. -/
def offTo (O T : List Own) (id : Int) (i : Nat) : List Own := ((O.zip T).map (offI id)).take i ++ O.drop i
theorem offTo_len {O T : List Own} (h : O.length = T.length) (id : Int) (i : Nat) : (offTo O T id i).length = O.length := by
  unfold offTo
  rw [List.length_append, List.length_take, List.length_map, List.length_zip, List.length_drop]; omega
theorem offTo_get {O T : List Own} (h : O.length = T.length) {id : Int} {i : Nat} {o : Own} (ho : O[i]? = some o) : (offTo O T id i)[i]? = some o := by
  have hi := (List.getElem?_eq_some_iff.1 ho).1
  unfold offTo
  rw [List.getElem?_append_right (by rw [List.length_take]; omega), List.getElem?_drop]
  rw [← ho]; congr 1
  rw [List.length_take, List.length_map, List.length_zip]; omega
theorem offTo_set {O T : List Own} (h : O.length = T.length) {id : Int} {i : Nat} {o t : Own} (ho : O[i]? = some o) (ht : T[i]? = some t) : (offTo O T id i).set i (offI id (o, t)) = offTo O T id (i + 1) := by
  have hi := (List.getElem?_eq_some_iff.1 ho).1
  have hz : ((O.zip T).map (offI id))[i]? = some (offI id (o, t)) := by rw [List.getElem?_map, zip_at ho ht]; rfl
  have hl : (((O.zip T).map (offI id)).take i).length = i := by rw [List.length_take, List.length_map, List.length_zip]; omega
  unfold offTo
  rw [List.set_append_right _ _ (by omega), hl, Nat.sub_self, List.drop_eq_getElem_cons hi, List.set_cons_zero, List.take_add_one, hz]
  simp
theorem offTo_all {O T : List Own} (h : O.length = T.length) (id : Int) : offTo O T id O.length = (O.zip T).map (offI id) := by
  unfold offTo
  rw [List.take_of_length_le (by rw [List.length_map, List.length_zip]; omega), List.drop_length, List.append_nil]

set_option maxHeartbeats 8000000 in
theorem zrback_any (h : (zbT q M).at_ w W) (hM : M.Ok K) (hK : K < 1000000) (x : Int) :
    Calls Try.prog 16 #[.pointer (some ⟨q, 0, none⟩), .int .i64 x] w fun e w' => e = .returned (.tuple #[.bool (M.ackV x), .int .i64 (M.ackE x)]) ∧ Goes (zbT q (M.ack x)) W w w' := by
  obtain ⟨ao, co, at_, ct, aw, cw, hX⟩ := h
  have hrd := zbX_rd hX
  have HI := Lib.hid (zrbin_any w aw M.W M.W.length cw x rfl (by have := hM.wl; omega) hrd.rw_)
  have HG0 := Lib.hid (fun V (hs : Still w V) => show Goes (zbT q M) W w V from Goes.still (Q := zbT q M) ⟨ao, co, at_, ct, aw, cw, hX⟩ hs)
  have c2 := hrd.c2
  unfold TbM.ackV TbM.ackE TbM.ack
  by_cases hi : x ∈ M.W
  · rw [decide_eq_true hi] at HI
    rw [if_pos hi, if_pos hi]
    have hx0 := hM.wp x hi
    obtain ⟨M', hM'⟩ : ∃ M', M' = M.acked x := ⟨_, rfl⟩
    have hP' : M'.Pre K := by rw [hM']; exact acked_pre hM.toPre hi
    have HSt := Lib.hid (fun V (H : Sit W w V (zbT q M')) => zrbsettle_sit hP' hK H)
    have HV := Lib.hid (show decide (x ∈ M.W ∧ M'.W = []) = decide (M'.W = []) from by rw [Bool.eq_iff_iff]; simp [hi])
    rw [← hM', HV.out]
    have HM' := Lib.hid hM'
    have HSit := Lib.hid (show Sit W w w (zbX q ao co at_ ct aw cw M) from Sit.start hX)
    have HWr := Lib.hid hrd.rw_
    have HC2 := Lib.hid (fun V (hs : Still w V) => still_cell hs c2 rfl)
    have HL2 := Lib.hid hM.len2
    obtain ⟨nw, hnw⟩ : ∃ nw, nw = M.W.length := ⟨_, rfl⟩
    have hw8 : nw ≤ 8 := by rw [hnw]; exact hM.wl
    have HNw := Lib.hid hnw
    rw [← hnw] at c2 HI HC2
    obtain ⟨no, hno⟩ : ∃ no, no = M.O.length := ⟨_, rfl⟩
    have ho256 : no ≤ 256 := by rw [hno]; exact hM.len
    have HNo := Lib.hid hno
    obtain ⟨i0, fi, hz0, hz1, hz2⟩ := info_parts infoIntW
    have HW0 := Lib.hid (fun V => World.ownsRow_made (e := 3) (size := 1) V #[] 0 (Nat.le_refl _) (by simp) (by simp))
    clear hrd hX hi hM hM' hP' hnw hno
    go_enter Try.func16, Try.ntmps16
    go_wp2_with (go_at_call 34; ((with_reducible refine HI.out.mono ?_)); rintro e w1 ⟨rfl, rfl⟩)
    clear c2
    go_loopw [6, 7] (fun ll kx wq => ∃ (k d : Nat) (a2 : Option Addr) (c4 : Nat), k ≤ nw ∧ kx = .int .i64 k ∧ d = (leftTo M.W x k).length ∧ ll = .slice a2 d c4 ∧ wq.ownsRow w.heap.size 3 1 (.slice a2 d c4) d (ints (leftTo M.W x k)) ∧ Still w wq) (fun _ kx _ => nw - (intOf kx).toNat)
    case atStart => exact ⟨0, 0, _, 0, Nat.zero_le _, rfl, rfl, rfl, HW0.out w, (Turned.refl _ _).alloc _⟩
    case round =>
      obtain ⟨k, d, a2, c4, hk, rfl, hd, rfl, hown, hst⟩ := hrel
      have HO := Lib.hid hown
      have HS := Lib.hid hst
      have HD := Lib.hid hd
      have hd2 : d ≤ k := by rw [hd]; exact leftTo_len _ _ _
      have hlo := hst.size
      have c2 := HC2.out _ hst
      by_cases hlt : k < nw
      · obtain ⟨y, hy⟩ := get_some (l := M.W) (i := k) (by rw [← HNw.out]; exact hlt)
        obtain ⟨b, o, rfl, cy⟩ := (HWr.out.still hst) k y hy
        have HSt2 := Lib.hid (leftTo_step (x := x) hy)
        have hki : (k : Int) < (nw : Int) := by omega
        clear hown hst hd hy
        by_cases e : y = x
        · subst e
          have HS2 := Lib.hid (show leftTo M.W y (k + 1) = leftTo M.W y k from by rw [HSt2.out, if_pos rfl])
          go_wp2_with fail
          go_roundw
          case rel => exact ⟨k + 1, d, a2, c4, by omega, by go_num, by rw [HS2.out]; exact HD.out, rfl, by rw [HS2.out]; exact HO.out, HS.out⟩
          case measure => simp [intOf]; omega
        · have eb : (y != x) = true := by rw [bne_iff_ne]; exact e
          have HS2 := Lib.hid (show leftTo M.W x (k + 1) = leftTo M.W x k ++ [y] from by rw [HSt2.out, if_neg e])
          go_wp2_with (at_builtin; refine wpList_append_own_at _ rfl _ _ 28 rfl w.heap.size 3 i0 (.int .i64 0) 1 8 Try.underlying28 fi hz0 hz1 hz2 rfl (by decide) (.slice a2 d c4) d (ints (leftTo M.W x k)) rfl (ow_still HO.out ((Turned.refl _ _).alloc _)) ⟨wr.heap.size, 0, none⟩ 1 1 [.int .i64 y] rfl rfl (ow_cells wr _ _) (ow_ints rfl) (by unfold maxLen; omega) (by omega) (by first | (simp; done) | (simp; omega)) ?_; intro v6 w6 hown6 hg6 _ hat6; obtain ⟨a6, c6, rfl⟩ := ow_slice hown6; have HS6 := Lib.hid (row_appended HS.out HO.out hg6); have HO6 := Lib.hid hown6; clear hown6 hg6 hat6)
          go_roundw
          case rel => exact ⟨k + 1, d + 1, a6, c6, by omega, by go_num, by rw [HS2.out, List.length_append, ← HD.out]; rfl, rfl, by rw [HS2.out]; have := HO6.out; simpa [ints] using this, HS6.out⟩
          case measure => simp [intOf]; omega
      · obtain rfl : k = nw := by omega
        have hlf : leftTo M.W x k = M'.W := by
          rw [HM'.out]; unfold leftTo; rw [List.take_of_length_le (by rw [HNw.out]; exact Nat.le_refl _)]; rfl
        rw [hlf] at hown hd
        have hH : Sit W w w ((blkT q [.slice ao M.O.length co, .slice at_ M.T.length ct, .slice aw M.W.length cw, .int .i64 ((M.G : Nat) : Int)] 40).sep ((ownsT ao M.O.length co M.O).sep ((ownsT at_ M.T.length ct M.T).sep (intsT aw M.W.length cw M.W)))) := HSit.out
        obtain ⟨⟨s1, s2⟩, s3⟩ := zb_swapW hH hown hst
        rw [← HNw.out] at s1
        obtain ⟨L, hLd⟩ : ∃ L : Nat → List Own, L = offTo M.O M.T x := ⟨_, rfl⟩
        have HS3 := Lib.hid (show Sit W w (wr.setCell ⟨q, 2, none⟩ (.slice a2 d c4)) ((blkT q [.slice ao no co, .slice at_ no ct, .slice a2 d c4, .int .i64 ((M.G : Nat) : Int)] 40).sep ((ownsT ao no co (L 0)).sep ((ownsT at_ no ct M.T).sep (intsT a2 d c4 M'.W)))) from by
          have h3 := s3.out
          rw [← HL2.out, ← HNo.out] at h3
          rw [hLd, show offTo M.O M.T x 0 = M.O from by unfold offTo; simp]
          exact h3)
        have HLst := Lib.hid (fun (i : Nat) (o t : Own) (ho : M.O[i]? = some o) (ht : M.T[i]? = some t) => show (L i)[i]? = some o ∧ (L i).set i (offI x (o, t)) = L (i + 1) from by
          rw [hLd]; exact ⟨offTo_get HL2.out ho, offTo_set HL2.out ho ht⟩)
        have HLa := Lib.hid (show L no = M'.O from by rw [hLd, HNo.out, offTo_all HL2.out, HM'.out]; rfl)
        have HLl := Lib.hid (fun i => show (L i).length = no from by rw [hLd, offTo_len HL2.out]; exact HNo.out.symm)
        have hDw : d = M'.W.length := hd
        have HDw := Lib.hid hDw
        have HTG := Lib.hid (show M'.T = M.T ∧ M'.G = M.G from by rw [HM'.out]; exact ⟨rfl, rfl⟩)
        have HTl := Lib.hid (show M'.T.length = no ∧ M'.O.length = no from by
          rw [HTG.out.1, ← HL2.out, ← HLa.out]; exact ⟨HNo.out.symm, HLl.out no⟩)
        clear hown hst hd hlf hH s3 hDw hlt hLd HO HS HD
        go_wp2_with fail
        clear s1 s2 c2
        go_loopw [8] (fun ix wq => ∃ i : Nat, i ≤ no ∧ ix = .int .i64 i ∧ Sit W w wq ((blkT q [.slice ao no co, .slice at_ no ct, .slice a2 d c4, .int .i64 ((M.G : Nat) : Int)] 40).sep ((ownsT ao no co (L i)).sep ((ownsT at_ no ct M.T).sep (intsT a2 d c4 M'.W))))) (fun ix _ => no - (intOf ix).toNat)
        case atStart => exact ⟨0, Nat.zero_le _, rfl, HS3.out⟩
        case round =>
          clear HS3
          obtain ⟨i, hi, rfl, hH⟩ := hrel
          have KH := Lib.hid hH
          obtain ⟨c0, c1⟩ : wr.cell? ⟨q, 0, none⟩ = some (.slice ao no co) ∧ wr.cell? ⟨q, 1, none⟩ = some (.slice at_ no ct) := by
            obtain ⟨_, ⟨_, _, ⟨hb, _⟩, _⟩, _⟩ := hH
            exact ⟨hb.cell rfl, hb.cell rfl⟩
          by_cases hlt : i < no
          · obtain ⟨⟨⟨pf, pt⟩, oi⟩, ho⟩ := get_some (l := M.O) (i := i) (by rw [← HNo.out]; exact hlt)
            obtain ⟨⟨tp, ti⟩, ht⟩ := get_some (l := M.T) (i := i) (by rw [← HL2.out, ← HNo.out]; exact hlt)
            obtain ⟨hlo2, hls⟩ := HLst.out i _ _ ho ht
            obtain ⟨g1, rfl⟩ : ∃ g1, ao = some ⟨g1, 0, none⟩ := by
              obtain ⟨_, ⟨_, _, _, ⟨_, _, ⟨h, _⟩, _⟩, _⟩, _⟩ := hH
              exact owm_addr h (by omega)
            obtain ⟨g2, rfl⟩ : ∃ g2, at_ = some ⟨g2, 0, none⟩ := by
              obtain ⟨_, ⟨_, _, _, ⟨_, _, _, ⟨_, _, ⟨h, _⟩, _⟩, _⟩, _⟩, _⟩ := hH
              exact owm_addr h (by omega)
            have hro : (rowOf encOw (L i))[i * 3 + 2]? = some (.int .i64 oi) := rowOf_get encOw_len hlo2 (j := 2) rfl
            have hrt : (rowOf encOw M.T)[i * 3 + 2]? = some (.int .i64 ti) := rowOf_get encOw_len ht (j := 2) rfl
            obtain ⟨s1, s2, s3⟩ := sit_put hH hro (.int .i64 (-1))
            have t1 : wr.cell? ⟨g2, i * 3 + 2, none⟩ = some (.int .i64 ti) := by
              obtain ⟨_, ⟨_, _, _, ⟨_, _, _, ⟨_, _, ⟨h, _⟩, _⟩, _⟩, _⟩, _⟩ := hH
              exact (owm_cell h hrt).1
            have hii : (i : Int) < (no : Int) := by omega
            by_cases h1 : oi = x
            · subst h1
              by_cases h3 : ti = oi
              · subst h3
                have HNx := Lib.hid (show L (i + 1) = L i from by
                  rw [← hls]
                  unfold offI
                  rw [if_neg (by unfold isRev; simp)]
                  exact set_same hlo2)
                clear hH ho ht hlo2 hls hro hrt s3
                go_wp2_with fail
                go_roundw
                case rel => exact ⟨i + 1, by omega, by go_num, by rw [HNx.out]; exact KH.out⟩
                case measure => simp [intOf]; omega
              · have h3b : (ti != oi) = true := by rw [bne_iff_ne]; exact h3
                have HNx := Lib.hid (show rowOf encOw (L (i + 1)) = (rowOf encOw (L i)).set (i * 3 + 2) (.int .i64 (-1)) from by
                  rw [← hls]
                  unfold offI
                  rw [if_pos (by unfold isRev; simp [h3, hx0.1])]
                  exact (rowOf_set encOw_len hlo2 (j := 2) (b := ((pf, pt), -1)) (by omega) rfl).symm)
                clear hH ho ht hlo2 hls hro hrt
                go_wp2_with fail
                go_roundw
                case rel => exact ⟨i + 1, by omega, by go_num, by unfold ownsT; rw [HNx.out]; exact s3.out⟩
                case measure => simp [intOf]; omega
            · have h1b : (oi == x) = false := by rw [beq_eq_false_iff_ne]; exact h1
              have HNx := Lib.hid (show L (i + 1) = L i from by
                rw [← hls]
                unfold offI
                rw [if_neg (by unfold isRev; simp [h1])]
                exact set_same hlo2)
              clear hH ho ht hlo2 hls hro hrt s3
              go_wp2_with fail
              go_roundw
              case rel => exact ⟨i + 1, by omega, by go_num, by rw [HNx.out]; exact KH.out⟩
              case measure => simp [intOf]; omega
          · obtain rfl : i = no := by omega
            have HSx := Lib.hid (show Sit W w wr (zbT q M') from by
              have h3 := hH
              rw [HLa.out] at h3
              refine h3.imp (fun h => ⟨ao, co, at_, ct, a2, c4, ?_⟩)
              show (zbX q ao co at_ ct a2 c4 M').at_ _ _
              unfold zbX
              rw [HTl.out.1, HTl.out.2, ← HDw.out, HTG.out.1, HTG.out.2]
              exact h)
            have HSc := Lib.hid (HSt.out _ HSx.out)
            clear hH hlt
            go_wp2_with (go_at_call 37; ((with_reducible refine HSc.out.mono ?_)); rintro e w9 ⟨rfl, hg⟩; have HG9 := Lib.hid hg; clear hg)
            go_ret2
            exact ⟨rfl, HG9.out⟩
  · rw [decide_eq_false hi] at HI
    rw [if_neg hi, if_neg hi, show decide (x ∈ M.W ∧ (M.acked x).W = []) = false from decide_eq_false (fun e => hi e.1)]
    clear hrd hX hi hM
    go_enter Try.func16, Try.ntmps16
    go_wp2_with (go_at_call 34; ((with_reducible refine HI.out.mono ?_)); rintro e w1 ⟨rfl, rfl⟩)
    go_ret2
    exact ⟨rfl, HG0.out _ (Turned.refl _ _)⟩
end
end Go.Proofs.Ytplnbphbccflfaa
