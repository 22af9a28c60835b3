/- RingOnce: the walk. No condition but that the program's ring keeps its words. -/
import Derived.Test.YtefopajkcpcjpaaOnceMath
namespace Go.Proofs.Ytefopajkcpcjpaa
open Go.RowKit
set_option linter.unusedVariables false
set_option linter.unusedSimpArgs false
set_option maxRecDepth 100000

theorem Held.at2 {w0 w : World} {A B R : Thing} (h : Held w0 w (A.sep (B.sep R))) : ∃ W, B.at_ w W ∧ ∀ (B' : Thing) (w' : World), Goes B' W w w' → Held w0 w' (A.sep (B'.sep R)) := by
  obtain ⟨W, h1, h2⟩ := h.turn.fst
  exact ⟨W, h1, fun B' w' hg => (h2 B' w' hg).turn⟩
theorem Held.at3 {w0 w : World} {A B C R : Thing} (h : Held w0 w (A.sep (B.sep (C.sep R)))) : ∃ W, C.at_ w W ∧ ∀ (C' : Thing) (w' : World), Goes C' W w w' → Held w0 w' (A.sep (B.sep (C'.sep R))) := by
  obtain ⟨W, h1, h2⟩ := h.assoc'.at2
  exact ⟨W, h1, fun C' w' hg => (h2 C' w' hg).assoc⟩
theorem ownT_grown0 {e : TypeId} {m : Nat} {ao a' : Option Addr} {n cc n' c' : Nat} {xs ys : List Value} {W : Nat → Prop} {w w' : World} (h : (ownT e m ao n cc xs).at_ w W)
    (hown : w'.ownsRow 0 e m (.slice a' n' c') n' ys) (hg : w.grownBy w' (Value.slice ao n cc).ownBlock)
    (hat : (Value.slice a' n' c').ownBlock = (Value.slice ao n cc).ownBlock ∨ (Value.slice a' n' c').ownBlock = some w.heap.size) : Goes (ownT e m a' n' c' ys) W w w' := by
  obtain ⟨h1, hW⟩ := h
  refine ⟨fun k => (Value.slice a' n' c').ownBlock = some k, ⟨hown, fun k => Iff.rfl⟩, (Turned.refl W w).grown hg (fun k hk => .inl ((hW k).2 hk)), fun k hk => ?_⟩
  rcases hat with h | h
  · exact .inl ((hW k).2 (h ▸ hk))
  · rw [h] at hk
    have : w.heap.size = k := by simpa using hk
    exact .inr (by rw [← this]; exact Nat.le_refl _)
theorem run_append_none0 {P : Program} (t ty e : TypeId) (i : TypeInfo) (ht : P.underlying t = some (.slice e)) (hi : P.info? e = some i) (b s : Option Addr) (n cap c : Nat) (hle : n ≤ cap) (W : World) :
    (Builtin.append_ #[t, t] ty #[.slice b n cap, .slice s 0 c]).run P W = .ok (.slice b n cap) W := by
  have hl : ∀ (x : Addr), (loadCells x 0).run P W = .ok #[] W := fun x => by simpa using run_loadCells_list (P := P) W x [] (by simp)
  cases b <;> cases s <;> simp [Builtin.append_, run_underlying ht, sizeOf, typeInfo, hi, Builtin.lenOf, Builtin.firstCells, hle, storeCells, hl]
theorem wpList_append_zero {P : Program} {ops : Array Oper} {rest : List Oper} {o : Oper} {a : Act} {w : World} {Q : Exit → Act → World → Prop}
    (hg : o.guard = none) (s x : Operand) (t : TypeId) (hop : o.op = Op.call { callee := Callee.builtin Builtin.append, args := #[s, x], argTypes := #[t, t] })
    (e : TypeId) (i : TypeInfo) (h1 : P.underlying t = some (.slice e)) (h2 : P.info? e = some i)
    (b sp : Option Addr) (n cap c : Nat) (hs : a.eval s = .slice b n cap) (hx : a.eval x = .slice sp 0 c) (hle : n ≤ cap)
    (hK : wpList P ops Q rest (a.put o.dst (.slice b n cap)) w) : wpList P ops Q (o :: rest) a w := by
  refine wpList_plain hg fun K hK' => ?_
  have hrun := run_append_none0 (P := P) t o.type e i h1 h2 b sp n cap c hle w
  unfold Oper.wp
  simp [execOp, hop, resolve, invoke, builtin, hs, hx, hrun, Result.andThen]
  exact hK' _ _ hK
theorem nums_cells {w : World} {b o : Nat} {l : List Int} (h : NumsAt w (some ⟨b, o, none⟩) l) : ∀ (j : Nat) (u : Value), (ints l)[j]? = some u → w.cell? ((⟨b, o, none⟩ : Addr).add j) = some u := fun j u hu => by
  unfold Go.Proofs.Ytefopajkcpcjpaa.ints at hu
  rw [List.getElem?_map] at hu
  obtain ⟨x, hx, rfl⟩ := Option.map_eq_some_iff.1 hu
  obtain ⟨b', o', e, hc⟩ := h j x hx
  cases e
  rw [Addr.add_lit]
  exact hc
theorem ints_one (l : List Int) : ∀ u ∈ ints l, u.oneCell' = true := by
  intro u hu
  unfold Go.Proofs.Ytefopajkcpcjpaa.ints at hu
  obtain ⟨x, _, rfl⟩ := List.mem_map.1 hu
  rfl

theorem ownT_cell_at {w : World} {W : Nat → Prop} {e : TypeId} {ao : Option Addr} {n c : Nat} {xs : List Value} (h : (ownT e 1 ao n c xs).at_ w W) {k : Nat} (hk : k < n) : ∃ g, ao = some ⟨g, 0, none⟩ ∧ (∃ u, w.cell? ⟨g, k, none⟩ = some u) ∧ w.frozen? ⟨g, k, none⟩ = false := by
  obtain ⟨ho, _⟩ := h
  obtain ⟨g, r, rfl, _, hb⟩ := ow_blk ho (by omega)
  have hl := ho.1
  rw [Nat.mul_one] at hl
  obtain ⟨u, hu⟩ := get_some (l := xs) (i := k) (by omega)
  exact ⟨g, rfl, ⟨u, hb.cell (by rw [List.getElem?_append_left (by omega)]; exact hu)⟩, hb.free k⟩

def obools (l : List Bool) : List Value := l.map Value.bool
theorem obools_set (l : List Bool) (k : Nat) (b : Bool) : (obools l).set k (.bool b) = obools (l.set k b) := by simp [obools, List.map_set]
theorem infoBool6 : (Try.prog.info? 4).map (fun i => (i.zero, i.size, i.bytes)) = some (some (.bool false), 1, 1) := by kernel_rfl

structure OnceIn (RT : Nat → RM → Thing) (w wr : World) (q k : Nat) (M : RM) (D : List Bool) (ga : Option Addr) (gl gc : Nat) (da : Option Addr) (dl dc : Nat) : Prop where
  held : Held w wr ((RT q M).sep ((ownT 3 1 ga gl gc (ints (goneL M.h))).sep (ownT 4 1 da dl dc (obools D))))
  ok : M.Ok k
  m : OnceM M D
  gl : gl = M.h
  dl : dl = M.tail
def OnceMid (RT : Nat → RM → Thing) (w : World) (q k : Nat) (g dn nx : Value) (wx : World) : Prop :=
  ∃ M D ga gl gc da dl dc, g = .slice ga gl gc ∧ dn = .slice da dl dc ∧ nx = .int .i64 (RM.tail M : Nat) ∧ OnceIn RT w wx q (k + 1) M D ga gl gc da dl dc

set_option maxHeartbeats 8000000 in
theorem once_walk {RT : Nat → RM → Thing} (A : RingApi RT) (r0 p0 : Int) (s : Sl Act6) (w : World) (h1 : SlOk encAct6 okAct6 2 w s) :
    Calls Try.prog 5 #[.int .i64 r0, .int .i64 p0, .slice s.a s.len s.cap] w fun e w' => e = .returned (.bool true) ∧ Still w w' := by
  obtain ⟨sa, sl, sc, sx⟩ := s
  have hscap : sl ≤ sc := h1.le
  have hsmax : sc ≤ maxLen := h1.max
  unfold maxLen at hsmax
  have HS := Lib.hid h1
  have HSL : Hid (sx.length = sl) := Lib.hid h1.len
  clear h1
  dsimp only at HSL HS ⊢
  obtain ⟨i0, hi, hz0, hz1, hz2⟩ := info_parts infoIntW
  obtain ⟨j0, ji, jz0, jz1, jz2⟩ := info_parts infoBool6
  obtain ⟨R1, hR1⟩ : ∃ x, x = am r0 64 := ⟨_, rfl⟩
  have hr1 : R1 < 64 := by rw [hR1]; exact am_lt _ (by omega)
  have B1 := Lib.hid (fun W => among_lit r0 64 64 R1 rfl hR1 (by omega) (by omega) W)
  obtain ⟨P1, hP1⟩ : ∃ x, x = am p0 2 := ⟨_, rfl⟩
  have hp1 : P1 < 2 := by rw [hP1]; exact am_lt _ (by omega)
  have B2 := Lib.hid (fun W => among_lit p0 2 2 P1 rfl hP1 (by omega) (by omega) W)
  obtain ⟨ov, hov⟩ : ∃ b : Bool, ((P1 : Nat) : Int) = polB b := by
    rcases (show P1 = 0 ∨ P1 = 1 by omega) with h | h
    · exact ⟨false, by rw [h]; rfl⟩
    · exact ⟨true, by rw [h]; rfl⟩
  obtain ⟨rm, hrm⟩ : ∃ rm, rm = R1 + 1 := ⟨_, rfl⟩
  have erm : (1 : Int) + (R1 : Int) = rm := by omega
  have rm1 : 1 ≤ rm := by omega
  have rm2 : rm ≤ 64 := by omega
  have HO0 := Lib.hid (RM.new_ok (ov := ov) rm1 rm2)
  have C0 := Lib.hid (fun W => A.make_ok rm ov W rm1 rm2)
  rw [← hov] at C0
  clear hR1 hrm hP1 hov
  go_enter Try.func5, Try.ntmps5
  go_wp2_with fail
  refine (works6 A _).mono ?_
  rintro e w1 ⟨rfl, hT⟩
  have HT := Lib.hid hT
  clear hT
  go_wp2_with fail
  refine (B1.out _).mono ?_
  rintro e w' ⟨rfl, rfl⟩
  go_wp2_with fail
  refine (B2.out _).mono ?_
  rintro e w' ⟨rfl, rfl⟩
  go_wp2_with fail
  refine (C0.out _).mono ?_
  intro e w2 hN
  obtain ⟨q, rfl, H⟩ := Held.ring HT.out hN
  have HI0 := Lib.hid (show OnceIn RT w ((w2.alloc (.cells #[] 3)).alloc (.cells #[] 4)) q 0 (RM.new rm ov) [] (some ⟨w2.heap.size, 0, none⟩) 0 0 (some ⟨w2.heap.size + 1, 0, none⟩) 0 0 from
    ⟨by have := ((H.drop.new2 3 1).new2 4 1).assoc; rw [World.size_alloc] at this; exact this, HO0.out, ⟨rfl, fun i p hp => by cases hp⟩, rfl, rfl⟩)
  clear hN C0 H B1 B2 erm hr1 HO0
  go_wp2_with fail
  go_loopw [9, 10, 11, 12] (fun g dn nx i wr => ∃ (k : Nat) (M : RM) (D : List Bool) (ga : Option Addr) (gl gc : Nat) (da : Option Addr) (dl dc : Nat), k ≤ sl ∧ k ≤ 150 ∧ i = .int .i64 k ∧ g = .slice ga gl gc ∧ dn = .slice da dl dc ∧ nx = .int .i64 (M.tail : Nat) ∧ OnceIn RT w wr q k M D ga gl gc da dl dc) (fun _ _ _ i _ => sl - (intOf i).toNat)
  case atStart => exact ⟨0, _, _, _, _, _, _, _, _, Nat.zero_le _, Nat.zero_le _, rfl, rfl, rfl, rfl, HI0.out⟩
  case round =>
    clear HI0
    obtain ⟨k, M, D, ga, gl, gc, da, dl, dc, hk, hk1, rfl, rfl, rfl, rfl, hI⟩ := hrel
    by_cases hin : k < sl ∧ k < 150
    · obtain ⟨hlt, h150⟩ := hin
      obtain ⟨a, hx⟩ := get_some (l := sx) (i := k) (by rw [HSL.out]; exact hlt)
      obtain ⟨b, o, rfl, hc⟩ := HS.out.row k a hx
      have hok := HS.out.each a (List.mem_of_getElem? hx)
      have hT := hI.held.ground
      obtain ⟨d, nn⟩ := a
      have c0 : wr.cell? ⟨b, o + k * 2, none⟩ = some (.int .i64 d) := still_cell hT (hc 0 _ rfl) (by omega)
      have c1 : wr.cell? ⟨b, o + k * 2 + 1, none⟩ = some (.int .i64 nn) := still_cell hT (hc 1 _ rfl) (by omega)
      obtain ⟨v, hv⟩ : ∃ v, v = am d 8 := ⟨_, rfl⟩
      have hvl : v < 8 := by rw [hv]; exact am_lt _ (by omega)
      have D1 := Lib.hid (fun W => among_lit d 8 8 v rfl hv (by omega) (by omega) W)
      have HH := Lib.hid (hI.held.box [.int .i64 d, .int .i64 nn] 32).push
      have HI := Lib.hid hI
      have HOk := Lib.hid hI.ok
      have hlow : M.tail ≤ k := hI.ok.low
      have hle : M.h ≤ M.tail := Nat.le_add_right _ _
      obtain ⟨wa, hwa⟩ : ∃ wa, wa = wr.alloc (.cells #[.int .i64 d, .int .i64 nn] 32) := ⟨_, rfl⟩
      obtain ⟨Bx, hBx⟩ : ∃ Bx, Bx = wr.heap.size := ⟨_, rfl⟩
      clear hx hc hok hT hv hI
      go_upto_block 2 with (refine (D1.out _).mono ?_; rintro e w' ⟨rfl, rfl⟩)
      have HH' : Hid (Held w wa ((RT q M).sep ((ownT 3 1 ga gl gc (ints (goneL M.h))).sep ((ownT 4 1 da dl dc (obools D)).sep (blkT Bx [.int .i64 d, .int .i64 nn] 32))))) := Lib.hid (by rw [hwa, hBx]; exact HH.out)
      rw [← hBx, ← hwa]
      have b1 := HH'.out.last.blk.cell (o := 1) (v := .int .i64 nn) rfl
      clear D1 c0 c1 HH hwa hBx
      go_cut [9, 10, 11] (fun g dn nx wx => OnceMid RT w q k g dn nx wx)
      case first =>
        rcases (show v = 0 ∨ v = 1 ∨ v = 2 ∨ v = 3 ∨ v = 4 ∨ v = 5 ∨ v = 6 ∨ v = 7 by omega) with rfl | rfl | rfl | rfl | rfl | rfl | rfl | rfl
        · as_aux_lemma =>
            have X1 := Lib.hid (HH'.out.call (fun _ h' => A.claim h' HOk.out (by omega) ((M.tail : Nat) + 1) (w64_lit (by omega) (by omega))))
            have HDL := Lib.hid HI.out.dl
            have HGL := Lib.hid HI.out.gl
            have hdl : dl ≤ 150 := by rw [HDL.out]; omega
            have hgl : gl ≤ 150 := by rw [HGL.out]; omega
            by_cases he : M.claimE ((M.tail : Nat) + 1) = 0
            · obtain ⟨g1, g2⟩ := HI.out.m.claim rfl HOk.out.pos he
              rw [he] at X1
              have g3 := (RM.claim_tail he HOk.out.pos).1
              have R1 := Lib.hid (HOk.out.claim ((M.tail : Nat) + 1))
              obtain ⟨M', hM'⟩ : ∃ M', M' = M.claimM ((M.tail : Nat) + 1) := ⟨_, rfl⟩
              rw [← hM'] at X1 R1 g1 g2 g3
              generalize M.claimA ((M.tail : Nat) + 1) = qa at *
              have G1 := Lib.hid g1
              have G3 := Lib.hid g3
              clear hM' he g1 g3
              rcases g2 with ⟨gw, gh⟩ | ⟨gw, gh⟩
              · rw [gw] at X1
                have GH := Lib.hid gh
                clear gw gh
                go_wp2_with fail
                ((with_reducible refine X1.out.mono ?_))
                rintro e w6 ⟨rfl, H⟩
                obtain ⟨W3, hat3, hgo3⟩ := H.at3
                have hown3 := hat3.1
                have HA3 := Lib.hid hat3
                have HG3 := Lib.hid hgo3
                have HO3 := Lib.hid hown3
                clear hat3 hgo3 hown3
                clear H X1 b1
                go_wp2_with (at_builtin; refine wpList_append_own_at _ rfl (.tmp 79) (.tmp 80) 50 rfl 0 4 j0 (.bool false) 1 1 Try.underlying50 ji jz0 jz1 jz2 rfl (by decide) (.slice da dl dc) dl (obools D) rfl (ow_still HO3.out ((Turned.refl _ _).alloc _)) ⟨w6.heap.size, 0, none⟩ 1 1 [.bool false] rfl rfl (ow_cells _ _ _) (by intro u hu; simp at hu; subst hu; rfl) (by unfold maxLen; omega) (by omega) (Nat.zero_le _) ?_; intro v8 w8 hown8 hg8 _ hat8; obtain ⟨a8, c8, rfl⟩ := ow_slice hown8; have HH8 := Lib.hid (HG3.out _ _ (ownT_grown HA3.out hown8 hg8 hat8)); clear hown8 hg8 hat8)
                go_meet
                refine ⟨M', D ++ [false], ga, gl, gc, a8, dl + 1, c8, rfl, rfl, by rw [G3.out]; first | rfl | exact congrArg (Value.int .i64) (by omega), ⟨?_, R1.out, G1.out, by rw [HGL.out, GH.out], by rw [HDL.out, G3.out]⟩⟩
                rw [GH.out]
                have := HH8.out.pop
                simpa [obools] using this
              · have hgt : (0 : Int) < (M.h : Int) + 1 := by omega
                rw [gw] at X1
                have GH := Lib.hid gh
                obtain ⟨qw, hqw⟩ : ∃ qw : Int, qw = (M.h : Int) + 1 := ⟨_, rfl⟩
                rw [← hqw] at X1 hgt
                have HQW := Lib.hid hqw
                clear gw gh hqw
                go_wp2_with fail
                ((with_reducible refine X1.out.mono ?_))
                rintro e w6 ⟨rfl, H⟩
                obtain ⟨W2, hat2, hgo2⟩ := H.at2
                have hown2 := hat2.1
                have HA2 := Lib.hid hat2
                have HG2 := Lib.hid hgo2
                have HO2 := Lib.hid hown2
                clear H X1 b1 hat2 hgo2 hown2
                go_upto_region 16 with (at_builtin; refine wpList_append_own_at _ rfl (.tmp 71) (.tmp 73) 39 rfl 0 3 i0 (.int .i64 0) 1 8 Try.underlying39 hi hz0 hz1 hz2 rfl (by decide) (.slice ga gl gc) gl (ints (goneL M.h)) rfl (ow_still HO2.out ((Turned.refl _ _).alloc _)) ⟨w6.heap.size, 0, none⟩ 1 1 [.int .i64 qw] rfl rfl (ow_cells _ _ _) (ow_ints rfl) (by unfold maxLen; omega) (by omega) (Nat.zero_le _) ?_; intro v7 w7 hown7 hg7 _ hat7; obtain ⟨a7, c7, rfl⟩ := ow_slice hown7; have HH7 := Lib.hid (HG2.out _ _ (ownT_grown HA2.out hown7 hg7 hat7)); clear hown7 hg7 hat7)
                obtain ⟨W3, hat3, hgo3⟩ := HH7.out.at3
                have hown3 := hat3.1
                have HA3 := Lib.hid hat3
                have HG3 := Lib.hid hgo3
                have HO3 := Lib.hid hown3
                clear hat3 hgo3 hown3
                go_wp2_with (at_builtin; refine wpList_append_own_at _ rfl (.tmp 79) (.tmp 80) 50 rfl 0 4 j0 (.bool false) 1 1 Try.underlying50 ji jz0 jz1 jz2 rfl (by decide) (.slice da dl dc) dl (obools D) rfl (ow_still HO3.out ((Turned.refl _ _).alloc _)) ⟨w7.heap.size, 0, none⟩ 1 1 [.bool false] rfl rfl (ow_cells _ _ _) (by intro u hu; simp at hu; subst hu; rfl) (by unfold maxLen; omega) (by omega) (Nat.zero_le _) ?_; intro v8 w8 hown8 hg8 _ hat8; obtain ⟨a8, c8, rfl⟩ := ow_slice hown8; have HH8 := Lib.hid (HG3.out _ _ (ownT_grown HA3.out hown8 hg8 hat8)); clear hown8 hg8 hat8)
                go_meet
                refine ⟨M', D ++ [false], a7, gl + 1, c7, a8, dl + 1, c8, rfl, rfl, by rw [G3.out]; first | rfl | exact congrArg (Value.int .i64) (by omega), ⟨?_, R1.out, G1.out, by rw [HGL.out, GH.out], by rw [HDL.out, G3.out]⟩⟩
                rw [GH.out, goneL_succ, ← HQW.out]
                have := HH8.out.pop
                simpa [obools, ints] using this
            · obtain ⟨m1, m2⟩ := RM.claim_no he
              have hb1 : (M.claimE ((M.tail : Nat) + 1) == 0) = false := by rw [beq_eq_false_iff_ne]; exact he
              rw [m1, m2] at X1
              generalize M.claimE ((M.tail : Nat) + 1) = qe at *
              generalize M.claimA ((M.tail : Nat) + 1) = qa at *
              clear he m1 m2
              go_wp2_with fail
              ((with_reducible refine X1.out.mono ?_))
              rintro e w6 ⟨rfl, H⟩
              have HH6 := Lib.hid H.pop
              clear H X1 b1
              go_wp2_with fail
              go_meet
              exact ⟨M, D, ga, gl, gc, da, dl, dc, rfl, rfl, rfl, ⟨HH6.out, HOk.out.mono (by omega), HI.out.m, HGL.out, HDL.out⟩⟩
        · as_aux_lemma =>
            have X1 := Lib.hid (HH'.out.call (fun _ h' => A.claim h' HOk.out (by omega) ((M.tail : Nat) + 1) (w64_lit (by omega) (by omega))))
            have HDL := Lib.hid HI.out.dl
            have HGL := Lib.hid HI.out.gl
            have hdl : dl ≤ 150 := by rw [HDL.out]; omega
            have hgl : gl ≤ 150 := by rw [HGL.out]; omega
            by_cases he : M.claimE ((M.tail : Nat) + 1) = 0
            · obtain ⟨g1, g2⟩ := HI.out.m.claim rfl HOk.out.pos he
              rw [he] at X1
              have g3 := (RM.claim_tail he HOk.out.pos).1
              have R1 := Lib.hid (HOk.out.claim ((M.tail : Nat) + 1))
              obtain ⟨M', hM'⟩ : ∃ M', M' = M.claimM ((M.tail : Nat) + 1) := ⟨_, rfl⟩
              rw [← hM'] at X1 R1 g1 g2 g3
              generalize M.claimA ((M.tail : Nat) + 1) = qa at *
              have G1 := Lib.hid g1
              have G3 := Lib.hid g3
              clear hM' he g1 g3
              rcases g2 with ⟨gw, gh⟩ | ⟨gw, gh⟩
              · rw [gw] at X1
                have GH := Lib.hid gh
                clear gw gh
                go_wp2_with fail
                ((with_reducible refine X1.out.mono ?_))
                rintro e w6 ⟨rfl, H⟩
                obtain ⟨W3, hat3, hgo3⟩ := H.at3
                have hown3 := hat3.1
                have HA3 := Lib.hid hat3
                have HG3 := Lib.hid hgo3
                have HO3 := Lib.hid hown3
                clear hat3 hgo3 hown3
                clear H X1 b1
                go_wp2_with (at_builtin; refine wpList_append_own_at _ rfl (.tmp 79) (.tmp 80) 50 rfl 0 4 j0 (.bool false) 1 1 Try.underlying50 ji jz0 jz1 jz2 rfl (by decide) (.slice da dl dc) dl (obools D) rfl (ow_still HO3.out ((Turned.refl _ _).alloc _)) ⟨w6.heap.size, 0, none⟩ 1 1 [.bool false] rfl rfl (ow_cells _ _ _) (by intro u hu; simp at hu; subst hu; rfl) (by unfold maxLen; omega) (by omega) (Nat.zero_le _) ?_; intro v8 w8 hown8 hg8 _ hat8; obtain ⟨a8, c8, rfl⟩ := ow_slice hown8; have HH8 := Lib.hid (HG3.out _ _ (ownT_grown HA3.out hown8 hg8 hat8)); clear hown8 hg8 hat8)
                go_meet
                refine ⟨M', D ++ [false], ga, gl, gc, a8, dl + 1, c8, rfl, rfl, by rw [G3.out]; first | rfl | exact congrArg (Value.int .i64) (by omega), ⟨?_, R1.out, G1.out, by rw [HGL.out, GH.out], by rw [HDL.out, G3.out]⟩⟩
                rw [GH.out]
                have := HH8.out.pop
                simpa [obools] using this
              · have hgt : (0 : Int) < (M.h : Int) + 1 := by omega
                rw [gw] at X1
                have GH := Lib.hid gh
                obtain ⟨qw, hqw⟩ : ∃ qw : Int, qw = (M.h : Int) + 1 := ⟨_, rfl⟩
                rw [← hqw] at X1 hgt
                have HQW := Lib.hid hqw
                clear gw gh hqw
                go_wp2_with fail
                ((with_reducible refine X1.out.mono ?_))
                rintro e w6 ⟨rfl, H⟩
                obtain ⟨W2, hat2, hgo2⟩ := H.at2
                have hown2 := hat2.1
                have HA2 := Lib.hid hat2
                have HG2 := Lib.hid hgo2
                have HO2 := Lib.hid hown2
                clear H X1 b1 hat2 hgo2 hown2
                go_upto_region 16 with (at_builtin; refine wpList_append_own_at _ rfl (.tmp 71) (.tmp 73) 39 rfl 0 3 i0 (.int .i64 0) 1 8 Try.underlying39 hi hz0 hz1 hz2 rfl (by decide) (.slice ga gl gc) gl (ints (goneL M.h)) rfl (ow_still HO2.out ((Turned.refl _ _).alloc _)) ⟨w6.heap.size, 0, none⟩ 1 1 [.int .i64 qw] rfl rfl (ow_cells _ _ _) (ow_ints rfl) (by unfold maxLen; omega) (by omega) (Nat.zero_le _) ?_; intro v7 w7 hown7 hg7 _ hat7; obtain ⟨a7, c7, rfl⟩ := ow_slice hown7; have HH7 := Lib.hid (HG2.out _ _ (ownT_grown HA2.out hown7 hg7 hat7)); clear hown7 hg7 hat7)
                obtain ⟨W3, hat3, hgo3⟩ := HH7.out.at3
                have hown3 := hat3.1
                have HA3 := Lib.hid hat3
                have HG3 := Lib.hid hgo3
                have HO3 := Lib.hid hown3
                clear hat3 hgo3 hown3
                go_wp2_with (at_builtin; refine wpList_append_own_at _ rfl (.tmp 79) (.tmp 80) 50 rfl 0 4 j0 (.bool false) 1 1 Try.underlying50 ji jz0 jz1 jz2 rfl (by decide) (.slice da dl dc) dl (obools D) rfl (ow_still HO3.out ((Turned.refl _ _).alloc _)) ⟨w7.heap.size, 0, none⟩ 1 1 [.bool false] rfl rfl (ow_cells _ _ _) (by intro u hu; simp at hu; subst hu; rfl) (by unfold maxLen; omega) (by omega) (Nat.zero_le _) ?_; intro v8 w8 hown8 hg8 _ hat8; obtain ⟨a8, c8, rfl⟩ := ow_slice hown8; have HH8 := Lib.hid (HG3.out _ _ (ownT_grown HA3.out hown8 hg8 hat8)); clear hown8 hg8 hat8)
                go_meet
                refine ⟨M', D ++ [false], a7, gl + 1, c7, a8, dl + 1, c8, rfl, rfl, by rw [G3.out]; first | rfl | exact congrArg (Value.int .i64) (by omega), ⟨?_, R1.out, G1.out, by rw [HGL.out, GH.out], by rw [HDL.out, G3.out]⟩⟩
                rw [GH.out, goneL_succ, ← HQW.out]
                have := HH8.out.pop
                simpa [obools, ints] using this
            · obtain ⟨m1, m2⟩ := RM.claim_no he
              have hb1 : (M.claimE ((M.tail : Nat) + 1) == 0) = false := by rw [beq_eq_false_iff_ne]; exact he
              rw [m1, m2] at X1
              generalize M.claimE ((M.tail : Nat) + 1) = qe at *
              generalize M.claimA ((M.tail : Nat) + 1) = qa at *
              clear he m1 m2
              go_wp2_with fail
              ((with_reducible refine X1.out.mono ?_))
              rintro e w6 ⟨rfl, H⟩
              have HH6 := Lib.hid H.pop
              clear H X1 b1
              go_wp2_with fail
              go_meet
              exact ⟨M, D, ga, gl, gc, da, dl, dc, rfl, rfl, rfl, ⟨HH6.out, HOk.out.mono (by omega), HI.out.m, HGL.out, HDL.out⟩⟩
        · as_aux_lemma =>
            have X1 := Lib.hid (HH'.out.call (fun _ h' => A.claim h' HOk.out (by omega) ((M.tail : Nat) + 1) (w64_lit (by omega) (by omega))))
            have HDL := Lib.hid HI.out.dl
            have HGL := Lib.hid HI.out.gl
            have hdl : dl ≤ 150 := by rw [HDL.out]; omega
            have hgl : gl ≤ 150 := by rw [HGL.out]; omega
            by_cases he : M.claimE ((M.tail : Nat) + 1) = 0
            · obtain ⟨g1, g2⟩ := HI.out.m.claim rfl HOk.out.pos he
              rw [he] at X1
              have g3 := (RM.claim_tail he HOk.out.pos).1
              have R1 := Lib.hid (HOk.out.claim ((M.tail : Nat) + 1))
              obtain ⟨M', hM'⟩ : ∃ M', M' = M.claimM ((M.tail : Nat) + 1) := ⟨_, rfl⟩
              rw [← hM'] at X1 R1 g1 g2 g3
              generalize M.claimA ((M.tail : Nat) + 1) = qa at *
              have G1 := Lib.hid g1
              have G3 := Lib.hid g3
              clear hM' he g1 g3
              rcases g2 with ⟨gw, gh⟩ | ⟨gw, gh⟩
              · rw [gw] at X1
                have GH := Lib.hid gh
                clear gw gh
                go_wp2_with fail
                ((with_reducible refine X1.out.mono ?_))
                rintro e w6 ⟨rfl, H⟩
                obtain ⟨W3, hat3, hgo3⟩ := H.at3
                have hown3 := hat3.1
                have HA3 := Lib.hid hat3
                have HG3 := Lib.hid hgo3
                have HO3 := Lib.hid hown3
                clear hat3 hgo3 hown3
                clear H X1 b1
                go_wp2_with (at_builtin; refine wpList_append_own_at _ rfl (.tmp 79) (.tmp 80) 50 rfl 0 4 j0 (.bool false) 1 1 Try.underlying50 ji jz0 jz1 jz2 rfl (by decide) (.slice da dl dc) dl (obools D) rfl (ow_still HO3.out ((Turned.refl _ _).alloc _)) ⟨w6.heap.size, 0, none⟩ 1 1 [.bool false] rfl rfl (ow_cells _ _ _) (by intro u hu; simp at hu; subst hu; rfl) (by unfold maxLen; omega) (by omega) (Nat.zero_le _) ?_; intro v8 w8 hown8 hg8 _ hat8; obtain ⟨a8, c8, rfl⟩ := ow_slice hown8; have HH8 := Lib.hid (HG3.out _ _ (ownT_grown HA3.out hown8 hg8 hat8)); clear hown8 hg8 hat8)
                go_meet
                refine ⟨M', D ++ [false], ga, gl, gc, a8, dl + 1, c8, rfl, rfl, by rw [G3.out]; first | rfl | exact congrArg (Value.int .i64) (by omega), ⟨?_, R1.out, G1.out, by rw [HGL.out, GH.out], by rw [HDL.out, G3.out]⟩⟩
                rw [GH.out]
                have := HH8.out.pop
                simpa [obools] using this
              · have hgt : (0 : Int) < (M.h : Int) + 1 := by omega
                rw [gw] at X1
                have GH := Lib.hid gh
                obtain ⟨qw, hqw⟩ : ∃ qw : Int, qw = (M.h : Int) + 1 := ⟨_, rfl⟩
                rw [← hqw] at X1 hgt
                have HQW := Lib.hid hqw
                clear gw gh hqw
                go_wp2_with fail
                ((with_reducible refine X1.out.mono ?_))
                rintro e w6 ⟨rfl, H⟩
                obtain ⟨W2, hat2, hgo2⟩ := H.at2
                have hown2 := hat2.1
                have HA2 := Lib.hid hat2
                have HG2 := Lib.hid hgo2
                have HO2 := Lib.hid hown2
                clear H X1 b1 hat2 hgo2 hown2
                go_upto_region 16 with (at_builtin; refine wpList_append_own_at _ rfl (.tmp 71) (.tmp 73) 39 rfl 0 3 i0 (.int .i64 0) 1 8 Try.underlying39 hi hz0 hz1 hz2 rfl (by decide) (.slice ga gl gc) gl (ints (goneL M.h)) rfl (ow_still HO2.out ((Turned.refl _ _).alloc _)) ⟨w6.heap.size, 0, none⟩ 1 1 [.int .i64 qw] rfl rfl (ow_cells _ _ _) (ow_ints rfl) (by unfold maxLen; omega) (by omega) (Nat.zero_le _) ?_; intro v7 w7 hown7 hg7 _ hat7; obtain ⟨a7, c7, rfl⟩ := ow_slice hown7; have HH7 := Lib.hid (HG2.out _ _ (ownT_grown HA2.out hown7 hg7 hat7)); clear hown7 hg7 hat7)
                obtain ⟨W3, hat3, hgo3⟩ := HH7.out.at3
                have hown3 := hat3.1
                have HA3 := Lib.hid hat3
                have HG3 := Lib.hid hgo3
                have HO3 := Lib.hid hown3
                clear hat3 hgo3 hown3
                go_wp2_with (at_builtin; refine wpList_append_own_at _ rfl (.tmp 79) (.tmp 80) 50 rfl 0 4 j0 (.bool false) 1 1 Try.underlying50 ji jz0 jz1 jz2 rfl (by decide) (.slice da dl dc) dl (obools D) rfl (ow_still HO3.out ((Turned.refl _ _).alloc _)) ⟨w7.heap.size, 0, none⟩ 1 1 [.bool false] rfl rfl (ow_cells _ _ _) (by intro u hu; simp at hu; subst hu; rfl) (by unfold maxLen; omega) (by omega) (Nat.zero_le _) ?_; intro v8 w8 hown8 hg8 _ hat8; obtain ⟨a8, c8, rfl⟩ := ow_slice hown8; have HH8 := Lib.hid (HG3.out _ _ (ownT_grown HA3.out hown8 hg8 hat8)); clear hown8 hg8 hat8)
                go_meet
                refine ⟨M', D ++ [false], a7, gl + 1, c7, a8, dl + 1, c8, rfl, rfl, by rw [G3.out]; first | rfl | exact congrArg (Value.int .i64) (by omega), ⟨?_, R1.out, G1.out, by rw [HGL.out, GH.out], by rw [HDL.out, G3.out]⟩⟩
                rw [GH.out, goneL_succ, ← HQW.out]
                have := HH8.out.pop
                simpa [obools, ints] using this
            · obtain ⟨m1, m2⟩ := RM.claim_no he
              have hb1 : (M.claimE ((M.tail : Nat) + 1) == 0) = false := by rw [beq_eq_false_iff_ne]; exact he
              rw [m1, m2] at X1
              generalize M.claimE ((M.tail : Nat) + 1) = qe at *
              generalize M.claimA ((M.tail : Nat) + 1) = qa at *
              clear he m1 m2
              go_wp2_with fail
              ((with_reducible refine X1.out.mono ?_))
              rintro e w6 ⟨rfl, H⟩
              have HH6 := Lib.hid H.pop
              clear H X1 b1
              go_wp2_with fail
              go_meet
              exact ⟨M, D, ga, gl, gc, da, dl, dc, rfl, rfl, rfl, ⟨HH6.out, HOk.out.mono (by omega), HI.out.m, HGL.out, HDL.out⟩⟩
        · as_aux_lemma =>
            obtain ⟨Y, hY⟩ : ∃ Y, Y = am nn (M.tail + 1) := ⟨_, rfl⟩
            have hYt : Y ≤ M.tail := by have : Y < M.tail + 1 := by rw [hY]; exact am_lt _ (by omega)
                                        omega
            have E1 := Lib.hid (fun W => among_lit nn ((M.tail : Int) + 1) (M.tail + 1) Y (by omega) hY (by omega) (by omega) W)
            have X1 := Lib.hid (HH'.out.call (fun _ h' => A.pub h' HOk.out (by omega) (Y : Nat) (w64_lit (by omega) (by omega))))
            have HDL := Lib.hid HI.out.dl
            have HGL := Lib.hid HI.out.gl
            clear hY
            by_cases he : M.pubE (Y : Nat) = 0
            · obtain ⟨g0, g1, g2, g3⟩ := HI.out.m.pub_ok he
              rw [he] at X1
              have R1 := Lib.hid ((HOk.out.pub (Y : Nat)).mono (show k ≤ k + 1 by omega))
              obtain ⟨M', hM'⟩ : ∃ M', M' = M.pubM (Y : Nat) := ⟨_, rfl⟩
              rw [← hM'] at X1 R1 g1 g2 g3
              have hYd : Y < dl := by rw [HDL.out, ← HI.out.m.1]; exact g0
              have G1 := Lib.hid g1
              have G2 := Lib.hid g2
              have G3 := Lib.hid g3
              clear hM' he g0 g1 g2 g3
              go_wp2_with fail
              refine (E1.out _).mono ?_
              rintro e w' ⟨rfl, rfl⟩
              go_wp2_with fail
              ((with_reducible refine X1.out.mono ?_))
              rintro e w6 ⟨rfl, H⟩
              obtain ⟨W3, hat3, hgo3⟩ := H.at3
              obtain ⟨gb, rfl, ⟨u0, hu0⟩, hf0⟩ := ownT_cell_at hat3 hYd
              have HH6 := Lib.hid (hgo3 _ _ (ownT_set hat3 Y hYd (.bool true)))
              clear H X1 E1 b1 hat3 hgo3
              go_wp2_with fail
              go_meet
              refine ⟨M', D.set Y true, ga, gl, gc, some ⟨gb, 0, none⟩, dl, dc, rfl, rfl, by rw [G3.out], ⟨?_, R1.out, G1.out, by rw [HGL.out, G2.out], by rw [HDL.out, G3.out]⟩⟩
              have := HH6.out.pop
              rw [obools_set] at this
              rw [G2.out]
              exact this
            · have hb : (M.pubE (Y : Nat) == 0) = false := by rw [beq_eq_false_iff_ne]; exact he
              rw [RM.pub_no he] at X1
              generalize M.pubE (Y : Nat) = qe at *
              clear he
              go_wp2_with fail
              refine (E1.out _).mono ?_
              rintro e w' ⟨rfl, rfl⟩
              go_wp2_with fail
              ((with_reducible refine X1.out.mono ?_))
              rintro e w6 ⟨rfl, H⟩
              have HH6 := Lib.hid H.pop
              clear H X1 E1 b1
              go_wp2_with fail
              go_meet
              exact ⟨M, D, ga, gl, gc, da, dl, dc, rfl, rfl, rfl, ⟨HH6.out, HOk.out.mono (by omega), HI.out.m, HGL.out, HDL.out⟩⟩
        · as_aux_lemma =>
            obtain ⟨Y, hY⟩ : ∃ Y, Y = am nn (M.tail + 1) := ⟨_, rfl⟩
            have hYt : Y ≤ M.tail := by have : Y < M.tail + 1 := by rw [hY]; exact am_lt _ (by omega)
                                        omega
            have E1 := Lib.hid (fun W => among_lit nn ((M.tail : Int) + 1) (M.tail + 1) Y (by omega) hY (by omega) (by omega) W)
            have X1 := Lib.hid (HH'.out.call (fun _ h' => A.pub h' HOk.out (by omega) (Y : Nat) (w64_lit (by omega) (by omega))))
            have HDL := Lib.hid HI.out.dl
            have HGL := Lib.hid HI.out.gl
            clear hY
            by_cases he : M.pubE (Y : Nat) = 0
            · obtain ⟨g0, g1, g2, g3⟩ := HI.out.m.pub_ok he
              rw [he] at X1
              have R1 := Lib.hid ((HOk.out.pub (Y : Nat)).mono (show k ≤ k + 1 by omega))
              obtain ⟨M', hM'⟩ : ∃ M', M' = M.pubM (Y : Nat) := ⟨_, rfl⟩
              rw [← hM'] at X1 R1 g1 g2 g3
              have hYd : Y < dl := by rw [HDL.out, ← HI.out.m.1]; exact g0
              have G1 := Lib.hid g1
              have G2 := Lib.hid g2
              have G3 := Lib.hid g3
              clear hM' he g0 g1 g2 g3
              go_wp2_with fail
              refine (E1.out _).mono ?_
              rintro e w' ⟨rfl, rfl⟩
              go_wp2_with fail
              ((with_reducible refine X1.out.mono ?_))
              rintro e w6 ⟨rfl, H⟩
              obtain ⟨W3, hat3, hgo3⟩ := H.at3
              obtain ⟨gb, rfl, ⟨u0, hu0⟩, hf0⟩ := ownT_cell_at hat3 hYd
              have HH6 := Lib.hid (hgo3 _ _ (ownT_set hat3 Y hYd (.bool true)))
              clear H X1 E1 b1 hat3 hgo3
              go_wp2_with fail
              go_meet
              refine ⟨M', D.set Y true, ga, gl, gc, some ⟨gb, 0, none⟩, dl, dc, rfl, rfl, by rw [G3.out], ⟨?_, R1.out, G1.out, by rw [HGL.out, G2.out], by rw [HDL.out, G3.out]⟩⟩
              have := HH6.out.pop
              rw [obools_set] at this
              rw [G2.out]
              exact this
            · have hb : (M.pubE (Y : Nat) == 0) = false := by rw [beq_eq_false_iff_ne]; exact he
              rw [RM.pub_no he] at X1
              generalize M.pubE (Y : Nat) = qe at *
              clear he
              go_wp2_with fail
              refine (E1.out _).mono ?_
              rintro e w' ⟨rfl, rfl⟩
              go_wp2_with fail
              ((with_reducible refine X1.out.mono ?_))
              rintro e w6 ⟨rfl, H⟩
              have HH6 := Lib.hid H.pop
              clear H X1 E1 b1
              go_wp2_with fail
              go_meet
              exact ⟨M, D, ga, gl, gc, da, dl, dc, rfl, rfl, rfl, ⟨HH6.out, HOk.out.mono (by omega), HI.out.m, HGL.out, HDL.out⟩⟩
        · as_aux_lemma =>
            obtain ⟨Y, hY⟩ : ∃ Y, Y = am nn (M.tail + 1) := ⟨_, rfl⟩
            have hYt : Y ≤ M.tail := by have : Y < M.tail + 1 := by rw [hY]; exact am_lt _ (by omega)
                                        omega
            have E1 := Lib.hid (fun W => among_lit nn ((M.tail : Int) + 1) (M.tail + 1) Y (by omega) hY (by omega) (by omega) W)
            have X1 := Lib.hid (HH'.out.call (fun _ h' => A.pub h' HOk.out (by omega) (Y : Nat) (w64_lit (by omega) (by omega))))
            have HDL := Lib.hid HI.out.dl
            have HGL := Lib.hid HI.out.gl
            clear hY
            by_cases he : M.pubE (Y : Nat) = 0
            · obtain ⟨g0, g1, g2, g3⟩ := HI.out.m.pub_ok he
              rw [he] at X1
              have R1 := Lib.hid ((HOk.out.pub (Y : Nat)).mono (show k ≤ k + 1 by omega))
              obtain ⟨M', hM'⟩ : ∃ M', M' = M.pubM (Y : Nat) := ⟨_, rfl⟩
              rw [← hM'] at X1 R1 g1 g2 g3
              have hYd : Y < dl := by rw [HDL.out, ← HI.out.m.1]; exact g0
              have G1 := Lib.hid g1
              have G2 := Lib.hid g2
              have G3 := Lib.hid g3
              clear hM' he g0 g1 g2 g3
              go_wp2_with fail
              refine (E1.out _).mono ?_
              rintro e w' ⟨rfl, rfl⟩
              go_wp2_with fail
              ((with_reducible refine X1.out.mono ?_))
              rintro e w6 ⟨rfl, H⟩
              obtain ⟨W3, hat3, hgo3⟩ := H.at3
              obtain ⟨gb, rfl, ⟨u0, hu0⟩, hf0⟩ := ownT_cell_at hat3 hYd
              have HH6 := Lib.hid (hgo3 _ _ (ownT_set hat3 Y hYd (.bool true)))
              clear H X1 E1 b1 hat3 hgo3
              go_wp2_with fail
              go_meet
              refine ⟨M', D.set Y true, ga, gl, gc, some ⟨gb, 0, none⟩, dl, dc, rfl, rfl, by rw [G3.out], ⟨?_, R1.out, G1.out, by rw [HGL.out, G2.out], by rw [HDL.out, G3.out]⟩⟩
              have := HH6.out.pop
              rw [obools_set] at this
              rw [G2.out]
              exact this
            · have hb : (M.pubE (Y : Nat) == 0) = false := by rw [beq_eq_false_iff_ne]; exact he
              rw [RM.pub_no he] at X1
              generalize M.pubE (Y : Nat) = qe at *
              clear he
              go_wp2_with fail
              refine (E1.out _).mono ?_
              rintro e w' ⟨rfl, rfl⟩
              go_wp2_with fail
              ((with_reducible refine X1.out.mono ?_))
              rintro e w6 ⟨rfl, H⟩
              have HH6 := Lib.hid H.pop
              clear H X1 E1 b1
              go_wp2_with fail
              go_meet
              exact ⟨M, D, ga, gl, gc, da, dl, dc, rfl, rfl, rfl, ⟨HH6.out, HOk.out.mono (by omega), HI.out.m, HGL.out, HDL.out⟩⟩
        · as_aux_lemma =>
            obtain ⟨Y, hY⟩ : ∃ Y, Y = am nn (M.tail + 1) := ⟨_, rfl⟩
            have hYt : Y ≤ M.tail := by have : Y < M.tail + 1 := by rw [hY]; exact am_lt _ (by omega)
                                        omega
            have E1 := Lib.hid (fun W => among_lit nn ((M.tail : Int) + 1) (M.tail + 1) Y (by omega) hY (by omega) (by omega) W)
            have X1 := Lib.hid (held_trim HH'.out (fun _ h' => A.trim h' HOk.out (by omega) (Y : Nat) (w64_lit (by omega) (by omega))))
            obtain ⟨g1, g2⟩ := HI.out.m.trim (Y : Nat)
            have R1 := Lib.hid (show (M.trimM (Y : Nat)).Ok (k + 1) ∧ (M.trimM (Y : Nat)).tail = M.tail from ⟨(HOk.out.trim _).mono (by omega), (RM.trim_tail _ _).1⟩)
            obtain ⟨M', hM'⟩ : ∃ M', M' = M.trimM (Y : Nat) := ⟨_, rfl⟩
            obtain ⟨L, hL⟩ : ∃ L, L = M.trimL (Y : Nat) := ⟨_, rfl⟩
            obtain ⟨ll, hll⟩ : ∃ ll, ll = L.length := ⟨_, rfl⟩
            rw [← hM', ← hL] at g1 X1
            rw [← hM'] at g2 R1
            rw [← hll] at X1
            have hgl' : gl + ll = M'.h := by
              have := congrArg List.length g1
              rw [List.length_append, goneL_len, goneL_len, ← hll] at this
              rw [HI.out.gl]; exact this
            have hht : gl + ll ≤ 150 := by have h1 : M'.h ≤ M'.tail := Nat.le_add_right _ _
                                           have h2 := R1.out.2
                                           omega
            have HGL' := Lib.hid hgl'
            have G1 := Lib.hid g1
            have G2 := Lib.hid g2
            have HLL := Lib.hid hll
            have HDL := Lib.hid HI.out.dl
            generalize M.trimE (Y : Nat) = qe at *
            clear hM' hL hY g1 g2 hll hgl'
            go_wp2_with fail
            refine (E1.out _).mono ?_
            rintro e w' ⟨rfl, rfl⟩
            go_wp2_with fail
            ((with_reducible refine X1.out.mono ?_))
            rintro e w6 ⟨xa, xc, rfl, H⟩
            have HN := Lib.hid H.nums
            have HH6 := Lib.hid H
            obtain ⟨W2, hat2, hgo2⟩ := H.at2
            have hown2 := hat2.1
            have hgle := (ow_le hown2).1
            have HA2 := Lib.hid hat2
            have HG2 := Lib.hid hgo2
            have HO2 := Lib.hid hown2
            clear H X1 E1 b1 hat2 hgo2 hown2
            by_cases hl0 : ll = 0
            · subst hl0
              have HL0 := Lib.hid (show L = [] from List.eq_nil_of_length_eq_zero HLL.out.symm)
              go_wp2_with (at_builtin; refine wpList_append_zero rfl (.tmp 94) (.tmp 95) 39 rfl 3 i0 Try.underlying39 hi ga xa gl gc xc rfl rfl hgle ?_)
              go_meet
              refine ⟨M', D, ga, gl, gc, da, dl, dc, rfl, rfl, by rw [R1.out.2], ⟨?_, R1.out.1, G2.out, by have := HGL'.out; omega, by rw [HDL.out, R1.out.2]⟩⟩
              have hG : goneL M'.h = goneL M.h := by rw [← G1.out, HL0.out, List.append_nil]
              rw [hG]
              exact HH6.out.unnum.pop
            · obtain ⟨x0, hx0⟩ := get_some (l := L) (i := 0) (by rw [← HLL.out]; omega)
              obtain ⟨b9, o9, rfl, _⟩ := HN.out 0 x0 hx0
              have HNW := Lib.hid (nums_cells HN.out)
              have HLn := Lib.hid (show (ints L).length = ll * 1 by rw [ints_length, ← HLL.out, Nat.mul_one])
              have H1 := Lib.hid (ints_one L)
              clear hx0
              go_wp2_with (at_builtin; refine wpList_append_own_at _ rfl (.tmp 94) (.tmp 95) 39 rfl 0 3 i0 (.int .i64 0) 1 8 Try.underlying39 hi hz0 hz1 hz2 rfl (by decide) (.slice ga gl gc) gl (ints (goneL M.h)) rfl HO2.out ⟨b9, o9, none⟩ ll _ (ints L) rfl HLn.out HNW.out H1.out (by unfold maxLen; omega) (by omega) (Nat.zero_le _) ?_; intro v7 w7 hown7 hg7 _ hat7; obtain ⟨a7, c7, rfl⟩ := ow_slice hown7; have HH7 := Lib.hid (HG2.out _ _ (ownT_grown0 HA2.out hown7 hg7 hat7)); clear hown7 hg7 hat7)
              go_meet
              refine ⟨M', D, a7, gl + ll, c7, da, dl, dc, rfl, rfl, by rw [R1.out.2], ⟨?_, R1.out.1, G2.out, HGL'.out, by rw [HDL.out, R1.out.2]⟩⟩
              have := HH7.out
              rw [show ints (goneL M.h) ++ ints L = ints (goneL M'.h) by rw [← G1.out]; simp [ints]] at this
              exact this.unnum.pop
        · as_aux_lemma =>
            have X1 := Lib.hid (HH'.out.call (fun _ h' => A.claim h' HOk.out (by omega) ((M.tail : Nat) + 1) (w64_lit (by omega) (by omega))))
            have HDL := Lib.hid HI.out.dl
            have HGL := Lib.hid HI.out.gl
            have hdl : dl ≤ 150 := by rw [HDL.out]; omega
            have hgl : gl ≤ 150 := by rw [HGL.out]; omega
            by_cases he : M.claimE ((M.tail : Nat) + 1) = 0
            · obtain ⟨g1, g2⟩ := HI.out.m.claim rfl HOk.out.pos he
              rw [he] at X1
              have g3 := (RM.claim_tail he HOk.out.pos).1
              have R1 := Lib.hid (HOk.out.claim ((M.tail : Nat) + 1))
              obtain ⟨M', hM'⟩ : ∃ M', M' = M.claimM ((M.tail : Nat) + 1) := ⟨_, rfl⟩
              rw [← hM'] at X1 R1 g1 g2 g3
              generalize M.claimA ((M.tail : Nat) + 1) = qa at *
              have G1 := Lib.hid g1
              have G3 := Lib.hid g3
              clear hM' he g1 g3
              rcases g2 with ⟨gw, gh⟩ | ⟨gw, gh⟩
              · rw [gw] at X1
                have GH := Lib.hid gh
                clear gw gh
                go_wp2_with fail
                ((with_reducible refine X1.out.mono ?_))
                rintro e w6 ⟨rfl, H⟩
                obtain ⟨W3, hat3, hgo3⟩ := H.at3
                have hown3 := hat3.1
                have HA3 := Lib.hid hat3
                have HG3 := Lib.hid hgo3
                have HO3 := Lib.hid hown3
                clear hat3 hgo3 hown3
                clear H X1 b1
                go_wp2_with (at_builtin; refine wpList_append_own_at _ rfl (.tmp 79) (.tmp 80) 50 rfl 0 4 j0 (.bool false) 1 1 Try.underlying50 ji jz0 jz1 jz2 rfl (by decide) (.slice da dl dc) dl (obools D) rfl (ow_still HO3.out ((Turned.refl _ _).alloc _)) ⟨w6.heap.size, 0, none⟩ 1 1 [.bool false] rfl rfl (ow_cells _ _ _) (by intro u hu; simp at hu; subst hu; rfl) (by unfold maxLen; omega) (by omega) (Nat.zero_le _) ?_; intro v8 w8 hown8 hg8 _ hat8; obtain ⟨a8, c8, rfl⟩ := ow_slice hown8; have HH8 := Lib.hid (HG3.out _ _ (ownT_grown HA3.out hown8 hg8 hat8)); clear hown8 hg8 hat8)
                go_meet
                refine ⟨M', D ++ [false], ga, gl, gc, a8, dl + 1, c8, rfl, rfl, by rw [G3.out]; first | rfl | exact congrArg (Value.int .i64) (by omega), ⟨?_, R1.out, G1.out, by rw [HGL.out, GH.out], by rw [HDL.out, G3.out]⟩⟩
                rw [GH.out]
                have := HH8.out.pop
                simpa [obools] using this
              · have hgt : (0 : Int) < (M.h : Int) + 1 := by omega
                rw [gw] at X1
                have GH := Lib.hid gh
                obtain ⟨qw, hqw⟩ : ∃ qw : Int, qw = (M.h : Int) + 1 := ⟨_, rfl⟩
                rw [← hqw] at X1 hgt
                have HQW := Lib.hid hqw
                clear gw gh hqw
                go_wp2_with fail
                ((with_reducible refine X1.out.mono ?_))
                rintro e w6 ⟨rfl, H⟩
                obtain ⟨W2, hat2, hgo2⟩ := H.at2
                have hown2 := hat2.1
                have HA2 := Lib.hid hat2
                have HG2 := Lib.hid hgo2
                have HO2 := Lib.hid hown2
                clear H X1 b1 hat2 hgo2 hown2
                go_upto_region 16 with (at_builtin; refine wpList_append_own_at _ rfl (.tmp 71) (.tmp 73) 39 rfl 0 3 i0 (.int .i64 0) 1 8 Try.underlying39 hi hz0 hz1 hz2 rfl (by decide) (.slice ga gl gc) gl (ints (goneL M.h)) rfl (ow_still HO2.out ((Turned.refl _ _).alloc _)) ⟨w6.heap.size, 0, none⟩ 1 1 [.int .i64 qw] rfl rfl (ow_cells _ _ _) (ow_ints rfl) (by unfold maxLen; omega) (by omega) (Nat.zero_le _) ?_; intro v7 w7 hown7 hg7 _ hat7; obtain ⟨a7, c7, rfl⟩ := ow_slice hown7; have HH7 := Lib.hid (HG2.out _ _ (ownT_grown HA2.out hown7 hg7 hat7)); clear hown7 hg7 hat7)
                obtain ⟨W3, hat3, hgo3⟩ := HH7.out.at3
                have hown3 := hat3.1
                have HA3 := Lib.hid hat3
                have HG3 := Lib.hid hgo3
                have HO3 := Lib.hid hown3
                clear hat3 hgo3 hown3
                go_wp2_with (at_builtin; refine wpList_append_own_at _ rfl (.tmp 79) (.tmp 80) 50 rfl 0 4 j0 (.bool false) 1 1 Try.underlying50 ji jz0 jz1 jz2 rfl (by decide) (.slice da dl dc) dl (obools D) rfl (ow_still HO3.out ((Turned.refl _ _).alloc _)) ⟨w7.heap.size, 0, none⟩ 1 1 [.bool false] rfl rfl (ow_cells _ _ _) (by intro u hu; simp at hu; subst hu; rfl) (by unfold maxLen; omega) (by omega) (Nat.zero_le _) ?_; intro v8 w8 hown8 hg8 _ hat8; obtain ⟨a8, c8, rfl⟩ := ow_slice hown8; have HH8 := Lib.hid (HG3.out _ _ (ownT_grown HA3.out hown8 hg8 hat8)); clear hown8 hg8 hat8)
                go_meet
                refine ⟨M', D ++ [false], a7, gl + 1, c7, a8, dl + 1, c8, rfl, rfl, by rw [G3.out]; first | rfl | exact congrArg (Value.int .i64) (by omega), ⟨?_, R1.out, G1.out, by rw [HGL.out, GH.out], by rw [HDL.out, G3.out]⟩⟩
                rw [GH.out, goneL_succ, ← HQW.out]
                have := HH8.out.pop
                simpa [obools, ints] using this
            · obtain ⟨m1, m2⟩ := RM.claim_no he
              have hb1 : (M.claimE ((M.tail : Nat) + 1) == 0) = false := by rw [beq_eq_false_iff_ne]; exact he
              rw [m1, m2] at X1
              generalize M.claimE ((M.tail : Nat) + 1) = qe at *
              generalize M.claimA ((M.tail : Nat) + 1) = qa at *
              clear he m1 m2
              go_wp2_with fail
              ((with_reducible refine X1.out.mono ?_))
              rintro e w6 ⟨rfl, H⟩
              have HH6 := Lib.hid H.pop
              clear H X1 b1
              go_wp2_with fail
              go_meet
              exact ⟨M, D, ga, gl, gc, da, dl, dc, rfl, rfl, rfl, ⟨HH6.out, HOk.out.mono (by omega), HI.out.m, HGL.out, HDL.out⟩⟩
      case rest =>
        clear HH' b1 HI HOk hlow hle
        obtain ⟨M', D', ga', gl', gc', da', dl', dc', rfl, rfl, rfl, hI'⟩ := hcut
        have hok := hI'.ok
        obtain ⟨Wx, hP, _⟩ := hI'.held.fst
        have hlow' : M'.tail ≤ k + 1 := hok.low
        have hdl' : dl' = M'.tail := hI'.dl
        have HKx := Lib.hid (fun V (hT : Still wc V) => (RT q M').keep hP hT (fun _ _ h => h))
        have F1 := Lib.hid (show Calls Try.prog 24 #[.pointer (some ⟨q, 0, none⟩)] wc fun e w' => e = .returned (.int .i64 M'.h) ∧ Still wc w' from A.head hP hok (by omega))
        have F2 := Lib.hid (fun (j : Nat) (hj : j < M'.tail) V (hT : Still wc V) => show Calls Try.prog 17 #[.pointer (some ⟨q, 0, none⟩), .int .i64 j] V fun e w' => e = .returned (.tuple #[.int .i64 (M'.getR j), .int .i64 (M'.getE j)]) ∧ Still wc w' from
          (A.get (HKx.out V hT) hok (by omega) (j : Nat) (w64_lit (by omega) (by omega))).mono fun e w' ⟨he, hs⟩ => ⟨he, hT.trans hs⟩)
        have F3 := Lib.hid (fun (j : Nat) (d : Bool) (hj : D'[j]? = some d) => show ∃ g, da' = some ⟨g, 0, none⟩ ∧ ∀ V, Still wc V → V.cell? ⟨g, j, none⟩ = some (.bool d) from by
          obtain ⟨W3, ⟨ho, _⟩, _, _⟩ := hI'.held.snd.snd
          have hjd : j < D'.length := (List.getElem?_eq_some_iff.1 hj).1
          obtain ⟨g, r, rfl, _, hb⟩ := ow_blk ho (by rw [hdl', ← hI'.m.1]; omega)
          refine ⟨g, rfl, fun V hT => (hb.turned hT (fun h => h)).cell ?_⟩
          rw [List.getElem?_append_left (by simp [obools]; exact hjd)]
          simp [obools, hj])
        have HI := Lib.hid hI'
        have HDL := Lib.hid hdl'
        have hdl2 : M'.tail ≤ dl' := by omega
        have HHT := Lib.hid (Nat.le_add_right M'.h M'.l.length : M'.h ≤ M'.tail)
        clear hok hP hI' HKx hdl'
        go_wp2_with fail
        refine F1.out.mono ?_
        rintro e w5 ⟨rfl, hst5⟩
        have HS5 := Lib.hid hst5
        clear hst5 F1
        go_wp2_with fail
        go_loopw [20] (fun kx wz => ∃ j : Nat, M'.h ≤ j ∧ j ≤ M'.tail ∧ kx = .int .i64 j ∧ Still wc wz) (fun kx _ => M'.tail - (intOf kx).toNat)
        case atStart => exact ⟨M'.h, Nat.le_refl _, HHT.out, rfl, HS5.out⟩
        case round =>
          clear HS5
          obtain ⟨j, hj1, hj2, rfl, hT⟩ := hrel
          rename_i wz
          by_cases hjt : j < M'.tail
          · obtain ⟨dd, hd, hge, hgr⟩ := HI.out.m.get hj1 hjt
            obtain ⟨gb, rfl, hcell⟩ := F3.out j dd hd
            have G2 := Lib.hid (F2.out j hjt _ hT)
            have HC := Lib.hid hcell
            rw [hge] at G2
            clear F2 F3 hd hcell hT hge
            cases dd with
            | true =>
              rw [if_pos rfl, hgr rfl] at G2
              clear hgr
              go_wp2_with fail
              refine G2.out.mono ?_
              rintro e w6 ⟨rfl, h6⟩
              have cD := HC.out w6 h6
              have HS6 := Lib.hid h6
              clear h6 G2 HC
              go_wp2_with fail
              go_roundw
              case rel => exact ⟨j + 1, by omega, by omega, by go_num, HS6.out⟩
              case measure => simp [intOf]; omega
            | false =>
              rw [if_neg (by simp)] at G2
              generalize M'.getR (j : Nat) = gr at *
              clear hgr
              go_wp2_with fail
              refine G2.out.mono ?_
              rintro e w6 ⟨rfl, h6⟩
              have cD := HC.out w6 h6
              have HS6 := Lib.hid h6
              clear h6 G2 HC
              go_wp2_with fail
              go_roundw
              case rel => exact ⟨j + 1, by omega, by omega, by go_num, HS6.out⟩
              case measure => simp [intOf]; omega
          · have HTW := Lib.hid hT
            have hjt2 : M'.tail ≤ j := by omega
            clear F2 F3 hT hjt
            go_wp2_with fail
            go_roundw
            case rel => exact ⟨k + 1, M', D', ga', gl', gc', da', dl', dc', by omega, by omega, by go_num, rfl, rfl, rfl, ⟨HI.out.held.still HTW.out, HI.out.ok, HI.out.m, HI.out.gl, HDL.out⟩⟩
            case measure => simp [intOf]; omega
    · have hex : (k < sl ∧ 150 ≤ k) ∨ sl ≤ k := by omega
      have HOk := Lib.hid hI.ok
      have HAll := Lib.hid hI.m.all
      have hlow : M.tail ≤ k := hI.ok.low
      obtain ⟨ll, hll⟩ : ∃ ll, ll = M.l.length := ⟨_, rfl⟩
      have htl : M.tail = M.h + ll := by rw [hll]; rfl
      have FR := Lib.hid (show Calls Try.prog 28 #[.pointer (some ⟨q, 0, none⟩)] wr (OutNums wr M.refs ll) from by
        obtain ⟨_, h', _⟩ := hI.held.fst
        exact A.refs h' hI.ok (by omega) ll hll)
      have HHd0 := Lib.hid hI.held
      have HRL := Lib.hid (show M.refs.length = ll by rw [hll]; simp [RM.refs])
      have hgl := hI.gl
      subst hgl
      rw [htl] at HAll hlow ⊢
      clear hin hI hll htl
      by_cases hl0 : ll = 0
      · subst hl0
        have HR0 := Lib.hid (show M.refs = [] from List.eq_nil_of_length_eq_zero HRL.out)
        rcases hex with ⟨q1, q2⟩ | q1
        all_goals
          go_wp2_with fail
          refine FR.out.mono ?_
          rintro e w6 ⟨a6, c6, rfl, hown6, hst6⟩
          have HH6 := Lib.hid (HHd0.out.still hst6)
          obtain ⟨W2, hat2, _⟩ := HH6.out.at2
          have hgle := (ow_le hat2.1).1
          have HO2 := Lib.hid hat2.1
          clear hown6 hst6 FR HHd0 hat2
          go_upto_region 35 with (at_builtin; refine wpList_append_zero rfl (.tmp 156) (.tmp 158) 39 rfl 3 i0 Try.underlying39 hi ga a6 M.h gc c6 rfl rfl hgle ?_)
          obtain ⟨w9, hw9⟩ : ∃ w9, w9 = w6 := ⟨_, rfl⟩
          rw [← hw9] at HH6 HO2 ⊢
          have HH9 := Lib.hid HH6.out
          have HA9 : Hid (NumsAt w9 ga (goneL M.h)) := Lib.hid (NumsAt.of_own HO2.out (by rw [goneL_len]))
          clear HH6 HO2 hw9 HAll HR0
          rw [Nat.add_zero]
          have HHd := Lib.hid (fun V (h : Still w9 V) => show Calls Try.prog 24 #[.pointer (some ⟨q, 0, none⟩)] V fun e w' => e = .returned (.int .i64 M.h) ∧ Still w9 w' from by
            obtain ⟨_, h', _⟩ := (HH9.out.still h).fst
            exact (A.head h' HOk.out (by omega)).mono fun e w' ⟨he, hs⟩ => ⟨he, h.trans hs⟩)
          have HG9 := Lib.hid HH9.out.ground
          obtain ⟨hh, hhh⟩ : ∃ hh, hh = M.h := ⟨_, rfl⟩
          have hhb : hh ≤ 150 := by omega
          rw [← hhh] at HHd HA9 ⊢
          clear HH9 HOk hhh
          go_wp2_with fail
          go_loopw [24] (fun i wz => ∃ j : Nat, j ≤ hh ∧ i = .int .i64 j ∧ Still w9 wz) (fun i _ => hh - (intOf i).toNat)
          case atStart => exact ⟨0, Nat.zero_le _, rfl, Turned.refl _ _⟩
          case round =>
            obtain ⟨j, hj, rfl, hT⟩ := hrel
            rename_i wz
            by_cases hjn : j < hh
            · obtain ⟨b8, o8, rfl, hc8⟩ := HA9.out j _ (goneL_get hjn)
              have hc9 := still_cell hT hc8 rfl
              have HTZ := Lib.hid hT
              clear HA9 HHd hc8 hT
              go_wp2_with fail
              go_roundw
              case rel => exact ⟨j + 1, by omega, by go_num, HTZ.out⟩
              case measure => simp [intOf]; omega
            · obtain rfl : j = hh := by omega
              have HX := Lib.hid (HHd.out _ hT)
              clear HA9 HHd hT
              go_wp2_with fail
              refine HX.out.mono ?_
              rintro e w8 ⟨rfl, hT8⟩
              have HT8 := Lib.hid hT8
              clear hT8 HX
              go_wp2_with fail
              go_ret
              exact ⟨by first | rfl | simp, HG9.out.trans HT8.out⟩
      · rcases hex with ⟨q1, q2⟩ | q1
        all_goals
          go_wp2_with fail
          refine FR.out.mono ?_
          rintro e w6 ⟨a6, c6, rfl, hown6, hst6⟩
          have HH6 := Lib.hid (HHd0.out.still hst6)
          obtain ⟨W2, hat2, hgo2⟩ := HH6.out.at2
          have HA2 := Lib.hid hat2
          have HG2 := Lib.hid hgo2
          have HO2 := Lib.hid hat2.1
          have hN6 : NumsAt w6 a6 M.refs := NumsAt.of_own hown6 HRL.out.symm
          obtain ⟨x0, hx0⟩ := get_some (l := M.refs) (i := 0) (by rw [HRL.out]; omega)
          obtain ⟨b9, o9, rfl, _⟩ := hN6 0 x0 hx0
          have HNW := Lib.hid (nums_cells hN6)
          have HLn := Lib.hid (show (ints M.refs).length = ll * 1 by rw [ints_length, HRL.out, Nat.mul_one])
          have H1 := Lib.hid (ints_one M.refs)
          clear hown6 hst6 FR HHd0 hat2 hgo2 hN6 hx0 HH6
          go_upto_region 35 with (at_builtin; refine wpList_append_own_at _ rfl (.tmp 156) (.tmp 158) 39 rfl 0 3 i0 (.int .i64 0) 1 8 Try.underlying39 hi hz0 hz1 hz2 rfl (by decide) (.slice ga M.h gc) M.h (ints (goneL M.h)) rfl HO2.out ⟨b9, o9, none⟩ ll _ (ints M.refs) rfl HLn.out HNW.out H1.out (by unfold maxLen; omega) (by omega) (Nat.zero_le _) ?_; intro v7 w9 hown7 hg7 _ hat7; obtain ⟨a7, c7, rfl⟩ := ow_slice hown7; have HH9 := Lib.hid (HG2.out _ _ (ownT_grown0 HA2.out hown7 hg7 hat7)); have HO7 := Lib.hid hown7; clear hown7 hg7 hat7)
          have HA9 : Hid (NumsAt w9 a7 (goneL (M.h + ll))) := Lib.hid (by
            have := HO7.out
            rw [show ints (goneL M.h) ++ ints M.refs = ints (goneL (M.h + ll)) by rw [← HAll.out]; simp [ints]] at this
            exact NumsAt.of_own this (by rw [goneL_len]))
          clear HO7 HA2 HG2 HO2 HNW HLn H1 HAll HRL
          have HHd := Lib.hid (fun V (h : Still w9 V) => show Calls Try.prog 24 #[.pointer (some ⟨q, 0, none⟩)] V fun e w' => e = .returned (.int .i64 M.h) ∧ Still w9 w' from by
            obtain ⟨_, h', _⟩ := (HH9.out.still h).fst
            exact (A.head h' HOk.out (by omega)).mono fun e w' ⟨he, hs⟩ => ⟨he, h.trans hs⟩)
          have HG9 := Lib.hid HH9.out.ground
          obtain ⟨hh, hhh⟩ : ∃ hh, hh = M.h := ⟨_, rfl⟩
          have hhb : hh + ll ≤ 150 := by omega
          rw [← hhh] at HHd HA9 ⊢
          clear HH9 HOk hhh
          go_wp2_with fail
          go_loopw [24] (fun i wz => ∃ j : Nat, j ≤ (hh + ll) ∧ i = .int .i64 j ∧ Still w9 wz) (fun i _ => (hh + ll) - (intOf i).toNat)
          case atStart => exact ⟨0, Nat.zero_le _, rfl, Turned.refl _ _⟩
          case round =>
            obtain ⟨j, hj, rfl, hT⟩ := hrel
            rename_i wz
            by_cases hjn : j < (hh + ll)
            · obtain ⟨b8, o8, rfl, hc8⟩ := HA9.out j _ (goneL_get hjn)
              have hc9 := still_cell hT hc8 rfl
              have HTZ := Lib.hid hT
              clear HA9 HHd hc8 hT
              go_wp2_with fail
              go_roundw
              case rel => exact ⟨j + 1, by omega, by go_num, HTZ.out⟩
              case measure => simp [intOf]; omega
            · obtain rfl : j = (hh + ll) := by omega
              have HX := Lib.hid (HHd.out _ hT)
              clear HA9 HHd hT
              go_wp2_with fail
              refine HX.out.mono ?_
              rintro e w8 ⟨rfl, hT8⟩
              have HT8 := Lib.hid hT8
              clear hT8 HX
              go_wp2_with fail
              go_ret
              exact ⟨by first | rfl | simp, HG9.out.trans HT8.out⟩
end Go.Proofs.Ytefopajkcpcjpaa
