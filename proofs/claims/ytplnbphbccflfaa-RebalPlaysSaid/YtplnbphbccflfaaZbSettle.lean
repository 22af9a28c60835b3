/- What settling leaves of the document's table. No condition but that it is one. -/
import Derived.Test.YtplnbphbccflfaaZbLay
import Derived.Laws.AppendOwnNone
namespace Go.Proofs.Ytplnbphbccflfaa
open Go.RowKit
set_option linter.unusedVariables false
set_option linter.unusedSimpArgs false
set_option maxRecDepth 100000

section
variable {q K n n2 k g : Nat} {M : TbM} {w V w' : World} {W Q0 : Nat → Prop} {ao at_ aw a6 : Option Addr} {co ct cw c6 : Nat} {O T : List Own} {Wl : List Int}
/-- Another row of owners comes into the table, and the generation is one more. -/
theorem zb_swap (hn2 : n2 = T.length)
    (H : Sit Q0 w V ((blkT q [.slice ao n co, .slice at_ n2 ct, .slice aw k cw, .int .i64 (g : Int)] 40).sep ((ownsT ao n co O).sep ((ownsT at_ n2 ct T).sep (intsT aw k cw Wl)))))
    (hown : w'.ownsRow V.heap.size 51 3 (.slice a6 n2 c6) n2 (rowOf encOw T)) (hs : Still V w') :
    (w'.cell? ⟨q, 0, none⟩ = some (.slice ao n co) ∧ w'.frozen? ⟨q, 0, none⟩ = false) ∧ ((w'.setCell ⟨q, 0, none⟩ (.slice a6 n2 c6)).cell? ⟨q, 3, none⟩ = some (.int .i64 (g : Int)) ∧ (w'.setCell ⟨q, 0, none⟩ (.slice a6 n2 c6)).frozen? ⟨q, 3, none⟩ = false) ∧
      Hid (Sit Q0 w ((w'.setCell ⟨q, 0, none⟩ (.slice a6 n2 c6)).setCell ⟨q, 3, none⟩ (.int .i64 ((g : Int) + 1))) ((blkT q [.slice a6 n2 c6, .slice at_ n2 ct, .slice aw k cw, .int .i64 ((g : Int) + 1)] 40).sep ((ownsT a6 n2 c6 T).sep ((ownsT at_ n2 ct T).sep (intsT aw k cw Wl))))) := by
  have hnew : ∃ W, (ownsT a6 n2 c6 T).at_ w' W ∧ Still V w' ∧ ∀ k, W k → V.heap.size ≤ k := by
    refine ⟨fun k => (Value.slice a6 n2 c6).ownBlock = some k, ⟨ow_base hown (Nat.zero_le _), fun k => Iff.rfl⟩, hs, fun k hk => ?_⟩
    cases a6 with
    | none => cases hk
    | some z =>
      have h1 := (ow_lt hown z rfl).1
      have h2 : z.block = k := by simpa [Value.ownBlock] using hk
      omega
  have H1 := (H.new hnew).assoc
  obtain ⟨h1, h2, h3⟩ := sit_row (o := 0) H1 rfl (.slice a6 n2 c6)
  obtain ⟨h4, h5, h6⟩ := sit_row (o := 3) h3.out rfl (.int .i64 ((g : Int) + 1))
  refine ⟨⟨h1, h2⟩, ⟨h4, h5⟩, Lib.hid ?_⟩
  have H2 := h6.out.imp (fun h => sep_imp2 (fun h => h) (fun h => sep_assoc h) h)
  have H3 := H2.turn.snd
  exact H3.imp (fun h => sep_imp2 (fun h => h) (fun h => sep_swap h) h)
theorem oneOw (l : List Own) : ∀ u ∈ rowOf encOw l, u.oneCell' = true := by
  intro u hu
  unfold rowOf at hu
  obtain ⟨x, _, hx⟩ := List.mem_flatMap.1 hu
  unfold encOw encPl encI at hx
  simp at hx
  rcases hx with rfl | rfl | rfl <;> rfl
theorem infoOwZ : (Try.prog.info? 51).map (fun i => (i.zero, i.size, i.bytes)) = some (some (.agg #[.int .i64 0, .int .i64 0, .int .i64 0]), 3, 24) := by kernel_rfl
theorem own_none {w : World} {B n c : Nat} {l : List Own} (h : w.ownsRow B 51 3 (.slice none n c) n (rowOf encOw l)) : n = 0 ∧ c = 0 ∧ l = [] := by
  obtain ⟨e1, e2⟩ := (ow_le h).2.2 rfl
  refine ⟨e1, e2, ?_⟩
  have h1 := h.1
  rw [rowOf_length encOw_len, e1] at h1
  exact List.eq_nil_of_length_eq_zero (by omega)

set_option maxHeartbeats 4000000 in
theorem zrbsettle_sit (hM : M.Pre K) (hK : K < 1000000) (H : Sit Q0 w V (zbT q M)) :
    Calls Try.prog 37 #[.pointer (some ⟨q, 0, none⟩)] V fun e w' => e = .returned (.bool (decide (M.W = []))) ∧ Goes (zbT q M.settle) Q0 w w' := by
  obtain ⟨Q1, ⟨ao, co, at_, ct, aw, cw, h⟩, hsi⟩ := H
  have hrd := zbX_rd h
  have c0 := hrd.c0
  have c1 := hrd.c1
  have c2 := hrd.c2
  have c3 := hrd.c3
  have HG0 := Lib.hid (show Goes (zbT q M) Q0 w V from hsi.goes ⟨ao, co, at_, ct, aw, cw, h⟩)
  unfold TbM.settle
  by_cases hw : M.W = []
  · rw [if_pos hw, decide_eq_true hw]
    have hT : (ownsT at_ M.T.length ct M.T).at_ V (fun k => (Value.slice at_ M.T.length ct).ownBlock = some k) := by
      obtain ⟨_, _, _, ⟨_, _, _, ⟨_, _, ht, _⟩, _⟩, _⟩ := h
      exact ⟨ht.1, fun k => Iff.rfl⟩
    have HSw := Lib.hid (fun (w' : World) (a6 : Option Addr) (c6 n2 : Nat) (hn2 : n2 = M.T.length) hown hs => zb_swap (q := q) (n := M.O.length) (k := M.W.length) (g := M.G) (ao := ao) (co := co) (at_ := at_) (ct := ct) (aw := aw) (cw := cw) (O := M.O) (T := M.T) (Wl := M.W) (n2 := n2) (a6 := a6) (c6 := c6) (w' := w') (Q0 := Q0) (w := w) (V := V) hn2 (by subst hn2; exact ⟨Q1, h, hsi⟩) hown hs)
    have HEnd := Lib.hid (fun (w' : World) (a6 : Option Addr) (c6 n2 : Nat) (hn2 : n2 = M.T.length) (hs : Sit Q0 w w' ((blkT q [.slice a6 n2 c6, .slice at_ n2 ct, .slice aw M.W.length cw, .int .i64 ((M.G : Int) + 1)] 40).sep ((ownsT a6 n2 c6 M.T).sep ((ownsT at_ n2 ct M.T).sep (intsT aw M.W.length cw M.W))))) =>
      show Goes (zbT q ⟨M.T, M.T, [], M.G + 1⟩) Q0 w w' from by
        subst hn2
        rw [hw] at hs
        exact hs.goes.turn (fun h => ⟨a6, c6, at_, ct, aw, cw, h⟩))
    have hl : M.W.length = 0 := by rw [hw]; rfl
    rw [hl] at c2 HSw HEnd
    obtain ⟨n2, hn2⟩ : ∃ n2, n2 = M.T.length := ⟨_, rfl⟩
    have hn256 : n2 ≤ 256 := by rw [hn2, ← hM.len2]; exact hM.len
    have HN2 := Lib.hid hn2
    have hg : M.G < 1000000 := by have := hM.low; omega
    rw [← hn2] at c1 hT
    obtain ⟨pi, qi, pz0, pz1, pz2⟩ := info_parts infoOwZ
    generalize M.T = T at *
    generalize M.G = g at *
    generalize M.O.length = n at *
    clear hM hrd h hsi hw hl hn2
    cases at_ with
    | none =>
      obtain ⟨rfl, rfl, rfl⟩ := own_none hT.1
      have HO := Lib.hid (World.ownsRow_made (e := 51) (size := 3) V #[] 0 (Nat.le_refl _) (by simp) (by simp))
      have c1a := still_cell ((Turned.refl (fun _ => False) V).alloc (.cells #[] 51)) c1 rfl
      clear hT
      go_enter Try.func37, Try.ntmps37
      go_wp2_with (at_builtin; refine wpList_append_own_none rfl _ _ 38 rfl V.heap.size 51 pi 3 Try.underlying38 qi _ 0 [] rfl HO.out rfl ?_; obtain ⟨⟨z1, z2⟩, ⟨z3, z4⟩, z5⟩ := HSw.out _ _ _ 0 HN2.out HO.out ((Turned.refl _ _).alloc _))
      go_ret
      exact ⟨rfl, HEnd.out _ _ _ 0 HN2.out z5.out⟩
    | some ad =>
      obtain ⟨ga, rfl⟩ := owm_addr' hT.1
      have HC := Lib.hid (show ∀ (j : Nat) (u : Value), (rowOf encOw T)[j]? = some u → (V.alloc (.cells #[] 51)).cell? ((⟨ga, 0, none⟩ : Addr).add j) = some u from fun j u hj => by
        have := (owm_cell hT.1 hj).1
        have := still_cell ((Turned.refl (fun _ => False) V).alloc (.cells #[] 51)) this rfl
        simpa [Addr.add_lit] using this)
      have HL := Lib.hid (show (rowOf encOw T).length = n2 * 3 from by rw [rowOf_length encOw_len, HN2.out])
      have H1 := Lib.hid (oneOw T)
      have c1a := still_cell ((Turned.refl (fun _ => False) V).alloc (.cells #[] 51)) c1 rfl
      clear hT
      go_enter Try.func37, Try.ntmps37
      go_wp2_with (at_builtin; refine wpList_append_own_at _ rfl _ _ 38 rfl V.heap.size 51 pi (.agg #[.int .i64 0, .int .i64 0, .int .i64 0]) 3 24 Try.underlying38 qi pz0 pz1 pz2 rfl (by decide) _ _ _ rfl (World.ownsRow_made V #[] 0 (Nat.le_refl _) (by simp) (by simp)) ⟨ga, 0, none⟩ n2 ct (rowOf encOw T) rfl HL.out HC.out H1.out (by unfold maxLen; omega) (by omega) (by simp) ?_; intro v' w1 hown hgrow hnil hat; obtain ⟨aa, cc, rfl⟩ := ow_slice hown; rw [Nat.zero_add] at hown ⊢; obtain ⟨⟨z1, z2⟩, ⟨z3, z4⟩, z5⟩ := HSw.out _ _ _ n2 HN2.out hown (((Turned.refl (fun _ => False) V).alloc _).grown hgrow (fun k e => .inr (by cases e; exact Nat.le_refl _))); clear hown hgrow hnil hat)
      go_ret
      exact ⟨rfl, HEnd.out _ _ _ n2 HN2.out z5.out⟩
  · rw [if_neg hw, decide_eq_false hw]
    have hl : 0 < M.W.length := List.length_pos_iff.2 hw
    generalize M.W.length = k at *
    have hki : (0 : Int) < (k : Int) := by omega
    clear hrd h hsi hw hM
    go_enter Try.func37, Try.ntmps37
    go_wp2_with fail
    go_ret
    exact ⟨rfl, HG0.out⟩
end
end Go.Proofs.Ytplnbphbccflfaa
