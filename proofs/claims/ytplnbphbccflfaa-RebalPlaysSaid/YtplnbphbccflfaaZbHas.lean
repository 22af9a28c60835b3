/- What Has of the document's table answers. No condition but that it is one. -/
import Derived.Test.YtplnbphbccflfaaZbLay
namespace Go.Proofs.Ytplnbphbccflfaa
open Go.RowKit
set_option linter.unusedVariables false
set_option linter.unusedSimpArgs false
set_option maxRecDepth 100000

section
variable {q K : Nat} {M : TbM} {w w' : World} {W : Nat → Prop} {ao at_ aw : Option Addr} {co ct cw : Nat}
theorem has_step {O T : List Own} {p : Plc} {k : Nat} {o t : Own} (h1 : O[k]? = some o) (h2 : T[k]? = some t) (hno : ∀ j x, j < k → (O.zip T)[j]? = some x → x.1.1 ≠ p) : (o.1 = p → (O.zip T).find? (fun x => decide (x.1.1 = p)) = some (o, t)) := by
  intro he
  rw [List.find?_eq_some_iff_getElem]
  have hz := zip_at h1 h2
  obtain ⟨hk, e⟩ := List.getElem?_eq_some_iff.1 hz
  refine ⟨by simpa using he, k, hk, e, fun j hj => ?_⟩
  have := hno j _ hj (List.getElem?_eq_getElem (by omega))
  simpa using this
theorem has_none {O T : List Own} {p : Plc} (hno : ∀ j x, j < O.length → (O.zip T)[j]? = some x → x.1.1 ≠ p) : (O.zip T).find? (fun x => decide (x.1.1 = p)) = none := by
  rw [List.find?_eq_none]
  intro x hx
  obtain ⟨j, hj, e⟩ := List.mem_iff_getElem.1 hx
  have := hno j x (by rw [List.length_zip] at hj; omega) (by rw [List.getElem?_eq_getElem hj, e])
  simpa using this
set_option maxHeartbeats 4000000 in
theorem zrbhas_any (h : ZbRd q ao co at_ ct aw cw M w) (hM : M.Pre K) (x : Int) (p : Plc) :
    Calls Try.prog 40 #[.pointer (some ⟨q, 0, none⟩), .int .i64 x, .agg #[.int .i64 p.1, .int .i64 p.2]] w fun e w' => e = .returned (.int .i64 (M.hasE x p)) ∧ Still w w' := by
  obtain ⟨p1, p2⟩ := p
  have HRd := Lib.hid (fun V (hs : Still w V) => h.still hs)
  have HL2 := Lib.hid hM.len2
  obtain ⟨m, hm⟩ : ∃ m, m = M.O.length := ⟨_, rfl⟩
  have hm256 : m ≤ 256 := by rw [hm]; exact hM.len
  have HM := Lib.hid hm
  have c0 := h.c0
  have c1 := h.c1
  rw [← hM.len2, ← hm] at c1
  rw [← hm] at c0
  have HC := Lib.hid (fun V (hs : Still w V) => show V.cell? ⟨q, 0, none⟩ = some (.slice ao m co) ∧ V.cell? ⟨q, 1, none⟩ = some (.slice at_ m ct) from ⟨still_cell hs c0 rfl, still_cell hs c1 rfl⟩)
  obtain ⟨b, hb⟩ : ∃ b, b = w.heap.size := ⟨_, rfl⟩
  obtain ⟨Wb, hWb⟩ : ∃ Wb, Wb = w.alloc (.cells #[.int .i64 p1, .int .i64 p2] 49) := ⟨_, rfl⟩
  have hSb : Still w Wb := by rw [hWb]; exact (Turned.refl _ _).alloc _
  have hbb : Blk Wb b [.int .i64 p1, .int .i64 p2] 49 := by rw [hWb, hb]; exact Blk.new w _ _
  have HB := Lib.hid (fun V (hs : Still Wb V) => show V.cell? ⟨b, 0, none⟩ = some (.int .i64 p1) ∧ V.cell? ⟨b, 1, none⟩ = some (.int .i64 p2) from ⟨(hbb.turned hs (fun h => h)).cell rfl, (hbb.turned hs (fun h => h)).cell rfl⟩)
  have HSb := Lib.hid hSb
  have HHas := Lib.hid (fun (k : Nat) (o t : Own) (h1 : M.O[k]? = some o) (h2 : M.T[k]? = some t) (hno : ∀ j x, j < k → (M.O.zip M.T)[j]? = some x → x.1.1 ≠ (p1, p2)) (he : o.1 = (p1, p2)) => show M.hasE x (p1, p2) = if x < 0 ∨ o.2 ≠ x then 180 else if t.2 ≠ x then 170 else 0 from by
    unfold TbM.hasE; rw [has_step h1 h2 hno he])
  have HNone := Lib.hid (fun (hno : ∀ j x, j < m → (M.O.zip M.T)[j]? = some x → x.1.1 ≠ (p1, p2)) => show M.hasE x (p1, p2) = 5 from by
    unfold TbM.hasE; rw [has_none (by rw [← HM.out]; exact hno)])
  clear h hM hm hbb hSb
  dsimp only
  go_enter Try.func40, Try.ntmps40
  go_wp2_with fail
  rw [← hWb, ← hb]
  clear c0 c1 hWb hb
  go_loopw [7] (fun ix wq => ∃ i : Nat, i ≤ m ∧ ix = .int .i64 i ∧ (∀ j x, j < i → (M.O.zip M.T)[j]? = some x → x.1.1 ≠ (p1, p2)) ∧ Still Wb wq) (fun ix _ => m - (intOf ix).toNat)
  case atStart => exact ⟨0, Nat.zero_le _, rfl, fun j x hj => by omega, Turned.refl _ _⟩
  case round =>
    obtain ⟨i, hi, rfl, hno, hst⟩ := hrel
    have HS := Lib.hid hst
    have hs0 := HSb.out.trans hst
    have HS0 := Lib.hid hs0
    obtain ⟨c0, c1⟩ := HC.out _ hs0
    obtain ⟨q0, q1⟩ := HB.out _ hst
    by_cases hlt : i < m
    · obtain ⟨⟨⟨pf, pt⟩, oi⟩, ho⟩ := get_some (l := M.O) (i := i) (by rw [← HM.out]; exact hlt)
      obtain ⟨⟨tp, ti⟩, ht⟩ := get_some (l := M.T) (i := i) (by rw [← HL2.out, ← HM.out]; exact hlt)
      have hrd := HRd.out _ hs0
      obtain ⟨b1, o1, rfl, r1⟩ := hrd.ro i _ ho
      obtain ⟨b2, o2, rfl, r2⟩ := hrd.rt i _ ht
      have x0 : wr.cell? ⟨b1, o1 + i * 3, none⟩ = some (.int .i64 pf) := r1 0 _ rfl
      have x1 : wr.cell? ⟨b1, o1 + i * 3 + 1, none⟩ = some (.int .i64 pt) := by rw [Nat.add_assoc]; exact r1 1 _ rfl
      have x2 : wr.cell? ⟨b1, o1 + i * 3 + 2, none⟩ = some (.int .i64 oi) := by rw [Nat.add_assoc]; exact r1 2 _ rfl
      have t2 : wr.cell? ⟨b2, o2 + i * 3 + 2, none⟩ = some (.int .i64 ti) := by rw [Nat.add_assoc]; exact r2 2 _ rfl
      have hii : (i : Int) < (m : Int) := by omega
      by_cases he : pf = p1 ∧ pt = p2
      · obtain ⟨rfl, rfl⟩ := he
        have HE := Lib.hid (HHas.out i _ _ ho ht hno rfl)
        dsimp only at HE
        clear hrd r1 r2 ho ht hno hst hs0
        go_wp2_with fail
        go_quiet (fail)
        obtain ⟨V, hV⟩ : ∃ V, V = wr.drewN nq := ⟨_, rfl⟩
        have HSV := Lib.hid (show Still w V from by rw [hV]; exact HS0.out.drewN _)
        have v0 : V.cell? ⟨q, 0, none⟩ = some (.slice (some ⟨b1, o1, none⟩) m co) := by rw [hV]; exact c0
        have v1 : V.cell? ⟨q, 1, none⟩ = some (.slice (some ⟨b2, o2, none⟩) m ct) := by rw [hV]; exact c1
        have v2 : V.cell? ⟨b1, o1 + i * 3 + 2, none⟩ = some (.int .i64 oi) := by rw [hV]; exact x2
        have v3 : V.cell? ⟨b2, o2 + i * 3 + 2, none⟩ = some (.int .i64 ti) := by rw [hV]; exact t2
        rw [← hV]
        clear hV c0 c1 x0 x1 x2 t2 q0 q1
        by_cases g1 : x < 0
        · have HF := Lib.hid (HE.out.trans (if_pos (.inl g1)))
          go_wp2_with fail
          go_ret
          exact ⟨ret_int HF.out.symm, HSV.out⟩
        · by_cases g2 : oi = x
          · subst g2
            have g2b : (oi != oi) = false := by simp
            by_cases g3 : ti = oi
            · subst g3
              have HF := Lib.hid (HE.out.trans ((if_neg (by simp [g1])).trans (if_neg (by simp))))
              go_wp2_with fail
              go_ret
              exact ⟨ret_int HF.out.symm, HSV.out⟩
            · have g3b : (ti != oi) = true := by rw [bne_iff_ne]; exact g3
              have HF := Lib.hid (HE.out.trans ((if_neg (by simp [g1])).trans (if_pos g3)))
              go_wp2_with fail
              go_ret
              exact ⟨ret_int HF.out.symm, HSV.out⟩
          · have g2b : (oi != x) = true := by rw [bne_iff_ne]; exact g2
            have HF := Lib.hid (HE.out.trans (if_pos (.inr g2)))
            go_wp2_with fail
            go_ret
            exact ⟨ret_int HF.out.symm, HSV.out⟩
      · have HNo := Lib.hid (show ∀ j x, j < i + 1 → (M.O.zip M.T)[j]? = some x → x.1.1 ≠ (p1, p2) from fun j x hj hx => by
          rcases Nat.lt_succ_iff_lt_or_eq.1 hj with hj | rfl
          · exact hno j x hj hx
          · rw [zip_at ho ht] at hx
            obtain rfl := Option.some.inj hx
            exact fun e => he ⟨congrArg Prod.fst e, congrArg Prod.snd e⟩)
        have he' : pf ≠ p1 ∨ (pf = p1 ∧ pt ≠ p2) := by
          by_cases h : pf = p1
          · exact .inr ⟨h, fun h2 => he ⟨h, h2⟩⟩
          · exact .inl h
        clear hrd r1 r2 ho ht hno hst hs0 he
        rcases he' with h1 | ⟨rfl, h1⟩
        all_goals (
          go_wp2_with fail
          go_quiet (fail)
          go_wp2_with fail
          go_roundw
          case rel => exact ⟨i + 1, by omega, by go_num, HNo.out, HS.out.drewN _⟩
          case measure => simp [intOf]; omega)
    · obtain rfl : i = m := by omega
      have HF := Lib.hid (HNone.out hno)
      clear hno hst hs0 hlt
      go_wp2_with fail
      go_ret
      exact ⟨ret_int HF.out.symm, HS0.out⟩
end
end Go.Proofs.Ytplnbphbccflfaa
