/- The statements' copy of programs: as many as may be and one more, of as many instructions; and programs as arguments. No condition. -/
import Derived.Test.YtdbmieofcdafkaaPsOwn
import Derived.Laws.AppendOwnNone
import Derived.Deep.RegionHeld3
namespace Go.Proofs.Ytdbmieofcdafkaa
open Go.RowKit
set_option linter.unusedVariables false
set_option linter.unusedSimpArgs false
set_option maxRecDepth 100000

def okT {α : Type} (_ : World) (_ : α) : Prop := True
theorem Rd.map {P : Program} {t : TypeId} {α β : Type} {enc : α → List Value} {enc' : β → List Value} {ok : World → α → Prop} (h : Rd P t enc ok) (f : α → β) (he : ∀ a, enc a = enc' (f a)) : Rd P t enc' okT := by
  intro H e w base spare held fuel cs x hx
  obtain ⟨a, ha, _⟩ := h H e w base spare held fuel cs x hx
  exact ⟨f a, ha.trans (he a), trivial⟩
theorem cellsInstr : Try.prog.cellsOf 70 = 4 := by kernel_rfl
theorem rdInstr : Rd Try.prog 70 insEnc okT :=
  (rd_struct4 (m0 := 1) (m1 := 1) (m2 := 1) (m3 := 1) Try.underlying70 cellsInstr cellsInt cellsInt cellsInt cellsInt rfl rfl rfl rfl rdInt rdInt rdInt rdInt).map (fun a => (⟨a.1, a.2.1, a.2.2.1, a.2.2.2⟩ : Ins)) (fun _ => rfl)
theorem rdInstrs : Rd Try.prog 59 encSl (SlOk insEnc okT 4) := rd_slice Try.underlying59 cellsInstr (by omega) insEnc_len rdInstr
theorem cellsInstrs : Try.prog.cellsOf 59 = 1 := by kernel_rfl
theorem rdProgs : Rd Try.prog 22 encSl (SlOk encSl (SlOk insEnc okT 4) 1) := rd_slice Try.underlying22 cellsInstrs (by omega) (fun _ => rfl) rdInstrs

theorem step_append_none {P : Program} {ops : Array Oper} {o : Oper} {a : Act} {w : World} {K : Act → World → Prop} {Q : Exit → Act → World → Prop} {E : Prop}
    (hgd : o.guard = none) (s x : Operand) (t : TypeId) (ho : o.op = Op.call { callee := Callee.builtin Builtin.append, args := #[s, x], argTypes := #[t, t] })
    (base : Nat) (e : TypeId) (i : TypeInfo) (size : Nat) (ht : P.underlying t = some (.slice e)) (hi : P.info? e = some i)
    (v : Value) (n : Nat) (xs : List Value) (hs : a.eval s = v) (hown : w.ownsRow base e size v n xs) (hx : a.eval x = .slice none 0 0)
    (h : K (a.put o.dst v) w) : if Region.wanted o (yielded ops a.tmps) = true then Oper.wp P o a w K Q else E := by
  have hw : Region.wanted o (yielded ops a.tmps) = true := by simp [Region.wanted, hgd]
  rw [if_pos hw]
  have hrun := run_append_owned_none (P := P) (w := w) base t o.type e i size ht hi v n xs hown
  unfold Oper.wp
  simp [execOp, ho, resolve, invoke, builtin, hs, hx, hrun, Result.andThen]
  exact h

theorem map_take_succ {α β : Type} {l : List α} {k : Nat} {x : α} (f : α → β) (h : l[k]? = some x) : (l.take (k + 1)).map f = (l.take k).map f ++ [f x] := by
  rw [List.take_add_one, h, List.map_append]; rfl

def fewL (ps : List (List Ins)) : List (List Ins) := (ps.take 17).map fun p => p.take 65

def FewPost (w : World) (s : Sl (Sl Ins)) (e : Ending) (w' : World) : Prop :=
  ∃ ao cc pss, e = .returned (.slice ao pss.length cc) ∧ PsOwn w.heap.size w' ao cc pss ∧ pss.map (·.xs) = fewL (s.xs.map (·.xs)) ∧ Still w w'

/-- The numbers of a program's beginning lie where it lies. -/
theorem prog_cells {w W : World} {ad : Addr} {xx : List Ins} (hr : RowAt insEnc 4 w (some ad) xx) (hT : Still w W) : ∀ (j : Nat) (u : Value), (rowOf insEnc xx)[j]? = some u → W.cell? (ad.add j) = some u := by
  intro j u hj
  obtain ⟨z, hz, hv⟩ := rowOf_split insEnc_len (by omega) hj
  obtain ⟨b, o, e, hc⟩ := hr _ z hz
  cases e
  have := hc _ _ hv
  rw [Nat.mul_comm, Nat.div_add_mod] at this
  rw [Addr.add_lit]
  exact still_cell hT this rfl

theorem prog_one (xx : List Ins) : ∀ u ∈ rowOf insEnc xx, u.oneCell' = true := by
  intro u hu
  simp only [rowOf, List.mem_flatMap] at hu
  obtain ⟨z, _, hz⟩ := hu
  simp [insEnc] at hz
  rcases hz with rfl | rfl | rfl | rfl <;> rfl

theorem RowAt.take {α : Type} {enc : α → List Value} {m : Nat} {w : World} {a : Option Addr} {xs : List α} (h : RowAt enc m w a xs) (n : Nat) : RowAt enc m w a (xs.take n) := by
  intro i x hx
  rw [List.getElem?_take] at hx
  split at hx
  · exact h i x hx
  · cases hx

set_option maxHeartbeats 4000000 in
theorem few_any (s : Sl (Sl Ins)) (w : World) (hs : SlOk encSl (SlOk insEnc okT 4) 1 w s) : Calls Try.prog 10 #[.slice s.a s.len s.cap] w (FewPost w s) := by
  obtain ⟨sa, sl, sc, sx⟩ := s
  have HS := Lib.hid hs
  have HSL := Lib.hid hs.len
  have hscap : sl ≤ sc := hs.le
  obtain ⟨i0, hi, hz0, hz1, hz2⟩ := info_parts infoInstrs
  obtain ⟨i1, ki, kz0, kz1, kz2⟩ := info_parts infoInstr
  clear hs
  dsimp only at HSL ⊢
  go_enter Try.func10, Try.ntmps10
  go_wp2_with fail
  have HP0 := Lib.hid (show PsOwn w.heap.size (w.alloc (.cells #[] 59)) (some ⟨w.heap.size, 0, none⟩) 0 [] from ⟨World.ownsRow_made w #[] 0 (Nat.le_refl _) (by simp) (by simp), fun x hx => by cases hx⟩)
  have HT0 := Lib.hid ((Turned.refl (fun _ => False) w).alloc (.cells #[] 59))
  go_loopw [3, 4] (fun p i wr => ∃ (k : Nat) (pss : List (Sl Ins)) (ao : Option Addr) (cc : Nat), k ≤ sl ∧ k ≤ 17 ∧ i = .int .i64 k ∧ p = .slice ao k cc ∧ pss.length = k ∧ PsOwn w.heap.size wr ao cc pss ∧ pss.map (·.xs) = ((sx.map (·.xs)).take k).map (fun p => p.take 65) ∧ Still w wr) (fun _ i _ => sl - (intOf i).toNat)
  case atStart => exact ⟨0, [], some ⟨w.heap.size, 0, none⟩, 0, Nat.zero_le _, Nat.zero_le _, rfl, rfl, rfl, HP0.out, by simp, HT0.out⟩
  case round =>
    clear HP0 HT0
    obtain ⟨k, pss, ao, cc, hk, hk17, rfl, rfl, hpl, hPO, hpm, hT⟩ := hrel
    have HPO := Lib.hid hPO
    have HPM := Lib.hid hpm
    have HPL := Lib.hid hpl
    have HT := Lib.hid hT
    have hwr : w.heap.size ≤ wr.heap.size := hT.size
    clear hPO hpm hpl hT
    by_cases hlt : k < sl
    · by_cases h17 : k < 17
      · obtain ⟨x, hx⟩ := get_some (l := sx) (i := k) (by rw [HSL.out]; exact hlt)
        obtain ⟨b, o, rfl, hc⟩ := HS.out.row k x hx
        have hxo := HS.out.each x (List.mem_of_getElem? hx)
        have c0 : wr.cell? ⟨b, o + k, none⟩ = some (.slice x.a x.len x.cap) := still_cell HT.out (show w.cell? ⟨b, o + k, none⟩ = some (.slice x.a x.len x.cap) by simpa using hc 0 _ rfl) rfl
        have hbl : b < wr.heap.size := cell_lt c0
        have hcw := hc 0 _ rfl
        have HX := Lib.hid hx
        have HXO := Lib.hid hxo
        clear hx hc hxo
        obtain ⟨xa, xl, xc, xx⟩ := x
        dsimp only at c0
        have hxl : xx.length = xl := HXO.out.len
        have hxle : xl ≤ xc := HXO.out.le
        have HXL := Lib.hid hxl
        clear hxl
        have cw : w.cell? ⟨b, o + k, none⟩ = some (.slice xa xl xc) := by simpa using hcw
        cases xa with
        | none =>
          obtain ⟨rfl, rfl⟩ : xl = 0 ∧ xc = 0 := HXO.out.none rfl
          obtain rfl : xx = [] := List.eq_nil_of_length_eq_zero HXL.out
          have HP1 := Lib.hid (HPO.out.still (w' := wr.drew.alloc (.cells #[] 70)) (((Turned.refl _ wr).drew).alloc _))
          have HT1 := Lib.hid (HT.out.trans (c := wr.drew.alloc (.cells #[] 70)) (((Turned.refl _ wr).drew).alloc _))
          go_wp2_with fail
          go_region_held3 (fun V => V.cell? ⟨b, o + k, none⟩ = some (.slice none 0 0)) (first | assumption | go_keep) (first
            | (refine step_append_none rfl (.tmp 17) (.tmp 28) 59 rfl w.heap.size 70 i1 4 Try.underlying59 ki (.slice (some ⟨wr.heap.size, 0, none⟩) 0 0) 0 [] rfl (World.ownsRow_made wr.drew #[] 0 hwr (by simp) (by simp)) rfl ?_)
            | (refine step_append_own rfl (.tmp 16) (.tmp 30) 22 rfl w.heap.size 59 i0 (.slice none 0 0) 1 24 Try.underlying22 hi hz0 hz1 hz2 rfl (by decide) (.slice ao k cc) k (pss.map fun x => .slice x.a x.len x.cap) rfl (by have h := own_turned HP1.out.own ((Turned.refl (fun _ => False) (wr.drew.alloc (.cells #[] 70))).alloc (.cells #[.slice (some ⟨wr.heap.size, 0, none⟩) 0 0] 59)) (fun _ _ h => h); rw [HPL.out] at h; exact h) ⟨wr.heap.size + 1, 0, none⟩ 1 1 [.slice (some ⟨wr.heap.size, 0, none⟩) 0 0] rfl rfl (one_new2 wr.drew _ _ _) (by intro u hu; simp at hu; subst hu; rfl) (by unfold maxLen; omega) (by omega) (by simp; omega) ?_; intro v3 w3 hown3 hg3; obtain ⟨a3, c3, rfl⟩ := own_slice hown3; have hT3 := (HT1.out.alloc (.cells #[.slice (some ⟨wr.heap.size, 0, none⟩) 0 0] 59)).grown hg3 (fun q e => .inr (by have := HPO.out.own.lt q (by rw [HPL.out]; exact e); exact this.1)); have c03 := still_cell hT3 cw rfl; have HO3 := Lib.hid hown3; have HG3 := Lib.hid hg3; have HT3 := Lib.hid hT3; clear hown3 hg3 hT3))
          all_goals go_wp2_with fail
          all_goals go_roundw
          all_goals first
            | exact ⟨k + 1, pss ++ [⟨some ⟨wr.heap.size, 0, none⟩, 0, 0, []⟩], a3, c3, by omega, by omega, by go_num, rfl, by rw [List.length_append, HPL.out]; rfl, HP1.out.snoc ⟨rfl, Nat.zero_le _, (World.ownsRow_made wr.drew #[] 0 hwr (by simp) (by simp))⟩ (by rw [HPL.out]; exact HG3.out) (by rw [HPL.out]; exact HO3.out), by rw [List.map_append, HPM.out, map_take_succ (l := sx.map (·.xs)) (x := []) _ (by rw [List.getElem?_map, HX.out]; rfl)]; rfl, HT3.out⟩
            | (simp [intOf]; omega)
        | some ad =>
          by_cases h65 : xl ≤ 65
          · have HN := Lib.hid (show (xx.take 65).length = xl by rw [List.length_take, HXL.out]; omega)
            have hif : (if (65 : Int) < (xl : Int) then (65 : Int) else (xl : Int)) = (xl : Int) := if_neg (by omega)
            have hxi : (xl : Int) ≤ (xc : Int) := by omega
            go_wp2_with fail
            go_region_held3 (fun V => V.cell? ⟨b, o + k, none⟩ = some (.slice (some ad) xl xc)) (first | assumption | go_keep) (first
              | (refine step_append_own rfl (.tmp 17) (.tmp 28) 59 rfl w.heap.size 70 i1 (.agg #[.int .i64 0, .int .i64 0, .int .i64 0, .int .i64 0]) 4 32 Try.underlying59 ki kz0 kz1 kz2 rfl (by decide) (.slice (some ⟨wr.heap.size, 0, none⟩) 0 0) 0 [] rfl (World.ownsRow_made wr.drew #[] 0 hwr (by simp) (by simp)) ad xl xc (rowOf insEnc (xx.take 65)) rfl (by rw [rowOf_length insEnc_len, HN.out]) (prog_cells (HXO.out.row.take 65) (HT.out.trans (c := wr.drew.alloc (.cells #[] 70)) (((Turned.refl _ wr).drew).alloc _))) (prog_one _) (by unfold maxLen; omega) (by omega) (by simp; omega) ?_; intro v1 w1 hown1 hg1; obtain ⟨a1, c1, rfl⟩ : ∃ a1 c1, v1 = .slice a1 xl c1 := (by obtain ⟨a1, c1, e⟩ := own_slice hown1; exact ⟨a1, c1, by rw [e, Nat.zero_add]⟩); have hT1 : Still wr w1 := ((((Turned.refl _ wr).drew).alloc (.cells #[] 70))).grown hg1 (fun q e => .inr (by cases e; exact Nat.le_refl _)); rw [Nat.zero_add, List.nil_append] at hown1; have hw1 : w.heap.size ≤ w1.heap.size := Nat.le_trans hwr hT1.size; have c01 : w1.cell? ⟨b, o + k, none⟩ = some (.slice (some ad) xl xc) := still_cell hT1 c0 rfl; have HO1 := Lib.hid hown1; have HP1 := Lib.hid (HPO.out.still hT1); have HT1 := Lib.hid (HT.out.trans hT1); clear hown1 hg1 hT1)
              | (refine step_append_own rfl (.tmp 16) (.tmp 30) 22 rfl w.heap.size 59 i0 (.slice none 0 0) 1 24 Try.underlying22 hi hz0 hz1 hz2 rfl (by decide) (.slice ao k cc) k (pss.map fun x => .slice x.a x.len x.cap) rfl (by have h := own_turned HP1.out.own ((Turned.refl (fun _ => False) w1).alloc (.cells #[.slice a1 xl c1] 59)) (fun _ _ h => h); rw [HPL.out] at h; exact h) ⟨w1.heap.size, 0, none⟩ 1 1 [.slice a1 xl c1] rfl rfl (new_cells w1 _ _) (by intro u hu; simp at hu; subst hu; rfl) (by unfold maxLen; omega) (by omega) (by simp; omega) ?_; intro v3 w3 hown3 hg3; obtain ⟨a3, c3, rfl⟩ := own_slice hown3; have hT3 := (HT1.out.alloc (.cells #[.slice a1 xl c1] 59)).grown hg3 (fun q e => .inr (by have := HPO.out.own.lt q (by rw [HPL.out]; exact e); exact this.1)); have c03 := still_cell hT3 cw rfl; have HO3 := Lib.hid hown3; have HG3 := Lib.hid hg3; have HT3 := Lib.hid hT3; clear hown3 hg3 hT3))
            all_goals go_wp2_with fail
            all_goals go_roundw
            all_goals first
              | exact ⟨k + 1, pss ++ [⟨a1, xl, c1, xx.take 65⟩], a3, c3, by omega, by omega, by go_num, rfl, by rw [List.length_append, HPL.out]; rfl, HP1.out.snoc (o := .cells #[.slice a1 xl c1] 59) ⟨HN.out.symm, by dsimp only; omega, HO1.out⟩ (by rw [HPL.out]; exact HG3.out) (by rw [HPL.out]; exact HO3.out), by rw [List.map_append, HPM.out, map_take_succ (l := sx.map (·.xs)) (x := xx) _ (by rw [List.getElem?_map, HX.out]; rfl)]; rfl, HT3.out⟩
              | (simp [intOf]; omega)
          · have HN := Lib.hid (show (xx.take 65).length = 65 by rw [List.length_take, HXL.out]; omega)
            have hif : (if (65 : Int) < (xl : Int) then (65 : Int) else (xl : Int)) = 65 := if_pos (by omega)
            have hxi : (65 : Int) ≤ (xc : Int) := by omega
            go_wp2_with fail
            go_region_held3 (fun V => V.cell? ⟨b, o + k, none⟩ = some (.slice (some ad) xl xc)) (first | assumption | go_keep) (first
              | (refine step_append_own rfl (.tmp 17) (.tmp 28) 59 rfl w.heap.size 70 i1 (.agg #[.int .i64 0, .int .i64 0, .int .i64 0, .int .i64 0]) 4 32 Try.underlying59 ki kz0 kz1 kz2 rfl (by decide) (.slice (some ⟨wr.heap.size, 0, none⟩) 0 0) 0 [] rfl (World.ownsRow_made wr.drew #[] 0 hwr (by simp) (by simp)) ad 65 xc (rowOf insEnc (xx.take 65)) rfl (by rw [rowOf_length insEnc_len, HN.out]) (prog_cells (HXO.out.row.take 65) (HT.out.trans (c := wr.drew.alloc (.cells #[] 70)) (((Turned.refl _ wr).drew).alloc _))) (prog_one _) (by unfold maxLen; omega) (by omega) (by simp; omega) ?_; intro v1 w1 hown1 hg1; obtain ⟨a1, c1, rfl⟩ : ∃ a1 c1, v1 = .slice a1 65 c1 := (by obtain ⟨a1, c1, e⟩ := own_slice hown1; exact ⟨a1, c1, by rw [e, Nat.zero_add]⟩); have hT1 : Still wr w1 := ((((Turned.refl _ wr).drew).alloc (.cells #[] 70))).grown hg1 (fun q e => .inr (by cases e; exact Nat.le_refl _)); rw [Nat.zero_add, List.nil_append] at hown1; have hw1 : w.heap.size ≤ w1.heap.size := Nat.le_trans hwr hT1.size; have c01 : w1.cell? ⟨b, o + k, none⟩ = some (.slice (some ad) xl xc) := still_cell hT1 c0 rfl; have HO1 := Lib.hid hown1; have HP1 := Lib.hid (HPO.out.still hT1); have HT1 := Lib.hid (HT.out.trans hT1); clear hown1 hg1 hT1)
              | (refine step_append_own rfl (.tmp 16) (.tmp 30) 22 rfl w.heap.size 59 i0 (.slice none 0 0) 1 24 Try.underlying22 hi hz0 hz1 hz2 rfl (by decide) (.slice ao k cc) k (pss.map fun x => .slice x.a x.len x.cap) rfl (by have h := own_turned HP1.out.own ((Turned.refl (fun _ => False) w1).alloc (.cells #[.slice a1 65 c1] 59)) (fun _ _ h => h); rw [HPL.out] at h; exact h) ⟨w1.heap.size, 0, none⟩ 1 1 [.slice a1 65 c1] rfl rfl (new_cells w1 _ _) (by intro u hu; simp at hu; subst hu; rfl) (by unfold maxLen; omega) (by omega) (by simp; omega) ?_; intro v3 w3 hown3 hg3; obtain ⟨a3, c3, rfl⟩ := own_slice hown3; have hT3 := (HT1.out.alloc (.cells #[.slice a1 65 c1] 59)).grown hg3 (fun q e => .inr (by have := HPO.out.own.lt q (by rw [HPL.out]; exact e); exact this.1)); have c03 := still_cell hT3 cw rfl; have HO3 := Lib.hid hown3; have HG3 := Lib.hid hg3; have HT3 := Lib.hid hT3; clear hown3 hg3 hT3))
            all_goals go_wp2_with fail
            all_goals go_roundw
            all_goals first
              | exact ⟨k + 1, pss ++ [⟨a1, 65, c1, xx.take 65⟩], a3, c3, by omega, by omega, by go_num, rfl, by rw [List.length_append, HPL.out]; rfl, HP1.out.snoc (o := .cells #[.slice a1 65 c1] 59) ⟨HN.out.symm, by dsimp only; omega, HO1.out⟩ (by rw [HPL.out]; exact HG3.out) (by rw [HPL.out]; exact HO3.out), by rw [List.map_append, HPM.out, map_take_succ (l := sx.map (·.xs)) (x := xx) _ (by rw [List.getElem?_map, HX.out]; rfl)]; rfl, HT3.out⟩
              | (simp [intOf]; omega)
      · go_wp2_with fail
        go_ret
        refine ⟨ao, cc, pss, by rw [HPL.out]; rfl, HPO.out, ?_, HT.out⟩
        rw [HPM.out]
        unfold fewL
        rw [show k = 17 by omega]
    · go_wp2_with fail
      go_ret
      refine ⟨ao, cc, pss, by rw [HPL.out]; rfl, HPO.out, ?_, HT.out⟩
      rw [HPM.out]
      unfold fewL
      rw [List.take_of_length_le (by rw [List.length_map, HSL.out]; omega), List.take_of_length_le (by rw [List.length_map]; show sx.length ≤ 17; rw [HSL.out]; omega)]
end Go.Proofs.Ytdbmieofcdafkaa
