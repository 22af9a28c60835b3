/- What the program's Levels hands out: the levels of a name, in a slice of one's own. No condition but that the text is not too long. -/
import Derived.Test.YtoailhkgailhhaaDoorNameChk
namespace Go.Proofs.YtoailhkgailhhaaDoor
open Go.RowKit Go.Shelf
attribute [local go_sem] Oper.semAt_some
set_option linter.unusedVariables false
set_option linter.unusedSimpArgs false
set_option maxRecDepth 100000

set_option maxHeartbeats 2000000 in
theorem levels_in (F : Fence) (n : Nat) (hw : F = Fence.wide) (h3 : F.fn 31) (h4 : F.fn 41) (h5 : F.fn 56) (h6 : F.fn 57) (h8 : F.fn 38) (hro : F.round = none) (hn : 3 ≤ n) (l : Txt) (hmax : l.length ≤ 1000000) (hok : nmE l = 0) (w : World) :
    CallsIn F n Tryd.prog 31 #[tx l] w fun e w' => ∃ a c, e = .returned (.tuple #[.slice a (spl l).length c, .int .i64 0]) ∧ w'.ownsRow w.heap.size 9 1 (.slice a (spl l).length c) (spl l).length (txs (spl l)) ∧ Below w.heap.size w w' := by
  have h1 : 1 ≤ n := by omega
  have HK := Lib.hid (show CallsIn F (n - 1) Tryd.prog 38 #[tx l] w fun e w' => e = .returned (.int .i64 0) ∧ Still w w' from by subst hw; rw [← hok]; exact callsIn_wide.2 (chk_any l w hmax))
  have HBt := Lib.hid (fun V => between_in F (n - 1) h4 hro l V)
  have HW := Lib.hid hw
  have hsm := (spl_len l).2
  obtain ⟨i0, hi, hz0, hz1, hz2⟩ := info_parts infoStr
  clear hw hok
  refine callsIn_of_wp_marks Tryd.func31 rfl h3 ?_ hro
  simp only [Tryd.ntmps31, List.size_toArray, List.length_cons, List.length_nil, Nat.reduceAdd, Nat.reduceSub, Array.replicate_succ, Array.replicate_zero, List.push_toArray, List.append_toArray, List.nil_append, List.cons_append]
  gi_wp2_with (first
    | (gi_at_call 38; ((with_reducible refine HK.out.mono ?_)); rintro e V ⟨rfl, hTV⟩)
    | (gi_at_call 41; ((with_reducible refine (HBt.out _).mono ?_)); rintro e w' ⟨rfl, rfl⟩))
  have bL := (Boxed.new V 23 (.slice none 0 0)).alloc (.cells #[tx l] 9)
  have bS := Boxed.new (V.alloc (.cells #[.slice none 0 0] 23)) 9 (tx l)
  rw [World.size_alloc] at bS
  have hzV := hTV.size
  have hB0 : Below w.heap.size w ((V.alloc (.cells #[.slice none 0 0] 23)).alloc (.cells #[tx l] 9)) := ((hTV.below (Nat.le_refl _) (fun _ h => h.elim)).alloc hzV _).alloc (by simp; omega) _
  have hsz : ((V.alloc (.cells #[.slice none 0 0] 23)).alloc (.cells #[tx l] 9)).heap.size = V.heap.size + 2 := by simp
  obtain ⟨W0, hW0⟩ : ∃ W0, (V.alloc (.cells #[.slice none 0 0] 23)).alloc (.cells #[tx l] 9) = W0 := ⟨_, rfl⟩
  rw [hW0] at bL bS hB0 hsz ⊢
  clear hW0 hTV
  refine wpIn_rangeFunc_ownH hro h1 (gf := 56) (lb := #[.pointer (some ⟨V.heap.size + 1, 0, none⟩)]) rfl h5 (enters_of Tryd.func56 (by kernel_rfl) rfl)
    (between_stops F (n - 1) HW.out h5 h6 hro (by omega) (V.heap.size + 1) w.heap.size l W0 hmax bS.cell) belowK_t (belowK_b (by omega)) (Below.refl _ _) (fun _ => rfl)
    (fun pre W => (∃ v, Boxed W V.heap.size 23 v ∧ W.ownsRow w.heap.size 9 1 v pre.length (txs pre) ∧ True) ∧ Below w.heap.size w W)
    (fun _ _ _ => False)
    (OwnFrom.and (Own.from (holdsRow_own w.heap.size V.heap.size 23 9 1 (fun pre : List Txt => pre.length) (fun pre => txs pre) (fun pre v => True)) _) (ownFrom_below (by omega) (by omega)))
    (fun _ _ _ _ _ hs _ _ => hs)
    ⟨⟨_, bL, World.ownsRow_nil _ _ _ _, trivial⟩, hB0⟩
    (fun x a' W => a' = { tmps := #[tx l, undef, .slice none 0 0, .int .i64 0, .int .i64 0, .pointer (some ⟨V.heap.size, 0, none⟩), tx x, tx l, .int .i64 0, .int .i64 0, .bool false, undef, tx l, .func (.func 56) #[] #[.pointer (some ⟨V.heap.size + 1, 0, none⟩)], tx x, undef, undef, undef, undef, undef], defers := [] })
    (fun x a' _ X Y row hs hg hr => hs)
    ?assign ?body ?done ?stop
  case assign =>
    rintro lb pre x W K hI hK
    gi_wp2
    exact hK _ _ (KeepsFrom.refl _ _) (Below.refl _ W) hI rfl
  case body =>
    rintro lb pre x a' W hl ⟨r, hr⟩ ⟨⟨v, hv, hrow, -⟩, hB⟩ rfl hlt
    obtain ⟨ao, cc, rfl⟩ := ow_slice hrow
    have hc := hv.cell
    clear hr
    unfold tx
    gi_wp2_with (gi_at_builtin; refine wpListIn_append_own _ rfl _ _ 23 rfl w.heap.size 9 i0 (.string ⟨#[]⟩) 1 16 Tryd.underlying23 hi hz0 hz1 hz2 rfl (by decide) _ _ _ rfl (hrow.alloc _) ⟨W.heap.size, 0, none⟩ 1 1 [.string ⟨x.toArray⟩] rfl rfl (cell_one_new _ _ _) (by simp [Value.oneCell']) (by unfold maxLen; omega) (by omega) (by have := hB.size; simp; omega) ?_; intro v' w1 hown' hgrow _; obtain ⟨g', cap', rfl⟩ := ownsRow_succ hown'; obtain ⟨hv1, hv2, hr2, hk2, hb2⟩ := hv.appended (by decide) hrow hB.size hzV hown' hgrow; have hc1 := hv1.cell; have hf1 := hv1.frozen)
    exact ⟨hk2.from _, hb2, ⟨_, hv2, by simpa [txs, tx] using hr2, trivial⟩, hB.trans hb2⟩
  case done =>
    rintro D ys W hD rfl ⟨⟨v, hv, hrow, -⟩, hB⟩ hK
    obtain ⟨a, c, rfl⟩ := ow_slice hrow
    have hc := hv.cell
    gi_wp2
    refine ⟨by simp, .inl ⟨_, _, rfl, run_takeDeferred hK, ?_⟩⟩
    exact ⟨_, results_tmp2 rfl _ _ _, a, c, rfl, ownsRow_putObj hrow _ hK rfl, hB.trans (belowK_b (w := w) (Nat.le_refl _) W D _ _ (by omega) hK rfl rfl)⟩
  case stop =>
    rintro D c pre W _ _ h _
    exact h.elim

theorem levels_any8 (l : Txt) (w : World) (hmax : l.length ≤ 1000000) : Calls Tryd.prog 31 #[tx l] w (LevPost w l (lvls l).length) := by
  rcases nmE_or l with h0 | h0
  · refine ((callsIn_wide (n := 3)).1 (levels_in Fence.wide 3 rfl trivial trivial trivial trivial trivial rfl (by omega) l hmax h0 w)).mono ?_
    rintro e w' ⟨a, c, rfl, hown, hB⟩
    unfold LevPost
    rw [h0, lvls_ok h0]
    exact ⟨a, c, rfl, TextsAt.of_own hown rfl, SlW.of_own hown, below_turned hB (Nat.le_refl _)⟩
  · have e0 : lvls l = [] := lvls_no (by omega)
    have HC := Lib.hid (fun V => chk_any l V hmax)
    have HP := Lib.hid (fun (V : World) (h1 : Still w V) => show LevPost w l 0 (.returned (.tuple #[.slice none 0 0, .int .i64 80])) V from ⟨none, 0, by rw [h0], by rw [e0]; exact TextsAt.nil _ _, ⟨Nat.le_refl _, by unfold maxLen; omega, fun _ => ⟨rfl, rfl⟩⟩, h1⟩)
    rw [e0]
    show Calls Tryd.prog 31 #[tx l] w (LevPost w l 0)
    rw [h0] at HC
    clear h0 hmax e0
    unfold tx at *
    go_enter Tryd.func31, Tryd.ntmps31
    go_wp2_with (go_at_call 38; ((with_reducible refine (HC.out _).mono ?_)); rintro e w5 ⟨rfl, hT5⟩)
    go_ret2
    exact HP.out _ hT5
end Go.Proofs.YtoailhkgailhhaaDoor
