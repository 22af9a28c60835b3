/- How many levels a text has, by the iterator; and whether a name may have each byte. No condition but that the text is not too long. -/
import Derived.Test.YtoailhkgailhhaaDoorNameEach
import Derived.Test.YtoailhkgailhhaaDoorBytes
namespace Go.Proofs.YtoailhkgailhhaaDoor
open Go.RowKit Go.Shelf
attribute [local go_sem] Oper.semAt_some
set_option linter.unusedVariables false
set_option linter.unusedSimpArgs false
set_option maxRecDepth 100000

set_option maxHeartbeats 1000000 in
theorem count_in (F : Fence) (n : Nat) (hw : F = Fence.wide) (h3 : F.fn 51) (h4 : F.fn 41) (h5 : F.fn 56) (h6 : F.fn 57) (hro : F.round = none) (hn : 3 ≤ n) (l : Txt) (hmax : l.length ≤ 1000000) (w : World) :
    CallsIn F n Tryd.prog 51 #[tx l] w fun e w' => e = .returned (.int .i64 (spl l).length) ∧ Below w.heap.size w w' := by
  have h1 : 1 ≤ n := by omega
  have hbet := between_in F (n - 1) h4 hro l (w.alloc (.cells #[.int .i64 0] 3))
  rw [World.size_alloc] at hbet
  have hsm := (spl_len l).2
  have HW := Lib.hid hw
  clear hw
  refine callsIn_of_wp_marks Tryd.func51 rfl h3 ?_ hro
  simp only [Tryd.ntmps51, List.size_toArray, List.length_cons, List.length_nil, Nat.reduceAdd, Nat.reduceSub, Array.replicate_succ, Array.replicate_zero, List.push_toArray, List.append_toArray, List.nil_append, List.cons_append]
  gi_wp2_with (gi_at_call 41; ((with_reducible refine hbet.mono ?_)); rintro e w' ⟨rfl, rfl⟩)
  have bI := (Boxed.new w 3 (.int .i64 0)).alloc (.cells #[tx l] 9)
  have bS := Boxed.new (w.alloc (.cells #[.int .i64 0] 3)) 9 (tx l)
  rw [World.size_alloc] at bS
  have hB0 : Below w.heap.size w ((w.alloc (.cells #[.int .i64 0] 3)).alloc (.cells #[tx l] 9)) := ((Below.refl _ w).alloc (Nat.le_refl _) _).alloc (by simp) _
  have hsz : ((w.alloc (.cells #[.int .i64 0] 3)).alloc (.cells #[tx l] 9)).heap.size = w.heap.size + 2 := by simp
  obtain ⟨W0, hW0⟩ : ∃ W0, (w.alloc (.cells #[.int .i64 0] 3)).alloc (.cells #[tx l] 9) = W0 := ⟨_, rfl⟩
  rw [hW0] at bI bS hB0 hsz ⊢
  clear hW0 hbet
  refine wpIn_rangeFunc_ownH hro h1 (gf := 56) (lb := #[.pointer (some ⟨w.heap.size + 1, 0, none⟩)]) rfl h5 (enters_of Tryd.func56 (by kernel_rfl) rfl)
    (between_stops F (n - 1) HW.out h5 h6 hro (by omega) (w.heap.size + 1) w.heap.size l W0 hmax bS.cell) belowK_t (belowK_b (by omega)) (Below.refl _ _) (fun _ => rfl)
    (fun pre W => Boxed W w.heap.size 3 (.int .i64 pre.length) ∧ Below w.heap.size w W)
    (fun _ _ _ => False)
    (OwnFrom.and (Own.from (boxed_own w.heap.size 3 (fun pre : List Txt => .int .i64 pre.length)) _) (ownFrom_below (Nat.le_refl _) (by omega)))
    (fun _ _ _ _ _ hs _ _ => hs)
    ⟨bI, hB0⟩
    (fun x a' W => a' = { tmps := #[tx l, undef, .int .i64 0, .pointer (some ⟨w.heap.size, 0, none⟩), tx l, .func (.func 56) #[] #[.pointer (some ⟨w.heap.size + 1, 0, none⟩)], tx x, undef, undef, undef], defers := [] })
    (fun x a' _ X Y row hs hg hr => hs)
    ?assign ?body ?done ?stop
  case assign =>
    rintro lb pre x W K hI hK
    gi_wp2
    exact hK _ _ (KeepsFrom.refl _ _) (Below.refl _ W) hI (by simp)
  case body =>
    rintro lb pre x a' W hl ⟨r, hr⟩ ⟨hv, hB⟩ rfl hlt
    have hc := hv.cell
    have hf := hv.frozen
    clear hr
    gi_wp2
    refine ⟨(KeepsOthers.setCell _ _ _).from _, (Below.refl w.heap.size W).setCell (p := ⟨w.heap.size, 0, none⟩) (Nat.le_refl _) _, ?_, hB.setCell (p := ⟨w.heap.size, 0, none⟩) (Nat.le_refl _) _⟩
    have := hv.set (.int .i64 ((pre ++ [x]).length : Nat))
    simpa using this
  case done =>
    rintro D ys W hD rfl ⟨hv, hB⟩ hK
    have hc := hv.cell
    gi_wp2
    refine ⟨by simp, .inl ⟨_, _, rfl, run_takeDeferred hK, ?_⟩⟩
    exact ⟨_, results_tmp rfl _ _ _, rfl, hB.trans (belowK_b (w := w) (Nat.le_refl _) W D _ _ (by omega) hK rfl rfl)⟩
  case stop =>
    rintro D c pre W _ _ h _
    exact h.elim

theorem count_any (l : Txt) (hmax : l.length ≤ 1000000) (w : World) : Calls Tryd.prog 51 #[tx l] w fun e w' => e = .returned (.int .i64 (spl l).length) ∧ Still w w' :=
  (callsIn_wide (n := 3)).1 ((count_in Fence.wide 3 rfl trivial trivial trivial trivial rfl (by omega) l hmax w).mono fun e w' ⟨h1, h2⟩ => ⟨h1, below_turned h2 (Nat.le_refl _)⟩)

/-- May a name have each of these bytes? -/
def plB (l : Txt) : Bool := l.all okC
theorem plB_iff {l : Txt} : plB l = true ↔ ∀ b ∈ l, okC b = true := by unfold plB; simp

set_option maxHeartbeats 1000000 in
theorem plain_any (l : Txt) (hmax : l.length ≤ 1000000) (w : World) : Calls Tryd.prog 50 #[tx l] w fun e w' => e = .returned (.bool (plB l)) ∧ Still w w' := by
  obtain ⟨s, hs⟩ : ∃ s, s = ByteArray.mk l.toArray := ⟨_, rfl⟩
  obtain ⟨m, hm⟩ : ∃ m, m = l.length := ⟨_, rfl⟩
  have hsz : s.size = m := by rw [hs, hm, tx_size]
  have hmm : m ≤ 1000000 := by omega
  have hdl : s.data.toList = l := by rw [hs]
  have k1 := run_bytes_of_string (P := Tryd.prog) w 9 56 5 s Tryd.underlying9 Tryd.underlying56 Tryd.underlying5
  generalize hC : grownCap w s.size 0 5 = c at k1
  generalize hB : w.drew.alloc (.cells (bytesRow s c) 5 ((bytesRow s c).size, (bytesRow s c).size + 1)) = w1 at k1
  have hat : BytesAt w1 (some ⟨w.heap.size, 0, none⟩) l := by
    intro i x hx
    refine ⟨_, _, rfl, ?_⟩
    rw [← hB, Nat.zero_add]
    have hi := get_lt hx
    rw [show w.heap.size = w.drew.heap.size from rfl, World.cell?_alloc_mark, bytesRow_at s c i (by show i < s.size; omega)]
    rw [← hdl] at hx
    simp only [List.getElem?_eq_getElem (show i < s.data.toList.length by rw [hdl]; exact hi), Option.some.injEq] at hx
    rw [← hx]; simp
  have hst : Still w w1 := by rw [← hB]; exact (Turned.refl _ _).drew.alloc _
  rw [hsz] at k1
  have HAT := Lib.hid hat
  have HST := Lib.hid hst
  have HM := Lib.hid hm
  have HP := Lib.hid (show (∃ x ∈ l, okC x = false) → plB l = false from fun ⟨x, hx, hb⟩ => by
    cases h : plB l with
    | false => rfl
    | true => have := plB_iff.1 h x hx; rw [hb] at this; cases this)
  have HQ := Lib.hid (show (∀ b ∈ l, okC b = true) → plB l = true from plB_iff.2)
  unfold tx
  rw [← hs]
  clear hat hst hB hC hs hdl hm hmax
  obtain ⟨r, hr⟩ : ∃ r, r = plB l := ⟨_, rfl⟩
  rw [← hr] at HP HQ ⊢
  clear hr
  go_enter Tryd.func50, Tryd.ntmps50
  go_wp2_with fail
  go_loopw [8] (fun i wr => ∃ k : Nat, k ≤ m ∧ i = .int .i64 k ∧ (∀ b ∈ l.take k, okC b = true) ∧ wr = w1) (fun i _ => m - (intOf i).toNat)
  case atStart => exact ⟨0, Nat.zero_le _, rfl, by simp, rfl⟩
  case round =>
    obtain ⟨k, hk, rfl, hok, rfl⟩ := hrel
    have HOK := Lib.hid hok
    clear hok
    by_cases hlt : k < m
    · obtain ⟨x, hx⟩ := get_some (l := l) (i := k) (by rw [← HM.out]; exact hlt)
      obtain ⟨b, o, he, hc⟩ := HAT.out k x hx
      cases he
      rw [Nat.zero_add] at hc
      have HXX := Lib.hid hx
      clear hx
      have hBad := Lib.hid (fun (h : okC x = false) => HP.out ⟨x, List.mem_of_getElem? HXX.out, h⟩)
      have hGood := Lib.hid (fun (h : okC x = true) => show ∀ b ∈ l.take (k + 1), okC b = true by
        intro b hb
        rw [List.take_add_one, HXX.out] at hb
        rcases List.mem_append.1 hb with hb | hb
        · exact HOK.out b hb
        · simp at hb; subst hb; exact h)
      rcases Nat.lt_or_ge x.toNat 33 with h1 | h1
      · have HE := Lib.hid (hBad.out (by simp [okC]; omega))
        have h1' : (x.toNat : Int) < 33 := by omega
        clear hBad hGood
        go_wp2_with fail
        go_ret
        exact ⟨by rw [HE.out]; rfl, HST.out⟩
      · have h1' : ¬ (x.toNat : Int) < 33 := by omega
        rcases Nat.lt_or_ge 126 x.toNat with h2 | h2
        · have HE := Lib.hid (hBad.out (by simp [okC]; omega))
          have h2' : (126 : Int) < (x.toNat : Int) := by omega
          clear hBad hGood
          go_wp2_with fail
          go_ret
          exact ⟨by rw [HE.out]; rfl, HST.out⟩
        · have h2' : ¬ (126 : Int) < (x.toNat : Int) := by omega
          by_cases h3 : x.toNat = 43
          · have HE := Lib.hid (hBad.out (by simp [okC, h3]))
            have h3' : (x.toNat : Int) = 43 := by omega
            clear hBad hGood h1 h2 h1' h2' h3
            go_wp2_with fail
            go_ret
            exact ⟨by rw [HE.out]; rfl, HST.out⟩
          · have h3' : ¬ (x.toNat : Int) = 43 := by omega
            by_cases h4 : x.toNat = 35
            · have HE := Lib.hid (hBad.out (by simp [okC, h4]))
              have h4' : (x.toNat : Int) = 35 := by omega
              clear hBad hGood h1 h2 h1' h2' h3 h3' h4
              go_wp2_with fail
              go_ret
              exact ⟨by rw [HE.out]; rfl, HST.out⟩
            · have h4' : ¬ (x.toNat : Int) = 35 := by omega
              have HG := Lib.hid (hGood.out (by simp [okC]; omega))
              have h4b : (((x.toNat : Int)) == 35) = false := by simpa using h4'
              have h3b : (((x.toNat : Int)) == 43) = false := by simpa using h3'
              clear hBad hGood
              go_wp2_with fail
              go_roundw
              case rel => exact ⟨k + 1, by omega, by go_num, HG.out, by trivial⟩
              case measure => simp [intOf]; omega
    · obtain rfl : k = m := by omega
      have HE := Lib.hid (HQ.out (fun b hb => HOK.out b (by rwa [List.take_of_length_le (by rw [HM.out]; exact Nat.le_refl _)])))
      go_wp2_with fail
      go_ret
      exact ⟨by rw [HE.out]; rfl, HST.out⟩
end Go.Proofs.YtoailhkgailhhaaDoor
