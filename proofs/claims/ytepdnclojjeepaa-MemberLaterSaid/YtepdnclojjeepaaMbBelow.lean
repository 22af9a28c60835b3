/- What below and Rank of the program's list answer. No condition but that it is one. -/
import Derived.Test.YtepdnclojjeepaaMbEach
namespace Go.Proofs.Ytepdnclojjeepaa
open Go.RowKit Go.Shelf
attribute [local go_sem] Oper.semAt_some
set_option linter.unusedVariables false
set_option linter.unusedSimpArgs false
set_option maxRecDepth 100000

theorem membN_lt {M : MbM} {n i : Nat} (h : i ∈ membN M n) : i < n := by
  unfold membN at h
  exact List.mem_range.1 (List.mem_filter.1 h).1
theorem below_is {M : MbM} {x k : Nat} (hx : x ≤ 16) (h1 : ∀ (j : Nat) (z : Nat × Nat), j < k → (evM M)[j]? = some z → z.1 < x) (h2 : k = (evM M).length ∨ ∃ z, (evM M)[k]? = some z ∧ x ≤ z.1) : M.below x = k := by
  have hm : M.memb = membN M x ++ (List.range' x (16 - x)).filter (fun i => decide (0 < M.at i)) := by
    have := memb_split M x (16 - x)
    rw [show x + (16 - x) = 16 by omega] at this
    exact this
  have hr : ∀ (j i : Nat), (membN M x).length ≤ j → M.memb[j]? = some i → x ≤ i := by
    intro j i hj hi
    rw [hm, List.getElem?_append_right hj] at hi
    have := List.mem_of_getElem? hi
    have := (List.mem_range'_1.1 (List.mem_filter.1 this).1).1
    exact this
  have hl : ∀ (j i : Nat), j < (membN M x).length → M.memb[j]? = some i → i < x := by
    intro j i hj hi
    rw [hm, List.getElem?_append_left hj] at hi
    exact membN_lt (List.mem_of_getElem? hi)
  have hle : (membN M x).length ≤ (evM M).length := by rw [evM_length, hm, List.length_append]; omega
  rw [below_membN]
  have hkl : k ≤ (evM M).length := by
    rcases h2 with h2 | ⟨z, hz, _⟩
    · omega
    · exact Nat.le_of_lt (List.getElem?_eq_some_iff.1 hz).1
  apply Nat.le_antisymm
  · rcases h2 with h2 | ⟨z, hz, hzx⟩
    · omega
    · apply Nat.le_of_not_lt
      intro hlt
      have := hl k z.1 hlt (evM_some hz).1
      omega
  · apply Nat.le_of_not_lt
    intro hlt
    obtain ⟨z, hz⟩ := get_some (l := evM M) (i := (membN M x).length) (by omega)
    have a1 := h1 _ z hlt hz
    have a2 := hr _ z.1 (Nat.le_refl _) (evM_some hz).1
    omega

/-- What holds between two rounds; and where one breaks. -/
def blI (B : Nat) (M : MbM) (x k : Nat) : Thing where
  at_ w W := (blkT B [.int .i64 ((k : Nat) : Int)] 3).at_ w W ∧ ∀ (j : Nat) (z : Nat × Nat), j < k → (evM M)[j]? = some z → z.1 < x
  lt := fun h => (blkT B [.int .i64 ((k : Nat) : Int)] 3).lt h.1
  keep := fun h ht hs => ⟨(blkT B [.int .i64 ((k : Nat) : Int)] 3).keep h.1 ht hs, h.2⟩
def blX (B : Nat) (M : MbM) (x k : Nat) : Thing where
  at_ w W := (blI B M x k).at_ w W ∧ ∃ z, (evM M)[k]? = some z ∧ x ≤ z.1
  lt := fun h => (blI B M x k).lt h.1
  keep := fun h ht hs => ⟨(blI B M x k).keep h.1 ht hs, h.2⟩

set_option maxHeartbeats 2000000 in
theorem mbbelow_any {q K : Nat} {M : MbM} {w : World} {W : Nat → Prop} (h : (mbT q M).at_ w W) (hM : M.Ok K) (x n : Nat) (hx : x ≤ 16) (hn : n = M.below x) :
    Calls Try.prog 32 #[.pointer (some ⟨q, 0, none⟩), .int .i64 (x : Int)] w fun e w' => e = .returned (.int .i64 (n : Int)) ∧ Still w w' := by
  obtain ⟨g, h⟩ := h
  obtain ⟨W1, hW1⟩ : ∃ W1, W1 = (w.alloc (.cells #[.int .i64 (x : Int)] 3)).alloc (.cells #[.int .i64 0] 3) := ⟨_, rfl⟩
  have hs1 : Still w W1 := by rw [hW1]; exact ((Turned.refl _ _).alloc _).alloc _
  have hz1 : W1.heap.size = w.heap.size + 2 := by rw [hW1]; simp
  have hb0 : Blk W1 w.heap.size [.int .i64 (x : Int)] 3 := by rw [hW1]; exact (Blk.new w [.int .i64 (x : Int)] 3).alloc _
  have hb1 : Blk W1 (w.heap.size + 1) [.int .i64 0] 3 := by
    rw [hW1]
    have := Blk.new (w.alloc (.cells #[.int .i64 (x : Int)] 3)) [.int .i64 0] 3
    rwa [World.size_alloc] at this
  have HIt := Lib.hid (mbmembers_it (q := q) (g := g) hM W1.heap.size)
  have HLen := Lib.hid (show (evM M).length ≤ 16 from by rw [evM_length]; exact membN_len M 16)
  have HIs := Lib.hid (fun k (h1 : ∀ (j : Nat) (z : Nat × Nat), j < k → (evM M)[j]? = some z → z.1 < x) (h2 : k = (evM M).length ∨ ∃ z, (evM M)[k]? = some z ∧ x ≤ z.1) => show k = n from by rw [hn]; exact (below_is hx h1 h2).symm)
  have hx1 : (mbX q g M).at_ W1 W := (mbX q g M).keep h hs1 (fun _ _ h => h)
  have hSl := (mbX q g M).lt h
  have HE := Lib.hid (mbmembers_any (some ⟨q, 0, none⟩) W1)
  have HR := Lib.hid (evMb_new hx1)
  have ht2 : Still W1 (W1.alloc (.cells #[.pointer (some ⟨q, 0, none⟩)] 23)) := (Turned.refl _ _).alloc _
  have HB := Lib.hid (show (blI (w.heap.size + 1) M x 0).at_ (W1.alloc (.cells #[.pointer (some ⟨q, 0, none⟩)] 23)) (fun k => k = w.heap.size + 1) from
    ⟨⟨hb1.turned ht2 (fun h => h), fun _ => Iff.rfl⟩, fun j _ hj => by omega⟩)
  have HD := Lib.hid (show ∀ k, k = w.heap.size + 1 → ¬ (k = W1.heap.size ∨ W k) from by
    rintro k rfl (hk | hk)
    · omega
    · have := hSl _ hk; omega)
  have HA := Lib.hid (fun V Q' (hS : Since (fun k => k = w.heap.size + 1) (W1.alloc (.cells #[.pointer (some ⟨q, 0, none⟩)] 23)) Q' V) => show V.cell? ⟨w.heap.size, 0, none⟩ = some (.int .i64 (x : Int)) from
    ((hb0.turned ht2 (fun h => h)).turned hS.turn (by omega)).cell rfl)
  have HSt := Lib.hid (hs1.trans ht2)
  have HZ := Lib.hid (show w.heap.size + 2 ≤ (W1.alloc (.cells #[.pointer (some ⟨q, 0, none⟩)] 23)).heap.size from by rw [World.size_alloc]; omega)
  have hxi : (x : Int) ≤ 16 := by omega
  clear h hM hSl ht2 hb0 hb1 hx1 hn hx
  refine (callsIn_wide (n := 9)).1 (callsIn_of_wp_marks Try.func32 rfl trivial ?_ rfl)
  simp only [Try.ntmps32, List.size_toArray, List.length_cons, List.length_nil, Nat.reduceAdd, Nat.reduceSub, Array.replicate_succ, Array.replicate_zero, List.push_toArray, List.append_toArray, List.nil_append, List.cons_append]
  have hf1 : Fence.wide.fn 36 := trivial
  gi_wp2_with (gi_at_call 36; rw [← hW1]; ((with_reducible refine (callsIn_wide.2 HE.out).mono ?_)); rintro e w2 ⟨rfl, rfl⟩)
  rw [← hW1, show w.heap.size + 1 + 1 = W1.heap.size by omega]
  clear hW1 hz1
  have HFin := Lib.hid (fun (D k : Nat) (V : World) (Q' : Nat → Prop) (hD : w.heap.size + 2 ≤ D) (hK : V.heap[D]? = some (.deferred (some []))) (hQD : ¬ Q' D) (hI : (blI (w.heap.size + 1) M x k).at_ V Q') (hsk : Since (fun k => k = w.heap.size + 1) (W1.alloc (.cells #[.pointer (some ⟨q, 0, none⟩)] 23)) Q' V)
      (h2 : k = (evM M).length ∨ ∃ z, (evM M)[k]? = some z ∧ x ≤ z.1) => show V.cell? ⟨w.heap.size + 1, 0, none⟩ = some (.int .i64 (n : Int)) ∧ Hid (Still w (V.putObj D (.deferred none))) from by
    obtain ⟨⟨hB, hQ⟩, hn⟩ := hI
    have hkn := HIs.out k hn h2
    rw [hkn] at hB
    have hp := putObj_since (.deferred none) (Array.getElem?_eq_some_iff.1 hK).1
    refine ⟨hB.cell rfl, Lib.hid ?_⟩
    have hT0 : Turned (fun k => w.heap.size ≤ k) w V := (HSt.out.mono (fun _ _ h => h.elim)).trans (hsk.turn.mono (fun k _ h => by omega))
    exact (hT0.trans (hp.mono (fun k _ e => by omega))).mono (fun k hk hh => by omega))
  refine loopX_outer (i0 := 0) rfl (enters_of Try.func37 (by kernel_rfl) rfl) HIt.out (by exact fun _ => rfl) (blI (w.heap.size + 1) M x) (blX (w.heap.size + 1) M x) HR.out HB.out HD.out ?_ ?_ ?_
  · rintro ⟨y, z⟩
    apply Exists.intro
    apply And.intro
    · intro l1 V K hK
      dsimp only [encM]
      gi_wp2
      exact hK
    · intro l1 k V Q' hr hl1 hx hI hQl hsk
      have cA := HA.out V Q' hsk
      have HI := Lib.hid hI
      obtain ⟨⟨hB, hQ⟩, hn⟩ := hI
      have cB := hB.cell (o := 0) rfl
      have cF := hB.free 0
      have hk16 : (k : Int) ≤ 16 := by have := HLen.out; have := (List.getElem?_eq_some_iff.1 hx).1; omega
      by_cases hya : x ≤ y
      · have HG := Lib.hid (show Goes (blX (w.heap.size + 1) M x k) Q' V V from ⟨Q', ⟨HI.out, (y, z), hx, hya⟩, Turned.refl _ _, fun _ h => .inl h⟩)
        have hyi : (x : Int) ≤ (y : Int) := by omega
        clear hr hl1 hx hQl hsk hB hQ hn HI hya
        gi_wp2
        exact ⟨rfl, HG.out⟩
      · have HG := Lib.hid (show Goes (blI (w.heap.size + 1) M x (k + 1)) Q' V (V.setCell ⟨w.heap.size + 1, 0, none⟩ (.int .i64 ((k : Int) + 1))) from
          ⟨Q', ⟨⟨by have := hB.set 0 (.int .i64 ((k : Int) + 1)); exact this, hQ⟩, fun j z' hj hz' => by
            rcases Nat.lt_succ_iff_lt_or_eq.1 hj with hj | rfl
            · exact hn j z' hj hz'
            · rw [hx] at hz'
              obtain rfl := Option.some.inj hz'
              exact Nat.lt_of_not_le hya⟩, (Turned.refl _ V).setCell (p := ⟨w.heap.size + 1, 0, none⟩) (.inl ((hQ _).2 rfl)) _, fun _ h => .inl h⟩)
        have hyi : ¬ (x : Int) ≤ (y : Int) := by omega
        clear hr hl1 hx hQl hsk hB hQ hn HI hya
        gi_wp2
        exact HG.out
  · intro D V Q' hD hK hQD hI hsk
    obtain ⟨cB, HS⟩ := HFin.out D _ V Q' (by have := HZ.out; omega) hK hQD hI hsk (.inl rfl)
    clear hQD hI hsk hD
    gi_wp2
    refine ⟨by simp, .inl ⟨_, _, rfl, run_takeDeferred hK, ?_⟩⟩
    refine ⟨_, results_tmp rfl _ _ _, ?_⟩
    exact ⟨rfl, HS.out⟩
  · intro D k V Q' hD hK hQD hk hI hsk
    obtain ⟨cB, HS⟩ := HFin.out D _ V Q' (by have := HZ.out; omega) hK hQD hI.1 hsk (.inr hI.2)
    clear hQD hI hsk hD
    gi_wp2
    refine ⟨by simp, .inl ⟨_, _, rfl, run_takeDeferred hK, ?_⟩⟩
    refine ⟨_, results_tmp rfl _ _ _, ?_⟩
    exact ⟨rfl, HS.out⟩

theorem mbrank_any {q K : Nat} {M : MbM} {w : World} {W : Nat → Prop} (h : (mbT q M).at_ w W) (hM : M.Ok K) (id : Int) :
    Calls Try.prog 16 #[.pointer (some ⟨q, 0, none⟩), .int .i64 id] w fun e w' => e = .returned (.tuple #[.int .i64 ((M.rankV id : Nat) : Int), .int .i64 (M.findE id)]) ∧ Still w w' := by
  obtain ⟨g, hrd⟩ := mbT_rd hM h
  have HF := Lib.hid (mbref_any hrd id)
  unfold MbM.rankV
  by_cases he : M.findE id = 0
  · obtain ⟨hs, _⟩ := findE_ok he
    obtain ⟨k, rfl⟩ : ∃ k : Nat, id = k := ⟨id.toNat, by omega⟩
    have HB := Lib.hid (mbbelow_any h hM k _ (by omega) rfl)
    rw [if_pos he, Int.toNat_natCast]
    rw [he] at HF ⊢
    generalize M.below k = b at *
    clear h hs he hrd
    go_enter Try.func16, Try.ntmps16
    go_wp2_with (first
      | (go_at_call 34; ((with_reducible refine HF.out.mono ?_)); rintro e w1 ⟨rfl, rfl⟩)
      | (go_at_call 32; ((with_reducible refine HB.out.mono ?_)); rintro e w2 ⟨rfl, hs⟩; have S2 := Lib.hid hs; clear hs))
    go_ret2
    exact ⟨rfl, S2.out⟩
  · rw [if_neg he]
    generalize M.findE id = r at *
    have hr : (r != 0) = true := by simpa using he
    clear h hrd
    go_enter Try.func16, Try.ntmps16
    go_wp2_with (go_at_call 34; ((with_reducible refine HF.out.mono ?_)); rintro e w1 ⟨rfl, rfl⟩)
    go_ret2
    exact ⟨rfl, Turned.refl _ _⟩
end Go.Proofs.Ytepdnclojjeepaa
