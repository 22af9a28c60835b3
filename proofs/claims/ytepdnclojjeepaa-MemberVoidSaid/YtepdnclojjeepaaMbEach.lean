/- The iterator of package member goes through the members, rising, each with its since. No condition but that the list is one. -/
import Derived.RangeFuncNested
import Derived.RangeFuncBound
import Derived.RangeFuncCalls
import Derived.RangeFuncLeaves
import Derived.RangeFuncBox
import Derived.Maps.AppendAt
import Derived.Shelf.Abstract
import Derived.OwnWalkIn
import Derived.TacticsInMore
import Derived.LoopNIn
import Derived.LoopIn
import Derived.Test.YtepdnclojjeepaaMbLay
import Derived.Test.YtepdnclojjeepaaIterX
namespace Go.Proofs.Ytepdnclojjeepaa
open Go.RowKit Go.Shelf
attribute [local go_sem] Oper.semAt_some
set_option linter.unusedVariables false
set_option linter.unusedSimpArgs false
set_option maxRecDepth 100000

/-- The members, rising, each with its since. -/
def evM (M : MbM) : List (Nat × Nat) := M.memb.map fun i => (i, M.at i)
theorem evM_length (M : MbM) : (evM M).length = M.memb.length := by simp [evM]
abbrev encM (x : Nat × Nat) : Array Value := #[.int .i64 ((x.1 : Nat) : Int), .int .i64 ((x.2 : Nat) : Int)]
theorem memb_split (M : MbM) : ∀ (k d : Nat), membN M (k + d) = membN M k ++ (List.range' k d).filter (fun i => decide (0 < M.at i))
  | k, 0 => by simp
  | k, d + 1 => by
    rw [show k + (d + 1) = (k + d) + 1 by omega, membN_succ, memb_split M k d, List.range'_concat, List.filter_append, Nat.one_mul]
    by_cases h : 0 < M.at (k + d)
    · rw [if_pos h, List.filter_cons, if_pos (by simpa using h), List.filter_nil, List.append_assoc]
    · rw [if_neg h, List.filter_cons, if_neg (by simpa using h), List.filter_nil, List.append_nil]
theorem evM_get (M : MbM) {k : Nat} (hk : k < 16) (ha : 0 < M.at k) : (evM M)[(membN M k).length]? = some (k, M.at k) := by
  unfold evM
  rw [List.getElem?_map]
  have h1 : M.memb = membN M (k + (16 - k)) := by rw [show k + (16 - k) = 16 by omega]; rfl
  rw [h1, memb_split, show 16 - k = (15 - k) + 1 by omega, List.range'_succ, List.filter_cons, if_pos (by simpa using ha), List.getElem?_append_right (Nat.le_refl _), Nat.sub_self]
  rfl
theorem evM_some {M : MbM} {j : Nat} {x : Nat × Nat} (h : (evM M)[j]? = some x) : M.memb[j]? = some x.1 ∧ x.2 = M.at x.1 ∧ x.1 < 16 ∧ 0 < x.2 := by
  unfold evM at h
  rw [List.getElem?_map] at h
  cases hm : M.memb[j]? with
  | none => rw [hm] at h; cases h
  | some i =>
    rw [hm] at h
    obtain rfl : (i, M.at i) = x := by simpa using h
    obtain ⟨h1, h2⟩ := mem_memb.1 (List.mem_of_getElem? hm)
    exact ⟨rfl, rfl, h1, h2⟩

theorem mbmembers_any (p : Option Addr) (w : World) : Calls Try.prog 36 #[.pointer p] w fun e w' => e = .returned (.func (.func 37) #[] #[.pointer (some ⟨w.heap.size, 0, none⟩)]) ∧
    w' = w.alloc (.cells #[.pointer p] 23) := by
  go_enter Try.func36, Try.ntmps36
  go_wp2
  go_ret
  exact ⟨rfl, rfl⟩

/-- What the iterator reads: the list, and the box that holds where it lies. -/
def evMb (B q g : Nat) (M : MbM) : Thing := (blkT B [.pointer (some ⟨q, 0, none⟩)] 23).sep (mbX q g M)
theorem evMb_new {q g : Nat} {M : MbM} {w : World} {W : Nat → Prop} (h : (mbX q g M).at_ w W) : (evMb w.heap.size q g M).at_ (w.alloc (.cells #[.pointer (some ⟨q, 0, none⟩)] 23)) (fun k => k = w.heap.size ∨ W k) :=
  ⟨(· = w.heap.size), W, ⟨Blk.new w [.pointer (some ⟨q, 0, none⟩)] 23, fun _ => Iff.rfl⟩, (mbX q g M).keep h ((Turned.refl _ _).alloc _) (fun _ _ h => h), fun k e hk => by have := (mbX q g M).lt h k hk; omega, fun _ => Iff.rfl⟩

set_option maxHeartbeats 2000000 in
theorem mbmembers_it {q g K : Nat} {M : MbM} (hM : M.Ok K) (B : Nat) :
    IterS 37 #[.pointer (some ⟨B, 0, none⟩)] encM (evM M) (evMb B q g M) := by
  intro l J Jx W Q S hR h0 hd hY
  have HX := Lib.hid (fun V (h : ∃ Q', Since Q W Q' V) => show V.cell? ⟨B, 0, none⟩ = some (.pointer (some ⟨q, 0, none⟩)) ∧ MbRd q g M V from by
    obtain ⟨Q', hs⟩ := h
    obtain ⟨U1, U2, ⟨u1, _⟩, u2, _⟩ := (hs.stays (A := evMb B q g M) hR hd).1
    exact ⟨u1.cell rfl, mbX_rd hM u2⟩)
  have HY := Lib.hid (fun k z W1 Q1 (hz : (evM M)[k]? = some z) (h1 : (J k).at_ W1 Q1) (h2 : Since Q W Q1 W1) => YieldAt.any 8 (hY k z W1 Q1 hz h1 h2))
  have HEv := Lib.hid (fun k (hk : k < 16) (ha : 0 < M.at k) => evM_get M hk ha)
  have HNx := Lib.hid (fun k => membN_succ M k)
  have HL := Lib.hid (show (evM M).length = (membN M 16).length from evM_length M)
  obtain ⟨e1, hx1⟩ := HX.out W ⟨Q, Since.refl _ _⟩
  have HMd := Lib.hid (mbmade_any hx1.c0)
  have e2 := hx1.c0
  have H0 := Lib.hid h0
  have hro : Fence.wide.round = none := rfl
  have hf1 : Fence.wide.fn 30 := trivial
  clear hR h0 hd hY hx1 hM
  refine (callsIn_wide (n := 9)).1 (callsIn_of_wp Try.func37 rfl trivial ?_ rfl)
  simp only [Try.ntmps37, List.size_toArray, List.length_cons, List.length_nil, Nat.reduceAdd, Nat.reduceSub, Array.replicate_succ, Array.replicate_zero, List.push_toArray, List.append_toArray, List.nil_append, List.cons_append]
  gi_wp2_with (gi_at_call 30; ((with_reducible refine (callsIn_wide.2 HMd.out).mono ?_)); rintro e w4 ⟨rfl, rfl⟩)
  gi_loopw [13] (fun i wr => ∃ (k : Nat) (Q' : Nat → Prop), k ≤ 16 ∧ i = .int .i64 k ∧ (J (membN M k).length).at_ wr Q' ∧ Since Q W Q' wr) (fun i _ => 16 - (intOf i).toNat)
  case atStart => exact ⟨0, Q, Nat.zero_le _, rfl, H0.out, Since.refl _ _⟩
  case round =>
    clear e1 e2
    obtain ⟨k, Q', hk, rfl, hJk, hsi⟩ := hrel
    by_cases hlt : k < 16
    · obtain ⟨e1, hrd⟩ := HX.out wr ⟨Q', hsi⟩
      have c1 := hrd.cell k hlt
      have hki : (k : Int) < 16 := by omega
      have hnx := HNx.out k
      by_cases ha : 0 < M.at k
      · have hg := HEv.out k hlt ha
        have HYk := Lib.hid (HY.out _ _ wr Q' hg hJk hsi)
        have HLt := Lib.hid (show (membN M k).length < (evM M).length from (List.getElem?_eq_some_iff.1 hg).1)
        have hai : (0 : Int) < ((M.at k : Nat) : Int) := by omega
        rw [if_pos ha] at hnx
        have HNk := Lib.hid (show (membN M (k + 1)).length = (membN M k).length + 1 from by rw [hnx, List.length_append]; rfl)
        have HSi := Lib.hid hsi
        clear hJk hsi hnx hg hrd
        dsimp only [encM] at HYk
        generalize M.at k = a at *
        obtain ⟨fn6, tm6, as6, bd6, hyy, hRo⟩ := HYk.out
        have HRo := Lib.hid hRo
        clear hRo
        gi_wp2
        refine (RoundIn.any _ HRo.out).mono ?_
        rintro e W3 (⟨rfl, Q3, hJ3, hT3, hG3⟩ | ⟨rfl, hg3⟩)
        · gi_wp2
          go_roundw
          case rel => exact ⟨k + 1, Q3, by omega, by go_num, by rw [HNk.out]; exact hJ3, HSi.out.trans ⟨hT3, hG3⟩⟩
          case measure => simp [intOf]; omega
        · have HEnd := Lib.hid (show ∃ k, k < (evM M).length ∧ Goes (Jx k) Q W W3 from by
            refine ⟨_, HLt.out, ?_⟩
            obtain ⟨Q3, h1, h2⟩ := hg3.since
            exact (HSi.out.trans h2).goes h1)
          clear hg3
          gi_wp2
          refine bodyPost_ret (results_none rfl _ _ _) rfl ?_
          exact ⟨⟨_, rfl⟩, .inr HEnd.out⟩
      · have hai : ¬ (0 : Int) < ((M.at k : Nat) : Int) := by omega
        rw [if_neg ha] at hnx
        have HNk := Lib.hid (show (membN M (k + 1)).length = (membN M k).length from by rw [hnx])
        have HJ := Lib.hid hJk
        have HSi := Lib.hid hsi
        clear hJk hsi hnx hrd
        generalize M.at k = a at *
        gi_wp2
        refine ⟨fun f h => (by cases h), ?_⟩
        gi_wp2
        go_roundw
        case rel => exact ⟨k + 1, Q', by omega, by go_num, by rw [HNk.out]; exact HJ.out, HSi.out⟩
        case measure => simp [intOf]; omega
    · obtain rfl : k = 16 := by omega
      have HEnd := Lib.hid (show Goes (J (evM M).length) Q W wr from by rw [HL.out]; exact hsi.goes hJk)
      clear hJk hsi
      gi_wp2
      go_end0
      exact ⟨⟨_, rfl⟩, .inl HEnd.out⟩
end Go.Proofs.Ytepdnclojjeepaa
