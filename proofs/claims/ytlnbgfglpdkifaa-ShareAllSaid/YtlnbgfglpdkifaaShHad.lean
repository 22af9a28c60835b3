/- The iterator of package share over where the places stand that a member had. No condition. -/
import Derived.RangeFuncNested
import Derived.RangeFuncBound
import Derived.RangeFuncCalls
import Derived.RangeFuncLeaves
import Derived.RangeFuncBox
import Derived.Shelf.Abstract
import Derived.OwnWalkIn
import Derived.TacticsInMore
import Derived.LoopNIn
import Derived.LoopIn
import Derived.Test.YtlnbgfglpdkifaaReadT
import Derived.Test.YtlnbgfglpdkifaaIterX
namespace Go.Proofs.Ytlnbgfglpdkifaa
open Go.RowKit Go.Shelf
attribute [local go_sem] Oper.semAt_some
set_option linter.unusedVariables false
set_option linter.unusedSimpArgs false
set_option maxRecDepth 100000

/-- Where a number stands among the first k. -/
def hadTo (F : List Int) (x : Int) (k : Nat) : List Nat := (List.range k).filter (fun i => decide (F[i]? = some x))
theorem hadTo_succ (F : List Int) (x : Int) (k : Nat) : hadTo F x (k + 1) = hadTo F x k ++ if F[k]? = some x then [k] else [] := by
  unfold hadTo
  rw [List.range_succ, List.filter_append, List.filter_cons, List.filter_nil]
  by_cases h : F[k]? = some x
  · rw [if_pos h, if_pos (by simpa using h)]
  · rw [if_neg h, if_neg (by simpa using h)]
theorem hadTo_split (F : List Int) (x : Int) (k : Nat) : ∀ d : Nat, ∃ r, hadTo F x (k + d) = hadTo F x k ++ r
  | 0 => ⟨[], by simp⟩
  | d + 1 => by
    obtain ⟨r, hr⟩ := hadTo_split F x k d
    exact ⟨_, by rw [show k + (d + 1) = (k + d) + 1 by omega, hadTo_succ, hr, List.append_assoc]⟩
theorem hadTo_get {F : List Int} {x : Int} {k n : Nat} (hk : k < n) (h : F[k]? = some x) : (hadTo F x n)[(hadTo F x k).length]? = some k := by
  obtain ⟨r, hr⟩ := hadTo_split F x (k + 1) (n - (k + 1))
  rw [show k + 1 + (n - (k + 1)) = n by omega] at hr
  rw [hr, hadTo_succ, if_pos h, List.append_assoc, List.getElem?_append_right (Nat.le_refl _), Nat.sub_self]; rfl
theorem hadTo_le (F : List Int) (x : Int) (k : Nat) : (hadTo F x k).length ≤ k := by
  unfold hadTo
  have := List.length_filter_le (fun i => decide (F[i]? = some x)) (List.range k)
  rwa [List.length_range] at this
theorem hadTo_mem {F : List Int} {x : Int} {n j i : Nat} (h : (hadTo F x n)[j]? = some i) : i < n ∧ F[i]? = some x := by
  have hm := List.mem_filter.1 (List.mem_of_getElem? h)
  exact ⟨List.mem_range.1 hm.1, by simpa using hm.2⟩

theorem shhad_any (ao : Option Addr) (n c : Nat) (x : Int) (w : World) : Calls Try.prog 30 #[.slice ao n c, .int .i64 x] w fun e w' => e = .returned (.func (.func 34) #[] #[.pointer (some ⟨w.heap.size, 0, none⟩), .pointer (some ⟨w.heap.size + 1, 0, none⟩)]) ∧
    w' = (w.alloc (.cells #[.slice ao n c] 22)).alloc (.cells #[.int .i64 x] 3) := by
  go_enter Try.func30, Try.ntmps30
  go_wp2
  go_ret
  exact ⟨by first | rfl | simp, rfl⟩

abbrev encH16 (i : Nat) : Array Value := #[.int .i64 ((i : Nat) : Int)]
/-- What the iterator reads: the numbers, where they lie, and the one that is looked for. -/
abbrev evH (Bs Bx : Nat) (ao : Option Addr) (n c : Nat) (F : List Int) (x : Int) : Thing := (blkT Bs [.slice ao n c] 22).with_ ((blkT Bx [.int .i64 x] 3).with_ (readT ao F))
theorem evH_new {ao : Option Addr} {n c : Nat} {F : List Int} {x : Int} {w : World} (h : NumsAt w ao F) : (evH w.heap.size (w.heap.size + 1) ao n c F x).at_ ((w.alloc (.cells #[.slice ao n c] 22)).alloc (.cells #[.int .i64 x] 3)) (fun k => k = w.heap.size ∨ k = w.heap.size + 1 ∨ (F ≠ [] ∧ ∃ x, ao = some x ∧ x.block = k)) := by
  have b2 := Blk.new (w.alloc (.cells #[.slice ao n c] 22)) [.int .i64 x] 3
  rw [World.size_alloc] at b2
  exact with_at (W1 := (· = w.heap.size)) ⟨(Blk.new w [.slice ao n c] 22).alloc _, fun _ => Iff.rfl⟩ (with_at (W1 := (· = w.heap.size + 1)) ⟨b2, fun _ => Iff.rfl⟩
    ((readT ao F).keep (W := fun k => F ≠ [] ∧ ∃ x, ao = some x ∧ x.block = k) ⟨h, fun _ => Iff.rfl⟩ (((Turned.refl _ _).alloc _).alloc _) (fun _ _ h => h)))

set_option maxHeartbeats 4000000 in
theorem shhad_it (ao : Option Addr) (n c : Nat) (F : List Int) (x : Int) (hn : n = F.length) (hn1 : n ≤ 1000) (Bs Bx : Nat) :
    IterS 34 #[.pointer (some ⟨Bs, 0, none⟩), .pointer (some ⟨Bx, 0, none⟩)] encH16 (hadTo F x n) (evH Bs Bx ao n c F x) := by
  intro y J Jx W Q S hR h0 hd hY
  have HX := Lib.hid (fun V (h : ∃ Q', Since Q W Q' V) => show V.cell? ⟨Bs, 0, none⟩ = some (.slice ao n c) ∧ V.cell? ⟨Bx, 0, none⟩ = some (.int .i64 x) ∧ NumsAt V ao F from by
    obtain ⟨Q', hs⟩ := h
    obtain ⟨U1, U2, ⟨u1, _⟩, ⟨U3, U4, ⟨u3, _⟩, ⟨u2, _⟩, _⟩, _⟩ := (hs.stays (A := evH Bs Bx ao n c F x) hR hd).1
    exact ⟨u1.cell rfl, u3.cell rfl, u2⟩)
  have HY := Lib.hid (fun k z W1 Q1 (hz : (hadTo F x n)[k]? = some z) (h1 : (J k).at_ W1 Q1) (h2 : Since Q W Q1 W1) => YieldAt.any 8 (hY k z W1 Q1 hz h1 h2))
  have HN := Lib.hid hn
  have H0 := Lib.hid (show (J (hadTo F x 0).length).at_ W Q from h0)
  obtain ⟨e1, _, _⟩ := HX.out _ ⟨Q, Since.refl _ _⟩
  have hro : Fence.wide.round = none := rfl
  clear hR h0 hd hY hn
  refine (callsIn_wide (n := 9)).1 (callsIn_of_wp Try.func34 rfl trivial ?_ rfl)
  simp only [Try.ntmps34, List.size_toArray, List.length_cons, List.length_nil, Nat.reduceAdd, Nat.reduceSub, Array.replicate_succ, Array.replicate_zero, List.push_toArray, List.append_toArray, List.nil_append, List.cons_append]
  gi_wp2
  gi_loopw [8] (fun i wr => ∃ (k : Nat) (Q' : Nat → Prop), k ≤ n ∧ i = .int .i64 k ∧ (J (hadTo F x k).length).at_ wr Q' ∧ Since Q W Q' wr) (fun i _ => n - (intOf i).toNat)
  case atStart => exact ⟨0, Q, Nat.zero_le _, rfl, H0.out, Since.refl _ _⟩
  case round =>
    clear e1
    obtain ⟨k, Q', hk, rfl, hJk, hsi⟩ := hrel
    by_cases hlt : k < n
    · obtain ⟨z, hz⟩ := get_some (l := F) (i := k) (by rw [← HN.out]; exact hlt)
      obtain ⟨g1, g2, g3⟩ := HX.out wr ⟨Q', hsi⟩
      obtain ⟨b, o, rfl, hc⟩ := g3 k z hz
      have hki : (k : Int) < (n : Int) := by omega
      have hst := hadTo_succ F x k
      rw [hz] at hst
      by_cases hzx : z = x
      · subst hzx
        have hg := hadTo_get hlt hz
        rw [if_pos rfl] at hst
        have HNk := Lib.hid (show (hadTo F z (k + 1)).length = (hadTo F z k).length + 1 from by rw [hst, List.length_append]; rfl)
        have HLt2 := Lib.hid (show (hadTo F z k).length < (hadTo F z n).length from (List.getElem?_eq_some_iff.1 hg).1)
        obtain ⟨fn6, tm6, as6, bd6, hyy, hRo⟩ := HY.out _ _ wr Q' hg hJk hsi
        have HRo := Lib.hid hRo
        have HSi := Lib.hid hsi
        dsimp only [encH16] at hyy
        clear hRo hg hst hJk hsi g3 hz
        gi_wp2
        refine (RoundIn.any _ HRo.out).mono ?_
        rintro e W3 (⟨rfl, Q3, hJ3, hT3, hG3⟩ | ⟨rfl, hg3⟩)
        · gi_wp2
          go_roundw
          case rel => exact ⟨k + 1, Q3, by omega, by go_num, by rw [HNk.out]; exact hJ3, HSi.out.trans ⟨hT3, hG3⟩⟩
          case measure => simp [intOf]; omega
        · have HEnd := Lib.hid (show ∃ k, k < (hadTo F z n).length ∧ Goes (Jx k) Q W W3 from by
            refine ⟨_, HLt2.out, ?_⟩
            obtain ⟨Q3, h1, h2⟩ := hg3.since
            exact (HSi.out.trans h2).goes h1)
          clear hg3
          gi_wp2
          refine bodyPost_ret (results_none rfl _ _ _) rfl ?_
          exact ⟨⟨_, rfl⟩, .inr HEnd.out⟩
      · have hzb : (z == x) = false := by rw [beq_eq_false_iff_ne]; exact hzx
        rw [if_neg (fun e => hzx (Option.some.inj e)), List.append_nil] at hst
        have HNk := Lib.hid hst
        have HJ := Lib.hid hJk
        have HSi := Lib.hid hsi
        clear hst hJk hsi g3 hz
        gi_wp2
        refine ⟨fun f h => (by cases h), ?_⟩
        gi_wp2
        go_roundw
        case rel => exact ⟨k + 1, Q', by omega, by go_num, by rw [HNk.out]; exact HJ.out, HSi.out⟩
        case measure => simp [intOf]; omega
    · obtain rfl : k = n := by omega
      have HEnd := Lib.hid (show Goes (J (hadTo F x k).length) Q W wr from hsi.goes hJk)
      clear hJk hsi
      gi_wp2
      go_end0
      exact ⟨⟨_, rfl⟩, .inl HEnd.out⟩
end Go.Proofs.Ytlnbgfglpdkifaa
