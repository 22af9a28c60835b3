/- Texts that lie next to one another, laid into one: each says what it holds. No condition but what each states. -/
import Derived.Test.YtmmkcfiecgpkpaaGreatBdText
import Derived.Test.YtmmkcfiecgpkpaaGreatShelf
import Derived.OwnWalk
import Derived.RangeFuncNested
import Derived.RangeFuncBound
import Derived.RangeFuncCalls
import Derived.RangeFuncLeaves
import Derived.RangeFuncBox
import Derived.Maps.AppendAt
import Derived.Shelf.Abstract
import Derived.OwnWalkIn
import Derived.TacticsInMore
import Derived.LoopNIn
import Derived.LoopIn
import Derived.Test.YtmmkcfiecgpkpaaGreatBdRead
import Derived.Test.YtmmkcfiecgpkpaaGreatBxNameRef
import Derived.Test.YtmmkcfiecgpkpaaGreatBxTextMore

/- What the library's Cut does with a text and a stroke, told of the text's levels. No condition but that the text is not too long. -/
namespace Go.Proofs.YtmmkcfiecgpkpaaGreat
open Go.RowKit
set_option linter.unusedVariables false
set_option linter.unusedSimpArgs false
set_option maxRecDepth 100000

theorem ixb : ∀ (l : Txt) (c : UInt8), (Lib.indexByte l c = -1 ∧ c ∉ l) ∨ ∃ i : Nat, Lib.indexByte l c = (i : Int) ∧ i < l.length ∧ l = l.take i ++ c :: l.drop (i + 1) ∧ c ∉ l.take i
  | [], c => .inl ⟨rfl, by simp⟩
  | b :: l, c => by
    rw [Lib.indexByte]
    by_cases hb : b = c
    · subst hb
      exact .inr ⟨0, by simp, by simp, by simp, by simp⟩
    · have hbe : (b == c) = false := by simpa using hb
      rw [hbe]
      simp only [Bool.false_eq_true, if_false]
      rcases ixb l c with ⟨h1, h2⟩ | ⟨i, h1, h2, h3, h4⟩
      · refine .inl ⟨by rw [h1]; rfl, ?_⟩
        intro h
        rcases List.mem_cons.1 h with h | h
        · exact hb h.symm
        · exact h2 h
      · refine .inr ⟨i + 1, ?_, by simp only [List.length_cons]; omega, ?_, ?_⟩
        · rw [h1]
          have : ((i : Int) == -1) = false := beq_eq_false_iff_ne.2 (by omega)
          rw [this]; simp
        · rw [List.take_succ_cons, List.drop_succ_cons, List.cons_append, ← h3]
        · rw [List.take_succ_cons]
          intro h
          rcases List.mem_cons.1 h with h | h
          · exact hb h.symm
          · exact h4 h

theorem spF_front : ∀ (l : Txt) (d e : List Txt) (c : Txt), spF (d ++ e) c l = d ++ spF e c l
  | [], d, e, c => by simp [spF]
  | b :: l, d, e, c => by
    rw [spF, spF]
    split
    · rw [List.append_assoc, spF_front l d]
    · rw [spF_front l d]
/-- A text's first level, and those of what comes behind its first stroke. -/
theorem spl_cut {x r : Txt} (h : (47 : UInt8) ∉ x) : spl (x ++ 47 :: r) = x :: spl r := by
  unfold spl
  rw [spF_skip x [] [] _ h, spF, if_pos rfl]
  exact spF_front r [x] [] []

/-- What Cut at a stroke leaves. -/
def CutPost (w : World) (l : Txt) (e : Ending) (w' : World) : Prop := ∃ (x r : Txt) (b : Bool) (n : Nat), e = .returned (.tuple #[tx x, tx r, .bool b]) ∧ w' = w.drewN n ∧
  ((b = true ∧ l.length = x.length + 1 + r.length ∧ spl l = x :: spl r) ∨ (b = false ∧ spl l = [x] ∧ r = []))

theorem slindex_any (l : Txt) (c : UInt8) (w : World) : Calls Tryz.prog 146 #[tx l, tx [c]] w fun e w' => e = .returned (.int .i64 (Lib.indexByte l c)) ∧ w' = w :=
  Tryz.stringslite_Index_one ⟨l.toArray⟩ c w

set_option maxHeartbeats 1000000 in
theorem slcut_any (l : Txt) (w : World) (hmax : l.length ≤ 1000000) : Calls Tryz.prog 143 #[tx l, tx [47]] w (CutPost w l) := by
  have HI := Lib.hid (fun V => slindex_any l 47 V)
  obtain ⟨s, hs⟩ : ∃ s, s = ByteArray.mk l.toArray := ⟨_, rfl⟩
  obtain ⟨m, hm⟩ : ∃ m, m = l.length := ⟨_, rfl⟩
  have hsz : s.size = m := by rw [hs, hm, tx_size]
  have hmm : m ≤ 1000000 := by omega
  have HE := Lib.hid (fun (a b : Nat) => show Value.string (s.extract a b) = tx ((l.drop a).take (b - a)) by rw [hs, ByteArray.extract_mk]; rfl)
  have HS := Lib.hid (show Value.string s = tx l by rw [hs]; rfl)
  rcases ixb l 47 with ⟨h1, h2⟩ | ⟨i, h1, h2, h3, h4⟩
  · rw [h1] at HI
    have HP := Lib.hid (show CutPost w l (.returned (.tuple #[.string s, .string ⟨#[]⟩, .bool false])) w from ⟨l, [], false, 0, by rw [HS.out]; rfl, rfl, .inr ⟨rfl, spl_one h2, rfl⟩⟩)
    unfold tx at *
    rw [← hs] at HI ⊢
    clear hs hm h1 h2 hmax HE HS
    go_enter Tryz.func143, Tryz.ntmps143
    go_wp2_with (go_at_call 146; ((with_reducible refine (HI.out _).mono ?_)); rintro e w5 ⟨rfl, rfl⟩)
    go_ret3
    exact HP.out
  · rw [h1] at HI
    have HP := Lib.hid (fun (n : Nat) => show CutPost w l (.returned (.tuple #[.string (s.extract 0 i), .string (s.extract (i + 1) m), .bool true])) (w.drewN n) from ⟨l.take i, l.drop (i + 1), true, n, by rw [HE.out, HE.out, List.drop_zero, Nat.sub_zero, List.take_of_length_le (l := l.drop (i + 1)) (by simp; omega)], rfl, .inl ⟨rfl, by simp; omega, (congrArg spl h3).trans (spl_cut h4)⟩⟩)
    have hil : i < m := by omega
    unfold tx at *
    rw [← hs] at HI ⊢
    clear hs hm h1 h2 h3 h4 hmax HE HS
    go_enter Tryz.func143, Tryz.ntmps143
    go_wp2_with (go_at_call 146; ((with_reducible refine (HI.out _).mono ?_)); rintro e w5 ⟨rfl, rfl⟩)
    go_quiet (fail)
    go_wp2_with fail
    go_ret3
    exact HP.out _

theorem cut_any (l : Txt) (w : World) (hmax : l.length ≤ 1000000) : Calls Tryz.prog 132 #[tx l, tx [47]] w (CutPost w l) := by
  have HC := Lib.hid (fun V => slcut_any l V hmax)
  unfold tx at *
  go_enter Tryz.func132, Tryz.ntmps132
  go_wp2_with (go_at_call 143; ((with_reducible refine (HC.out _).mono ?_)); rintro e w5 ⟨x, r, b, n, rfl, rfl, h⟩)
  go_ret3
  exact ⟨x, r, b, n, rfl, rfl, h⟩
end Go.Proofs.YtmmkcfiecgpkpaaGreat

/- The iterator of package name goes through what lies between a text's strokes. No condition but that the text is not too long. -/
namespace Go.Proofs.YtmmkcfiecgpkpaaGreat
open Go.RowKit Go.Shelf
attribute [local go_sem] Oper.semAt_some
set_option linter.unusedVariables false
set_option linter.unusedSimpArgs false
set_option maxRecDepth 100000

theorem between_in (F : Fence) (n : Nat) (h : F.fn 114) (hro : F.round = none) (l : Txt) (w : World) :
    CallsIn F n Tryz.prog 114 #[tx l] w fun e w' => e = .returned (.func (.func 131) #[] #[.pointer (some ⟨w.heap.size, 0, none⟩)]) ∧ w' = w.alloc (.cells #[tx l] 9) := by
  unfold tx
  refine callsIn_of_wp Tryz.func114 rfl h ?_ hro
  simp only [Tryz.ntmps114, List.size_toArray, List.length_cons, List.length_nil, Nat.reduceAdd, Nat.reduceSub, Array.replicate_succ, Array.replicate_zero, List.push_toArray, List.append_toArray, List.nil_append, List.cons_append]
  gi_wp2
  go_ret
  exact ⟨rfl, rfl⟩

theorem grown_drewN (W : World) (n : Nat) : W.grownBy (W.drewN n) none := ⟨rfl, rfl, rfl, Nat.le_refl _, fun _ _ _ => rfl⟩

set_option maxHeartbeats 1000000 in
theorem between1_in (F : Fence) (n : Nat) (hw : F = Fence.wide) (h6 : F.fn 131) (h7 : F.fn 132) (hro : F.round = none) (hn : 1 ≤ n) (lb Bn n₀ : Nat) (l : Txt) (hmax : l.length ≤ 1000000) (J Jx : List Txt → World → Prop)
    (W : World) (hJ : AbidesFrom W.heap.size J)
    (hY : ∀ pre x W, J pre W → pre.length < (spl l).length → YieldAt F (n - 1) Tryz.prog lb #[tx x] W fun e W' =>
      (e = .returned (.bool true) ∧ J (pre ++ [x]) W' ∧ Below n₀ W W') ∨ (e = .returned (.bool false) ∧ Jx (pre ++ [x]) W'))
    (hBn : W.cell? ⟨Bn, 0, none⟩ = some (tx l)) (h0 : J [] W) :
    CallsIn F n Tryz.prog 131 #[.func (.yield lb) #[] #[], .pointer (some ⟨Bn, 0, none⟩)] W fun e W' => (∃ v, e = .returned v) ∧
      ((∃ ys, ys = spl l ∧ J ys W') ∨ (∃ pre, pre <+: spl l ∧ Jx pre W')) := by
  have HJ := Lib.hid hJ
  have HC := Lib.hid (fun (r : Txt) (V : World) (h : r.length ≤ 1000000) => show CallsIn F (n - 1) Tryz.prog 132 #[tx r, tx [47]] V (CutPost V r) from by subst hw; exact callsIn_wide.2 (cut_any r V h))
  have HSL := Lib.hid (spl_len l)
  clear hJ hw
  unfold tx at hBn
  refine callsIn_of_wp Tryz.func131 rfl h6 ?_ hro
  simp only [Tryz.ntmps131, List.size_toArray, List.length_cons, List.length_nil, Nat.reduceAdd, Nat.reduceSub, Array.replicate_succ, Array.replicate_zero, List.push_toArray, List.append_toArray, List.nil_append, List.cons_append]
  gi_wp2
  gi_loopw [3, 4] (fun a b wr => ∃ (d : List Txt) (r : Txt) (bb : Bool), r.length ≤ 1000000 ∧ a = .string ⟨r.toArray⟩ ∧ b = .bool bb ∧ J d wr ∧ ((bb = true ∧ spl l = d ++ spl r) ∨ (bb = false ∧ spl l = d)))
    (fun a b _ => match b with | .bool true => (match a with | .string s => s.size + 1 | _ => 0) | _ => 0)
  case atStart => exact ⟨[], l, true, hmax, rfl, rfl, h0, .inl ⟨rfl, rfl⟩⟩
  case round =>
    obtain ⟨d, r, bb, hr, rfl, rfl, hJs, hsp⟩ := hrel
    rcases hsp with ⟨rfl, hsp⟩ | ⟨rfl, hsp⟩
    · have hdl : d.length < (spl l).length := by rw [hsp, List.length_append]; have := (spl_len r).1; omega
      have HSP := Lib.hid hsp
      have HJs := Lib.hid hJs
      have HC' := Lib.hid (HC.out r wr hr)
      clear hsp hJs
      unfold tx at HC'
      unfold CutPost at HC'
      gi_wp2_with (gi_at_call 132; ((with_reducible refine HC'.out.mono ?_)); rintro e w' ⟨x, r', b, k, rfl, rfl, hcut⟩; obtain ⟨fn, tmps, assign, body, hy, hR⟩ := hY d x (wr.drewN k) (HJ.out _ _ _ none HJs.out (grown_drewN _ _) (fun r e => by cases e)) hdl; have HCut := Lib.hid hcut; clear hcut)
      refine hR.mono ?_
      rintro e W3 (⟨rfl, hJ3, hk3⟩ | ⟨rfl, hJx3⟩)
      · rcases HCut.out with ⟨rfl, hlen, hs⟩ | ⟨rfl, hs, rfl⟩
        · have HS2 := Lib.hid hs
          have HL2 := Lib.hid hlen
          clear hlen hs
          gi_wp2
          go_roundw
          case rel => exact ⟨d ++ [x], r', true, by have := HL2.out; omega, rfl, rfl, hJ3, .inl ⟨rfl, by rw [HSP.out, HS2.out]; simp⟩⟩
          case measure => have := HL2.out; simp only [tx, tx_size]; omega
        · have HS2 := Lib.hid hs
          clear hs
          gi_wp2
          go_roundw
          case rel => exact ⟨d ++ [x], [], false, by simp, rfl, rfl, hJ3, .inr ⟨rfl, by rw [HSP.out, HS2.out]⟩⟩
          case measure => simp only [tx, tx_size]; omega
      · gi_wp2
        refine bodyPost_ret (results_none rfl _ _ _) rfl ?_
        refine ⟨⟨_, rfl⟩, .inr ⟨d ++ [x], ?_, hJx3⟩⟩
        rw [HSP.out]
        rcases HCut.out with ⟨_, _, hs⟩ | ⟨_, hs, _⟩
        · rw [hs]; exact ⟨spl r', by simp⟩
        · rw [hs]; exact List.prefix_refl _
    · gi_wp2
      go_end0
      exact ⟨⟨_, rfl⟩, .inl ⟨_, hsp.symm, hJs⟩⟩

theorem between_stops (F : Fence) (n : Nat) (hw : F = Fence.wide) (h6 : F.fn 131) (h7 : F.fn 132) (hro : F.round = none) (hn : 1 ≤ n) (Bn n₀ : Nat) (l : Txt) (w : World) (hmax : l.length ≤ 1000000)
    (hc : w.cell? ⟨Bn, 0, none⟩ = some (tx l)) :
    SeqStopsK F n Tryz.prog 131 #[.pointer (some ⟨Bn, 0, none⟩)] (fun x : Txt => #[tx x]) (Below n₀) (fun ys => ys = spl l) (fun pre => pre <+: spl l) (spl l).length w := fun lb J Jx W hW hJ _ hY h0 =>
  between1_in F n hw h6 h7 hro hn lb Bn n₀ l hmax J Jx W hJ hY ((hW.cell (p := ⟨Bn, 0, none⟩) (cell_lt hc)).trans hc) h0
end Go.Proofs.YtmmkcfiecgpkpaaGreat

/- How many levels a text has, by the iterator; and whether a name may have each byte. No condition but that the text is not too long. -/
namespace Go.Proofs.YtmmkcfiecgpkpaaGreat
open Go.RowKit Go.Shelf
attribute [local go_sem] Oper.semAt_some
set_option linter.unusedVariables false
set_option linter.unusedSimpArgs false
set_option maxRecDepth 100000

set_option maxHeartbeats 1000000 in
theorem count_in (F : Fence) (n : Nat) (hw : F = Fence.wide) (h3 : F.fn 89) (h4 : F.fn 114) (h5 : F.fn 131) (h6 : F.fn 132) (hro : F.round = none) (hn : 3 ≤ n) (l : Txt) (hmax : l.length ≤ 1000000) (w : World) :
    CallsIn F n Tryz.prog 89 #[tx l] w fun e w' => e = .returned (.int .i64 (spl l).length) ∧ Below w.heap.size w w' := by
  have h1 : 1 ≤ n := by omega
  have hbet := between_in F (n - 1) h4 hro l (w.alloc (.cells #[.int .i64 0] 3))
  rw [World.size_alloc] at hbet
  have hsm := (spl_len l).2
  have HW := Lib.hid hw
  clear hw
  refine callsIn_of_wp_marks Tryz.func89 rfl h3 ?_ hro
  simp only [Tryz.ntmps89, List.size_toArray, List.length_cons, List.length_nil, Nat.reduceAdd, Nat.reduceSub, Array.replicate_succ, Array.replicate_zero, List.push_toArray, List.append_toArray, List.nil_append, List.cons_append]
  gi_wp2_with (gi_at_call 114; ((with_reducible refine hbet.mono ?_)); rintro e w' ⟨rfl, rfl⟩)
  have bI := (Boxed.new w 3 (.int .i64 0)).alloc (.cells #[tx l] 9)
  have bS := Boxed.new (w.alloc (.cells #[.int .i64 0] 3)) 9 (tx l)
  rw [World.size_alloc] at bS
  have hB0 : Below w.heap.size w ((w.alloc (.cells #[.int .i64 0] 3)).alloc (.cells #[tx l] 9)) := ((Below.refl _ w).alloc (Nat.le_refl _) _).alloc (by simp) _
  have hsz : ((w.alloc (.cells #[.int .i64 0] 3)).alloc (.cells #[tx l] 9)).heap.size = w.heap.size + 2 := by simp
  obtain ⟨W0, hW0⟩ : ∃ W0, (w.alloc (.cells #[.int .i64 0] 3)).alloc (.cells #[tx l] 9) = W0 := ⟨_, rfl⟩
  rw [hW0] at bI bS hB0 hsz ⊢
  clear hW0 hbet
  refine wpIn_rangeFunc_ownH hro h1 (gf := 131) (lb := #[.pointer (some ⟨w.heap.size + 1, 0, none⟩)]) rfl h5 (enters_of Tryz.func131 (by kernel_rfl) rfl)
    (between_stops F (n - 1) HW.out h5 h6 hro (by omega) (w.heap.size + 1) w.heap.size l W0 hmax bS.cell) belowK_t (belowK_b (by omega)) (Below.refl _ _) (fun _ => rfl)
    (fun pre W => Boxed W w.heap.size 3 (.int .i64 pre.length) ∧ Below w.heap.size w W)
    (fun _ _ _ => False)
    (OwnFrom.and (Own.from (boxed_own w.heap.size 3 (fun pre : List Txt => .int .i64 pre.length)) _) (ownFrom_below (Nat.le_refl _) (by omega)))
    (fun _ _ _ _ _ hs _ _ => hs)
    ⟨bI, hB0⟩
    (fun x a' W => a' = { tmps := #[tx l, undef, .int .i64 0, .pointer (some ⟨w.heap.size, 0, none⟩), tx l, .func (.func 131) #[] #[.pointer (some ⟨w.heap.size + 1, 0, none⟩)], tx x, undef, undef, undef], defers := [] })
    (fun x a' _ X Y row hs hg hr => hs)
    ?assign ?body ?done ?stop
  case assign =>
    rintro lb pre x W K hI hK
    gi_wp2
    exact hK _ _ (KeepsFrom.refl _ _) (Below.refl _ W) hI (by simp)
  case body =>
    rintro lb pre x a' W hl ⟨r, hr⟩ ⟨hv, hB⟩ rfl hlt
    have hc := hv.cell
    have hf := hv.frozen
    clear hr
    gi_wp2
    refine ⟨(KeepsOthers.setCell _ _ _).from _, (Below.refl w.heap.size W).setCell (p := ⟨w.heap.size, 0, none⟩) (Nat.le_refl _) _, ?_, hB.setCell (p := ⟨w.heap.size, 0, none⟩) (Nat.le_refl _) _⟩
    have := hv.set (.int .i64 ((pre ++ [x]).length : Nat))
    simpa using this
  case done =>
    rintro D ys W hD rfl ⟨hv, hB⟩ hK
    have hc := hv.cell
    gi_wp2
    refine ⟨by simp, .inl ⟨_, _, rfl, run_takeDeferred hK, ?_⟩⟩
    exact ⟨_, results_tmp rfl _ _ _, rfl, hB.trans (belowK_b (w := w) (Nat.le_refl _) W D _ _ (by omega) hK rfl rfl)⟩
  case stop =>
    rintro D c pre W _ _ h _
    exact h.elim

theorem count_any (l : Txt) (hmax : l.length ≤ 1000000) (w : World) : Calls Tryz.prog 89 #[tx l] w fun e w' => e = .returned (.int .i64 (spl l).length) ∧ Still w w' :=
  (callsIn_wide (n := 3)).1 ((count_in Fence.wide 3 rfl trivial trivial trivial trivial rfl (by omega) l hmax w).mono fun e w' ⟨h1, h2⟩ => ⟨h1, below_turned h2 (Nat.le_refl _)⟩)

/-- May a name have each of these bytes? -/
def plB (l : Txt) : Bool := l.all okC
theorem plB_iff {l : Txt} : plB l = true ↔ ∀ b ∈ l, okC b = true := by unfold plB; simp

set_option maxHeartbeats 1000000 in
theorem plain_any (l : Txt) (hmax : l.length ≤ 1000000) (w : World) : Calls Tryz.prog 88 #[tx l] w fun e w' => e = .returned (.bool (plB l)) ∧ Still w w' := by
  obtain ⟨s, hs⟩ : ∃ s, s = ByteArray.mk l.toArray := ⟨_, rfl⟩
  obtain ⟨m, hm⟩ : ∃ m, m = l.length := ⟨_, rfl⟩
  have hsz : s.size = m := by rw [hs, hm, tx_size]
  have hmm : m ≤ 1000000 := by omega
  have hdl : s.data.toList = l := by rw [hs]
  have k1 := run_bytes_of_string (P := Tryz.prog) w 9 35 5 s Tryz.underlying9 Tryz.underlying35 Tryz.underlying5
  generalize hC : grownCap w s.size 0 5 = c at k1
  generalize hB : w.drew.alloc (.cells (bytesRow s c) 5 ((bytesRow s c).size, (bytesRow s c).size + 1)) = w1 at k1
  have hat : BytesAt w1 (some ⟨w.heap.size, 0, none⟩) l := by
    intro i x hx
    refine ⟨_, _, rfl, ?_⟩
    rw [← hB, Nat.zero_add]
    have hi := get_lt hx
    rw [show w.heap.size = w.drew.heap.size from rfl, World.cell?_alloc_mark, bytesRow_at s c i (by show i < s.size; omega)]
    rw [← hdl] at hx
    simp only [List.getElem?_eq_getElem (show i < s.data.toList.length by rw [hdl]; exact hi), Option.some.injEq] at hx
    rw [← hx]; simp
  have hst : Still w w1 := by rw [← hB]; exact (Turned.refl _ _).drew.alloc _
  rw [hsz] at k1
  have HAT := Lib.hid hat
  have HST := Lib.hid hst
  have HM := Lib.hid hm
  have HP := Lib.hid (show (∃ x ∈ l, okC x = false) → plB l = false from fun ⟨x, hx, hb⟩ => by
    cases h : plB l with
    | false => rfl
    | true => have := plB_iff.1 h x hx; rw [hb] at this; cases this)
  have HQ := Lib.hid (show (∀ b ∈ l, okC b = true) → plB l = true from plB_iff.2)
  unfold tx
  rw [← hs]
  clear hat hst hB hC hs hdl hm hmax
  obtain ⟨r, hr⟩ : ∃ r, r = plB l := ⟨_, rfl⟩
  rw [← hr] at HP HQ ⊢
  clear hr
  go_enter Tryz.func88, Tryz.ntmps88
  go_wp2_with fail
  go_loopw [8] (fun i wr => ∃ k : Nat, k ≤ m ∧ i = .int .i64 k ∧ (∀ b ∈ l.take k, okC b = true) ∧ wr = w1) (fun i _ => m - (intOf i).toNat)
  case atStart => exact ⟨0, Nat.zero_le _, rfl, by simp, rfl⟩
  case round =>
    obtain ⟨k, hk, rfl, hok, rfl⟩ := hrel
    have HOK := Lib.hid hok
    clear hok
    by_cases hlt : k < m
    · obtain ⟨x, hx⟩ := get_some (l := l) (i := k) (by rw [← HM.out]; exact hlt)
      obtain ⟨b, o, he, hc⟩ := HAT.out k x hx
      cases he
      rw [Nat.zero_add] at hc
      have HXX := Lib.hid hx
      clear hx
      have hBad := Lib.hid (fun (h : okC x = false) => HP.out ⟨x, List.mem_of_getElem? HXX.out, h⟩)
      have hGood := Lib.hid (fun (h : okC x = true) => show ∀ b ∈ l.take (k + 1), okC b = true by
        intro b hb
        rw [List.take_add_one, HXX.out] at hb
        rcases List.mem_append.1 hb with hb | hb
        · exact HOK.out b hb
        · simp at hb; subst hb; exact h)
      rcases Nat.lt_or_ge x.toNat 33 with h1 | h1
      · have HE := Lib.hid (hBad.out (by simp [okC]; omega))
        have h1' : (x.toNat : Int) < 33 := by omega
        clear hBad hGood
        go_wp2_with fail
        go_ret
        exact ⟨by rw [HE.out]; rfl, HST.out⟩
      · have h1' : ¬ (x.toNat : Int) < 33 := by omega
        rcases Nat.lt_or_ge 126 x.toNat with h2 | h2
        · have HE := Lib.hid (hBad.out (by simp [okC]; omega))
          have h2' : (126 : Int) < (x.toNat : Int) := by omega
          clear hBad hGood
          go_wp2_with fail
          go_ret
          exact ⟨by rw [HE.out]; rfl, HST.out⟩
        · have h2' : ¬ (126 : Int) < (x.toNat : Int) := by omega
          by_cases h3 : x.toNat = 43
          · have HE := Lib.hid (hBad.out (by simp [okC, h3]))
            have h3' : (x.toNat : Int) = 43 := by omega
            clear hBad hGood h1 h2 h1' h2' h3
            go_wp2_with fail
            go_ret
            exact ⟨by rw [HE.out]; rfl, HST.out⟩
          · have h3' : ¬ (x.toNat : Int) = 43 := by omega
            by_cases h4 : x.toNat = 35
            · have HE := Lib.hid (hBad.out (by simp [okC, h4]))
              have h4' : (x.toNat : Int) = 35 := by omega
              clear hBad hGood h1 h2 h1' h2' h3 h3' h4
              go_wp2_with fail
              go_ret
              exact ⟨by rw [HE.out]; rfl, HST.out⟩
            · have h4' : ¬ (x.toNat : Int) = 35 := by omega
              have HG := Lib.hid (hGood.out (by simp [okC]; omega))
              have h4b : (((x.toNat : Int)) == 35) = false := by simpa using h4'
              have h3b : (((x.toNat : Int)) == 43) = false := by simpa using h3'
              clear hBad hGood
              go_wp2_with fail
              go_roundw
              case rel => exact ⟨k + 1, by omega, by go_num, HG.out, by trivial⟩
              case measure => simp [intOf]; omega
    · obtain rfl : k = m := by omega
      have HE := Lib.hid (HQ.out (fun b hb => HOK.out b (by rwa [List.take_of_length_le (by rw [HM.out]; exact Nat.le_refl _)])))
      go_wp2_with fail
      go_ret
      exact ⟨by rw [HE.out]; rfl, HST.out⟩
end Go.Proofs.YtmmkcfiecgpkpaaGreat

/- What Of, Above and Compare of the document's name do. No condition but that the texts are no longer than the statements make them. -/
namespace Go.Proofs.YtmmkcfiecgpkpaaGreat
open Go.RowKit
set_option linter.unusedVariables false
set_option linter.unusedSimpArgs false
set_option maxRecDepth 100000

theorem tx_append (a b : Txt) : Value.string (ByteArray.mk a.toArray ++ ByteArray.mk b.toArray) = tx (a ++ b) := by rw [ByteArray.mk_append_mk]; rfl

theorem spl_small {l : Txt} {m : Nat} (h : l.length ≤ m) : ∀ x ∈ spl l, x.length ≤ m := by
  intro x hx
  obtain ⟨i, hi⟩ := List.getElem?_of_mem hx
  have h1 := jn_len_le (spl l) (i + 1)
  rw [jn_spl, jn_take hi] at h1
  split at h1
  · omega
  · rw [List.length_append, List.length_cons] at h1; omega

end Go.Proofs.YtmmkcfiecgpkpaaGreat

/- What Compare of the document's name does. No condition but that the texts are no longer than the statements make them. -/
namespace Go.Proofs.YtmmkcfiecgpkpaaGreat
open Go.RowKit
set_option linter.unusedVariables false
set_option linter.unusedSimpArgs false
set_option maxRecDepth 100000

theorem cmpL_drop {X Y : List Txt} {k : Nat} {x y : Txt} (hx : X[k]? = some x) (hy : Y[k]? = some y) : cmpL (X.drop k) (Y.drop k) = if Op.bytesLess x y = true then -1 else if Op.bytesLess y x = true then 1 else cmpL (X.drop (k + 1)) (Y.drop (k + 1)) := by
  obtain ⟨h1, e1⟩ := List.getElem?_eq_some_iff.1 hx
  obtain ⟨h2, e2⟩ := List.getElem?_eq_some_iff.1 hy
  rw [List.drop_eq_getElem_cons h1, List.drop_eq_getElem_cons h2, e1, e2, cmpL]
theorem cmpL_end {X Y : List Txt} {k : Nat} (h : X.length = k ∨ Y.length = k) (h1 : k ≤ X.length) (h2 : k ≤ Y.length) : cmpL (X.drop k) (Y.drop k) = if X.length < Y.length then -1 else if Y.length < X.length then 1 else 0 := by
  cases hX : X.drop k with
  | nil =>
    have l1 : X.length ≤ k := by have := congrArg List.length hX; rw [List.length_drop] at this; simp at this; omega
    cases hY : Y.drop k with
    | nil =>
      have l2 : Y.length ≤ k := by have := congrArg List.length hY; rw [List.length_drop] at this; simp at this; omega
      rw [if_neg (by omega), if_neg (by omega)]; rfl
    | cons y r =>
      have l2 : k < Y.length := by have := congrArg List.length hY; rw [List.length_drop] at this; simp at this; omega
      rw [if_pos (by omega)]; rfl
  | cons x r =>
    have l1 : k < X.length := by have := congrArg List.length hX; rw [List.length_drop] at this; simp at this; omega
    cases hY : Y.drop k with
    | nil =>
      have l2 : Y.length ≤ k := by have := congrArg List.length hY; rw [List.length_drop] at this; simp at this; omega
      rw [if_neg (by omega), if_pos (by omega)]; rfl
    | cons y r =>
      have l2 : k < Y.length := by have := congrArg List.length hY; rw [List.length_drop] at this; simp at this; omega
      omega

end Go.Proofs.YtmmkcfiecgpkpaaGreat

/- What the statements of layer 8 want of the program's calls, told of the plain names; the statement's own helpers. The words are shown of the program in another text. No condition. -/
namespace Go.Proofs.YtmmkcfiecgpkpaaGreat
open Go.RowKit
set_option linter.unusedVariables false
set_option linter.unusedSimpArgs false
set_option maxRecDepth 100000

def LevPost (w : World) (l : Txt) (n : Nat) (e : Ending) (w' : World) : Prop := ∃ a c, e = .returned (.tuple #[.slice a n c, .int .i64 (nmE l)]) ∧ TextsAt w' a (lvls l) ∧ SlW a n c ∧ Still w w'

structure NameApi : Prop where
  check : ∀ (l : Txt) (w : World), l.length ≤ 300 → Calls Tryz.prog 62 #[tx l] w fun e w' => e = .returned (.int .i64 (nmE l)) ∧ Still w w'
end Go.Proofs.YtmmkcfiecgpkpaaGreat

/- What the program's Check, Depth and Hidden answer. No condition but that the text is not too long. -/
namespace Go.Proofs.YtmmkcfiecgpkpaaGreat
open Go.RowKit
set_option linter.unusedVariables false
set_option linter.unusedSimpArgs false
set_option maxRecDepth 100000

theorem chk_no {l : Txt} (h : l = [] ∨ 64 < l.length ∨ plB l = false ∨ 8 < (spl l).length) : nmE l = 80 := nmE_no (fun h' => by
  obtain ⟨a, b, c, d⟩ := nmE_iff.1 h'
  rcases h with h | h | h | h
  · exact a h
  · omega
  · rw [plB_iff.2 c] at h; cases h
  · omega)

set_option maxHeartbeats 1000000 in
theorem chk_any (l : Txt) (w : World) (hmax : l.length ≤ 1000000) : Calls Tryz.prog 62 #[tx l] w fun e w' => e = .returned (.int .i64 (nmE l)) ∧ Still w w' := by
  obtain ⟨m, hm⟩ : ∃ m, m = l.length := ⟨_, rfl⟩
  obtain ⟨q, hq⟩ : ∃ q, q = (spl l).length := ⟨_, rfl⟩
  obtain ⟨p, hp⟩ : ∃ p, p = plB l := ⟨_, rfl⟩
  obtain ⟨r, hr⟩ : ∃ r, r = nmE l := ⟨_, rfl⟩
  have HP := Lib.hid (fun V => plain_any l hmax V)
  have HC := Lib.hid (fun V => count_any l hmax V)
  obtain ⟨s, hs⟩ : ∃ s, s = ByteArray.mk l.toArray := ⟨_, rfl⟩
  have hsz : s.size = m := by rw [hs, hm, tx_size]
  have HN := Lib.hid (fun (h : m = 0 ∨ 64 < m ∨ p = false ∨ 8 < q) => show r = 80 from hr.trans (chk_no (by
    rcases h with h | h | h | h
    · exact .inl (List.eq_nil_of_length_eq_zero (by omega))
    · exact .inr (.inl (by omega))
    · exact .inr (.inr (.inl (by rw [← hp]; exact h)))
    · exact .inr (.inr (.inr (by omega))))))
  have HY := Lib.hid (fun (h0 : 0 < m) (h1 : m ≤ 64) (h2 : p = true) (h3 : q ≤ 8) => show r = 0 from hr.trans (nmE_iff.2 ⟨fun e => by subst e; simp at hm; omega, by omega, plB_iff.1 (by rw [← hp]; exact h2), by omega⟩))
  rw [← hp] at HP
  rw [← hq] at HC
  rw [← hr]
  unfold tx at *
  rw [← hs] at HP HC ⊢
  clear hs hr hp hq hm
  rcases Nat.eq_zero_or_pos m with h0 | h0
  · have HE := Lib.hid (HN.out (.inl h0))
    subst h0
    go_enter Tryz.func62, Tryz.ntmps62
    go_wp2_with fail
    go_ret
    exact ⟨by rw [HE.out]; rfl, Turned.refl _ _⟩
  · have h0' : ¬ (m : Int) < 1 := by omega
    rcases Nat.lt_or_ge 64 m with h1 | h1
    · have HE := Lib.hid (HN.out (.inr (.inl h1)))
      have h1' : (64 : Int) < (m : Int) := by omega
      go_enter Tryz.func62, Tryz.ntmps62
      go_wp2_with fail
      go_ret
      exact ⟨by rw [HE.out]; rfl, Turned.refl _ _⟩
    · have h1' : ¬ (64 : Int) < (m : Int) := by omega
      rcases p with _ | _
      · have HE := Lib.hid (HN.out (.inr (.inr (.inl rfl))))
        go_enter Tryz.func62, Tryz.ntmps62
        go_wp2_with (go_at_call 88; ((with_reducible refine (HP.out _).mono ?_)); rintro e w5 ⟨rfl, hT5⟩)
        go_ret
        exact ⟨by rw [HE.out]; rfl, hT5⟩
      · rcases Nat.lt_or_ge 8 q with h2 | h2
        · have HE := Lib.hid (HN.out (.inr (.inr (.inr h2))))
          have h2' : (8 : Int) < (q : Int) := by omega
          go_enter Tryz.func62, Tryz.ntmps62
          go_wp2_with (first
            | (go_at_call 88; ((with_reducible refine (HP.out _).mono ?_)); rintro e w5 ⟨rfl, hT5⟩)
            | (go_at_call 89; ((with_reducible refine (HC.out _).mono ?_)); rintro e w6 ⟨rfl, hT6⟩))
          go_ret
          exact ⟨by rw [HE.out]; rfl, hT5.trans hT6⟩
        · have HE := Lib.hid (HY.out h0 h1 rfl h2)
          have h2' : ¬ (8 : Int) < (q : Int) := by omega
          go_enter Tryz.func62, Tryz.ntmps62
          go_wp2_with (first
            | (go_at_call 88; ((with_reducible refine (HP.out _).mono ?_)); rintro e w5 ⟨rfl, hT5⟩)
            | (go_at_call 89; ((with_reducible refine (HC.out _).mono ?_)); rintro e w6 ⟨rfl, hT6⟩))
          go_ret
          exact ⟨by rw [HE.out]; rfl, hT5.trans hT6⟩

end Go.Proofs.YtmmkcfiecgpkpaaGreat
