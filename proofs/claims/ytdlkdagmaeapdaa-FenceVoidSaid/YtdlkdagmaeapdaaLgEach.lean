/- The iterator of the program's ledger goes through the spans of a kind. No condition but that the ledger is one. -/
import Derived.RangeFuncNested
import Derived.RangeFuncBound
import Derived.RangeFuncCalls
import Derived.RangeFuncLeaves
import Derived.RangeFuncBox
import Derived.Maps.AppendAt
import Derived.Shelf.Abstract
import Derived.Shelf.RegionOpen
import Derived.OwnWalkIn
import Derived.TacticsInMore
import Derived.LoopNIn
import Derived.LoopIn
import Derived.Stop.RegionWithIn
import Derived.BigRegionIn
import Derived.Test.YtdlkdagmaeapdaaReadsQ
import Derived.Test.YtdlkdagmaeapdaaLgLay
import Derived.Test.YtdlkdagmaeapdaaIterS
namespace Go.Proofs.Ytdlkdagmaeapdaa
open Go.RowKit Go.Shelf
attribute [local go_sem] Oper.semAt_some
set_option linter.unusedVariables false
set_option linter.unusedSimpArgs false
set_option maxRecDepth 100000

abbrev encSpA (x : Int × Int) : Array Value := #[.agg #[.int .i64 x.1, .int .i64 x.2]]
theorem lgspans_any (q : Nat) (kd : Bool) (w : World) : Calls Try.prog 54 #[.pointer (some ⟨q, 0, none⟩), .bool kd] w fun e w' => e = .returned (.func (.func 74) #[] #[.pointer (some ⟨w.heap.size, 0, none⟩), .pointer (some ⟨w.heap.size + 1, 0, none⟩)]) ∧
    w' = (w.alloc (.cells #[.pointer (some ⟨q, 0, none⟩)] 46)).alloc (.cells #[.bool kd] 4) := by
  go_enter Try.func54, Try.ntmps54
  go_wp2
  go_ret
  exact ⟨by first | rfl | simp, rfl⟩

/-- What the iterator reads: the ledger, and the two boxes. -/
def evLg (B1 B2 q : Nat) (a : Option Addr) (c N : Nat) (f kd : Bool) (M : LgM) : Thing := (blkT B1 [.pointer (some ⟨q, 0, none⟩)] 46).sep ((blkT B2 [.bool kd] 4).sep (lgX q a c N f M))
section
variable {q : Nat} {a : Option Addr} {c N n : Nat} {f : Bool} {M : LgM} {w w' : World} {W : Nat → Prop}
theorem evLg_new (kd : Bool) (h : (lgX q a c N f M).at_ w W) : (evLg w.heap.size (w.heap.size + 1) q a c N f kd M).at_ ((w.alloc (.cells #[.pointer (some ⟨q, 0, none⟩)] 46)).alloc (.cells #[.bool kd] 4)) (fun k => k = w.heap.size ∨ k = w.heap.size + 1 ∨ W k) := by
  have hs : (w.alloc (.cells #[.pointer (some ⟨q, 0, none⟩)] 46)).heap.size = w.heap.size + 1 := by simp
  have hlt := (lgX q a c N f M).lt h
  refine ⟨(· = w.heap.size), fun k => k = w.heap.size + 1 ∨ W k, ⟨(Blk.new w [.pointer (some ⟨q, 0, none⟩)] 46).alloc _, fun _ => Iff.rfl⟩,
    ⟨(· = w.heap.size + 1), W, ⟨by have := Blk.new (w.alloc (.cells #[.pointer (some ⟨q, 0, none⟩)] 46)) [.bool kd] 4; rw [hs] at this; exact this, fun _ => Iff.rfl⟩,
      (lgX q a c N f M).keep h (((Turned.refl _ _).alloc _).alloc _) (fun _ _ h => h), fun k e hk => by have := hlt k hk; omega, fun _ => Iff.rfl⟩, fun k e hk => ?_, fun _ => Iff.rfl⟩
  rcases hk with hk | hk
  · omega
  · have := hlt k hk; omega

theorem sp_count {l : List Pc} {k : Nat} {x : Pc} {kd : Bool} (h : l[k]? = some x) : (x.2.2 = kd → (spOf l kd)[(spOf (l.take k) kd).length]? = some (x.1, x.2.1) ∧ (spOf (l.take (k + 1)) kd).length = (spOf (l.take k) kd).length + 1) ∧
    (x.2.2 ≠ kd → (spOf (l.take (k + 1)) kd).length = (spOf (l.take k) kd).length) := by
  have h1 := spOf_snoc kd h
  constructor
  · intro hk
    rw [if_pos hk] at h1
    refine ⟨?_, by rw [h1]; simp⟩
    have h2 : l = l.take (k + 1) ++ l.drop (k + 1) := (List.take_append_drop _ _).symm
    have h3 : spOf l kd = spOf (l.take (k + 1)) kd ++ spOf (l.drop (k + 1)) kd := by
      conv => lhs; rw [h2]
      unfold spOf; rw [List.filter_append, List.map_append]
    rw [h3, h1]; simp
  · intro hk
    rw [if_neg hk] at h1
    rw [h1]

set_option maxHeartbeats 4000000 in
theorem lgspans_it (hN : N = n + 1) (hn : n = M.L.length) (hM : M.Ok) (hf : ∀ x, M.L[0]? = some x → x.2.2 = f) (kd : Bool) (B1 B2 : Nat) :
    IterS 74 #[.pointer (some ⟨B1, 0, none⟩), .pointer (some ⟨B2, 0, none⟩)] encSpA (spOf M.L kd) (evLg B1 B2 q a c N f kd M) := by
  intro l J Jx W Q S hR h0 hd hY
  have HX := Lib.hid (fun V (h : ∃ Q', Since Q W Q' V) => show V.cell? ⟨B1, 0, none⟩ = some (.pointer (some ⟨q, 0, none⟩)) ∧ V.cell? ⟨B2, 0, none⟩ = some (.bool kd) ∧ LgRd q a c N f M V from by
    obtain ⟨Q', hs⟩ := h
    obtain ⟨U1, U2, ⟨u1, _⟩, ⟨U3, U4, ⟨u3, _⟩, u4, _⟩, _⟩ := (hs.stays (A := evLg B1 B2 q a c N f kd M) hR hd).1
    exact ⟨u1.cell rfl, u3.cell rfl, lgX_rd (by omega) u4⟩)
  have HY := Lib.hid (fun k z W1 Q1 (hz : (spOf M.L kd)[k]? = some z) (h1 : (J k).at_ W1 Q1) (h2 : Since Q W Q1 W1) => YieldAt.any 8 (hY k z W1 Q1 hz h1 h2))
  have HT := Lib.hid (chn_turns hM.ch hf)
  have HMk := Lib.hid (fun (i : Nat) (x : Pc) (hx : M.L[i]? = some x) => marks_at hM hx)
  have hn256 : n ≤ 256 := by have := hM.len; omega
  obtain ⟨e1, e2, hx1⟩ := HX.out W ⟨Q, Since.refl _ _⟩
  have HMd := Lib.hid (lgmade_any hx1.c0 (by omega))
  have HCt := Lib.hid (lgcount_any (n := n) hx1.c0 hN hn256)
  have HKd := Lib.hid (fun V (h : ∃ Q', Since Q W Q' V) i (hi : i ≤ 256) => lgkind_any (HX.out V h).2.2.c1 i hi)
  have H0 := Lib.hid h0
  have HNn := Lib.hid hn
  have HAll := Lib.hid (show M.L.take n = M.L from by rw [hn, List.take_length])
  have hNc : N ≤ c ∧ n < N := ⟨by
    obtain ⟨_, _, _, ⟨_, _, _, ⟨_, _, _, ⟨u, _⟩, _⟩, _⟩, _⟩ := hR
    exact (ow_le u).1, by omega⟩
  obtain ⟨hNc, hnN⟩ := hNc
  have HLt := Lib.hid (fun (k : Nat) (x : Pc) (hx : M.L[k]? = some x) => sp_count (kd := kd) hx)
  have HN := Lib.hid hN
  have hro : Fence.wide.round = none := rfl
  have hf1 : Fence.wide.fn 52 := trivial
  have hf2 : Fence.wide.fn 75 := trivial
  have hf3 : Fence.wide.fn 76 := trivial
  clear hR h0 hd hY hx1 hM hf hn hN
  refine (callsIn_wide (n := 9)).1 (callsIn_of_wp Try.func74 rfl trivial ?_ rfl)
  simp only [Try.ntmps74, List.size_toArray, List.length_cons, List.length_nil, Nat.reduceAdd, Nat.reduceSub, Array.replicate_succ, Array.replicate_zero, List.push_toArray, List.append_toArray, List.nil_append, List.cons_append]
  gi_wp2_with (first
    | (gi_at_call 52; ((with_reducible refine (callsIn_wide.2 HMd.out).mono ?_)); rintro e w4 ⟨rfl, rfl⟩)
    | (gi_at_call 75; ((with_reducible refine (callsIn_wide.2 HCt.out).mono ?_)); rintro e w5 ⟨rfl, rfl⟩))
  gi_loopw [10] (fun i wr => ∃ (k : Nat) (Q' : Nat → Prop), k ≤ n ∧ i = .int .i64 k ∧ (J (spOf (M.L.take k) kd).length).at_ wr Q' ∧ Since Q W Q' wr) (fun i _ => n - (intOf i).toNat)
  case atStart => exact ⟨0, Q, Nat.zero_le _, rfl, H0.out, Since.refl _ _⟩
  case round =>
    clear e1 e2
    obtain ⟨k, Q', hk, rfl, hJk, hsi⟩ := hrel
    by_cases hlt : k < n
    · obtain ⟨x, hx⟩ := get_some (l := M.L) (i := k) (by rw [← HNn.out]; exact hlt)
      have hdr : Since Q' wr Q' wr.drew := ⟨(Turned.refl _ _).drew, fun _ h => .inl h⟩
      obtain ⟨e1, e2, hrd⟩ := HX.out wr.drew ⟨Q', hsi.trans hdr⟩
      have c0 := hrd.c0
      obtain ⟨m1, m2⟩ := HMk.out k x hx
      obtain ⟨g, rfl, y1⟩ := hrd.row k _ m1
      obtain ⟨_, eg, y2⟩ := hrd.row (k + 1) _ m2
      cases eg
      have HKk := Lib.hid (show Calls Try.prog 76 #[.pointer (some ⟨q, 0, none⟩), .int .i64 (k : Int)] wr.drew fun e w' => e = .returned (.bool x.2.2) ∧ w' = wr.drew from by
        rw [HT.out k x hx]
        exact (HKd.out wr.drew ⟨Q', hsi.trans hdr⟩ k (by omega)).mono fun e w' ⟨he, hw⟩ => ⟨he, hw.symm⟩)
      obtain ⟨s1, s2⟩ := HLt.out k x hx
      have HJd := Lib.hid (show (J (spOf (M.L.take k) kd).length).at_ wr.drew Q' from (J _).keep hJk ((Turned.refl _ _).drew) (fun _ _ h => h))
      have HSi := Lib.hid (hsi.trans hdr)
      have HJ := Lib.hid hJk
      have HSo := Lib.hid hsi
      have hki : (k : Int) < (n : Int) := by omega
      have hkN : (k : Int) < (N : Int) := by omega
      have hkN1 : (k : Int) + 1 < (N : Int) := by have := HN.out; omega
      have hk0 : (0 : Int) ≤ (k : Int) + 1 := by omega
      have hkw : IntKind.i64.wrap ((k : Int) + 1) = ((k + 1 : Nat) : Int) := by simp [IntKind.wrap, IntKind.signed, IntKind.bits]; omega
      obtain ⟨xf, xt, xk⟩ := x
      dsimp only at m1 m2 y1 y2 HKk s1 s2
      by_cases hkd : xk = kd
      · obtain ⟨s3, s4⟩ := s1 hkd
        obtain ⟨fn, tmps, assign, body, hy, hR⟩ := HY.out _ _ wr.drew Q' s3 HJd.out HSi.out
        have HLen := Lib.hid (show (spOf (M.L.take k) kd).length < (spOf M.L kd).length from (List.getElem?_eq_some_iff.1 s3).1)
        have HS4 := Lib.hid s4
        have hR2 : RoundIn Fence.wide 8 Try.prog l fn tmps assign body wr.drew fun e W' => ∃ b, e = .returned (.bool b) ∧ ((b = true ∧ Goes (J ((spOf (M.L.take k) kd).length + 1)) Q' wr.drew W') ∨ (b = false ∧ Goes (Jx (spOf (M.L.take k) kd).length) Q' wr.drew W')) := by
          refine hR.mono ?_
          rintro e W3 (⟨rfl, h1⟩ | ⟨rfl, h1⟩)
          · exact ⟨true, rfl, .inl ⟨rfl, h1⟩⟩
          · exact ⟨false, rfl, .inr ⟨rfl, h1⟩⟩
        dsimp only [encSpA] at hy
        clear hR s1 s2 s3 s4 hJk hsi hdr hrd hx m1 m2 HLt HY HX HMk HKd HT
        obtain ⟨d, hd⟩ : ∃ d, d = (spOf (M.L.take k) kd).length := ⟨_, rfl⟩
        rw [← hd] at hR2
        have HD := Lib.hid hd
        clear hd
        gi_wp2
        subst hkd
        cases xk
        all_goals (
          refine region_reads 23 (by kernel_rfl) ?_
          refine reads_take (i := 0) (v := ?_) rfl (by kernel_rfl) (by kernel_rfl) (by kernel_rfl) (by decide) (by kernel_rfl) (by kernel_rfl) (fun _ _ _ h => h) (by rfl) (fun _ => by rfl) ?_ ?_
          rotate_left
          · go_simp
            try with_reducible rfl
          try simp only [Act.put, List.setIfInBounds_toArray, List.set_cons_zero, List.set_cons_succ]
          refine reads_take (i := 1) (v := ?_) rfl (by kernel_rfl) (by kernel_rfl) (by kernel_rfl) (by decide) (by kernel_rfl) (by kernel_rfl) (fun _ _ _ h => h) (by rfl) (fun _ => by rfl) ?_ ?_
          rotate_left
          · go_simp
            try with_reducible rfl
          try simp only [Act.put, List.setIfInBounds_toArray, List.set_cons_zero, List.set_cons_succ]
          refine readsQ_call (i := 2) (v := _) (f := 76) (args := #[.pointer (some ⟨q, 0, none⟩), .int .i64 (k : Int)]) rfl (by kernel_rfl) (by kernel_rfl) (by kernel_rfl) (by decide) (by kernel_rfl) (by kernel_rfl) (fun _ _ _ h => h) (by rfl) (fun _ _ _ => trivial) ?_ (fun h => by cases h) (callsIn_wide.2 HKk.out) ?_
          · go_simp
          try simp only [Act.put, List.setIfInBounds_toArray, List.set_cons_zero, List.set_cons_succ]
          refine reads_take (i := 3) (v := ?_) rfl (by kernel_rfl) (by kernel_rfl) (by kernel_rfl) (by decide) (by kernel_rfl) (by kernel_rfl) (fun _ _ _ h => h) (by rfl) (fun _ => by rfl) ?_ ?_
          rotate_left
          · go_simp
            try with_reducible rfl
          try simp only [Act.put, List.setIfInBounds_toArray, List.set_cons_zero, List.set_cons_succ]
          refine reads_take (i := 4) (v := ?_) rfl (by kernel_rfl) (by kernel_rfl) (by kernel_rfl) (by decide) (by kernel_rfl) (by kernel_rfl) (fun _ _ _ h => h) (by rfl) (fun _ => by rfl) ?_ ?_
          rotate_left
          · go_simp
            try with_reducible rfl
          try simp only [Act.put, List.setIfInBounds_toArray, List.set_cons_zero, List.set_cons_succ]
          refine reads_take (i := 5) (v := ?_) rfl (by kernel_rfl) (by kernel_rfl) (by kernel_rfl) (by decide) (by kernel_rfl) (by kernel_rfl) (fun _ _ _ h => h) (by rfl) (fun _ => by rfl) ?_ ?_
          rotate_left
          · go_simp
            try with_reducible rfl
          try simp only [Act.put, List.setIfInBounds_toArray, List.set_cons_zero, List.set_cons_succ]
          refine reads_take (i := 6) (v := ?_) rfl (by kernel_rfl) (by kernel_rfl) (by kernel_rfl) (by decide) (by kernel_rfl) (by kernel_rfl) (fun _ _ _ h => h) (by kernel_rfl) (fun _ => by rfl) ?_ ?_
          rotate_left
          · go_simp
            try with_reducible rfl
          try simp only [Act.put, List.setIfInBounds_toArray, List.set_cons_zero, List.set_cons_succ]
          refine reads_take (i := 7) (v := ?_) rfl (by kernel_rfl) (by kernel_rfl) (by kernel_rfl) (by decide) (by kernel_rfl) (by kernel_rfl) (fun _ _ _ h => h) (by kernel_rfl) (fun _ => by rfl) ?_ ?_
          rotate_left
          · go_simp
            try with_reducible rfl
          try simp only [Act.put, List.setIfInBounds_toArray, List.set_cons_zero, List.set_cons_succ]
          refine reads_take (i := 8) (v := ?_) rfl (by kernel_rfl) (by kernel_rfl) (by kernel_rfl) (by decide) (by kernel_rfl) (by kernel_rfl) (fun _ _ _ h => h) (by kernel_rfl) (fun _ => by rfl) ?_ ?_
          rotate_left
          · go_simp
            try with_reducible rfl
          try simp only [Act.put, List.setIfInBounds_toArray, List.set_cons_zero, List.set_cons_succ]
          refine reads_take (i := 9) (v := ?_) rfl (by kernel_rfl) (by kernel_rfl) (by kernel_rfl) (by decide) (by kernel_rfl) (by kernel_rfl) (fun _ _ _ h => h) (by kernel_rfl) (fun _ => by rfl) ?_ ?_
          rotate_left
          · go_simp
            try with_reducible rfl
          try simp only [Act.put, List.setIfInBounds_toArray, List.set_cons_zero, List.set_cons_succ]
          refine reads_take (i := 10) (v := ?_) rfl (by kernel_rfl) (by kernel_rfl) (by kernel_rfl) (by decide) (by kernel_rfl) (by kernel_rfl) (fun _ _ _ h => h) (by kernel_rfl) (fun _ => by rfl) ?_ ?_
          rotate_left
          · go_simp
            try with_reducible rfl
          try simp only [Act.put, List.setIfInBounds_toArray, List.set_cons_zero, List.set_cons_succ]
          refine reads_take (i := 11) (v := ?_) rfl (by kernel_rfl) (by kernel_rfl) (by kernel_rfl) (by decide) (by kernel_rfl) (by kernel_rfl) (fun _ _ _ h => h) (by kernel_rfl) (fun _ => by rfl) ?_ ?_
          rotate_left
          · go_simp
            try with_reducible rfl
          try simp only [Act.put, List.setIfInBounds_toArray, List.set_cons_zero, List.set_cons_succ]
          refine reads_take (i := 12) (v := ?_) rfl (by kernel_rfl) (by kernel_rfl) (by kernel_rfl) (by decide) (by kernel_rfl) (by kernel_rfl) (fun _ _ _ h => h) (by kernel_rfl) (fun _ => by rfl) ?_ ?_
          rotate_left
          · go_simp
            try with_reducible rfl
          try simp only [Act.put, List.setIfInBounds_toArray, List.set_cons_zero, List.set_cons_succ]
          refine reads_take (i := 13) (v := ?_) rfl (by kernel_rfl) (by kernel_rfl) (by kernel_rfl) (by decide) (by kernel_rfl) (by kernel_rfl) (fun _ _ _ h => h) (by kernel_rfl) (fun _ => by rfl) ?_ ?_
          rotate_left
          · go_simp
            try with_reducible rfl
          try simp only [Act.put, List.setIfInBounds_toArray, List.set_cons_zero, List.set_cons_succ]
          refine reads_take (i := 14) (v := ?_) rfl (by kernel_rfl) (by kernel_rfl) (by kernel_rfl) (by decide) (by kernel_rfl) (by kernel_rfl) (fun _ _ _ h => h) (by kernel_rfl) (fun _ => by rfl) ?_ ?_
          rotate_left
          · go_simp
            try with_reducible rfl
          try simp only [Act.put, List.setIfInBounds_toArray, List.set_cons_zero, List.set_cons_succ]
          refine reads_take (i := 15) (v := ?_) rfl (by kernel_rfl) (by kernel_rfl) (by kernel_rfl) (by decide) (by kernel_rfl) (by kernel_rfl) (fun _ _ _ h => h) (by kernel_rfl) (fun _ => by rfl) ?_ ?_
          rotate_left
          · go_simp
            try with_reducible rfl
          try simp only [Act.put, List.setIfInBounds_toArray, List.set_cons_zero, List.set_cons_succ]
          refine reads_take (i := 16) (v := ?_) rfl (by kernel_rfl) (by kernel_rfl) (by kernel_rfl) (by decide) (by kernel_rfl) (by kernel_rfl) (fun _ _ _ h => h) (by kernel_rfl) (fun _ => by rfl) ?_ ?_
          rotate_left
          · go_simp
            try with_reducible rfl
          try simp only [Act.put, List.setIfInBounds_toArray, List.set_cons_zero, List.set_cons_succ]
          refine reads_take (i := 17) (v := ?_) rfl (by kernel_rfl) (by kernel_rfl) (by kernel_rfl) (by decide) (by kernel_rfl) (by kernel_rfl) (fun _ _ _ h => h) (by kernel_rfl) (fun _ => by rfl) ?_ ?_
          rotate_left
          · go_simp
            try with_reducible rfl
          try simp only [Act.put, List.setIfInBounds_toArray, List.set_cons_zero, List.set_cons_succ]
          refine reads_take (i := 18) (v := ?_) rfl (by kernel_rfl) (by kernel_rfl) (by kernel_rfl) (by decide) (by kernel_rfl) (by kernel_rfl) (fun _ _ _ h => h) (by kernel_rfl) (fun _ => by rfl) ?_ ?_
          rotate_left
          · go_simp
            try with_reducible rfl
          try simp only [Act.put, List.setIfInBounds_toArray, List.set_cons_zero, List.set_cons_succ]
          refine reads_take (i := 19) (v := ?_) rfl (by kernel_rfl) (by kernel_rfl) (by kernel_rfl) (by decide) (by kernel_rfl) (by kernel_rfl) (fun _ _ _ h => h) (by kernel_rfl) (fun _ => by rfl) ?_ ?_
          rotate_left
          · go_simp
            try with_reducible rfl
          try simp only [Act.put, List.setIfInBounds_toArray, List.set_cons_zero, List.set_cons_succ]
          refine reads_take (i := 20) (v := ?_) rfl (by kernel_rfl) (by kernel_rfl) (by kernel_rfl) (by decide) (by kernel_rfl) (by kernel_rfl) (fun _ _ _ h => h) (by kernel_rfl) (fun _ => by rfl) ?_ ?_
          rotate_left
          · go_simp
            try with_reducible rfl
          try simp only [Act.put, List.setIfInBounds_toArray, List.set_cons_zero, List.set_cons_succ]
          refine reads_take (i := 21) (v := ?_) rfl (by kernel_rfl) (by kernel_rfl) (by kernel_rfl) (by decide) (by kernel_rfl) (by kernel_rfl) (fun _ _ _ h => h) (by kernel_rfl) (fun _ => by rfl) ?_ ?_
          rotate_left
          · go_simp
            try with_reducible rfl
          try simp only [Act.put, List.setIfInBounds_toArray, List.set_cons_zero, List.set_cons_succ]
          refine reads_take (i := 22) (v := ?_) rfl (by kernel_rfl) (by kernel_rfl) (by kernel_rfl) (by decide) (by kernel_rfl) (by kernel_rfl) (fun _ _ _ h => h) (by kernel_rfl) (fun _ => by rfl) ?_ ?_
          rotate_left
          · go_simp
            try with_reducible rfl
          try simp only [Act.put, List.setIfInBounds_toArray, List.set_cons_zero, List.set_cons_succ]
          refine reads_call (i := 23) (by kernel_rfl) (by decide) rfl (fun K hK => ?_)
          go_simp
          gi_wp2_with (refine hR2.mono ?_; rintro e W3 ⟨b, rfl, hX⟩)
          try simp only [Act.put, List.setIfInBounds_toArray, List.set_cons_zero, List.set_cons_succ]
          refine wpAnyIn_ready (rs := [24]) (by kernel_rfl) (by simp) ?_
          refine AllReadyIn.cons rfl (fun K hK => ?_) AllReadyIn.nil
          go_simp
          refine hK _ _ ?_
          clear hK K
          try simp only [Act.put, List.setIfInBounds_toArray, List.set_cons_zero, List.set_cons_succ]
          refine wpAnyIn_ready (rs := [25]) (by kernel_rfl) (by simp) ?_
          refine AllReadyIn.cons rfl (fun K hK => ?_) AllReadyIn.nil
          go_simp
          refine hK _ _ ?_
          clear hK K
          try simp only [Act.put, List.setIfInBounds_toArray, List.set_cons_zero, List.set_cons_succ]
          refine wpAnyIn_done (by kernel_rfl) ?_ _
          clear hy hR2
          rcases hX with ⟨rfl, hJ3⟩ | ⟨rfl, hJx3⟩
          · simp only [Bool.not_true]
            gi_wp2
            go_roundw
            case rel =>
              obtain ⟨Q3, hJ4, hs4⟩ := hJ3.since
              exact ⟨k + 1, Q3, by omega, by go_num, by rw [HS4.out, ← HD.out]; exact hJ4, HSi.out.trans hs4⟩
            case measure => simp [intOf]; omega
          · have HEnd := Lib.hid (show ∃ k', k' < (spOf M.L _).length ∧ Goes (Jx k') Q W W3 from by
              obtain ⟨Q3, hJ4, hs4⟩ := hJx3.since
              exact ⟨d, by rw [HD.out]; exact HLen.out, (HSi.out.trans hs4).goes hJ4⟩)
            clear hJx3
            simp only [Bool.not_false]
            gi_wp2
            refine bodyPost_ret (results_none rfl _ _ _) rfl ?_
            exact ⟨⟨_, rfl⟩, .inr HEnd.out⟩)
      · have HS2 := Lib.hid (s2 hkd)
        obtain rfl : kd = !xk := by cases kd <;> cases xk <;> simp_all
        clear s1 s2 hJk hsi hdr hrd hx m1 m2 HLt HY HX HMk HKd HT hkd
        gi_wp2
        cases xk
        all_goals (
          refine region_reads 23 (by kernel_rfl) ?_
          refine reads_take (i := 0) (v := ?_) rfl (by kernel_rfl) (by kernel_rfl) (by kernel_rfl) (by decide) (by kernel_rfl) (by kernel_rfl) (fun _ _ _ h => h) (by rfl) (fun _ => by rfl) ?_ ?_
          rotate_left
          · go_simp
            try with_reducible rfl
          try simp only [Act.put, List.setIfInBounds_toArray, List.set_cons_zero, List.set_cons_succ]
          refine reads_take (i := 1) (v := ?_) rfl (by kernel_rfl) (by kernel_rfl) (by kernel_rfl) (by decide) (by kernel_rfl) (by kernel_rfl) (fun _ _ _ h => h) (by rfl) (fun _ => by rfl) ?_ ?_
          rotate_left
          · go_simp
            try with_reducible rfl
          try simp only [Act.put, List.setIfInBounds_toArray, List.set_cons_zero, List.set_cons_succ]
          refine readsQ_call (i := 2) (v := _) (f := 76) (args := #[.pointer (some ⟨q, 0, none⟩), .int .i64 (k : Int)]) rfl (by kernel_rfl) (by kernel_rfl) (by kernel_rfl) (by decide) (by kernel_rfl) (by kernel_rfl) (fun _ _ _ h => h) (by rfl) (fun _ _ _ => trivial) ?_ (fun h => by cases h) (callsIn_wide.2 HKk.out) ?_
          · go_simp
          try simp only [Act.put, List.setIfInBounds_toArray, List.set_cons_zero, List.set_cons_succ]
          refine reads_take (i := 3) (v := ?_) rfl (by kernel_rfl) (by kernel_rfl) (by kernel_rfl) (by decide) (by kernel_rfl) (by kernel_rfl) (fun _ _ _ h => h) (by rfl) (fun _ => by rfl) ?_ ?_
          rotate_left
          · go_simp
            try with_reducible rfl
          try simp only [Act.put, List.setIfInBounds_toArray, List.set_cons_zero, List.set_cons_succ]
          refine reads_take (i := 4) (v := ?_) rfl (by kernel_rfl) (by kernel_rfl) (by kernel_rfl) (by decide) (by kernel_rfl) (by kernel_rfl) (fun _ _ _ h => h) (by rfl) (fun _ => by rfl) ?_ ?_
          rotate_left
          · go_simp
            try with_reducible rfl
          try simp only [Act.put, List.setIfInBounds_toArray, List.set_cons_zero, List.set_cons_succ]
          refine reads_take (i := 5) (v := ?_) rfl (by kernel_rfl) (by kernel_rfl) (by kernel_rfl) (by decide) (by kernel_rfl) (by kernel_rfl) (fun _ _ _ h => h) (by rfl) (fun _ => by rfl) ?_ ?_
          rotate_left
          · go_simp
            try with_reducible rfl
          try simp only [Act.put, List.setIfInBounds_toArray, List.set_cons_zero, List.set_cons_succ]
          refine readsQ_skip (i := 6) rfl (by kernel_rfl) (by kernel_rfl) (by kernel_rfl) (by decide) (by kernel_rfl) (by kernel_rfl) (fun _ _ _ h => h) (by kernel_rfl) (fun _ => by rfl) ?_
          try simp only [Act.put, List.setIfInBounds_toArray, List.set_cons_zero, List.set_cons_succ]
          refine readsQ_skip (i := 7) rfl (by kernel_rfl) (by kernel_rfl) (by kernel_rfl) (by decide) (by kernel_rfl) (by kernel_rfl) (fun _ _ _ h => h) (by kernel_rfl) (fun _ => by rfl) ?_
          try simp only [Act.put, List.setIfInBounds_toArray, List.set_cons_zero, List.set_cons_succ]
          refine readsQ_skip (i := 8) rfl (by kernel_rfl) (by kernel_rfl) (by kernel_rfl) (by decide) (by kernel_rfl) (by kernel_rfl) (fun _ _ _ h => h) (by kernel_rfl) (fun _ => by rfl) ?_
          try simp only [Act.put, List.setIfInBounds_toArray, List.set_cons_zero, List.set_cons_succ]
          refine readsQ_skip (i := 9) rfl (by kernel_rfl) (by kernel_rfl) (by kernel_rfl) (by decide) (by kernel_rfl) (by kernel_rfl) (fun _ _ _ h => h) (by kernel_rfl) (fun _ => by rfl) ?_
          try simp only [Act.put, List.setIfInBounds_toArray, List.set_cons_zero, List.set_cons_succ]
          refine readsQ_skip (i := 10) rfl (by kernel_rfl) (by kernel_rfl) (by kernel_rfl) (by decide) (by kernel_rfl) (by kernel_rfl) (fun _ _ _ h => h) (by kernel_rfl) (fun _ => by rfl) ?_
          try simp only [Act.put, List.setIfInBounds_toArray, List.set_cons_zero, List.set_cons_succ]
          refine readsQ_skip (i := 11) rfl (by kernel_rfl) (by kernel_rfl) (by kernel_rfl) (by decide) (by kernel_rfl) (by kernel_rfl) (fun _ _ _ h => h) (by kernel_rfl) (fun _ => by rfl) ?_
          try simp only [Act.put, List.setIfInBounds_toArray, List.set_cons_zero, List.set_cons_succ]
          refine readsQ_skip (i := 12) rfl (by kernel_rfl) (by kernel_rfl) (by kernel_rfl) (by decide) (by kernel_rfl) (by kernel_rfl) (fun _ _ _ h => h) (by kernel_rfl) (fun _ => by rfl) ?_
          try simp only [Act.put, List.setIfInBounds_toArray, List.set_cons_zero, List.set_cons_succ]
          refine readsQ_skip (i := 13) rfl (by kernel_rfl) (by kernel_rfl) (by kernel_rfl) (by decide) (by kernel_rfl) (by kernel_rfl) (fun _ _ _ h => h) (by kernel_rfl) (fun _ => by rfl) ?_
          try simp only [Act.put, List.setIfInBounds_toArray, List.set_cons_zero, List.set_cons_succ]
          refine readsQ_skip (i := 14) rfl (by kernel_rfl) (by kernel_rfl) (by kernel_rfl) (by decide) (by kernel_rfl) (by kernel_rfl) (fun _ _ _ h => h) (by kernel_rfl) (fun _ => by rfl) ?_
          try simp only [Act.put, List.setIfInBounds_toArray, List.set_cons_zero, List.set_cons_succ]
          refine readsQ_skip (i := 15) rfl (by kernel_rfl) (by kernel_rfl) (by kernel_rfl) (by decide) (by kernel_rfl) (by kernel_rfl) (fun _ _ _ h => h) (by kernel_rfl) (fun _ => by rfl) ?_
          try simp only [Act.put, List.setIfInBounds_toArray, List.set_cons_zero, List.set_cons_succ]
          refine readsQ_skip (i := 16) rfl (by kernel_rfl) (by kernel_rfl) (by kernel_rfl) (by decide) (by kernel_rfl) (by kernel_rfl) (fun _ _ _ h => h) (by kernel_rfl) (fun _ => by rfl) ?_
          try simp only [Act.put, List.setIfInBounds_toArray, List.set_cons_zero, List.set_cons_succ]
          refine readsQ_skip (i := 17) rfl (by kernel_rfl) (by kernel_rfl) (by kernel_rfl) (by decide) (by kernel_rfl) (by kernel_rfl) (fun _ _ _ h => h) (by kernel_rfl) (fun _ => by rfl) ?_
          try simp only [Act.put, List.setIfInBounds_toArray, List.set_cons_zero, List.set_cons_succ]
          refine readsQ_skip (i := 18) rfl (by kernel_rfl) (by kernel_rfl) (by kernel_rfl) (by decide) (by kernel_rfl) (by kernel_rfl) (fun _ _ _ h => h) (by kernel_rfl) (fun _ => by rfl) ?_
          try simp only [Act.put, List.setIfInBounds_toArray, List.set_cons_zero, List.set_cons_succ]
          refine readsQ_skip (i := 19) rfl (by kernel_rfl) (by kernel_rfl) (by kernel_rfl) (by decide) (by kernel_rfl) (by kernel_rfl) (fun _ _ _ h => h) (by kernel_rfl) (fun _ => by rfl) ?_
          try simp only [Act.put, List.setIfInBounds_toArray, List.set_cons_zero, List.set_cons_succ]
          refine readsQ_skip (i := 20) rfl (by kernel_rfl) (by kernel_rfl) (by kernel_rfl) (by decide) (by kernel_rfl) (by kernel_rfl) (fun _ _ _ h => h) (by kernel_rfl) (fun _ => by rfl) ?_
          try simp only [Act.put, List.setIfInBounds_toArray, List.set_cons_zero, List.set_cons_succ]
          refine readsQ_skip (i := 21) rfl (by kernel_rfl) (by kernel_rfl) (by kernel_rfl) (by decide) (by kernel_rfl) (by kernel_rfl) (fun _ _ _ h => h) (by kernel_rfl) (fun _ => by rfl) ?_
          try simp only [Act.put, List.setIfInBounds_toArray, List.set_cons_zero, List.set_cons_succ]
          refine readsQ_skip (i := 22) rfl (by kernel_rfl) (by kernel_rfl) (by kernel_rfl) (by decide) (by kernel_rfl) (by kernel_rfl) (fun _ _ _ h => h) (by kernel_rfl) (fun _ => by rfl) ?_
          try simp only [Act.put, List.setIfInBounds_toArray, List.set_cons_zero, List.set_cons_succ]
          refine reads_call (i := 23) (by kernel_rfl) (by decide) rfl (fun K hK => ?_)
          go_simp
          refine ⟨fun _ _ => trivial, hK _ _ ?_⟩
          clear hK K
          try simp only [Act.put, List.setIfInBounds_toArray, List.set_cons_zero, List.set_cons_succ]
          refine wpAnyIn_ready (rs := [24]) (by kernel_rfl) (by simp) ?_
          refine AllReadyIn.cons rfl (fun K hK => ?_) AllReadyIn.nil
          go_simp
          refine hK _ _ ?_
          clear hK K
          try simp only [Act.put, List.setIfInBounds_toArray, List.set_cons_zero, List.set_cons_succ]
          refine wpAnyIn_ready (rs := [25]) (by kernel_rfl) (by simp) ?_
          refine AllReadyIn.cons rfl (fun K hK => ?_) AllReadyIn.nil
          go_simp
          refine hK _ _ ?_
          clear hK K
          try simp only [Act.put, List.setIfInBounds_toArray, List.set_cons_zero, List.set_cons_succ]
          refine wpAnyIn_done (by kernel_rfl) ?_ _
          gi_wp2
          go_roundw
          case rel => exact ⟨k + 1, Q', by omega, by go_num, by rw [HS2.out]; exact HJd.out, HSi.out⟩
          case measure => simp [intOf]; omega)
    · obtain rfl : k = n := by omega
      have HEnd := Lib.hid (show Goes (J (spOf M.L kd).length) Q W wr from by rw [HAll.out] at hJk; exact hsi.goes hJk)
      clear hJk hsi
      gi_wp2
      go_end0
      exact ⟨⟨_, rfl⟩, .inl HEnd.out⟩
end
end Go.Proofs.Ytdlkdagmaeapdaa
