import Derived.Test.YtlnbgfglpdkifaaRowsT
import Derived.Deep.RegionHeld3
import Derived.Test.YtlnbgfglpdkifaaShHad
import Derived.Test.YtlnbgfglpdkifaaShMarks
import Derived.Maps.OwnIn
import Derived.Deep.DeepCutAuto

/- The stable sort of members by how many places they had: plain lists, and the program's comparison. No condition. -/
namespace Go.Proofs.Ytlnbgfglpdkifaa
open Go.RowKit
set_option linter.unusedVariables false
set_option linter.unusedSimpArgs false
set_option maxRecDepth 100000

def rowS (l0 : List Nat) (i m : Nat) : List Int := (l0 ++ List.range' i (m - i)).map (fun (k : Nat) => (k : Int))
def insJ (l0 : List Nat) (i j : Nat) : List Nat := l0.take j ++ i :: l0.drop j
def rowJ (l0 : List Nat) (i j m : Nat) : List Int := rowS (insJ l0 i j) (i + 1) m
def Srt (h : Nat → Nat) (l : List Nat) : Prop := l.Pairwise (fun a b => bef h a b = true)
theorem rowS_zero (m : Nat) : rowS [] 0 m = (List.range m).map (fun (k : Nat) => (k : Int)) := by
  unfold rowS; rw [List.nil_append, Nat.sub_zero, List.range_eq_range']
theorem rowS_start {l0 : List Nat} {i m : Nat} (hl : l0.length = i) (hi : i < m) : rowS l0 i m = rowJ l0 i i m := by
  unfold rowJ rowS insJ
  rw [← hl, List.take_length, List.drop_length, List.append_assoc]
  congr 2
  rw [show m - l0.length = (m - (l0.length + 1)) + 1 by omega, List.range'_succ]
  rfl
theorem rowS_end {l : List Nat} {m : Nat} : rowS l m m = l.map (fun (k : Nat) => (k : Int)) := by
  unfold rowS; rw [Nat.sub_self]; simp
theorem insJ_len {l0 : List Nat} {i j : Nat} (hl : l0.length = i) (hj : j ≤ i) : (insJ l0 i j).length = i + 1 := by
  unfold insJ; rw [List.length_append, List.length_cons, List.length_take, List.length_drop]; omega
theorem insJ_at {l0 : List Nat} {i j : Nat} (hl : l0.length = i) (hj : j ≤ i) : (insJ l0 i j)[j]? = some i := by
  unfold insJ
  rw [List.getElem?_append_right (by rw [List.length_take]; omega), List.length_take, show j - min j l0.length = 0 by omega]; rfl
theorem insJ_prev {l0 : List Nat} {i j y : Nat} (hl : l0.length = i) (hj : j < i) (hy : l0[j]? = some y) : (insJ l0 i (j + 1))[j]? = some y := by
  unfold insJ
  rw [List.getElem?_append_left (by rw [List.length_take]; omega), List.getElem?_take, if_pos (by omega), hy]
theorem insJ_step {l0 : List Nat} {i j y : Nat} (hl : l0.length = i) (hj : j < i) (hy : l0[j]? = some y) : ((insJ l0 i (j + 1)).set (j + 1) y).set j i = insJ l0 i j := by
  have hd : l0.drop j = y :: l0.drop (j + 1) := by
    obtain ⟨h1, h2⟩ := List.getElem?_eq_some_iff.1 hy
    rw [List.drop_eq_getElem_cons h1, h2]
  have ht : l0.take (j + 1) = l0.take j ++ [y] := by rw [List.take_add_one, hy]; rfl
  unfold insJ
  have hlt : (l0.take j).length = j := by rw [List.length_take]; omega
  rw [hd, ht, List.append_assoc, List.set_append_right _ _ (by omega), List.set_append_right _ _ (by omega), hlt, show j + 1 - j = 1 by omega, Nat.sub_self]
  rfl
theorem rowS_get {l : List Nat} {i m j x : Nat} (h : l[j]? = some x) : (rowS l i m)[j]? = some (x : Int) := by
  unfold rowS
  rw [List.getElem?_map, List.getElem?_append_left (List.getElem?_eq_some_iff.1 h).1, h]; rfl
theorem rowS_set {l : List Nat} {i m j x : Nat} (h : j < l.length) : (rowS l i m).set j (x : Int) = rowS (l.set j x) i m := by
  unfold rowS
  rw [← List.set_append_left _ _ h, List.map_set]
theorem rowJ_step {l0 : List Nat} {i j y m : Nat} (hl : l0.length = i) (hj : j < i) (hy : l0[j]? = some y) : ((rowJ l0 i (j + 1) m).set (j + 1) (y : Int)).set j (i : Int) = rowJ l0 i j m := by
  unfold rowJ
  rw [rowS_set (by rw [insJ_len hl (by omega)]; omega), rowS_set (by rw [List.length_set, insJ_len hl (by omega)]; omega), insJ_step hl hj hy]
theorem insJ_perm {l0 : List Nat} {i j : Nat} (hp : l0.Perm (List.range i)) : (insJ l0 i j).Perm (List.range (i + 1)) := by
  unfold insJ
  refine List.perm_middle.trans ?_
  rw [List.take_append_drop, List.range_succ]
  exact (hp.cons i).trans (List.perm_append_singleton i (List.range i)).symm
theorem insJ_srt {h : Nat → Nat} {l0 : List Nat} {i j : Nat} (hs : Srt h l0) (hp : l0.Perm (List.range i)) (hd : ∀ y ∈ l0.drop j, h y < h i) (ht : j = 0 ∨ ∃ y, l0[j - 1]? = some y ∧ ¬ h y < h i) : Srt h (insJ l0 i j) := by
  have hlt : ∀ y ∈ l0, y < i := fun y hy => List.mem_range.1 (hp.mem_iff.1 hy)
  have hsp : Srt h (l0.take j ++ l0.drop j) := by rw [List.take_append_drop]; exact hs
  obtain ⟨s1, s2, s3⟩ := List.pairwise_append.1 hsp
  have hb : ∀ x ∈ l0.take j, bef h x i = true := by
    intro x hx
    have hxi := hlt x (List.mem_of_mem_take hx)
    rcases ht with rfl | ⟨y, hy, hn⟩
    · simp at hx
    · obtain ⟨p, hp1⟩ := List.getElem?_of_mem hx
      rw [List.getElem?_take] at hp1
      split at hp1
      · rename_i hpj
        have hyl := hlt y (List.mem_of_getElem? hy)
        by_cases e : p = j - 1
        · rw [e, hy] at hp1
          obtain rfl := Option.some.inj hp1
          exact bef_iff.2 (by omega)
        · obtain ⟨h1, e1⟩ := List.getElem?_eq_some_iff.1 hp1
          obtain ⟨h2, e2⟩ := List.getElem?_eq_some_iff.1 hy
          have := List.pairwise_iff_getElem.1 hs p (j - 1) h1 h2 (by omega)
          rw [e1, e2] at this
          have := bef_iff.1 this
          exact bef_iff.2 (by omega)
      · cases hp1
  unfold insJ Srt
  refine List.pairwise_append.2 ⟨s1, List.pairwise_cons.2 ⟨fun y hy => bef_iff.2 (.inl (hd y hy)), s2⟩, fun a ha b hb' => ?_⟩
  rcases List.mem_cons.1 hb' with rfl | hb'
  · exact hb a ha
  · exact s3 a ha b hb'
/-- Where each stands in what is sorted. -/
theorem srt_ahead {h : Nat → Nat} {l : List Nat} {m r k : Nat} (hs : Srt h l) (hp : l.Perm (List.range m)) (hr : l[r]? = some k) : k < m ∧ aheadN m h k = r := by
  refine ⟨List.mem_range.1 (hp.mem_iff.1 (List.mem_of_getElem? hr)), ?_⟩
  unfold aheadN
  rw [← (hp.filter (fun j => bef h j k)).length_eq]
  obtain ⟨h1, e1⟩ := List.getElem?_eq_some_iff.1 hr
  have hsplit : l = l.take r ++ k :: l.drop (r + 1) := by rw [← e1, ← List.drop_eq_getElem_cons h1, List.take_append_drop]
  have hs2 := hs
  unfold Srt at hs2
  rw [hsplit] at hs2
  obtain ⟨s1, s2, s3⟩ := List.pairwise_append.1 hs2
  obtain ⟨s4, s5⟩ := List.pairwise_cons.1 s2
  rw [hsplit, List.filter_append, List.filter_cons, List.length_append]
  rw [List.filter_eq_self.2 (fun x hx => s3 x hx k (List.mem_cons_self ..)), if_neg (by
    intro hb; have := bef_iff.1 hb; omega), List.filter_eq_nil_iff.2 (fun x hx hb => by
      have a := bef_iff.1 (s4 x hx)
      have b := bef_iff.1 hb
      omega)]
  rw [List.length_take]
  simp; omega

set_option maxHeartbeats 1000000 in
theorem shcmp_any (V : World) (Bc gc : Nat) (m c a b ha hb : Nat) (hab : a < m ∧ b < m) (hm : m ≤ 1000) (hh : ha ≤ 1000 ∧ hb ≤ 1000) (c0 : V.cell? ⟨Bc, 0, none⟩ = some (.slice (some ⟨gc, 0, none⟩) m c)) (c1 : V.cell? ⟨gc, a, none⟩ = some (.int .i64 (ha : Int))) (c2 : V.cell? ⟨gc, b, none⟩ = some (.int .i64 (hb : Int))) :
    Calls Try.prog 33 #[.int .i64 (a : Int), .int .i64 (b : Int), .pointer (some ⟨Bc, 0, none⟩)] V fun e w' => e = .returned (.int .i64 ((hb : Int) - (ha : Int))) ∧ Still V w' := by
  have h1 : (a : Int) < (m : Int) := by omega
  have h2 : (b : Int) < (m : Int) := by omega
  obtain ⟨h3, h4⟩ := hh
  clear hab
  go_enter Try.func33, Try.ntmps33
  go_wp2_with fail
  go_region
  go_wp2_with fail
  go_ret
  exact ⟨by first | rfl | simp, by first | exact (Turned.refl _ _).drew | exact (Turned.refl _ _).drewN _⟩
end Go.Proofs.Ytlnbgfglpdkifaa

/- The insertion sort of members, and the stable sort, of few. No condition. -/
namespace Go.Proofs.Ytlnbgfglpdkifaa
open Go.RowKit
set_option linter.unusedVariables false
set_option linter.unusedSimpArgs false
set_option maxRecDepth 100000

set_option maxHeartbeats 4000000 in
theorem shins_any {w0 w : World} {g Bc m c : Nat} {h : Nat → Nat} {R : Thing} (hm : m ≤ 8) (hh : ∀ j, h j ≤ 1000) (H : Held w0 w ((intsT (some ⟨g, 0, none⟩) m c (rowS [] 0 m)).sep R))
    (HC : ∀ V xs, Held w0 V ((intsT (some ⟨g, 0, none⟩) m c xs).sep R) → ∀ a b, a < m → b < m → Calls Try.prog 33 #[.int .i64 ((a : Nat) : Int), .int .i64 ((b : Nat) : Int), .pointer (some ⟨Bc, 0, none⟩)] V fun e w' => e = .returned (.int .i64 (((h b : Nat) : Int) - ((h a : Nat) : Int))) ∧ Still V w') :
    Calls Try.prog 36 #[.slice (some ⟨g, 0, none⟩) m c, .int .i64 0, .int .i64 (m : Int), .func (.func 33) #[] #[.pointer (some ⟨Bc, 0, none⟩)]] w fun e w' => e = .returned (.tuple #[]) ∧ ∃ l : List Nat, Srt h l ∧ l.Perm (List.range m) ∧ Held w0 w' ((intsT (some ⟨g, 0, none⟩) m c (l.map (fun (k : Nat) => (k : Int)))).sep R) := by
  have HC := Lib.hid HC
  have HH := Lib.hid hh
  by_cases h0 : m = 0
  · subst h0
    have K0 := Lib.hid H
    clear H hh
    go_enter Try.func36, Try.ntmps36
    go_wp2_with fail
    go_loopw [8] (fun ix wq => ix = .int .i64 1 ∧ wq = w) (fun ix _ => 0)
    case atStart => exact ⟨rfl, rfl⟩
    case round =>
      obtain ⟨rfl, rfl⟩ := hrel
      go_wp2_with fail
      go_end0
      exact ⟨rfl, [], List.Pairwise.nil, List.Perm.refl _, K0.out⟩
  · have K0 := Lib.hid (show Held w0 w ((intsT (some ⟨g, 0, none⟩) m c (rowS [0] 1 m)).sep R) from by
      have e := rowS_start (l0 := []) (i := 0) (m := m) rfl (by omega)
      rw [e] at H; exact H)
    clear H hh
    go_enter Try.func36, Try.ntmps36
    go_wp2_with fail
    go_loopw [8] (fun ix wq => ∃ (i : Nat) (l0 : List Nat), i ≤ m ∧ ix = .int .i64 i ∧ l0.length = i ∧ Srt h l0 ∧ l0.Perm (List.range i) ∧ Held w0 wq ((intsT (some ⟨g, 0, none⟩) m c (rowS l0 i m)).sep R)) (fun ix _ => m - (intOf ix).toNat)
    case atStart => exact ⟨1, [0], by omega, rfl, rfl, List.pairwise_singleton _ _, List.Perm.refl _, K0.out⟩
    case round =>
      clear K0
      obtain ⟨i, l0, hi, rfl, hl, hs, hp, hH⟩ := hrel
      by_cases hlt : i < m
      · have hii : (i : Int) < (m : Int) := by omega
        rw [rowS_start hl hlt] at hH
        have K1 := Lib.hid hH
        have HS := Lib.hid hs
        have HP := Lib.hid hp
        have HL := Lib.hid hl
        have h64 : (i : Int) < 100 := by omega
        have HDr := Lib.hid (show ∀ y ∈ l0.drop i, h y < h i from fun y hy => by rw [List.drop_of_length_le (by rw [hl]; exact Nat.le_refl _)] at hy; cases hy)
        clear hH hs hp hl
        go_wp2_with fail
        go_loopw [9] (fun jx wq => ∃ j : Nat, j ≤ i ∧ jx = .int .i64 j ∧ (∀ y ∈ l0.drop j, h y < h i) ∧ Held w0 wq ((intsT (some ⟨g, 0, none⟩) m c (rowJ l0 i j m)).sep R)) (fun jx _ => (intOf jx).toNat)
        case atStart => exact ⟨i, Nat.le_refl _, rfl, HDr.out, K1.out⟩
        case round =>
          clear K1
          obtain ⟨j, hj, rfl, hd, hH⟩ := hrel
          by_cases hj0 : j = 0
          · subst hj0
            have K2 := Lib.hid (show Held w0 wr.drew ((intsT (some ⟨g, 0, none⟩) m c (rowS (insJ l0 i 0) (i + 1) m)).sep R) from hH.still (Turned.refl _ _).drew)
            have HS2 := Lib.hid (insJ_srt HS.out HP.out hd (.inl rfl))
            clear hH hd
            go_wp2_with fail
            go_region
            go_wp2_with fail
            go_roundw
            case rel => exact ⟨i + 1, insJ l0 i 0, by omega, by go_num, insJ_len HL.out (by omega), HS2.out, insJ_perm HP.out, K2.out⟩
            case measure => simp [intOf]; omega
          · obtain ⟨q, hq⟩ : ∃ q, j = q + 1 := ⟨j - 1, by omega⟩
            obtain ⟨y, hy⟩ := get_some (l := l0) (i := q) (by rw [HL.out]; omega)
            have hym : y < m := by have := List.mem_range.1 (HP.out.mem_iff.1 (List.mem_of_getElem? hy)); omega
            have KD := Lib.hid (hH.still (Turned.refl _ _).drew)
            have hj1 : 0 < j := by omega
            have hjj : (0 : Int) < (j : Int) := by omega
            have hj00 : (0 : Int) ≤ (j : Int) := by omega
            have hjm : (j : Int) < (m : Int) := by omega
            have hqm : (q : Int) < (m : Int) := by omega
            have hqz : (0 : Int) ≤ (q : Int) := by omega
            have hwr : IntKind.i64.wrap ((j : Int) - 1) = (q : Int) := by simp [IntKind.wrap, IntKind.signed, IntKind.bits]; omega
            have g1 : (rowJ l0 i j m)[j]? = some ((i : Nat) : Int) := rowS_get (insJ_at HL.out hj)
            have g2 : (rowJ l0 i j m)[q]? = some ((y : Nat) : Int) := by rw [hq]; exact rowS_get (insJ_prev HL.out (by omega) hy)
            have HG := Lib.hid (fun V (k : Held w0 V ((intsT (some ⟨g, 0, none⟩) m c (rowJ l0 i j m)).sep R)) => And.intro (held_put k g1) (held_put k g2))
            have d1 := (HG.out _ KD.out).1.1
            have d2 := (HG.out _ KD.out).2.1
            have HY := Lib.hid hy
            have HD := Lib.hid hd
            have y1 := HH.out y
            have y2 := HH.out i
            have HCm := Lib.hid (HC.out _ _ KD.out i y hlt hym)
            have HQ := Lib.hid hq
            obtain ⟨vi, hvi⟩ : ∃ v, v = h i := ⟨_, rfl⟩
            obtain ⟨vy, hvy⟩ : ∃ v, v = h y := ⟨_, rfl⟩
            have HVi := Lib.hid hvi
            have HVy := Lib.hid hvy
            rw [← hvi] at y2 HCm
            rw [← hvy] at y1 HCm
            clear hH hd hy g1 g2 hvi hvy hq
            go_wp2_with fail
            go_region_held3 (fun V => V.cell? ⟨g, j, none⟩ = some (.int .i64 ((i : Nat) : Int)) ∧ V.cell? ⟨g, q, none⟩ = some (.int .i64 ((y : Nat) : Int))) (first | exact ⟨by assumption, by assumption⟩ | go_keep)
              (first | (go_at_call 33; ((with_reducible refine HCm.out.mono ?_)); rintro e w5 ⟨rfl, hs⟩; have K5 := Lib.hid (KD.out.still hs); have d3 := (HG.out _ K5.out).1.1; have d4 := (HG.out _ K5.out).2.1; clear hs KD))
            by_cases hv : vy < vi
            · have hvv : (vy : Int) - (vi : Int) < 0 := by omega
              have K6 := Lib.hid (K5.out.still (Turned.refl _ _).drew)
              obtain ⟨⟨x1, x2, x3⟩, x4, x5, x6⟩ := HG.out _ K6.out
              have hset : ((rowJ l0 i j m).set j ((y : Nat) : Int))[q]? = some ((y : Nat) : Int) := by
                rw [List.getElem?_set_ne (by have := HQ.out; omega), HQ.out]
                exact rowS_get (insJ_prev HL.out (by have := HQ.out; omega) HY.out)
              obtain ⟨z1, z2, z3⟩ := held_put (x3 ((y : Nat) : Int)) hset
              have K7 := Lib.hid (show Held w0 ((w5.drew.setCell ⟨g, j, none⟩ (.int .i64 (y : Int))).setCell ⟨g, q, none⟩ (.int .i64 (i : Int))) ((intsT (some ⟨g, 0, none⟩) m c (rowJ l0 i q m)).sep R) from by
                have := z3 ((i : Nat) : Int)
                rw [HQ.out] at this
                rw [rowJ_step HL.out (by have := HQ.out; omega) HY.out] at this
                rw [HQ.out]
                exact this)
              have HD2 := Lib.hid (show ∀ y' ∈ l0.drop q, h y' < h i from by
                obtain ⟨h1, h2⟩ := List.getElem?_eq_some_iff.1 HY.out
                rw [List.drop_eq_getElem_cons h1, h2]
                intro y' hy'
                rcases List.mem_cons.1 hy' with rfl | hy'
                · rw [← HVi.out, ← HVy.out]; exact hv
                · exact HD.out y' (by rw [HQ.out]; exact hy'))
              have hne : j ≠ q := by have := HQ.out; omega
              have f1 := (HG.out _ K5.out).1.2.1
              have f2 := (HG.out _ K5.out).2.2.1
              clear x3 x6 z3 hset K6
              go_wp2_with fail
              go_region
              go_wp2_with fail
              go_roundw
              case rel => exact ⟨q, by have := HQ.out; omega, by go_num, HD2.out, K7.out⟩
              case measure => have := HQ.out; simp [intOf]; omega
            · have hvv : ¬ (vy : Int) - (vi : Int) < 0 := by omega
              have HS2 := Lib.hid (insJ_srt HS.out HP.out HD.out (.inr ⟨y, by rw [HQ.out, Nat.add_sub_cancel]; exact HY.out, by rw [← HVi.out, ← HVy.out]; exact hv⟩))
              go_wp2_with fail
              go_roundw
              case rel => exact ⟨i + 1, insJ l0 i j, by omega, by go_num, insJ_len HL.out hj, HS2.out, insJ_perm HP.out, K5.out⟩
              case measure => simp [intOf]; omega
      · obtain rfl : i = m := by omega
        have hf := rowS_end (l := l0) (m := i)
        rw [hf] at hH
        have K2 := Lib.hid hH
        have HS := Lib.hid hs
        have HP := Lib.hid hp
        clear hH hs hp
        go_wp2_with fail
        go_end0
        exact ⟨rfl, l0, HS.out, HP.out, K2.out⟩
end Go.Proofs.Ytlnbgfglpdkifaa

/- The stable sort, of few. No condition. -/
namespace Go.Proofs.Ytlnbgfglpdkifaa
open Go.RowKit
set_option linter.unusedVariables false
set_option linter.unusedSimpArgs false
set_option maxRecDepth 100000

set_option maxHeartbeats 2000000 in
theorem shstc_any {w0 w : World} {g Bc m c : Nat} {h : Nat → Nat} {R : Thing} (hm : m ≤ 8) (hh : ∀ j, h j ≤ 1000) (H : Held w0 w ((intsT (some ⟨g, 0, none⟩) m c (rowS [] 0 m)).sep R))
    (HC : ∀ V xs, Held w0 V ((intsT (some ⟨g, 0, none⟩) m c xs).sep R) → ∀ a b, a < m → b < m → Calls Try.prog 33 #[.int .i64 ((a : Nat) : Int), .int .i64 ((b : Nat) : Int), .pointer (some ⟨Bc, 0, none⟩)] V fun e w' => e = .returned (.int .i64 (((h b : Nat) : Int) - ((h a : Nat) : Int))) ∧ Still V w') :
    Calls Try.prog 35 #[.slice (some ⟨g, 0, none⟩) m c, .int .i64 (m : Int), .func (.func 33) #[] #[.pointer (some ⟨Bc, 0, none⟩)]] w fun e w' => e = .returned (.tuple #[]) ∧ ∃ l : List Nat, Srt h l ∧ l.Perm (List.range m) ∧ Held w0 w' ((intsT (some ⟨g, 0, none⟩) m c (l.map (fun (k : Nat) => (k : Int)))).sep R) := by
  have HI := Lib.hid (shins_any hm hh H HC)
  have h1 : ¬ (20 : Int) ≤ (m : Int) := by omega
  have h2 : ¬ (20 : Int) < (m : Int) := by omega
  clear H HC
  go_enter Try.func35, Try.ntmps35
  go_wp2_with fail
  go_loopw [7, 8] (fun ax bx wq => ax = .int .i64 0 ∧ bx = .int .i64 20 ∧ wq = w) (fun _ _ _ => 0)
  case atStart => exact ⟨rfl, rfl, rfl⟩
  case round =>
    obtain ⟨rfl, rfl, rfl⟩ := hrel
    go_wp2_with (go_at_call 36; ((with_reducible refine HI.out.mono ?_)); rintro e w5 ⟨rfl, hl⟩; have HL := Lib.hid hl; clear hl)
    go_loopw [6] (fun bx wq => bx = .int .i64 20 ∧ wq = w5) (fun _ _ => 0)
    case atStart => exact ⟨rfl, rfl⟩
    case round =>
      obtain ⟨rfl, rfl⟩ := hrel
      go_wp2_with fail
      go_end0
      exact ⟨rfl, HL.out⟩
set_option maxHeartbeats 2000000 in
theorem shsort_any {w0 w : World} {g Bc m c : Nat} {h : Nat → Nat} {R : Thing} (hm : m ≤ 8) (hh : ∀ j, h j ≤ 1000) (H : Held w0 w ((intsT (some ⟨g, 0, none⟩) m c (rowS [] 0 m)).sep R))
    (HC : ∀ V xs, Held w0 V ((intsT (some ⟨g, 0, none⟩) m c xs).sep R) → ∀ a b, a < m → b < m → Calls Try.prog 33 #[.int .i64 ((a : Nat) : Int), .int .i64 ((b : Nat) : Int), .pointer (some ⟨Bc, 0, none⟩)] V fun e w' => e = .returned (.int .i64 (((h b : Nat) : Int) - ((h a : Nat) : Int))) ∧ Still V w') :
    Calls Try.prog 32 #[.slice (some ⟨g, 0, none⟩) m c, .func (.func 33) #[] #[.pointer (some ⟨Bc, 0, none⟩)]] w fun e w' => e = .returned (.tuple #[]) ∧ ∃ l : List Nat, Srt h l ∧ l.Perm (List.range m) ∧ Held w0 w' ((intsT (some ⟨g, 0, none⟩) m c (l.map (fun (k : Nat) => (k : Int)))).sep R) := by
  have HI := Lib.hid (shstc_any hm hh H HC)
  clear H HC
  go_enter Try.func32, Try.ntmps32
  go_wp2_with (go_at_call 35; ((with_reducible refine HI.out.mono ?_)); rintro e w5 ⟨rfl, hl⟩; have HL := Lib.hid hl; clear hl)
  go_end0
  exact ⟨rfl, HL.out⟩
end Go.Proofs.Ytlnbgfglpdkifaa

/- Members by how many places they had: what the program answers. No condition but that there are few. -/
namespace Go.Proofs.Ytlnbgfglpdkifaa
open Go.RowKit Go.Shelf
attribute [local go_sem] Oper.semAt_some
set_option linter.unusedVariables false
set_option linter.unusedSimpArgs false
set_option maxRecDepth 100000

/-- How many places the member that stands at k had. -/
def hadN (F ms : List Int) (k : Nat) : Nat := (hadTo F (ms.getD k 0) F.length).length
def OutMost (w : World) (h : Nat → Nat) (m : Nat) (e : Ending) (w' : World) : Prop := ∃ a c, ∃ l : List Nat, e = .returned (.slice a m c) ∧ Srt h l ∧ l.Perm (List.range m) ∧ w'.ownsRow w.heap.size 3 1 (.slice a m c) m (ints (l.map (fun (k : Nat) => (k : Int)))) ∧ Still w w'

theorem blk3 (w : World) (xs ys zs : List Value) (tx ty tz : TypeId) :
    Blk (((w.alloc (.cells xs.toArray tx)).alloc (.cells ys.toArray ty)).alloc (.cells zs.toArray tz)).drew w.heap.size xs tx ∧ Blk (((w.alloc (.cells xs.toArray tx)).alloc (.cells ys.toArray ty)).alloc (.cells zs.toArray tz)).drew (w.heap.size + 1) ys ty ∧
    Blk (((w.alloc (.cells xs.toArray tx)).alloc (.cells ys.toArray ty)).alloc (.cells zs.toArray tz)).drew (w.heap.size + 1 + 1) zs tz ∧ Still w (((w.alloc (.cells xs.toArray tx)).alloc (.cells ys.toArray ty)).alloc (.cells zs.toArray tz)).drew := by
  have h2 := (Blk.new (w.alloc (.cells xs.toArray tx)) ys ty).alloc (.cells zs.toArray tz)
  have h3 := Blk.new ((w.alloc (.cells xs.toArray tx)).alloc (.cells ys.toArray ty)) zs tz
  rw [World.size_alloc] at h2 h3
  rw [World.size_alloc] at h3
  have hd : ∀ V : World, Turned (fun _ => False) V V.drew := fun V => (Turned.refl _ _).drew
  exact ⟨(((Blk.new w xs tx).alloc _).alloc _).turned (hd _) (fun h => h), h2.turned (hd _) (fun h => h), h3.turned (hd _) (fun h => h), ((((Turned.refl _ _).alloc _).alloc _).alloc _).drew⟩
theorem most_held {w V : World} {g gc B m : Nat} (hm : m ≤ 1000) (hs : Still w V) (b1 : Blk V g (ints (List.replicate m 0)) 3) (b2 : Blk V gc (ints (List.replicate m 0)) 3) (b3 : Blk V B [.slice (some ⟨gc, 0, none⟩) m m] 22)
    (n1 : g ≠ gc) (n2 : g ≠ B) (n3 : gc ≠ B) (l1 : w.heap.size ≤ g) (l2 : w.heap.size ≤ gc) (l3 : w.heap.size ≤ B) :
    Held w V ((intsT (some ⟨g, 0, none⟩) m m (List.replicate m 0)).sep ((intsT (some ⟨gc, 0, none⟩) m m (List.replicate m 0)).sep (blkT B [.slice (some ⟨gc, 0, none⟩) m m] 22))) := by
  have row : ∀ {x : Nat}, Blk V x (ints (List.replicate m 0)) 3 → (intsT (some ⟨x, 0, none⟩) m m (List.replicate m 0)).at_ V (· = x) := fun hb =>
    ⟨owm_of_parts (xs := ints (List.replicate m 0)) (r := []) (by rw [List.append_nil]; exact hb) (by rw [ints_length]; simp) (by rw [List.append_nil, ints_length]; simp) (Nat.le_refl _) (by unfold maxLen; omega) (Nat.zero_le _),
      fun k => ⟨fun h => by rw [h]; rfl, fun h => by cases h; rfl⟩⟩
  refine ⟨fun k => k = g ∨ (k = gc ∨ k = B), ⟨(· = g), fun k => k = gc ∨ k = B, row b1, ⟨(· = gc), (· = B), row b2, ⟨b3, fun _ => Iff.rfl⟩, fun k e1 e2 => n3 (by omega), fun _ => Iff.rfl⟩, fun k e1 e2 => by omega, fun _ => Iff.rfl⟩, fun k hk => by omega, hs⟩

def hC (h : Nat → Nat) (i e : Nat) : Nat → Nat := fun j => if j < i then h j else if j = i then e else 0
/-- What lies in memory when i members have been looked at, and the next one's e places. -/
abbrev MT (g gc B m : Nat) (h : Nat → Nat) (i e : Nat) (Ds : List Nat) : Thing := (markT Ds).sep ((intsT (some ⟨g, 0, none⟩) m m (mix ((List.range m).map (fun (k : Nat) => (k : Int))) (List.replicate m 0) i)).sep ((intsT (some ⟨gc, 0, none⟩) m m (cL m (hC h i e))).sep (blkT B [.slice (some ⟨gc, 0, none⟩) m m] 22)))
abbrev MI (g gc B bi m : Nat) (h : Nat → Nat) (i e : Nat) (Ds : List Nat) : Thing := (markT Ds).sep ((intsT (some ⟨gc, 0, none⟩) m m (cL m (hC h i e))).sep ((intsT (some ⟨g, 0, none⟩) m m (mix ((List.range m).map (fun (k : Nat) => (k : Int))) (List.replicate m 0) (i + 1))).sep ((blkT bi [.int .i64 (i : Int)] 3).sep (blkT B [.slice (some ⟨gc, 0, none⟩) m m] 22))))
theorem mt_zero {w V : World} {g gc B m : Nat} {h : Nat → Nat} (H : Held w V ((intsT (some ⟨g, 0, none⟩) m m (List.replicate m 0)).sep ((intsT (some ⟨gc, 0, none⟩) m m (List.replicate m 0)).sep (blkT B [.slice (some ⟨gc, 0, none⟩) m m] 22)))) : Held w V (MT g gc B m h 0 0 []) := by
  have e : hC h 0 0 = fun _ => 0 := by
    funext j; unfold hC
    rw [if_neg (by omega)]; split <;> rfl
  have := H.mark.swap
  unfold MT
  rw [mix_zero, e, cL_zero]
  exact this

set_option maxHeartbeats 4000000 in
theorem shmost_any (w : World) (ao bo : Option Addr) (ms F : List Int) (m n c1 c2 : Nat) (hm : m = ms.length) (hn : n = F.length) (h1 : m ≤ 8) (h2 : n ≤ 1000) (hA : NumsAt w ao ms) (hB : NumsAt w bo F) :
    Calls Try.prog 29 #[.slice ao m c1, .slice bo n c2] w (OutMost w (hadN F ms) m) := by
  have HA := Lib.hid hA
  have HB := Lib.hid hB
  have HM := Lib.hid hm
  have HN := Lib.hid hn
  obtain ⟨ti, fi, hz0, hz1, hz2⟩ := info_parts infoIntW
  have hmk := fun W : World => run_make (P := Try.prog) W 22 3 ti _ Try.underlying22 fi hz0 .i64 .i64 (m : Int) (m : Int) (Int.natCast_nonneg m) (Int.le_refl _) (by rw [hz2]; omega) (by omega)
  simp only [hz1, Int.toNat_natCast, Nat.mul_one, show Value.cells (.int .i64 0) = #[.int .i64 0] from rfl, madeN] at hmk
  clear hA hB hm hn fi hz0 hz1 hz2
  refine (callsIn_wide (n := 9)).1 (callsIn_of_wp_marks Try.func29 rfl trivial ?_ rfl)
  simp only [Try.ntmps29, List.size_toArray, List.length_cons, List.length_nil, Nat.reduceAdd, Nat.reduceSub, Array.replicate_succ, Array.replicate_zero, List.push_toArray, List.append_toArray, List.nil_append, List.cons_append]
  refine wpIn_wide.2 ?_
  go_upto_region 1 with fail
  go_cut [5, 6] from 9 to 14 (fun s5 s6 wx => ∃ g gc B, s5 = .slice (some ⟨g, 0, none⟩) m m ∧ s6 = .pointer (some ⟨B, 0, none⟩) ∧ Held w wx ((intsT (some ⟨g, 0, none⟩) m m (List.replicate m 0)).sep ((intsT (some ⟨gc, 0, none⟩) m m (List.replicate m 0)).sep (blkT B [.slice (some ⟨gc, 0, none⟩) m m] 22))))
  case first =>
    go_region
    all_goals (go_wp2_with fail; go_meet)
    · obtain ⟨b1, b2, b3, hs⟩ := blk3 w (ints (List.replicate m 0)) (ints (List.replicate m 0)) [.slice (some ⟨w.heap.size + 1, 0, none⟩) m m] 3 3 22
      exact ⟨_, _, _, rfl, rfl, most_held (by omega) hs b1 b2 b3 (by omega) (by omega) (by omega) (by omega) (by omega) (by omega)⟩
    · obtain ⟨b1, b2, b3, hs⟩ := blk3 w (ints (List.replicate m 0)) [.slice (some ⟨w.heap.size + 1 + 1, 0, none⟩) m m] (ints (List.replicate m 0)) 3 22 3
      exact ⟨_, _, _, rfl, rfl, most_held (by omega) hs b1 b3 b2 (by omega) (by omega) (by omega) (by omega) (by omega) (by omega)⟩
    · obtain ⟨b1, b2, b3, hs⟩ := blk3 w (ints (List.replicate m 0)) (ints (List.replicate m 0)) [.slice (some ⟨w.heap.size, 0, none⟩) m m] 3 3 22
      exact ⟨_, _, _, rfl, rfl, most_held (by omega) hs b2 b1 b3 (by omega) (by omega) (by omega) (by omega) (by omega) (by omega)⟩
    · obtain ⟨b1, b2, b3, hs⟩ := blk3 w (ints (List.replicate m 0)) [.slice (some ⟨w.heap.size, 0, none⟩) m m] (ints (List.replicate m 0)) 3 22 3
      exact ⟨_, _, _, rfl, rfl, most_held (by omega) hs b3 b1 b2 (by omega) (by omega) (by omega) (by omega) (by omega) (by omega)⟩
    · obtain ⟨b1, b2, b3, hs⟩ := blk3 w [.slice (some ⟨w.heap.size + 1 + 1, 0, none⟩) m m] (ints (List.replicate m 0)) (ints (List.replicate m 0)) 22 3 3
      exact ⟨_, _, _, rfl, rfl, most_held (by omega) hs b2 b3 b1 (by omega) (by omega) (by omega) (by omega) (by omega) (by omega)⟩
    · obtain ⟨b1, b2, b3, hs⟩ := blk3 w [.slice (some ⟨w.heap.size + 1, 0, none⟩) m m] (ints (List.replicate m 0)) (ints (List.replicate m 0)) 22 3 3
      exact ⟨_, _, _, rfl, rfl, most_held (by omega) hs b3 b2 b1 (by omega) (by omega) (by omega) (by omega) (by omega) (by omega)⟩
  case rest =>
    rename_i K aK
    obtain ⟨g, gc, B, rfl, rfl, hK⟩ := hcut
    have KH := Lib.hid (mt_zero (h := hadN F ms) hK)
    clear hK hmk
    refine aK _ _ ((wpIn_wide (n := 9)).1 ?_)
    clear aK
    gi_wp2
    refine wpIn_loop (fun a wq => ∃ (i : Nat) (Ds : List Nat) (v7 v8 v18 v19 v20 v21 v22 v23 v24 v25 v26 v27 v28 v29 v30 v31 v32 v33 v34 v35 v36 : Value), a = { tmps := #[.slice ao m c1, .slice bo n c2, undef, undef, .slice none 0 0, .slice (some ⟨g, 0, none⟩) m m, .pointer (some ⟨B, 0, none⟩), v7, v8, u9, u10, u11, u12, u13, u14, .slice ao m c1, .int .i64 (m : Int), .int .i64 (i : Int), v18, v19, v20, v21, v22, v23, v24, v25, v26, v27, v28, v29, v30, v31, v32, v33, v34, v35, v36, undef, undef, undef, undef], defers := Ds.map mkD } ∧ i ≤ m ∧ Held w wq (MT g gc B m (hadN F ms) i 0 Ds)) (fun a _ => m - (intOf (a.tmps.getD 17 undef)).toNat) ?_ ?_
    · exact ⟨0, [], _, _, _, _, _, _, _, _, _, _, _, _, _, _, _, _, _, _, _, _, _, rfl, Nat.zero_le _, KH.out⟩
    · rintro a wq ⟨i, Ds, v7, v8, v18, v19, v20, v21, v22, v23, v24, v25, v26, v27, v28, v29, v30, v31, v32, v33, v34, v35, v36, rfl, hi, hH⟩
      clear KH
      dsimp only
      by_cases hlt : i < m
      · obtain ⟨mk, hmk⟩ := get_some (l := ms) (i := i) (by rw [← HM.out]; exact hlt)
        obtain ⟨ba, oa, rfl, ca⟩ := (HA.out.still hH.ground) i mk hmk
        have hii : (i : Int) < (m : Int) := by omega
        have hgd : ms.getD i 0 = mk := by rw [List.getD_eq_getElem?_getD, hmk]; rfl
        obtain ⟨V1, hV1⟩ : ∃ V1, V1 = wq.alloc (.cells #[.int .i64 (i : Int)] 3) := ⟨_, rfl⟩
        obtain ⟨bi, hbi⟩ : ∃ bi, bi = wq.heap.size := ⟨_, rfl⟩
        have K1 : Held w V1 ((MT g gc B m (hadN F ms) i 0 Ds).sep (blkT bi [.int .i64 (i : Int)] 3)) := by rw [hV1, hbi]; exact hH.box [.int .i64 (i : Int)] 3
        have K2 := ((K1.swap.im un1).turn)
        obtain ⟨s1, s2, s3⟩ := held_put K2 (u := 0) (j := i) (by rw [mix_get (by simp) (by simp; exact hlt), if_neg (Nat.lt_irrefl _), List.getElem?_replicate, if_pos hlt])
        have K3 := s3 (i : Int)
        rw [mix_set (by simp) (by rw [List.getElem?_map, List.getElem?_range hlt]; rfl)] at K3
        have cb := K1.snd.blk.cell (o := 0) (v := .int .i64 (i : Int)) rfl
        obtain ⟨V2, hV2⟩ : ∃ V2, V2 = V1.setCell ⟨g, i, none⟩ (.int .i64 (i : Int)) := ⟨_, rfl⟩
        rw [← hV2] at K3
        have HE := Lib.hid (shhad_any bo n c2 mk V2)
        have hB2 := HB.out.still K3.ground
        have HR := Lib.hid (evH_new (n := n) (c := c2) (x := mk) hB2)
        have HIt := Lib.hid (shhad_it bo n c2 F mk HN.out h2 V2.heap.size (V2.heap.size + 1)).all
        have HGl := Lib.hid hgd
        have hf1 : Fence.wide.fn 30 := trivial
        have ht3 : Still V2 ((V2.alloc (.cells #[.slice bo n c2] 22)).alloc (.cells #[.int .i64 mk] 3)) := ((Turned.refl _ _).alloc _).alloc _
        have K3' : Held w V2 (MI g gc B bi m (hadN F ms) i 0 Ds) := (((K3.im un1).turn).im un2).im un1
        obtain ⟨Q0, hI0, hlo, hst2⟩ := K3'
        have hlt0 := Thing.lt _ hI0
        have HI0 := Lib.hid (Thing.keep _ hI0 ht3 (fun _ _ h => h))
        have HLo := Lib.hid hlo
        have HSt := Lib.hid (hst2.trans ht3)
        have HD := Lib.hid (show ∀ k, Q0 k → ¬ (k = V2.heap.size ∨ k = V2.heap.size + 1 ∨ (F ≠ [] ∧ ∃ x, bo = some x ∧ x.block = k)) from by
          intro k hk hk2
          have hkl := hlt0 k hk
          have hkb := hlo k hk
          rcases hk2 with h | h | h
          · omega
          · omega
          · have := nums_lt HB.out h; omega)
        rw [hV1] at s1 s2 cb hV2
        have HV2 := Lib.hid hV2
        rw [hbi] at cb
        have HBi := Lib.hid hbi
        clear hH K1 K2 K3 s3 hV1 hV2 ht3 hbi hB2 hI0 hlo hst2 hlt0 hgd hmk
        gi_wp2_with (gi_at_call 30; rw [← HV2.out]; ((with_reducible refine (callsIn_wide.2 HE.out).mono ?_)); rintro e w2 ⟨rfl, rfl⟩)
        rw [← HBi.out]
        clear HV2 s1 s2 cb ca
        refine loopT_outerE rfl (enters_of Try.func34 (by kernel_rfl) rfl) HIt.out (by exact fun _ => rfl) (fun e => MI g gc B bi m (hadN F ms) i e Ds) HR.out HI0.out HD.out ?_ ?_
        · rintro x
          apply Exists.intro
          apply And.intro
          · intro l1 V K hK
            dsimp only [encH16]
            gi_wp2
            exact hK
          · intro l1 e V Q' hr hl1 hx hI hQl hsk
            have hen : e ≤ 1000 := by
              have := (List.getElem?_eq_some_iff.1 hx).1
              have := hadTo_le F mk n
              omega
            have S0 := Sit.start hI
            have cB := (S0.snd.snd.snd.snd.imp (B := blkT B [.slice (some ⟨gc, 0, none⟩) m m] 22) (fun h => h))
            obtain ⟨U1, ⟨cB, _⟩, _⟩ := cB
            have cB := cB.cell (o := 0) (v := .slice (some ⟨gc, 0, none⟩) m m) rfl
            obtain ⟨U2, ⟨cI, _⟩, _⟩ := S0.snd.snd.snd.drop
            have cI := cI.cell (o := 0) (v := .int .i64 (i : Int)) rfl
            obtain ⟨s1, s2, s3⟩ := sit_ints S0.turn (u := (e : Int)) (j := i) (by rw [cL_get _ hlt]; unfold hC; rw [if_neg (Nat.lt_irrefl _), if_pos rfl])
            have HF := Lib.hid (show Goes (MI g gc B bi m (hadN F ms) i (e + 1) Ds) Q' V (V.setCell ⟨gc, i, none⟩ (.int .i64 ((e : Int) + 1))) from by
              have h := s3 ((e : Int) + 1)
              rw [show ((e : Int) + 1) = ((hC (hadN F ms) i (e + 1) i : Nat) : Int) from by unfold hC; rw [if_neg (Nat.lt_irrefl _), if_pos rfl]; rfl, cL_set hlt (d := hC (hadN F ms) i (e + 1)) (fun j _ hj => by unfold hC; simp [hj])] at h
              rw [show ((hC (hadN F ms) i (e + 1) i : Nat) : Int) = (e : Int) + 1 from by unfold hC; rw [if_neg (Nat.lt_irrefl _), if_pos rfl]; rfl] at h
              exact h.turn.goes)
            clear hr hl1 hx hI hQl hsk S0 s3
            gi_wp2
            exact HF.out
        · intro D V Q' hD hK hQD hI hsk
          have K7 := Held.loop' HLo.out HSt.out hsk hD hK hQD hI
          have K8 := Lib.hid (show Held w V (MT g gc B m (hadN F ms) (i + 1) 0 (D :: Ds)) from by
            have e : cL m (hC (hadN F ms) i (hadTo F mk n).length) = cL m (hC (hadN F ms) (i + 1) 0) := cL_congr fun j _ => by
              unfold hC
              by_cases h1 : j < i
              · rw [if_pos h1, if_pos (by omega)]
              · rw [if_neg h1]
                by_cases h2 : j = i
                · subst h2
                  rw [if_pos rfl, if_pos (by omega)]
                  unfold hadN
                  rw [HGl.out, HN.out]
                · rw [if_neg h2, if_neg (by omega)]; split <;> rfl
            have := (((((K7.im un2).im un1).turn).snd).im un1)
            rw [e] at this
            exact this)
          clear hK hQD hI hsk K7
          gi_wp2
          refine ⟨⟨i + 1, D :: Ds, _, _, _, _, _, _, _, _, _, _, _, _, _, _, _, _, _, _, _, _, _, rfl, by omega, K8.out⟩, ?_⟩
          simp [intOf]; omega
      · obtain rfl : i = m := by omega
        have hh : ∀ j, hadN F ms j ≤ 1000 := fun j => by
          unfold hadN
          have := hadTo_le F (ms.getD j 0) F.length
          have := HN.out
          omega
        have H0 : Held w wq ((intsT (some ⟨g, 0, none⟩) i i (rowS [] 0 i)).sep ((markT Ds).sep ((intsT (some ⟨gc, 0, none⟩) i i (cL i (hadN F ms))).sep (blkT B [.slice (some ⟨gc, 0, none⟩) i i] 22)))) := by
          have e : cL i (hC (hadN F ms) i 0) = cL i (hadN F ms) := cL_congr fun j hj => by unfold hC; rw [if_pos hj]
          have e2 := mix_all (a := (List.range i).map (fun (k : Nat) => (k : Int))) (b := List.replicate i (0 : Int)) (by simp)
          rw [List.length_replicate] at e2
          unfold MT at hH
          rw [e, e2] at hH
          rw [rowS_zero]
          exact hH.turn
        have HSo := Lib.hid (shsort_any h1 hh H0 (fun V xs hV a b ha hb => by
          have hr := hV.snd.snd
          obtain ⟨_, _, _⟩ := held_put hr (cL_get (hadN F ms) ha)
          exact shcmp_any V B gc i i a b (hadN F ms a) (hadN F ms b) ⟨ha, hb⟩ (by omega) ⟨hh a, hh b⟩ (hr.snd.blk.cell rfl) (held_put hr (cL_get (hadN F ms) ha)).1 (held_put hr (cL_get (hadN F ms) hb)).1))
        have hf2 : Fence.wide.fn 32 := trivial
        clear hH H0 hh
        gi_wp2_with (gi_at_call 32; ((with_reducible refine (callsIn_wide.2 HSo.out).mono ?_)); rintro e w5 ⟨rfl, l, hs, hp, hK⟩; have HS := Lib.hid hs; have HP := Lib.hid hp; have K9 := Lib.hid (show Held w w5 (((intsT (some ⟨g, 0, none⟩) i i (l.map (fun (k : Nat) => (k : Int)))).sep ((intsT (some ⟨gc, 0, none⟩) i i (cL i (hadN F ms))).sep (blkT B [.slice (some ⟨gc, 0, none⟩) i i] 22))).sep (markT Ds)) from hK.turn.swap); clear hs hp hK)
        refine leaves_marks (by simp) K9.out (fun w' hw => ⟨_, results_tmp rfl _ _ _, ?_⟩)
        obtain ⟨h3, h4⟩ := ow_raise hw.drop
        exact ⟨_, _, l, rfl, HS.out, HP.out, h3, h4⟩
end Go.Proofs.Ytlnbgfglpdkifaa

/- Quotas: what the program answers. No condition but that there are few members. -/
namespace Go.Proofs.Ytlnbgfglpdkifaa
open Go.RowKit
set_option linter.unusedVariables false
set_option linter.unusedSimpArgs false
set_option maxRecDepth 100000

def qC (q : Nat → Nat) (l : List Nat) (r : Nat) : Nat → Nat := fun j => if j ∈ l.take r then q j else 0
theorem qC_zero (q : Nat → Nat) (l : List Nat) : qC q l 0 = fun _ => 0 := by funext j; unfold qC; rw [if_neg (by simp)]
theorem qC_step {q : Nat → Nat} {l : List Nat} {r k j : Nat} (h : l[r]? = some k) (hj : j ≠ k) : qC q l r j = qC q l (r + 1) j := by
  unfold qC
  have e : l.take (r + 1) = l.take r ++ [k] := by rw [List.take_add_one, h]; rfl
  by_cases hm : j ∈ l.take r
  · rw [if_pos hm, if_pos (by rw [e]; exact List.mem_append.2 (.inl hm))]
  · rw [if_neg hm, if_neg (by rw [e]; intro h1; rcases List.mem_append.1 h1 with h1 | h1; exact hm h1; exact hj (List.mem_singleton.1 h1))]
theorem qC_at {q : Nat → Nat} {l : List Nat} {r k : Nat} (h : l[r]? = some k) : qC q l (r + 1) k = q k := by
  unfold qC
  rw [if_pos]
  rw [List.take_add_one, h]
  exact List.mem_append.2 (.inr (List.mem_singleton.2 rfl))

set_option maxHeartbeats 2000000 in
theorem shquo_any (w : World) (ao bo : Option Addr) (ms F : List Int) (m n c1 c2 : Nat) (hm : m = ms.length) (hn : n = F.length) (h1 : m ≤ 8) (h2 : n ≤ 1000) (hA : NumsAt w ao ms) (hB : NumsAt w bo F) :
    Calls Try.prog 21 #[.slice ao m c1, .slice bo n c2] w (OutNums w (cL m (quotaN n m (hadN F ms))) m) := by
  have HMo := Lib.hid (fun V (hs : Still w V) => shmost_any V ao bo ms F m n c1 c2 hm hn h1 h2 (hA.still hs) (hB.still hs))
  obtain ⟨h, hh⟩ : ∃ h, h = hadN F ms := ⟨_, rfl⟩
  rw [← hh] at HMo
  rw [← hh]
  obtain ⟨ti, fi, hz0, hz1, hz2⟩ := info_parts infoIntW
  have hmk := fun W : World => run_make (P := Try.prog) W 22 3 ti _ Try.underlying22 fi hz0 .i64 .i64 (m : Int) (m : Int) (Int.natCast_nonneg m) (Int.le_refl _) (by rw [hz2]; omega) (by omega)
  simp only [hz1, Int.toNat_natCast, Nat.mul_one, show Value.cells (.int .i64 0) = #[.int .i64 0] from rfl, madeN] at hmk
  have hmk0 := hmk w
  have K0 := Lib.hid (lit_held (Held.start (Turned.refl _ w)) (l := List.replicate m 0) (n := m) (by simp) (by omega)).swap
  obtain ⟨g, hg⟩ : ∃ g, g = w.heap.size := ⟨_, rfl⟩
  rw [← hg] at K0 hmk0
  obtain ⟨V0, hV0⟩ : ∃ V0, V0 = w.alloc (.cells (ints (List.replicate m 0)).toArray 3) := ⟨_, rfl⟩
  rw [← hV0] at K0 hmk0
  have HMo := Lib.hid (HMo.out V0 K0.out.ground)
  clear hA hB hm hn hmk fi hz0 hz1 hz2 hg hV0 hh
  go_enter Try.func21, Try.ntmps21
  go_wp2_with (go_at_call 29; ((with_reducible refine HMo.out.mono ?_)); rintro e w1 ⟨a2, cc, l, rfl, hs, hp, ho, hst⟩; have HS := Lib.hid hs; have HP := Lib.hid hp; have K1 := Lib.hid (K0.out.got ho hst); clear hs hp ho hst K0)
  have HLl := Lib.hid (show l.length = m from by rw [HP.out.length_eq, List.length_range])
  have K2 := Lib.hid (show Held w w1 ((intsT (some ⟨g, 0, none⟩) m m (cL m (qC (quotaN n m h) l 0))).sep (intsT a2 m cc (l.map (fun (k : Nat) => (k : Int))))) from by
    rw [qC_zero, cL_zero]
    exact K1.out.swap.assoc'.drop.swap)
  clear K1
  go_loopw [15] (fun ix wq => ∃ r : Nat, r ≤ m ∧ ix = .int .i64 r ∧ Held w wq ((intsT (some ⟨g, 0, none⟩) m m (cL m (qC (quotaN n m h) l r))).sep (intsT a2 m cc (l.map (fun (k : Nat) => (k : Int)))))) (fun ix _ => m - (intOf ix).toNat)
  case atStart => exact ⟨0, Nat.zero_le _, rfl, K2.out⟩
  case round =>
    clear K2
    obtain ⟨r, hr, rfl, hH⟩ := hrel
    by_cases hlt : r < m
    · obtain ⟨k, hk⟩ := get_some (l := l) (i := r) (by rw [HLl.out]; exact hlt)
      obtain ⟨hkm, hah⟩ := srt_ahead HS.out HP.out hk
      obtain ⟨bo2, oo2, rfl, co⟩ := ints_at hH.snd (by rw [List.length_map, HLl.out]) r _ (by rw [List.getElem?_map, hk]; rfl)
      have hri : (r : Int) < (m : Int) := by omega
      have hki : (k : Int) < (m : Int) := by omega
      have hk0 : (0 : Int) ≤ (k : Int) := by omega
      obtain ⟨s1, s2, s3⟩ := held_put hH (cL_get _ hkm)
      obtain ⟨q, hq⟩ : ∃ q, q = n / m := ⟨_, rfl⟩
      obtain ⟨d, hd⟩ : ∃ d, d = n % m := ⟨_, rfl⟩
      have hmz : ¬ (m : Int) = 0 := by omega
      have hmb : ((m : Int) == 0) = false := by simpa using hmz
      have hq2 : q ≤ 1000 := by rw [hq]; have := Nat.div_le_self n m; omega
      have hwq : (n : Int) / (m : Int) = (q : Int) := by rw [hq]; rfl
      have hwr : (n : Int) % (m : Int) = (d : Int) := by rw [hd]; rfl
      have HQk := Lib.hid (show quotaN n m h k = q + if r < d then 1 else 0 from by unfold quotaN; rw [hah, hq, hd])
      have K3 := Lib.hid (show Held w (wr.setCell ⟨g, k, none⟩ (.int .i64 (q : Int))) ((intsT (some ⟨g, 0, none⟩) m m ((cL m (qC (quotaN n m h) l r)).set k (q : Int))).sep (intsT (some ⟨bo2, oo2, none⟩) m cc (l.map (fun (k : Nat) => (k : Int))))) from s3 (q : Int))
      have HSet := Lib.hid (show ((cL m (qC (quotaN n m h) l r)).set k ((quotaN n m h k : Nat) : Int)) = cL m (qC (quotaN n m h) l (r + 1)) from by
        have := cL_set hkm (c := qC (quotaN n m h) l r) (d := qC (quotaN n m h) l (r + 1)) (fun j _ hj => qC_step hk hj)
        rwa [qC_at hk] at this)
      have HSl := Lib.hid (show k < (cL m (qC (quotaN n m h) l r)).length from by rw [cL_len]; exact hkm)
      clear hq hd hah hk hH s3
      by_cases hrd : r < d
      · have hrdi : (r : Int) < (d : Int) := by omega
        obtain ⟨t1, t2, t3⟩ := held_put K3.out (u := (q : Int)) (j := k) (List.getElem?_set_self HSl.out)
        have K4 := Lib.hid (show Held w ((wr.setCell ⟨g, k, none⟩ (.int .i64 (q : Int))).setCell ⟨g, k, none⟩ (.int .i64 ((q : Int) + 1))) ((intsT (some ⟨g, 0, none⟩) m m (cL m (qC (quotaN n m h) l (r + 1)))).sep (intsT (some ⟨bo2, oo2, none⟩) m cc (l.map (fun (k : Nat) => (k : Int))))) from by
          have := t3 ((q : Int) + 1)
          rw [List.set_set] at this
          have e := HSet.out
          rw [HQk.out, if_pos hrd] at e
          rw [show ((q : Int) + 1) = ((q + 1 : Nat) : Int) from rfl] at this ⊢
          rw [e] at this
          exact this)
        clear t3 K3
        go_wp2_with fail
        go_roundw
        case rel => exact ⟨r + 1, by omega, by go_num, K4.out⟩
        case measure => simp [intOf]; omega
      · have hrdi : ¬ (r : Int) < (d : Int) := by omega
        have K4 := Lib.hid (show Held w (wr.setCell ⟨g, k, none⟩ (.int .i64 (q : Int))) ((intsT (some ⟨g, 0, none⟩) m m (cL m (qC (quotaN n m h) l (r + 1)))).sep (intsT (some ⟨bo2, oo2, none⟩) m cc (l.map (fun (k : Nat) => (k : Int))))) from by
          have := K3.out
          have e := HSet.out
          rw [HQk.out, if_neg hrd, Nat.add_zero] at e
          rw [e] at this
          exact this)
        clear K3
        go_wp2_with fail
        go_roundw
        case rel => exact ⟨r + 1, by omega, by go_num, K4.out⟩
        case measure => simp [intOf]; omega
    · obtain rfl : r = m := by omega
      have e : cL r (qC (quotaN n r h) l r) = cL r (quotaN n r h) := cL_congr fun j hj => by
        unfold qC
        rw [if_pos]
        rw [List.take_of_length_le (by rw [HLl.out]; exact Nat.le_refl _)]
        exact HP.out.mem_iff.2 (List.mem_range.2 hj)
      rw [e] at hH
      have K5 := Lib.hid (ow_raise hH.drop)
      clear hH e
      go_wp2_with fail
      go_ret
      exact ⟨_, _, rfl, K5.out⟩
end Go.Proofs.Ytlnbgfglpdkifaa
