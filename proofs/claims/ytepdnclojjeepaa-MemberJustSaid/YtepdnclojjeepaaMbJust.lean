/- What MemberJust's rounds do to the program's list and to the list of those that joined. No condition but the words. -/
import Derived.Test.YtepdnclojjeepaaMbLaterW
import Derived.Test.YtepdnclojjeepaaHasInt
namespace Go.Proofs.Ytepdnclojjeepaa
open Go.RowKit
set_option linter.unusedVariables false
set_option linter.unusedSimpArgs false
set_option maxRecDepth 100000

theorem mem_intsN {l : List Nat} {i : Nat} : ((i : Nat) : Int) ∈ intsN l ↔ i ∈ l := by
  unfold intsN
  rw [List.mem_map]
  constructor
  · rintro ⟨j, hj, e⟩
    have : j = i := by omega
    exact this ▸ hj
  · exact fun h => ⟨i, h, rfl⟩
theorem without_any (w : World) (ao : Option Addr) (l : List Nat) (n cap : Nat) (i : Nat) (hn : n = l.length) (h1 : n ≤ 1000) (hA : NumsAt w ao (intsN l)) :
    Calls Try.prog 29 #[.slice ao n cap, .int .i64 ((i : Nat) : Int)] w (fun e w' => ∃ m, m = (l.filter (fun x => decide (x ≠ i))).length ∧ OutNums w (intsN (l.filter (fun x => decide (x ≠ i)))) m e w') := by
  have HA := Lib.hid hA
  have HN := Lib.hid hn
  obtain ⟨i0, hi, hz0, hz1, hz2⟩ := info_parts infoIntW
  have HW := Lib.hid (World.ownsRow_made (e := 3) (size := 1) w #[] 0 (Nat.le_refl _) (by simp) (by simp))
  have HT := Lib.hid (fun (k y : Nat) (hy : l[k]? = some y) => show (l.take (k + 1)).filter (fun x => decide (x ≠ i)) = if y = i then (l.take k).filter (fun x => decide (x ≠ i)) else (l.take k).filter (fun x => decide (x ≠ i)) ++ [y] from by
    rw [List.take_add_one, hy, List.filter_append]
    by_cases h : y = i
    · simp [h]
    · simp [h])
  have HL := Lib.hid (fun k => show ((l.take k).filter (fun x => decide (x ≠ i))).length ≤ 1000 from by
    have := List.length_filter_le (fun x => decide (x ≠ i)) (l.take k)
    rw [List.length_take] at this; omega)
  clear hA hn
  go_enter Try.func29, Try.ntmps29
  go_wp2_with fail
  go_loopw [5, 6] (fun o ix wr => ∃ (k d : Nat) (a1 : Option Addr) (cc : Nat), k ≤ n ∧ d = ((l.take k).filter (fun x => decide (x ≠ i))).length ∧ ix = .int .i64 k ∧ o = .slice a1 d cc ∧ wr.ownsRow w.heap.size 3 1 (.slice a1 d cc) d (ints (intsN ((l.take k).filter (fun x => decide (x ≠ i))))) ∧ Still w wr) (fun _ ix _ => n - (intOf ix).toNat)
  case atStart => exact ⟨0, 0, _, 0, Nat.zero_le _, by simp, rfl, rfl, by simpa [intsN, ints] using HW.out, (Turned.refl _ _).alloc _⟩
  case round =>
    obtain ⟨k, d, a1, cc, hk, hd, rfl, rfl, hown, hst⟩ := hrel
    have hd16 : d ≤ 1000 := by rw [hd]; exact HL.out k
    have HD := Lib.hid hd
    have HO := Lib.hid hown
    have HS := Lib.hid hst
    have hlo := hst.size
    by_cases hlt : k < n
    · obtain ⟨y, hy⟩ := get_some (l := l) (i := k) (by rw [← HN.out]; exact hlt)
      obtain ⟨b, o, rfl, hc⟩ := (HA.out.still hst) k _ (intsN_get hy)
      have hT := HT.out k y hy
      have hki : (k : Int) < (n : Int) := by omega
      clear hown hst hd hy
      by_cases hyi : y = i
      · have HT1 := Lib.hid (hT.trans (if_pos hyi))
        have hne : ((y : Int) != (i : Int)) = false := by rw [bne_eq_false_iff_eq]; omega
        clear hT
        go_wp2_with fail
        go_roundw
        case rel => exact ⟨k + 1, d, a1, cc, by omega, by rw [HT1.out]; exact HD.out, by go_num, rfl, by rw [HT1.out]; exact HO.out, HS.out⟩
        case measure => simp [intOf]; omega
      · have HT1 := Lib.hid (hT.trans (if_neg hyi))
        have hne : ((y : Int) != (i : Int)) = true := by rw [bne_iff_ne]; omega
        clear hT
        go_wp2_with (at_builtin; refine wpList_append_own_at _ rfl _ _ 35 rfl w.heap.size 3 i0 (.int .i64 0) 1 8 Try.underlying35 hi hz0 hz1 hz2 rfl (by decide) (.slice a1 d cc) d (ints (intsN ((l.take k).filter (fun x => decide (x ≠ i))))) rfl (ow_still HO.out ((Turned.refl _ _).alloc _)) ⟨wr.heap.size, 0, none⟩ 1 1 [.int .i64 ((y : Nat) : Int)] rfl rfl (ow_cells wr _ _) (ow_ints rfl) (by unfold maxLen; omega) (by omega) (by first | (simp; done) | (simp; omega)) ?_; intro v6 w6 hown6 hg6 _ hat6; obtain ⟨a6, c6, rfl⟩ := ow_slice hown6; have HS6 := Lib.hid (ow_appended (xs := ints (intsN ((l.take k).filter (fun x => decide (x ≠ i))))) (ys := []) (v6 := undef) HS.out HO.out hg6); have HO6 := Lib.hid hown6; clear hown6 hg6 hat6)
        go_roundw
        case rel => exact ⟨k + 1, d + 1, a6, c6, by omega, by rw [HT1.out, List.length_append, ← HD.out]; rfl, by go_num, rfl, by rw [HT1.out]; have := HO6.out; simpa [ints, intsN] using this, HS6.out⟩
        case measure => simp [intOf]; omega
    · obtain rfl : k = n := by omega
      have e : l.take k = l := by rw [HN.out, List.take_length]
      rw [e] at hown hd
      have HR := Lib.hid (And.intro hd hown)
      clear hown hst hd e HD HO
      go_wp2_with fail
      go_ret
      exact ⟨d, HR.out.1, a1, cc, rfl, HR.out.2, HS.out⟩

/-- Between two rounds. -/
def JSt (MT : Nat → MbM → Thing) (w V : World) (q K : Nat) (a : Option Addr) (n c T : Nat) : Prop :=
  ∃ (l : List Nat) (M : MbM), JustM l M ∧ M.Ok K ∧ M.T = T ∧ n = l.length ∧ n ≤ 8 ∧ Held w V ((MT q M).sep (ownT 3 1 a n c (ints (intsN l))))
section
variable {MT : Nat → MbM → Thing} {w V V2 : World} {q K n c T : Nat} {a : Option Addr}
theorem JSt.still (h : JSt MT w V q K a n c T) (hs : Still V V2) : JSt MT w V2 q K a n c T := by
  obtain ⟨l, M, h1, h2, h3, h4, h5, h6⟩ := h
  exact ⟨l, M, h1, h2, h3, h4, h5, h6.still hs⟩
theorem JSt.up (h : JSt MT w V q K a n c T) : JSt MT w V q (K + 1) a n c T := by
  obtain ⟨l, M, h1, h2, h3, h4, h5, h6⟩ := h
  exact ⟨l, M, h1, h2.mono (Nat.le_succ _), h3, h4, h5, h6⟩
theorem JSt.ground (h : JSt MT w V q K a n c T) : Still w V := by
  obtain ⟨l, M, h1, h2, h3, h4, h5, h6⟩ := h
  exact h6.ground
theorem held_nums2 {A : Thing} {l : List Nat} (h : Held w V (A.sep (ownT 3 1 a n c (ints (intsN l))))) (hn : n = l.length) : NumsAt V a (intsN l) := held_nums h.snd (by rw [intsN_len]; exact hn)
theorem held_has {A : Thing} {l : List Nat} {i : Nat} {r : Bool} (h : Held w V (A.sep (ownT 3 1 a n c (ints (intsN l))))) (hn : n = l.length) (h8 : n ≤ 8) (hr : decide (i ∈ l) = r) : Calls Try.prog 28 #[.slice a n c, .int .i64 ((i : Nat) : Int)] V fun e w' => e = .returned (.bool r) ∧ V = w' :=
  (hasI_any V a (intsN l) n c ((i : Nat) : Int) (by rw [intsN_len]; exact hn) (by omega) (held_nums2 h hn)).mono fun e w' ⟨he, hw⟩ => ⟨by rw [he]; congr 2; rw [← hr, decide_eq_decide]; exact mem_intsN, hw⟩
theorem js_leave (A : MemberApi MT) (H : JSt MT w V q K a n c T) (hK : K < 1000000) (i : Nat) (hi : i < 16) :
    (Calls Try.prog 12 #[.pointer (some ⟨q, 0, none⟩), .int .i64 ((i : Nat) : Int)] V fun e w' => e = .returned (.tuple #[.int .i64 ((T + 1 : Nat) : Int), .int .i64 0]) ∧
      (Calls Try.prog 28 #[.slice a n c, .int .i64 ((i : Nat) : Int)] w' fun e w'' => e = .returned (.bool true) ∧ w' = w'') ∧
      Calls Try.prog 29 #[.slice a n c, .int .i64 ((i : Nat) : Int)] w' fun e w'' => ∃ a' n' c', e = .returned (.slice a' n' c') ∧ JSt MT w w'' q (K + 1) a' n' c' (T + 1)) ∨
    (Calls Try.prog 12 #[.pointer (some ⟨q, 0, none⟩), .int .i64 ((i : Nat) : Int)] V fun e w' => e = .returned (.tuple #[.int .i64 0, .int .i64 150]) ∧
      (Calls Try.prog 28 #[.slice a n c, .int .i64 ((i : Nat) : Int)] w' fun e w'' => e = .returned (.bool false) ∧ w' = w'') ∧ JSt MT w w' q (K + 1) a n c T) := by
  obtain ⟨l, M, h1, h2, h3, h4, h5, h6⟩ := H
  by_cases hm : 0 < M.at i
  · left
    have he := findE_0 hi hm
    obtain ⟨a1, a2, a3⟩ := memb_leave h2 he
    have hv : M.leaveV ((i : Nat) : Int) = T + 1 := by unfold MbM.leaveV; rw [if_pos he, h3]
    refine (Held.leaveM A h6 h2 hK (x := ((i : Nat) : Int)) (by omega) (by omega) hv he rfl).mono fun e w' ⟨he', hh⟩ => ⟨he', held_has hh h4 h5 (by simpa using (h1.mem i).2 hm), ?_⟩
    refine (without_any w' a l n c i h4 (by omega) (held_nums2 hh h4)).mono fun e w'' ⟨m, hm2, a', c', he2, ho, hs⟩ => ⟨a', m, c', he2, l.filter (fun x => decide (x ≠ i)), _, h1.leave h2 he, h2.leave _, by rw [a2, h3], hm2, ?_, ?_⟩
    · rw [hm2]; exact Nat.le_trans (List.length_filter_le _ _) (h4 ▸ h5)
    · exact ((hh.got ho hs).assoc).turn.snd
  · right
    have he := findE_150 (M := M) hi (by omega)
    obtain ⟨j1, j2⟩ := leave_no he (by omega)
    refine (Held.leaveM A h6 h2 hK (x := ((i : Nat) : Int)) (by omega) (by omega) j2 he j1).mono fun e w' ⟨he', hh⟩ => ⟨he', held_has hh h4 h5 (by simpa using fun h => hm ((h1.mem i).1 h)), l, M, h1, h2.mono (Nat.le_succ _), h3, h4, h5, hh⟩
/-- A number more. -/
theorem js_app {l : List Nat} {M : MbM} {i : Nat} {V w6 : World} {o : Obj} {a6 : Option Addr} {c6 : Nat} (hn : n = l.length) (H : Held w V ((MT q M).sep (ownT 3 1 a n c (ints (intsN l))))) (hown : w6.ownsRow 0 3 1 (.slice a6 (n + 1) c6) (n + 1) (ints (intsN l) ++ [.int .i64 ((i : Nat) : Int)]))
    (hg : (V.alloc o).grownBy w6 (Value.slice a n c).ownBlock) (hat : (Value.slice a6 (n + 1) c6).ownBlock = (Value.slice a n c).ownBlock ∨ (Value.slice a6 (n + 1) c6).ownBlock = some (V.alloc o).heap.size) :
    Held w w6 ((MT q M).sep (ownT 3 1 a6 (n + 1) c6 (ints (intsN (l ++ [i]))))) := by
  have := H.grown hown hg hat
  rw [show ints (intsN (l ++ [i])) = ints (intsN l) ++ [.int .i64 ((i : Nat) : Int)] by simp [ints, intsN]]
  exact this
theorem js_join (A : MemberApi MT) (H : JSt MT w V q K a n c T) (hK : K < 999999) (i : Nat) (hi : i < 16) :
    (Calls Try.prog 10 #[.pointer (some ⟨q, 0, none⟩), .int .i64 ((i : Nat) : Int)] V fun e w' => e = .returned (.tuple #[.int .i64 0, .int .i64 6]) ∧
      (Calls Try.prog 28 #[.slice a n c, .int .i64 ((i : Nat) : Int)] w' fun e w'' => e = .returned (.bool true) ∧ w' = w'') ∧ JSt MT w w' q (K + 1) a n c T) ∨
    (¬ (n : Int) < 8 ∧ Calls Try.prog 10 #[.pointer (some ⟨q, 0, none⟩), .int .i64 ((i : Nat) : Int)] V fun e w' => e = .returned (.tuple #[.int .i64 0, .int .i64 4]) ∧
      (Calls Try.prog 28 #[.slice a n c, .int .i64 ((i : Nat) : Int)] w' fun e w'' => e = .returned (.bool false) ∧ w' = w'') ∧ JSt MT w w' q (K + 1) a n c T) ∨
    ((n : Int) < 8 ∧ Calls Try.prog 10 #[.pointer (some ⟨q, 0, none⟩), .int .i64 ((i : Nat) : Int)] V fun e w' => e = .returned (.tuple #[.int .i64 ((T + 1 : Nat) : Int), .int .i64 0]) ∧
      (Calls Try.prog 28 #[.slice a n c, .int .i64 ((i : Nat) : Int)] w' fun e w'' => e = .returned (.bool false) ∧ w' = w'') ∧
      ∃ l : List Nat, w'.ownsRow 0 3 1 (.slice a n c) n (ints (intsN l)) ∧ ∀ (w6 : World) (o : Obj) (a6 : Option Addr) (c6 : Nat), w6.ownsRow 0 3 1 (.slice a6 (n + 1) c6) (n + 1) (ints (intsN l) ++ [.int .i64 ((i : Nat) : Int)]) → (w'.alloc o).grownBy w6 (Value.slice a n c).ownBlock →
        ((Value.slice a6 (n + 1) c6).ownBlock = (Value.slice a n c).ownBlock ∨ (Value.slice a6 (n + 1) c6).ownBlock = some (w'.alloc o).heap.size) →
        (Calls Try.prog 14 #[.pointer (some ⟨q, 0, none⟩), .int .i64 ((i : Nat) : Int)] w6 fun e w'' => e = .returned (.tuple #[.int .i64 ((T + 1 : Nat) : Int), .int .i64 0]) ∧ JSt MT w w'' q (K + 1) a6 (n + 1) c6 (T + 1))) := by
  obtain ⟨l, M, h1, h2, h3, h4, h5, h6⟩ := H
  by_cases hm : 0 < M.at i
  · left
    have he := joinE_6 hi hm
    obtain ⟨j1, j2⟩ := join_no he (by omega)
    refine (Held.joinM A h6 h2 (by omega) (x := ((i : Nat) : Int)) (by omega) (by omega) j2 he j1).mono fun e w' ⟨he', hh⟩ => ⟨he', held_has hh h4 h5 (by simpa using (h1.mem i).2 hm), l, M, h1, h2.mono (Nat.le_succ _), h3, h4, h5, hh⟩
  · right
    have h0 : M.at i = 0 := by omega
    have hno : decide (i ∈ l) = false := by simpa using fun h => hm ((h1.mem i).1 h)
    by_cases h8 : 8 ≤ M.memb.length
    · left
      have he := joinE_4 hi h0 h8
      obtain ⟨j1, j2⟩ := join_no he (by omega)
      refine ⟨by have := h1.len; omega, (Held.joinM A h6 h2 (by omega) (x := ((i : Nat) : Int)) (by omega) (by omega) j2 he j1).mono fun e w' ⟨he', hh⟩ => ⟨he', held_has hh h4 h5 hno, l, M, h1, h2.mono (Nat.le_succ _), h3, h4, h5, hh⟩⟩
    · right
      have he := joinE_0 hi h0 (by omega)
      obtain ⟨a1, a2, a3⟩ := memb_join h2 he
      have hv : M.joinV ((i : Nat) : Int) = T + 1 := by unfold MbM.joinV; rw [if_pos he, h3]
      have h9 : n < 8 := by have := h1.len; omega
      refine ⟨by omega, (Held.joinM A h6 h2 (by omega) (x := ((i : Nat) : Int)) (by omega) (by omega) hv he rfl).mono fun e w' ⟨he', hh⟩ => ⟨he', held_has hh h4 h5 hno, l, hh.own, fun w6 o a6 c6 hown hg hat => ?_⟩⟩
      have h7 := js_app h4 hh hown hg hat
      have o2 := h2.join ((i : Nat) : Int)
      have hat2 : 0 < (M.join ((i : Nat) : Int)).at i := by rw [a3, Int.toNat_natCast, if_pos rfl]; omega
      refine (Held.sinceM A h7 o2 (by omega) (x := ((i : Nat) : Int)) (v := T + 1) (by omega) (by omega) (by rw [sinceV_nat hi hat2, a3, Int.toNat_natCast, if_pos rfl, h3]) (findE_0 hi hat2)).mono fun e w'' ⟨he2, hs⟩ => ⟨he2, l ++ [i], _, h1.join h2 he, o2, by rw [a2, h3], by rw [List.length_append, h4]; rfl, by omega, h7.still hs⟩
/-- What the list says of itself, against those that joined. -/
theorem js_chk (A : MemberApi MT) (H : JSt MT w V q K a n c T) (hK : K < 1000000) : ∃ (L : List Nat) (ev : Nat) (ee : Int), n ≤ 8 ∧ Still V V ∧ L.length = n ∧
    (n = 0 ∧ ev = 0 ∧ ee = 150 ∨ 0 < n ∧ ee = 0 ∧ ∃ g, a = some ⟨g, 0, none⟩ ∧ ∀ V2, Still V V2 → V2.cell? ⟨g, 0, none⟩ = some (.int .i64 ((ev : Nat) : Int))) ∧
    (Calls Try.prog 23 #[.pointer (some ⟨q, 0, none⟩)] V fun e w' => ∃ aa ca, e = .returned (.slice aa n ca) ∧ NumsAt w' aa (intsN L) ∧ Still V w') ∧
    (∀ V2, Still V V2 → Calls Try.prog 25 #[.pointer (some ⟨q, 0, none⟩)] V2 fun e w' => e = .returned (.int .i64 ((T : Nat) : Int)) ∧ Still V2 w') ∧
    (∀ V2, Still V V2 → Calls Try.prog 18 #[.pointer (some ⟨q, 0, none⟩)] V2 fun e w' => e = .returned (.tuple #[.int .i64 ((ev : Nat) : Int), .int .i64 ee]) ∧ Still V w') ∧
    (∀ (k y : Nat), L[k]? = some y → ∀ V2, Still V V2 → Calls Try.prog 16 #[.pointer (some ⟨q, 0, none⟩), .int .i64 ((y : Nat) : Int)] V2 fun e w' => e = .returned (.tuple #[.int .i64 ((k : Nat) : Int), .int .i64 0]) ∧ Still V2 w') ∧
    (∀ (k y : Nat), L[k]? = some y → ∀ V2, Still V V2 → Calls Try.prog 28 #[.slice a n c, .int .i64 ((y : Nat) : Int)] V2 fun e w' => e = .returned (.bool true) ∧ V2 = w') := by
  obtain ⟨l, M, h1, h2, h3, h4, h5, h6⟩ := H
  have hlen : n = M.memb.length := by rw [h4, h1.len]
  have hE : ∃ (ev : Nat) (ee : Int), M.eldV = ev ∧ M.eldE = ee ∧ (n = 0 ∧ ev = 0 ∧ ee = 150 ∨ 0 < n ∧ ee = 0 ∧ ∃ g, a = some ⟨g, 0, none⟩ ∧ ∀ V2, Still V V2 → V2.cell? ⟨g, 0, none⟩ = some (.int .i64 ((ev : Nat) : Int))) := by
    cases l with
    | nil =>
      obtain ⟨x1, x2⟩ := h1.none (K := K)
      exact ⟨0, 150, x1, x2, .inl ⟨h4, rfl, rfl⟩⟩
    | cons k l =>
      obtain ⟨x1, x2⟩ := h1.eld h2
      have hk : (intsN (k :: l))[0]? = some ((k : Nat) : Int) := rfl
      obtain ⟨g, rfl, _⟩ := held_num h6 (by rw [intsN_len]; exact h4) hk
      exact ⟨k, 0, x1, x2, .inr ⟨by rw [h4]; simp, rfl, g, rfl, fun V2 hs => held_numG (h6.still hs) (by rw [intsN_len]; exact h4) hk⟩⟩
  obtain ⟨ev, ee, y1, y2, y3⟩ := hE
  refine ⟨M.memb, ev, ee, h5, Turned.refl _ _, hlen.symm, y3, Held.allM A h6 h2 hK rfl hlen, ?_, ?_, ?_, ?_⟩
  · exact fun V2 hs => Held.timeM A (h6.still hs) h2 hK h3
  · exact fun V2 hs => (Held.eldM A (h6.still hs) h2 hK y1 y2).mono fun e w' ⟨he, ht⟩ => ⟨he, hs.trans ht⟩
  · intro k y hy V2 hs
    obtain ⟨r1, r2, r3, r4⟩ := rank_at h2 hy
    exact (Held.rankM A (h6.still hs) h2 hK (x := ((y : Nat) : Int)) (by omega) (by omega) r1 r2)
  · intro k y hy V2 hs
    obtain ⟨r1, r2, r3, r4⟩ := rank_at h2 hy
    exact held_has (h6.still hs) h4 h5 (by simpa using (h1.mem y).2 r3)
end
end Go.Proofs.Ytepdnclojjeepaa
