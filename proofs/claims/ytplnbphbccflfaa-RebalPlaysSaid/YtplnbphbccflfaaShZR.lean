/- Who may be shared among: what right of the document's share answers. No condition. -/
import Derived.Test.YtplnbphbccflfaaShBits
import Derived.Test.YtplnbphbccflfaaShPlain
namespace Go.Proofs.Ytplnbphbccflfaa
open Go.RowKit
set_option linter.unusedVariables false
set_option linter.unusedSimpArgs false
set_option maxRecDepth 100000

def risTo (ms : List Int) (i : Nat) : Prop := (∀ x, x ∈ ms.take i → 0 ≤ x ∧ x < 16) ∧ (ms.take i).Pairwise (· < ·)
def disTo (ps : List Plc) (i : Nat) : Prop := (∀ p, p ∈ ps.take i → 0 ≤ p.1 ∧ 0 ≤ p.2) ∧ (ps.take i).Nodup
theorem risTo_zero (ms : List Int) : risTo ms 0 := ⟨fun x h => by simp at h, by simp⟩
theorem disTo_zero (ps : List Plc) : disTo ps 0 := ⟨fun x h => by simp at h, by simp⟩
theorem risTo_step {ms : List Int} {i : Nat} {x : Int} (h : risTo ms i) (hx : ms[i]? = some x) (h1 : 0 ≤ x) (h2 : x < 16) (h3 : ∀ (j : Nat) (y : Int), i = j + 1 → ms[j]? = some y → y < x) : risTo ms (i + 1) := by
  have ht : ms.take (i + 1) = ms.take i ++ [x] := by rw [List.take_add_one, hx]; rfl
  refine ⟨fun y hy => ?_, ?_⟩
  · rw [ht] at hy
    rcases List.mem_append.1 hy with hy | hy
    · exact h.1 y hy
    · obtain rfl : y = x := by simpa using hy
      exact ⟨h1, h2⟩
  · rw [ht, List.pairwise_append]
    refine ⟨h.2, by simp, fun a ha b hb => ?_⟩
    obtain rfl : b = x := by simpa using hb
    cases i with
    | zero => simp at ha
    | succ j =>
      obtain ⟨y, hy⟩ := get_some (l := ms) (i := j) (by have := (List.getElem?_eq_some_iff.1 hx).1; omega)
      have hyb := h3 j y rfl hy
      have hs : ms.take (j + 1) = ms.take j ++ [y] := by rw [List.take_add_one, hy]; rfl
      have h2' := h.2
      rw [hs] at ha h2'
      rcases List.mem_append.1 ha with ha | ha
      · have := (List.pairwise_append.1 h2').2.2 a ha y (by simp)
        show a < b; omega
      · obtain rfl : a = y := by simpa using ha
        exact hyb
theorem risTo_all {ms : List Int} (h8 : ms.length ≤ 8) (h : risTo ms ms.length) : risI ms := by
  unfold risTo at h
  rw [List.take_length] at h
  exact ⟨h8, h.1, h.2⟩
theorem ris_not {ms : List Int} {i : Nat} {x : Int} (hx : ms[i]? = some x) (h : x < 0 ∨ 16 ≤ x ∨ ∃ (j : Nat) (y : Int), i = j + 1 ∧ ms[j]? = some y ∧ x ≤ y) : ¬ risI ms := fun hr => by
  have hb := hr.2.1 x (List.mem_of_getElem? hx)
  rcases h with h | h | ⟨j, y, rfl, hy, hxy⟩
  · omega
  · omega
  · obtain ⟨hi, e1⟩ := List.getElem?_eq_some_iff.1 hx
    obtain ⟨hj, e2⟩ := List.getElem?_eq_some_iff.1 hy
    have := List.pairwise_iff_getElem.1 hr.2.2 j (j + 1) hj hi (by omega)
    rw [e1, e2] at this
    omega
theorem disTo_step {ps : List Plc} {i : Nat} {p : Plc} (h : disTo ps i) (hp : ps[i]? = some p) (h1 : 0 ≤ p.1) (h2 : 0 ≤ p.2) (h3 : p ∉ ps.take i) : disTo ps (i + 1) := by
  have ht : ps.take (i + 1) = ps.take i ++ [p] := by rw [List.take_add_one, hp]; rfl
  refine ⟨fun y hy => ?_, ?_⟩
  · rw [ht] at hy
    rcases List.mem_append.1 hy with hy | hy
    · exact h.1 y hy
    · obtain rfl : y = p := by simpa using hy
      exact ⟨h1, h2⟩
  · rw [ht, List.nodup_append]
    refine ⟨h.2, by simp, fun a ha b hb => ?_⟩
    obtain rfl : b = p := by simpa using hb
    exact fun e => h3 (e ▸ ha)
theorem disTo_all {ps : List Plc} (h : disTo ps ps.length) : disI ps := by
  unfold disTo at h
  rw [List.take_length] at h
  exact h
theorem dis_not {ps : List Plc} {i : Nat} {p : Plc} (hp : ps[i]? = some p) (h : p.1 < 0 ∨ p.2 < 0 ∨ ∃ j : Nat, j < i ∧ ps[j]? = some p) : ¬ disI ps := fun hd => by
  have hb := hd.1 p (List.mem_of_getElem? hp)
  rcases h with h | h | ⟨j, hj, hq⟩
  · omega
  · omega
  · obtain ⟨h1, e1⟩ := List.getElem?_eq_some_iff.1 hp
    obtain ⟨h2, e2⟩ := List.getElem?_eq_some_iff.1 hq
    have := List.pairwise_iff_getElem.1 hd.2 j i h2 h1 hj
    rw [e1, e2] at this
    exact this rfl
def rightB (ms : List Int) (ps : List Plc) : Bool := decide (risI ms ∧ disI ps)
theorem right_no1 {ms : List Int} {ps : List Plc} (h : ¬ risI ms) : rightB ms ps = false := decide_eq_false fun e => h e.1
theorem right_no2 {ms : List Int} {ps : List Plc} (h : ¬ disI ps) : rightB ms ps = false := decide_eq_false fun e => h e.2

set_option maxHeartbeats 4000000 in
theorem zshright_any (w : World) (ao bo : Option Addr) (ms : List Int) (ps : List Plc) (m n c1 c2 : Nat) (hm : m = ms.length) (hn : n = ps.length) (h1 : m ≤ 1000) (h2 : n ≤ 1000) (hA : NumsAt w ao ms) (hB : PlAt w bo ps) :
    Calls Try.prog 58 #[.slice ao m c1, .slice bo n c2] w fun e w' => e = .returned (.bool (rightB ms ps)) ∧ Still w w' := by
  by_cases h8 : m ≤ 8
  · have h8i : ¬ (8 : Int) < (m : Int) := by omega
    have HA := Lib.hid hA
    have HB := Lib.hid hB
    have HM := Lib.hid hm
    have HN := Lib.hid hn
    clear hA hB hm hn
    go_enter Try.func58, Try.ntmps58
    go_wp2_with fail
    go_loopw [5] (fun ix wr => ∃ i : Nat, i ≤ m ∧ ix = .int .i64 i ∧ risTo ms i ∧ Still w wr) (fun ix _ => m - (intOf ix).toNat)
    case atStart => exact ⟨0, Nat.zero_le _, rfl, risTo_zero ms, Turned.refl _ _⟩
    case round =>
      obtain ⟨i, hi, rfl, hr, hs⟩ := hrel
      have HS := Lib.hid hs
      by_cases hlt : i < m
      · obtain ⟨x, hx⟩ := get_some (l := ms) (i := i) (by rw [← HM.out]; exact hlt)
        obtain ⟨b, o, rfl, cx⟩ := (HA.out.still hs) i x hx
        have hii : (i : Int) < (m : Int) := by omega
        by_cases g1 : x < 0
        · have HF := Lib.hid (right_no1 (ps := ps) (ris_not hx (.inl g1)))
          have g1b : decide (x < 0) = true := decide_eq_true g1
          clear hx hr hs
          go_wp2_with fail
          go_quiet (fail)
          go_wp2_with fail
          go_ret
          exact ⟨ret_bool HF.out.symm, HS.out.drewN _⟩
        · have g1b : decide (x < 0) = false := decide_eq_false g1
          by_cases g2 : 16 ≤ x
          · have HF := Lib.hid (right_no1 (ps := ps) (ris_not hx (.inr (.inl g2))))
            have g2b : decide ((16 : Int) ≤ x) = true := decide_eq_true g2
            clear hx hr hs
            go_wp2_with fail
            go_quiet (fail)
            go_wp2_with fail
            go_ret
            exact ⟨ret_bool HF.out.symm, HS.out.drewN _⟩
          · have g2b : decide ((16 : Int) ≤ x) = false := decide_eq_false g2
            by_cases g3 : i = 0
            · have HR := Lib.hid (risTo_step hr hx (by omega) (by omega) (fun j y e _ => by omega))
              have hib : decide (0 < i) = false := decide_eq_false (by omega)
              have hib2 : ¬ (0 : Int) < (i : Int) := by omega
              clear hx hr hs g3
              go_wp2_with fail
              go_quiet (fail)
              go_wp2_with fail
              go_roundw
              case rel => exact ⟨i + 1, by omega, by go_num, HR.out, HS.out.drewN _⟩
              case measure => simp [intOf]; omega
            · obtain ⟨j, rfl⟩ : ∃ j, i = j + 1 := ⟨i - 1, by omega⟩
              obtain ⟨y, hy⟩ := get_some (l := ms) (i := j) (by rw [← HM.out]; omega)
              obtain ⟨b', o', e, cy⟩ := (HA.out.still hs) j y hy
              obtain ⟨rfl, rfl⟩ : b = b' ∧ o = o' := by simpa using e
              obtain ⟨i', hi'⟩ : ∃ i', i' = j + 1 := ⟨_, rfl⟩
              rw [← hi'] at hx cx hr hlt hii ⊢
              have hip : (0 : Int) < (i' : Int) := by omega
              have hipb : decide (0 < i') = true := decide_eq_true (by omega)
              have hij : (i' : Int) - 1 = (j : Int) := by omega
              have hjm : (j : Int) < (m : Int) := by omega
              by_cases g4 : x ≤ y
              · have HF := Lib.hid (right_no1 (ps := ps) (ris_not hx (.inr (.inr ⟨j, y, hi', hy, g4⟩))))
                have g4b : decide (x ≤ y) = true := decide_eq_true g4
                clear hx hr hs hy hi' g3
                go_wp2_with fail
                go_quiet (fail)
                go_wp2_with fail
                go_ret
                exact ⟨ret_bool HF.out.symm, HS.out.drewN _⟩
              · have g4b : decide (x ≤ y) = false := decide_eq_false g4
                have HR := Lib.hid (risTo_step hr hx (by omega) (by omega) (fun j2 y2 e h2 => by
                  obtain rfl : j2 = j := by omega
                  rw [hy] at h2
                  obtain rfl := Option.some.inj h2
                  omega))
                clear hx hr hs hy hi' g3
                go_wp2_with fail
                go_quiet (fail)
                go_wp2_with fail
                go_roundw
                case rel => exact ⟨i' + 1, by omega, by go_num, HR.out, HS.out.drewN _⟩
                case measure => simp [intOf]; omega
      · obtain rfl : i = m := by omega
        have HR := Lib.hid (risTo_all (by rw [← HM.out]; exact h8) (by rw [← HM.out]; exact hr))
        clear hr hs hlt
        go_wp2_with fail
        go_loopw [6] (fun ix wr => ∃ i : Nat, i ≤ n ∧ ix = .int .i64 i ∧ disTo ps i ∧ Still w wr) (fun ix _ => n - (intOf ix).toNat)
        case atStart => exact ⟨0, Nat.zero_le _, rfl, disTo_zero ps, HS.out⟩
        case round =>
          clear HS
          obtain ⟨k, hk, rfl, hd, hs⟩ := hrel
          have HS := Lib.hid hs
          by_cases hlt : k < n
          · obtain ⟨⟨pf, pt⟩, hp⟩ := get_some (l := ps) (i := k) (by rw [← HN.out]; exact hlt)
            obtain ⟨b, o, rfl, hc⟩ := row_still HB.out hs k _ hp
            have c0 : wr.cell? ⟨b, o + k * 2, none⟩ = some (.int .i64 pf) := hc 0 _ rfl
            have c1' : wr.cell? ⟨b, o + k * 2 + 1, none⟩ = some (.int .i64 pt) := by rw [Nat.add_assoc]; exact hc 1 _ rfl
            have hki : (k : Int) < (n : Int) := by omega
            by_cases g1 : pf < 0
            · have HF := Lib.hid (right_no2 (ms := ms) (dis_not hp (.inl g1)))
              clear hp hd hs hc
              go_wp2_with fail
              go_ret
              exact ⟨ret_bool HF.out.symm, HS.out⟩
            · by_cases g2 : pt < 0
              · have HF := Lib.hid (right_no2 (ms := ms) (dis_not hp (.inr (.inl g2))))
                clear hp hd hs hc
                go_wp2_with fail
                go_ret
                exact ⟨ret_bool HF.out.symm, HS.out⟩
              · have HD := Lib.hid hd
                have HP := Lib.hid hp
                clear hp hd hs hc
                go_wp2_with fail
                go_loopw [7] (fun jx wq => ∃ j : Nat, j ≤ k ∧ jx = .int .i64 j ∧ (pf, pt) ∉ ps.take j ∧ Still w wq) (fun jx _ => k - (intOf jx).toNat)
                case atStart => exact ⟨0, Nat.zero_le _, rfl, by simp, HS.out⟩
                case round =>
                  clear HS c0 c1'
                  obtain ⟨j, hj, rfl, hno, hs⟩ := hrel
                  have HS := Lib.hid hs
                  by_cases hjk : j < k
                  · obtain ⟨⟨qf, qt⟩, hq⟩ := get_some (l := ps) (i := j) (by rw [← HN.out]; omega)
                    obtain ⟨b1, o1, e1, hc⟩ := row_still HB.out hs k _ HP.out
                    obtain ⟨b2, o2, e2, hd⟩ := row_still HB.out hs j _ hq
                    obtain ⟨rfl, rfl⟩ : b = b1 ∧ o = o1 := by simpa using e1
                    obtain ⟨rfl, rfl⟩ : b = b2 ∧ o = o2 := by simpa using e2
                    have c0 : wr.cell? ⟨b, o + k * 2, none⟩ = some (.int .i64 pf) := hc 0 _ rfl
                    have c1' : wr.cell? ⟨b, o + k * 2 + 1, none⟩ = some (.int .i64 pt) := by rw [Nat.add_assoc]; exact hc 1 _ rfl
                    have d0 : wr.cell? ⟨b, o + j * 2, none⟩ = some (.int .i64 qf) := hd 0 _ rfl
                    have d1 : wr.cell? ⟨b, o + j * 2 + 1, none⟩ = some (.int .i64 qt) := by rw [Nat.add_assoc]; exact hd 1 _ rfl
                    have hji : (j : Int) < (k : Int) := by omega
                    have hjn : (j : Int) < (n : Int) := by omega
                    by_cases he : qf = pf ∧ qt = pt
                    · obtain ⟨rfl, rfl⟩ := he
                      have HF := Lib.hid (right_no2 (ms := ms) (dis_not HP.out (.inr (.inr ⟨j, hjk, hq⟩))))
                      clear hs hc hd hq hno e1 e2
                      go_wp2_with fail
                      go_quiet (fail)
                      go_wp2_with fail
                      go_ret
                      exact ⟨ret_bool HF.out.symm, HS.out.drewN _⟩
                    · have HNo := Lib.hid (show (pf, pt) ∉ ps.take (j + 1) from by
                        rw [List.take_add_one, hq]
                        intro hmem
                        rcases List.mem_append.1 hmem with h | h
                        · exact hno h
                        · have : (pf, pt) = (qf, qt) := by simpa using h
                          exact he ⟨(congrArg Prod.fst this).symm, (congrArg Prod.snd this).symm⟩)
                      have he' : qf ≠ pf ∨ (qf = pf ∧ qt ≠ pt) := by
                        by_cases h : qf = pf
                        · exact .inr ⟨h, fun h2 => he ⟨h, h2⟩⟩
                        · exact .inl h
                      clear hs hc hd hq hno e1 e2 he
                      rcases he' with h1 | ⟨rfl, h1⟩
                      all_goals (
                        go_wp2_with fail
                        go_quiet (fail)
                        go_wp2_with fail
                        go_roundw
                        case rel => exact ⟨j + 1, by omega, by go_num, HNo.out, HS.out.drewN _⟩
                        case measure => simp [intOf]; omega)
                  · obtain rfl : j = k := by omega
                    have HD2 := Lib.hid (disTo_step HD.out HP.out (by show 0 ≤ pf; omega) (by show 0 ≤ pt; omega) hno)
                    clear hs hno hjk
                    go_wp2_with fail
                    go_roundw
                    case rel => exact ⟨j + 1, by omega, by go_num, HD2.out, HS.out⟩
                    case measure => simp [intOf]; omega
          · obtain rfl : k = n := by omega
            have HD := Lib.hid (disTo_all (by rw [← HN.out]; exact hd))
            have HF := Lib.hid (show rightB ms ps = true from decide_eq_true ⟨HR.out, HD.out⟩)
            clear hs hd hlt
            go_wp2_with fail
            go_ret
            exact ⟨ret_bool HF.out.symm, HS.out⟩
  · have h8i : (8 : Int) < (m : Int) := by omega
    have HF := Lib.hid (right_no1 (ps := ps) (ms := ms) (fun hr => h8 (by rw [hm]; exact hr.1)))
    clear hA hB hm hn
    go_enter Try.func58, Try.ntmps58
    go_wp2_with fail
    go_ret
    exact ⟨ret_bool HF.out.symm, Turned.refl _ _⟩
end Go.Proofs.Ytplnbphbccflfaa
