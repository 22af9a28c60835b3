/- The acts of the statements of layer 10 as arguments; what few hands out. No condition. -/
import Derived.Test.YtpmkokckjieidaaGreatDoorReadInts
import Derived.Test.YtpmkokckjieidaaGreatDoorTextMore
import Derived.Test.YtpmkokckjieidaaGreatDoorRowM
import Derived.Test.YtpmkokckjieidaaGreatDoorAppZero
import Derived.StillTailTactics
namespace Go.Proofs.YtpmkokckjieidaaGreatDoor
open Go.RowKit
set_option linter.unusedVariables false
set_option linter.unusedSimpArgs false
set_option maxRecDepth 100000

theorem rd_struct3 {P : Program} {t : TypeId} {f0 f1 f2 : Field} {α β γ : Type} {e0 : α → List Value} {e1 : β → List Value} {e2 : γ → List Value}
    {k0 : World → α → Prop} {k1 : World → β → Prop} {k2 : World → γ → Prop} {m0 m1 m2 : Nat}
    (ht : P.underlying t = some (.struct #[f0, f1, f2])) (hc : P.cellsOf t = m0 + m1 + m2) (hc0 : P.cellsOf f0.type = m0) (hc1 : P.cellsOf f1.type = m1) (hc2 : P.cellsOf f2.type = m2)
    (ho0 : f0.offset = 0) (ho1 : f1.offset = m0) (ho2 : f2.offset = m0 + m1)
    (h0 : Rd P f0.type e0 k0) (h1 : Rd P f1.type e1 k1) (h2 : Rd P f2.type e2 k2) :
    Rd P t (fun a : α × β × γ => e0 a.1 ++ e1 a.2.1 ++ e2 a.2.2) (fun w a => k0 w a.1 ∧ k1 w a.2.1 ∧ k2 w a.2.2) := by
  intro H e w base spare held fuel cs x h
  obtain ⟨xs, n, _, _, hl, hlen, hf⟩ := DataW.trod_struct ht h
  match xs, hlen with
  | [y0, y1, y2], _ =>
    obtain ⟨a, ha, ka⟩ := h0 H e w base spare held n _ _ (hf 0 f0 rfl)
    obtain ⟨b, hb, kb⟩ := h1 H e w base spare held n _ _ (hf 1 f1 rfl)
    obtain ⟨c, hcc, kc⟩ := h2 H e w base spare held n _ _ (hf 2 f2 rfl)
    refine ⟨(a, b, c), ?_, ka, kb, kc⟩
    rw [hc0, ho0, List.drop_zero] at ha
    rw [hc1, ho1] at hb
    rw [hc2, ho2] at hcc
    show cs = e0 a ++ e1 b ++ e2 c
    rw [← ha, ← hb, ← hcc, List.take_of_length_le (l := cs.drop (m0 + m1)) (by rw [List.length_drop]; omega)]
    rw [List.append_assoc, drop_split, List.take_append_drop]

abbrev Act10 := Int × ByteArray × Int
def encAct10 (a : Act10) : List Value := encI a.1 ++ encT a.2.1 ++ encI a.2.2
def okAct10 (w : World) (a : Act10) : Prop := okI .i64 w a.1 ∧ okS w a.2.1 ∧ okI .i64 w a.2.2
theorem encAct10_len (a : Act10) : (encAct10 a).length = 3 := rfl
theorem cellsAct10 : Tryz.prog.cellsOf 30 = 3 := by kernel_rfl
theorem rdAct10 : Rd Tryz.prog 30 encAct10 okAct10 :=
  rd_struct3 (m0 := 1) (m1 := 1) (m2 := 1) Tryz.underlying30 cellsAct10 cellsInt cellsString cellsInt rfl rfl rfl rdInt (rd_string Tryz.underlying9) rdInt
theorem rdActs10 : Rd Tryz.prog 22 encSl (SlOk encAct10 okAct10 3) := rd_slice Tryz.underlying22 cellsAct10 (by omega) encAct10_len rdAct10

/-- An act, told of by its text. -/
abbrev A10 := Int × Txt × Int
def encA10 (a : A10) : List Value := [.int .i64 a.1, tx a.2.1, .int .i64 a.2.2]
theorem encA10_len (a : A10) : (encA10 a).length = 3 := rfl
def raw10 (a : Act10) : A10 := (a.1, a.2.1.data.toList, a.2.2)
def cut10 (a : Act10) : A10 := (a.1, a.2.1.data.toList.take 100, a.2.2)
theorem enc_raw (a : Act10) : encA10 (raw10 a) = encAct10 a := by
  unfold encA10 encAct10 raw10 encI encT
  rw [← tx_of]; rfl
def few10 (xs : List Act10) : List A10 := (xs.take 80).map cut10
def mix10 (ys : List Act10) (k : Nat) : List A10 := (ys.take k).map cut10 ++ (ys.drop k).map raw10
theorem mix10_step {ys : List Act10} {k : Nat} {a : Act10} (h : ys[k]? = some a) : (mix10 ys k).set k (cut10 a) = mix10 ys (k + 1) := by
  have hk := get_lt h
  unfold mix10
  have e : ys.drop k = a :: ys.drop (k + 1) := by
    rw [List.drop_eq_getElem_cons hk]
    congr 1
    rw [List.getElem?_eq_getElem hk] at h
    exact Option.some.inj h
  rw [List.set_append_right _ _ (by rw [List.length_map, List.length_take]; exact Nat.min_le_left _ _), e]
  simp only [List.length_map, List.length_take, Nat.min_eq_left (Nat.le_of_lt hk), Nat.sub_self, List.map_cons, List.set_cons_zero]
  rw [List.take_add_one, h, List.map_append]
  simp
theorem mix10_get {ys : List Act10} {k : Nat} {a : Act10} (h : ys[k]? = some a) : (mix10 ys k)[k]? = some (raw10 a) := by
  have hk := get_lt h
  unfold mix10
  rw [List.getElem?_append_right (by rw [List.length_map, List.length_take]; exact Nat.min_le_left _ _), List.getElem?_map, List.getElem?_drop]
  simp only [List.length_map, List.length_take, Nat.min_eq_left (Nat.le_of_lt hk), Nat.sub_self, Nat.add_zero, h]
  rfl
theorem mix10_zero (ys : List Act10) : mix10 ys 0 = ys.map raw10 := by simp [mix10]
theorem mix10_all (ys : List Act10) : mix10 ys ys.length = ys.map cut10 := by simp [mix10]
theorem row_raw (ys : List Act10) : rowOf encA10 (ys.map raw10) = rowOf encAct10 ys := by
  induction ys with
  | nil => rfl
  | cons a ys ih => rw [List.map_cons, rowOf_cons, rowOf_cons, ih, enc_raw]
theorem row_cells10 {w : World} {b o : Nat} {xs : List Act10} (h : RowAt encAct10 3 w (some ⟨b, o, none⟩) xs) : ∀ (j : Nat) (u : Value), (rowOf encAct10 xs)[j]? = some u → w.cell? ((⟨b, o, none⟩ : Addr).add j) = some u := by
  intro j u hj
  have hlt : j / 3 < xs.length := by
    have := get_lt hj
    rw [rowOf_length encAct10_len] at this; omega
  obtain ⟨a, ha⟩ := get_some hlt
  obtain ⟨b', o', e, hc⟩ := h _ a ha
  cases e
  obtain ⟨v, hv⟩ : ∃ v, (encAct10 a)[j % 3]? = some v := get_some (by rw [encAct10_len]; omega)
  have h1 := rowOf_get encAct10_len ha hv
  rw [show j / 3 * 3 + j % 3 = j by omega, hj] at h1
  cases h1
  have := hc _ _ hv
  rw [Addr.add_lit]
  rwa [show j / 3 * 3 + j % 3 = j by omega] at this
theorem encAct10_ones (l : List Act10) : ∀ u ∈ rowOf encAct10 l, u.oneCell' = true := by
  intro u hu
  unfold rowOf at hu
  obtain ⟨p, _, hp⟩ := List.mem_flatMap.1 hu
  simp [encAct10, encI, encT] at hp
  rcases hp with rfl | rfl | rfl <;> rfl
theorem infoAct10 : (Tryz.prog.info? 30).map (fun i => (i.zero, i.size, i.bytes)) = some (some (.agg #[.int .i64 0, .string ⟨#[]⟩, .int .i64 0]), 3, 32) := by kernel_rfl

/-- The acts that are few: handed out, one's own. -/
def Few10Post (w : World) (xs : List Act10) (e : Ending) (w' : World) : Prop :=
  ∃ g n c, e = .returned (.slice (some ⟨g, 0, none⟩) n c) ∧ n = (few10 xs).length ∧ w'.ownsRow w.heap.size 30 3 (.slice (some ⟨g, 0, none⟩) n c) n (rowOf encA10 (few10 xs)) ∧ Still w w'

set_option maxHeartbeats 2000000 in
theorem few10_any (s : Sl Act10) (w : World) (hs : SlOk encAct10 okAct10 3 w s) : Calls Tryz.prog 11 #[.slice s.a s.len s.cap] w (Few10Post w s.xs) := by
  obtain ⟨sa, sl, sc, xs⟩ := s
  obtain ⟨i0, hi, hz0, hz1, hz2⟩ := info_parts infoAct10
  have hlen : xs.length = sl := hs.len
  have hle : (sl : Int) ≤ (sc : Int) := by have : sl ≤ sc := hs.le; omega
  obtain ⟨n, hn⟩ : ∃ n : Nat, n = min sl 80 := ⟨_, rfl⟩
  have hif : (if (80 : Int) < (sl : Int) then (80 : Int) else (sl : Int)) = (n : Int) := by split <;> omega
  have hnl : n ≤ sl := by omega
  have hn80 : n ≤ 80 := by omega
  have hnc : (n : Int) ≤ (sc : Int) := by omega
  obtain ⟨ys, hys⟩ : ∃ ys, ys = xs.take 80 := ⟨_, rfl⟩
  have hyl : ys.length = n := by rw [hys, List.length_take, hlen]; omega
  have HY := Lib.hid hyl
  have HF := Lib.hid (show few10 xs = ys.map cut10 by rw [hys]; rfl)
  have HOk := Lib.hid (fun (a : Act10) (h : a ∈ ys) => show a.2.1.size ≤ maxLen from (hs.each a (List.mem_of_mem_take (by rw [← hys]; exact h))).2.1)
  have HRow := Lib.hid (show RowAt encAct10 3 w sa ys from fun i x hx => by
    rw [hys, List.getElem?_take] at hx
    split at hx
    · exact hs.row i x hx
    · cases hx)
  have HNone := Lib.hid (show sa = none → sl = 0 ∧ sc = 0 from hs.none)
  have HL := Lib.hid (show (rowOf encAct10 ys).length = n * 3 by rw [rowOf_length encAct10_len, hyl])
  have HOne := Lib.hid (encAct10_ones ys)
  dsimp only
  have HEnd := Lib.hid (fun (w6 : World) (a6 : Nat) (c6 : Nat) (hown : w6.ownsRow w.heap.size 30 3 (.slice (some ⟨a6, 0, none⟩) n c6) n (rowOf encA10 (mix10 ys n))) (hst : Still w w6) => show Few10Post w xs (.returned (.slice (some ⟨a6, 0, none⟩) n c6)) w6 from by
    rw [← HY.out, mix10_all, HY.out] at hown
    exact ⟨a6, n, c6, rfl, by rw [HF.out, List.length_map, HY.out], by rw [HF.out]; exact hown, hst⟩)
  have hz : n = 0 → sl = 0 := fun h => by omega
  clear hs hlen hn hys hyl
  go_enter Tryz.func11, Tryz.ntmps11
  rcases Nat.eq_zero_or_pos n with hn0 | hn0
  · obtain rfl := hz hn0
    subst hn0
    clear hif hnl hn80 hnc hz hle
    have HO := Lib.hid (World.ownsRow_made (e := 30) (size := 3) w #[] 0 (Nat.le_refl _) (by simp) (by simp))
    have HNil := Lib.hid (show rowOf encA10 (mix10 ys 0) = [] by rw [mix10_zero, row_raw, List.eq_nil_of_length_eq_zero HY.out]; rfl)
    have HSt := Lib.hid ((Turned.refl (fun _ => False) w).alloc (.cells #[] 30))
    clear HNone HRow HOk HOne
    cases sa
    all_goals (go_wp2_with (at_builtin; refine wpList_app_zero rfl (.tmp 5) (.tmp 10) 22 rfl 30 i0 Tryz.underlying22 hi _ _ 0 0 _ rfl rfl (Nat.le_refl _) ?_))
    all_goals (go_loopw [4] (fun i wr => i = .int .i64 0 ∧ wr = w.alloc (.cells #[] 30)) (fun i _ => 0))
    all_goals first
      | exact ⟨rfl, rfl⟩
      | skip
    all_goals (obtain ⟨rfl, rfl⟩ := hrel; go_wp2_with fail; go_ret; exact HEnd.out _ _ _ (by rw [HNil.out]; exact HO.out) HSt.out)
  · obtain ⟨a, ha⟩ := get_some (l := ys) (i := 0) (by rw [HY.out]; exact hn0)
    obtain ⟨b, o, rfl, _⟩ := HRow.out 0 a ha
    clear ha
    go_wp2_with (at_builtin; refine wpList_append_own_at _ rfl (.tmp 5) (.tmp 10) 22 rfl w.heap.size 30 i0 _ 3 32 Tryz.underlying22 hi hz0 hz1 hz2 rfl (by decide) (.slice (some ⟨w.heap.size, 0, none⟩) 0 0) 0 [] rfl (World.ownsRow_made w #[] 0 (Nat.le_refl _) (by simp) (by simp)) ⟨b, o, none⟩ n sc (rowOf encAct10 ys) rfl HL.out (row_cells10 (HRow.out.stays ((Turned.refl _ _).alloc _))) HOne.out (by unfold maxLen; omega) (by omega) (by simp) ?_; intro v6 w6 hown6 hg6 _ hat6; obtain ⟨a6, c6, rfl⟩ := ow_slice hown6; rw [Nat.zero_add, List.nil_append] at hown6; obtain ⟨g6, rfl⟩ := owm_addr hown6 hn0; have HO6 := Lib.hid hown6; have HS6 := Lib.hid (show Still w w6 from ((Turned.refl (fun _ => False) w).alloc (.cells #[] 30)).grown hg6 (fun i e => .inr (by cases e; exact Nat.le_refl _))); clear hown6 hg6 hat6)
    clear HL HOne HRow HNone hif hz hnc hle
    obtain ⟨V, hV⟩ : ∃ V, V = w6 := ⟨_, rfl⟩
    rw [← hV] at HO6 HS6 ⊢
    have HM0 := Lib.hid (show rowOf encA10 (mix10 ys 0) = rowOf encAct10 ys by rw [mix10_zero, row_raw])
    clear hV
    go_loopw [4] (fun i wr => ∃ k : Nat, k ≤ n ∧ i = .int .i64 k ∧ wr.ownsRow w.heap.size 30 3 (.slice (some ⟨g6, 0, none⟩) n c6) n (rowOf encA10 (mix10 ys k)) ∧ Still w wr) (fun i _ => n - (intOf i).toNat)
    case atStart => exact ⟨0, Nat.zero_le _, rfl, by rw [HM0.out]; exact HO6.out, HS6.out⟩
    case round =>
      clear HM0 HO6 HS6
      obtain ⟨k, hk, rfl, hown, hst⟩ := hrel
      have HO := Lib.hid hown
      have HSt := Lib.hid hst
      by_cases hlt : k < n
      · obtain ⟨a, ha⟩ := get_some (l := ys) (i := k) (by rw [HY.out]; exact hlt)
        have hm := mix10_get ha
        have e1 := rowOf_get encA10_len hm (j := 1) (v := tx (raw10 a).2.1) rfl
        obtain ⟨d1, d2⟩ := owm_cell hown e1
        rw [show tx (raw10 a).2.1 = .string a.2.1 from (tx_of _).symm] at d1
        have hsz := HOk.out a (List.mem_of_getElem? ha)
        obtain ⟨s, hs⟩ : ∃ s, s = a.2.1 := ⟨_, rfl⟩
        rw [← hs] at d1 hsz
        obtain ⟨m, hmm⟩ : ∃ m, m = s.size := ⟨_, rfl⟩
        rw [← hmm] at hsz
        obtain ⟨y, hy⟩ : ∃ y : Nat, y = min m 100 := ⟨_, rfl⟩
        have hif : (if (100 : Int) < (m : Int) then (100 : Int) else (m : Int)) = (y : Int) := by split <;> omega
        have hym : (y : Int) ≤ (m : Int) := by omega
        have hmi : (m : Int) ≤ 9223372036854775807 := by unfold maxLen at hsz; omega
        have hg : w.heap.size ≤ g6 := (ow_lt hown ⟨g6, 0, none⟩ rfl).1
        have HNext := Lib.hid (show (wr.drew.setCell ⟨g6, k * 3 + 1, none⟩ (.string (s.extract 0 y))).ownsRow w.heap.size 30 3 (.slice (some ⟨g6, 0, none⟩) n c6) n (rowOf encA10 (mix10 ys (k + 1))) ∧ Still w (wr.drew.setCell ⟨g6, k * 3 + 1, none⟩ (.string (s.extract 0 y))) from by
          refine ⟨?_, hst.drew.setCell (.inr hg) _⟩
          have h := owm_set (ow_still hown (Turned.refl _ wr).drew) (get_lt e1) (.string (s.extract 0 y))
          rwa [rowOf_set encA10_len hm (j := 1) (b := cut10 a) (by omega) (by
            have : s.extract 0 y = ⟨(s.data.toList.take 100).toArray⟩ := by
              have hl : s.data.toList.length = m := by rw [hmm]; rfl
              have e : s.data.toList.take 100 = s.data.toList.take y := by
                rw [hy, List.take_eq_take_iff]; omega
              rw [e]
              obtain ⟨l, hl2⟩ : ∃ l : Txt, s = ⟨l.toArray⟩ := ⟨s.data.toList, by simp⟩
              rw [hl2, ByteArray.extract_mk]; simp
            rw [this, hs]; rfl), mix10_step ha] at h)
        have hsm : s.size = m := hmm.symm
        clear hm e1 hs hmm hy hown hst HO HSt ha HEnd HOk HF HY
        go_wp2_with fail
        go_still_tail 17, (by kernel_rfl)
        change wpList _ _ _ _ _ wr.drew
        go_wp2_with fail
        go_roundw
        case rel => exact ⟨k + 1, by omega, by go_num, HNext.out.1, HNext.out.2⟩
        case measure => simp [intOf]; omega
      · obtain rfl : k = n := by omega
        clear hst hown
        go_wp2_with fail
        go_ret
        exact HEnd.out _ _ _ HO.out HSt.out

theorem act_cells {w : World} {B g n c : Nat} {l : List A10} (h : w.ownsRow B 30 3 (.slice (some ⟨g, 0, none⟩) n c) n (rowOf encA10 l)) {k : Nat} {a : A10} (ha : l[k]? = some a) :
    w.cell? ⟨g, k * 3, none⟩ = some (.int .i64 a.1) ∧ w.cell? ⟨g, k * 3 + 1, none⟩ = some (tx a.2.1) ∧ w.cell? ⟨g, k * 3 + 2, none⟩ = some (.int .i64 a.2.2) :=
  ⟨(owm_cell h (rowOf_get encA10_len ha (j := 0) rfl)).1, (owm_cell h (rowOf_get encA10_len ha (j := 1) rfl)).1, (owm_cell h (rowOf_get encA10_len ha (j := 2) rfl)).1⟩
end Go.Proofs.YtpmkokckjieidaaGreatDoor
