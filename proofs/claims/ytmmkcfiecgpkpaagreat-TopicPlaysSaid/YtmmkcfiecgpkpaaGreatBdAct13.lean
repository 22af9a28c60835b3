/- Texts that lie next to one another, laid into one: each says what it holds. No condition but what each states. -/
import Derived.Test.YtmmkcfiecgpkpaaGreatBdRead
import Derived.Test.YtmmkcfiecgpkpaaGreatBxTextMore
import Derived.Test.YtmmkcfiecgpkpaaGreatBdRingZ
import Derived.Test.YtmmkcfiecgpkpaaGreatBdApp
import Derived.StillTailTactics

/- The acts of the statements of layer 13 as arguments; what few makes of them. No condition. -/
namespace Go.Proofs.YtmmkcfiecgpkpaaGreat
open Go.RowKit
set_option linter.unusedVariables false
set_option linter.unusedSimpArgs false
set_option maxRecDepth 100000

theorem rd_struct6 {P : Program} {t : TypeId} {f0 f1 f2 f3 f4 f5 : Field} {α β γ δ ε ζ : Type} {e0 : α → List Value} {e1 : β → List Value} {e2 : γ → List Value} {e3 : δ → List Value} {e4 : ε → List Value} {e5 : ζ → List Value}
    {k0 : World → α → Prop} {k1 : World → β → Prop} {k2 : World → γ → Prop} {k3 : World → δ → Prop} {k4 : World → ε → Prop} {k5 : World → ζ → Prop}
    (ht : P.underlying t = some (.struct #[f0, f1, f2, f3, f4, f5])) (hc : P.cellsOf t = 6) (hc0 : P.cellsOf f0.type = 1) (hc1 : P.cellsOf f1.type = 1) (hc2 : P.cellsOf f2.type = 1) (hc3 : P.cellsOf f3.type = 1) (hc4 : P.cellsOf f4.type = 1) (hc5 : P.cellsOf f5.type = 1)
    (ho0 : f0.offset = 0) (ho1 : f1.offset = 1) (ho2 : f2.offset = 2) (ho3 : f3.offset = 3) (ho4 : f4.offset = 4) (ho5 : f5.offset = 5)
    (h0 : Rd P f0.type e0 k0) (h1 : Rd P f1.type e1 k1) (h2 : Rd P f2.type e2 k2) (h3 : Rd P f3.type e3 k3) (h4 : Rd P f4.type e4 k4) (h5 : Rd P f5.type e5 k5) :
    Rd P t (fun a : α × β × γ × δ × ε × ζ => e0 a.1 ++ (e1 a.2.1 ++ (e2 a.2.2.1 ++ (e3 a.2.2.2.1 ++ (e4 a.2.2.2.2.1 ++ e5 a.2.2.2.2.2))))) (fun w a => k0 w a.1 ∧ k1 w a.2.1 ∧ k2 w a.2.2.1 ∧ k3 w a.2.2.2.1 ∧ k4 w a.2.2.2.2.1 ∧ k5 w a.2.2.2.2.2) := by
  intro H e w base spare held fuel cs x h
  obtain ⟨xs, n, _, _, hl, hlen, hf⟩ := DataW.trod_struct ht h
  match xs, hlen with
  | [y0, y1, y2, y3, y4, y5], _ =>
    obtain ⟨a, ha, ka⟩ := h0 H e w base spare held n _ _ (hf 0 f0 rfl)
    obtain ⟨b, hb, kb⟩ := h1 H e w base spare held n _ _ (hf 1 f1 rfl)
    obtain ⟨c, hcc, kc⟩ := h2 H e w base spare held n _ _ (hf 2 f2 rfl)
    obtain ⟨d, hd, kd⟩ := h3 H e w base spare held n _ _ (hf 3 f3 rfl)
    obtain ⟨g, hg, kg⟩ := h4 H e w base spare held n _ _ (hf 4 f4 rfl)
    obtain ⟨i, hi, ki⟩ := h5 H e w base spare held n _ _ (hf 5 f5 rfl)
    refine ⟨(a, b, c, d, g, i), ?_, ka, kb, kc, kd, kg, ki⟩
    rw [hc0, ho0, List.drop_zero] at ha
    rw [hc1, ho1] at hb
    rw [hc2, ho2] at hcc
    rw [hc3, ho3] at hd
    rw [hc4, ho4] at hg
    rw [hc5, ho5] at hi
    show cs = e0 a ++ (e1 b ++ (e2 c ++ (e3 d ++ (e4 g ++ e5 i))))
    rw [← ha, ← hb, ← hcc, ← hd, ← hg, ← hi, List.take_of_length_le (l := cs.drop 5) (by rw [List.length_drop]; omega)]
    have q4 : (cs.drop 4).take 1 ++ cs.drop 5 = cs.drop 4 := drop_split cs 4 1
    have q3 : (cs.drop 3).take 1 ++ cs.drop 4 = cs.drop 3 := drop_split cs 3 1
    have q2 : (cs.drop 2).take 1 ++ cs.drop 3 = cs.drop 2 := drop_split cs 2 1
    have q1 : (cs.drop 1).take 1 ++ cs.drop 2 = cs.drop 1 := drop_split cs 1 1
    rw [q4, q3, q2, q1, List.take_append_drop]

abbrev Act13 := Int × ByteArray × Sl UInt8 × Int × Int × Int
def encAct13 (a : Act13) : List Value := encI a.1 ++ (encT a.2.1 ++ (encSl a.2.2.1 ++ (encI a.2.2.2.1 ++ (encI a.2.2.2.2.1 ++ encI a.2.2.2.2.2))))
def okAct13 (w : World) (a : Act13) : Prop := okI .i64 w a.1 ∧ okS w a.2.1 ∧ SlOk encB okB 1 w a.2.2.1 ∧ okI .i64 w a.2.2.2.1 ∧ okI .i64 w a.2.2.2.2.1 ∧ okI .i64 w a.2.2.2.2.2
theorem encAct13_len (a : Act13) : (encAct13 a).length = 6 := rfl
theorem cellsAct13 : Tryz.prog.cellsOf 37 = 6 := by kernel_rfl
theorem cellsBytes13 : Tryz.prog.cellsOf 35 = 1 := by kernel_rfl
theorem rdAct13 : Rd Tryz.prog 37 encAct13 okAct13 :=
  rd_struct6 Tryz.underlying37 cellsAct13 cellsInt cellsString cellsBytes13 cellsInt cellsInt cellsInt rfl rfl rfl rfl rfl rfl rdInt (rd_string Tryz.underlying9) rdBytes rdInt rdInt rdInt
theorem rdActs13 : Rd Tryz.prog 22 encSl (SlOk encAct13 okAct13 6) := rd_slice Tryz.underlying22 cellsAct13 (by omega) encAct13_len rdAct13

/-- An act, told of by its text. -/
abbrev A13 := Int × Txt × Sl UInt8 × Int × Int × Int
def encA13 (a : A13) : List Value := [.int .i64 a.1, tx a.2.1, .slice a.2.2.1.a a.2.2.1.len a.2.2.1.cap, .int .i64 a.2.2.2.1, .int .i64 a.2.2.2.2.1, .int .i64 a.2.2.2.2.2]
theorem encA13_len (a : A13) : (encA13 a).length = 6 := rfl
def key65 (k : Sl UInt8) : Sl UInt8 := ⟨k.a, min k.len 65, k.cap, k.xs.take 65⟩
def raw13 (a : Act13) : A13 := (a.1, a.2.1.data.toList, a.2.2.1, a.2.2.2)
/-- The name cut, the key not yet. -/
def half13 (a : Act13) : A13 := (a.1, a.2.1.data.toList.take 100, a.2.2.1, a.2.2.2)
def cut13 (a : Act13) : A13 := (a.1, a.2.1.data.toList.take 100, key65 a.2.2.1, a.2.2.2)
theorem enc_raw13 (a : Act13) : encA13 (raw13 a) = encAct13 a := by
  unfold encA13 encAct13 raw13 encI encT
  rw [← tx_of]; rfl
def few13 (xs : List Act13) : List A13 := (xs.take 80).map cut13
def mix13 (ys : List Act13) (k : Nat) : List A13 := (ys.take k).map cut13 ++ (ys.drop k).map raw13
theorem mix13_at {ys : List Act13} {k : Nat} {a : Act13} (h : ys[k]? = some a) (b : A13) : (mix13 ys k).set k b = (ys.take k).map cut13 ++ b :: (ys.drop (k + 1)).map raw13 := by
  have hk := get_lt h
  unfold mix13
  have e : ys.drop k = a :: ys.drop (k + 1) := by
    rw [List.drop_eq_getElem_cons hk]
    congr 1
    rw [List.getElem?_eq_getElem hk] at h
    exact Option.some.inj h
  rw [List.set_append_right _ _ (by rw [List.length_map, List.length_take]; exact Nat.min_le_left _ _), e]
  simp only [List.length_map, List.length_take, Nat.min_eq_left (Nat.le_of_lt hk), Nat.sub_self, List.map_cons, List.set_cons_zero]
theorem mix13_step {ys : List Act13} {k : Nat} {a : Act13} (h : ys[k]? = some a) : (mix13 ys k).set k (cut13 a) = mix13 ys (k + 1) := by
  rw [mix13_at h]
  unfold mix13
  rw [List.take_add_one, h, List.map_append]
  simp
theorem mix13_get {ys : List Act13} {k : Nat} {a : Act13} (h : ys[k]? = some a) : (mix13 ys k)[k]? = some (raw13 a) := by
  have hk := get_lt h
  unfold mix13
  rw [List.getElem?_append_right (by rw [List.length_map, List.length_take]; exact Nat.min_le_left _ _), List.getElem?_map, List.getElem?_drop]
  simp only [List.length_map, List.length_take, Nat.min_eq_left (Nat.le_of_lt hk), Nat.sub_self, Nat.add_zero, h]
  rfl
theorem mix13_zero (ys : List Act13) : mix13 ys 0 = ys.map raw13 := by simp [mix13]
theorem mix13_all (ys : List Act13) : mix13 ys ys.length = ys.map cut13 := by simp [mix13]
theorem row_raw13 (ys : List Act13) : rowOf encA13 (ys.map raw13) = rowOf encAct13 ys := by
  induction ys with
  | nil => rfl
  | cons a ys ih => rw [List.map_cons, rowOf_cons, rowOf_cons, ih, enc_raw13]
theorem row_cells13 {w : World} {b o : Nat} {xs : List Act13} (h : RowAt encAct13 6 w (some ⟨b, o, none⟩) xs) : ∀ (j : Nat) (u : Value), (rowOf encAct13 xs)[j]? = some u → w.cell? ((⟨b, o, none⟩ : Addr).add j) = some u := by
  intro j u hj
  have hlt : j / 6 < xs.length := by
    have := get_lt hj
    rw [rowOf_length encAct13_len] at this; omega
  obtain ⟨a, ha⟩ := get_some hlt
  obtain ⟨b', o', e, hc⟩ := h _ a ha
  cases e
  obtain ⟨v, hv⟩ : ∃ v, (encAct13 a)[j % 6]? = some v := get_some (by rw [encAct13_len]; omega)
  have h1 := rowOf_get encAct13_len ha hv
  rw [show j / 6 * 6 + j % 6 = j by omega, hj] at h1
  cases h1
  have := hc _ _ hv
  rw [Addr.add_lit]
  rwa [show j / 6 * 6 + j % 6 = j by omega] at this
theorem encAct13_ones (l : List Act13) : ∀ u ∈ rowOf encAct13 l, u.oneCell' = true := by
  intro u hu
  unfold rowOf at hu
  obtain ⟨p, _, hp⟩ := List.mem_flatMap.1 hu
  simp [encAct13, encI, encT, encSl] at hp
  rcases hp with rfl | rfl | rfl | rfl | rfl | rfl <;> rfl
theorem infoAct13 : (Tryz.prog.info? 37).map (fun i => (i.zero, i.size)) = some (some (.agg #[.int .i64 0, .string ⟨#[]⟩, .slice none 0 0, .int .i64 0, .int .i64 0, .int .i64 0]), 6) := by kernel_rfl

/-- The acts that are few: handed out, one's own. -/
def Few13Post (w : World) (xs : List Act13) (e : Ending) (w' : World) : Prop :=
  ∃ g n c, e = .returned (.slice (some ⟨g, 0, none⟩) n c) ∧ n = (few13 xs).length ∧ w'.ownsRow w.heap.size 37 6 (.slice (some ⟨g, 0, none⟩) n c) n (rowOf encA13 (few13 xs)) ∧ Still w w'
theorem act_cells13 {w : World} {B g n c : Nat} {l : List A13} (h : w.ownsRow B 37 6 (.slice (some ⟨g, 0, none⟩) n c) n (rowOf encA13 l)) {k : Nat} {a : A13} (ha : l[k]? = some a) :
    w.cell? ⟨g, k * 6, none⟩ = some (.int .i64 a.1) ∧ w.cell? ⟨g, k * 6 + 1, none⟩ = some (tx a.2.1) ∧ w.cell? ⟨g, k * 6 + 2, none⟩ = some (.slice a.2.2.1.a a.2.2.1.len a.2.2.1.cap) ∧ w.cell? ⟨g, k * 6 + 3, none⟩ = some (.int .i64 a.2.2.2.1) ∧ w.cell? ⟨g, k * 6 + 4, none⟩ = some (.int .i64 a.2.2.2.2.1) ∧ w.cell? ⟨g, k * 6 + 5, none⟩ = some (.int .i64 a.2.2.2.2.2) :=
  ⟨(owm_cell h (rowOf_get encA13_len ha (j := 0) rfl)).1, (owm_cell h (rowOf_get encA13_len ha (j := 1) rfl)).1, (owm_cell h (rowOf_get encA13_len ha (j := 2) rfl)).1, (owm_cell h (rowOf_get encA13_len ha (j := 3) rfl)).1, (owm_cell h (rowOf_get encA13_len ha (j := 4) rfl)).1, (owm_cell h (rowOf_get encA13_len ha (j := 5) rfl)).1⟩
end Go.Proofs.YtmmkcfiecgpkpaaGreat

/- What few makes of the acts of layer 13. No condition. -/
namespace Go.Proofs.YtmmkcfiecgpkpaaGreat
open Go.RowKit
set_option linter.unusedVariables false
set_option linter.unusedSimpArgs false
set_option maxRecDepth 100000
theorem infoAct13b : (Tryz.prog.info? 37).map (fun i => (i.zero, i.size, i.bytes)) = some (some (.agg #[.int .i64 0, .string ⟨#[]⟩, .slice none 0 0, .int .i64 0, .int .i64 0, .int .i64 0]), 6, 72) := by kernel_rfl

set_option maxHeartbeats 2000000 in
theorem few13_any (s : Sl Act13) (w : World) (hs : SlOk encAct13 okAct13 6 w s) : Calls Tryz.prog 11 #[.slice s.a s.len s.cap] w (Few13Post w s.xs) := by
  obtain ⟨sa, sl, sc, xs⟩ := s
  obtain ⟨i0, hi, hz0, hz1, hz2⟩ := info_parts infoAct13b
  have hlen : xs.length = sl := hs.len
  have hle : (sl : Int) ≤ (sc : Int) := by have : sl ≤ sc := hs.le; omega
  obtain ⟨n, hn⟩ : ∃ n : Nat, n = min sl 80 := ⟨_, rfl⟩
  have hif : (if (80 : Int) < (sl : Int) then (80 : Int) else (sl : Int)) = (n : Int) := by split <;> omega
  have hnl : n ≤ sl := by omega
  have hn80 : n ≤ 80 := by omega
  have hnc : (n : Int) ≤ (sc : Int) := by omega
  obtain ⟨ys, hys⟩ : ∃ ys, ys = xs.take 80 := ⟨_, rfl⟩
  have hyl : ys.length = n := by rw [hys, List.length_take, hlen]; omega
  have HY := Lib.hid hyl
  have HF := Lib.hid (show few13 xs = ys.map cut13 by rw [hys]; rfl)
  have HOk := Lib.hid (fun (a : Act13) (h : a ∈ ys) => show a.2.1.size ≤ maxLen ∧ a.2.2.1.len ≤ a.2.2.1.cap ∧ a.2.2.1.cap ≤ maxLen from ⟨(hs.each a (List.mem_of_mem_take (by rw [← hys]; exact h))).2.1, (hs.each a (List.mem_of_mem_take (by rw [← hys]; exact h))).2.2.1.le, (hs.each a (List.mem_of_mem_take (by rw [← hys]; exact h))).2.2.1.max⟩)
  have HRow := Lib.hid (show RowAt encAct13 6 w sa ys from fun i x hx => by
    rw [hys, List.getElem?_take] at hx
    split at hx
    · exact hs.row i x hx
    · cases hx)
  have HNone := Lib.hid (show sa = none → sl = 0 ∧ sc = 0 from hs.none)
  have HL := Lib.hid (show (rowOf encAct13 ys).length = n * 6 by rw [rowOf_length encAct13_len, hyl])
  have HOne := Lib.hid (encAct13_ones ys)
  dsimp only
  have HEnd := Lib.hid (fun (w6 : World) (a6 : Nat) (c6 : Nat) (hown : w6.ownsRow w.heap.size 37 6 (.slice (some ⟨a6, 0, none⟩) n c6) n (rowOf encA13 (mix13 ys n))) (hst : Still w w6) => show Few13Post w xs (.returned (.slice (some ⟨a6, 0, none⟩) n c6)) w6 from by
    rw [← HY.out, mix13_all, HY.out] at hown
    exact ⟨a6, n, c6, rfl, by rw [HF.out, List.length_map, HY.out], by rw [HF.out]; exact hown, hst⟩)
  have hz : n = 0 → sl = 0 := fun h => by omega
  clear hs hlen hn hys hyl
  go_enter Tryz.func11, Tryz.ntmps11
  rcases Nat.eq_zero_or_pos n with hn0 | hn0
  · obtain rfl := hz hn0
    subst hn0
    clear hif hnl hn80 hnc hz hle
    have HO := Lib.hid (World.ownsRow_made (e := 37) (size := 6) w #[] 0 (Nat.le_refl _) (by simp) (by simp))
    have HNil := Lib.hid (show rowOf encA13 (mix13 ys 0) = [] by rw [mix13_zero, row_raw13, List.eq_nil_of_length_eq_zero HY.out]; rfl)
    have HSt := Lib.hid ((Turned.refl (fun _ => False) w).alloc (.cells #[] 37))
    clear HNone HRow HOk HOne
    cases sa
    all_goals (go_wp2_with (at_builtin; refine wpList_app_zero rfl (.tmp 5) (.tmp 10) 22 rfl 37 i0 Tryz.underlying22 hi _ _ 0 0 _ rfl rfl (Nat.le_refl _) ?_))
    all_goals (go_loopw [4] (fun i wr => i = .int .i64 0 ∧ wr = w.alloc (.cells #[] 37)) (fun i _ => 0))
    all_goals first
      | exact ⟨rfl, rfl⟩
      | skip
    all_goals (obtain ⟨rfl, rfl⟩ := hrel; go_wp2_with fail; go_ret; exact HEnd.out _ _ _ (by rw [HNil.out]; exact HO.out) HSt.out)
  · obtain ⟨a, ha⟩ := get_some (l := ys) (i := 0) (by rw [HY.out]; exact hn0)
    obtain ⟨b, o, rfl, _⟩ := HRow.out 0 a ha
    clear ha
    go_wp2_with (at_builtin; refine wpList_append_own_at _ rfl (.tmp 5) (.tmp 10) 22 rfl w.heap.size 37 i0 _ 6 72 Tryz.underlying22 hi hz0 hz1 hz2 rfl (by decide) (.slice (some ⟨w.heap.size, 0, none⟩) 0 0) 0 [] rfl (World.ownsRow_made w #[] 0 (Nat.le_refl _) (by simp) (by simp)) ⟨b, o, none⟩ n sc (rowOf encAct13 ys) rfl HL.out (row_cells13 (HRow.out.stays ((Turned.refl _ _).alloc _))) HOne.out (by unfold maxLen; omega) (by omega) (by simp) ?_; intro v6 w6 hown6 hg6 _ hat6; obtain ⟨a6, c6, rfl⟩ := ow_slice hown6; rw [Nat.zero_add, List.nil_append] at hown6; obtain ⟨g6, rfl⟩ := owm_addr hown6 hn0; have HO6 := Lib.hid hown6; have HS6 := Lib.hid (show Still w w6 from ((Turned.refl (fun _ => False) w).alloc (.cells #[] 37)).grown hg6 (fun i e => .inr (by cases e; exact Nat.le_refl _))); clear hown6 hg6 hat6)
    clear HL HOne HRow HNone hif hz hnc hle
    obtain ⟨V, hV⟩ : ∃ V, V = w6 := ⟨_, rfl⟩
    rw [← hV] at HO6 HS6 ⊢
    have HM0 := Lib.hid (show rowOf encA13 (mix13 ys 0) = rowOf encAct13 ys by rw [mix13_zero, row_raw13])
    clear hV
    go_loopw [4] (fun i wr => ∃ k : Nat, k ≤ n ∧ i = .int .i64 k ∧ wr.ownsRow w.heap.size 37 6 (.slice (some ⟨g6, 0, none⟩) n c6) n (rowOf encA13 (mix13 ys k)) ∧ Still w wr) (fun i _ => n - (intOf i).toNat)
    case atStart => exact ⟨0, Nat.zero_le _, rfl, by rw [HM0.out]; exact HO6.out, HS6.out⟩
    case round =>
      clear HM0 HO6 HS6
      obtain ⟨k, hk, rfl, hown, hst⟩ := hrel
      have HO := Lib.hid hown
      have HSt := Lib.hid hst
      by_cases hlt : k < n
      · obtain ⟨a, ha⟩ := get_some (l := ys) (i := k) (by rw [HY.out]; exact hlt)
        have hm := mix13_get ha
        have e1 := rowOf_get encA13_len hm (j := 1) (v := tx (raw13 a).2.1) rfl
        obtain ⟨d1, d2⟩ := owm_cell hown e1
        rw [show tx (raw13 a).2.1 = .string a.2.1 from (tx_of _).symm] at d1
        obtain ⟨hsz, hkle, hkmx⟩ := HOk.out a (List.mem_of_getElem? ha)
        obtain ⟨s, hs⟩ : ∃ s, s = a.2.1 := ⟨_, rfl⟩
        rw [← hs] at d1 hsz
        obtain ⟨m, hmm⟩ : ∃ m, m = s.size := ⟨_, rfl⟩
        rw [← hmm] at hsz
        obtain ⟨y, hy⟩ : ∃ y : Nat, y = min m 100 := ⟨_, rfl⟩
        have hif : (if (100 : Int) < (m : Int) then (100 : Int) else (m : Int)) = (y : Int) := by split <;> omega
        have hym : (y : Int) ≤ (m : Int) := by omega
        have hmi : (m : Int) ≤ 9223372036854775807 := by unfold maxLen at hsz; omega
        obtain ⟨ka, kl, kc, kx, hkk⟩ : ∃ ka kl kc kx, a.2.2.1 = ⟨ka, kl, kc, kx⟩ := ⟨_, _, _, _, rfl⟩
        rw [hkk] at hkle hkmx
        dsimp only at hkle hkmx
        unfold maxLen at hkmx
        obtain ⟨z, hz⟩ : ∃ z : Nat, z = min kl 65 := ⟨_, rfl⟩
        have hif2 : (if (65 : Int) < (kl : Int) then (65 : Int) else (kl : Int)) = (z : Int) := by split <;> omega
        have hz0 : (0 : Int) ≤ (z : Int) := by omega
        have hzc : (z : Int) ≤ (kc : Int) := by omega
        have hg : w.heap.size ≤ g6 := (ow_lt hown ⟨g6, 0, none⟩ rfl).1
        have hkl := get_lt hm
        obtain ⟨V1, hV1⟩ : ∃ V, V = (wr.setCell ⟨g6, k * 6 + 1, none⟩ (.string (s.extract 0 y))).drew := ⟨_, rfl⟩
        have hW1 : V1 = wr.drew.setCell ⟨g6, k * 6 + 1, none⟩ (.string (s.extract 0 y)) := by rw [hV1]; first | rfl | (rw [World.setCell_drew]) | simp
        have hO1 : V1.ownsRow w.heap.size 37 6 (.slice (some ⟨g6, 0, none⟩) n c6) n (rowOf encA13 ((mix13 ys k).set k (half13 a))) := by
          rw [hW1]
          have h := owm_set (ow_still hown (Turned.refl _ wr).drew) (get_lt e1) (.string (s.extract 0 y))
          rwa [rowOf_set encA13_len hm (j := 1) (b := half13 a) (by omega) (by
            have : s.extract 0 y = ⟨(s.data.toList.take 100).toArray⟩ := by
              have hl : s.data.toList.length = m := by rw [hmm]; rfl
              have e : s.data.toList.take 100 = s.data.toList.take y := by
                rw [hy, List.take_eq_take_iff]; omega
              rw [e]
              obtain ⟨l, hl2⟩ : ∃ l : Txt, s = ⟨l.toArray⟩ := ⟨s.data.toList, by simp⟩
              rw [hl2, ByteArray.extract_mk]; simp
            rw [this, hs]; rfl)] at h
        have hS1 : Still w V1 := by rw [hW1]; exact hst.drew.setCell (.inr hg) _
        have hm2 : ((mix13 ys k).set k (half13 a))[k]? = some (half13 a) := by rw [List.getElem?_set_self hkl]
        have e2 := rowOf_get encA13_len hm2 (j := 2) (v := .slice ka kl kc) (by show some (Value.slice a.2.2.1.a a.2.2.1.len a.2.2.1.cap) = _; rw [hkk])
        obtain ⟨f1, f2⟩ := owm_cell hO1 e2
        have HNext := Lib.hid (show (V1.drew.setCell ⟨g6, k * 6 + 2, none⟩ (.slice ka z kc)).ownsRow w.heap.size 37 6 (.slice (some ⟨g6, 0, none⟩) n c6) n (rowOf encA13 (mix13 ys (k + 1))) ∧ Still w (V1.drew.setCell ⟨g6, k * 6 + 2, none⟩ (.slice ka z kc)) from by
          refine ⟨?_, hS1.drew.setCell (.inr hg) _⟩
          have h := owm_set (ow_still hO1 (Turned.refl _ V1).drew) (get_lt e2) (.slice ka z kc)
          rwa [rowOf_set encA13_len hm2 (j := 2) (b := cut13 a) (by omega) (by
            show [Value.int .i64 a.1, _, Value.slice ka z kc, _, _, _] = _
            unfold cut13 key65 encA13
            rw [hkk, hz]; rfl), List.set_set, mix13_step ha] at h)
        have hsm : s.size = m := hmm.symm
        clear hm e1 hs hmm hy hown hst HO HSt ha HEnd HOk HF HY hO1 hS1 hm2 e2 hkk hz hkl hW1
        go_wp2_with fail
        go_still_tail 17, (by kernel_rfl)
        change wpList _ _ _ _ _ wr.drew
        go_wp2_with fail
        rw [← hV1]
        clear hV1
        go_still_tail 17, (by kernel_rfl)
        change wpList _ _ _ _ _ V1.drew
        go_wp2_with fail
        go_roundw
        case rel => exact ⟨k + 1, by omega, by go_num, HNext.out.1, HNext.out.2⟩
        case measure => simp [intOf]; omega
      · obtain rfl : k = n := by omega
        clear hst hown
        go_wp2_with fail
        go_ret
        exact HEnd.out _ _ _ HO.out HSt.out

end Go.Proofs.YtmmkcfiecgpkpaaGreat
