/- What Trim of the document's ring does. No condition but that the ring is one. -/
import Derived.Test.YtefopajkcpcjpaaRingRefClaim
namespace Go.Proofs.Ytefopajkcpcjpaa
open Go.RowKit
set_option linter.unusedVariables false
set_option linter.unusedSimpArgs false
set_option maxRecDepth 100000

/-- What Trim hands out, and what it leaves: the ring and the references that went, apart. -/
def TrimSep (RT : Nat → RM → Thing) (w : World) (W : Nat → Prop) (q : Nat) (M : RM) (tt : Int) (e : Ending) (w' : World) : Prop :=
  ∃ a c, e = .returned (.tuple #[.slice a (M.trimL tt).length c, .int .i64 (M.trimE tt)]) ∧ Goes ((RT q (M.trimM tt)).sep (ownT 3 1 a (M.trimL tt).length c (ints (M.trimL tt)))) W w w'

theorem trim_same {w w' : World} {W : Nat → Prop} {q lc : Nat} {la : Option Addr} {M : RM} (H : RIn w W q la lc M) (hst : Still w w') {tt er : Int} (he : M.trimE tt = er) (h0 : er ≠ 0) : TrimSep zrT w W q M tt (.returned (.tuple #[.slice none 0 0, .int .i64 er])) w' := by
  have hl : M.trimL tt = [] := by unfold RM.trimL; rw [if_pos (by rw [he]; exact h0)]
  have hm : M.trimM tt = M := by unfold RM.trimM; rw [if_pos (by rw [he]; exact h0)]
  unfold TrimSep
  rw [hl, hm, he]
  refine ⟨none, 0, rfl, ⟨W, ⟨W, fun _ => False, ⟨la, lc, H.still hst⟩, ⟨⟨rfl, .inl ⟨rfl, rfl⟩⟩, fun k => ⟨fun h => h.elim, fun h => by cases h⟩⟩, fun _ _ h => h, fun k => by simp⟩, hst.mono (fun _ _ h => h.elim), fun k hk => .inl hk⟩⟩

theorem all_take_step {l : List Plc} {k : Nat} {p : Plc} (h : l[k]? = some p) (ha : (l.take k).all (·.d) = true) (hd : p.d = true) : (l.take (k + 1)).all (·.d) = true := by
  rw [List.take_add_one, h]
  simp [List.all_append, ha, hd]
theorem all_take_no {l : List Plc} {k c : Nat} {p : Plc} (h : l[k]? = some p) (hk : k < c) (hd : p.d = false) : ¬ (l.take c).all (·.d) = true := by
  intro ha
  rw [List.all_eq_true] at ha
  have hm : p ∈ l.take c := List.mem_of_getElem? (i := k) (by rw [List.getElem?_take, if_pos hk]; exact h)
  have := ha p hm
  rw [hd] at this
  cases this

/-- So many of the eldest places go. -/
theorem RIn.cutN {w w6 : World} {W : Nat → Prop} {q lc : Nat} {la : Option Addr} {M : RM} (H : RIn w W q la lc M) (h6 : Still w w6) {c m c6 : Nat} {a6 : Option Addr} (hm : m = (M.l.drop c).length)
    (hown : w6.ownsRow w.heap.size 59 2 (.slice a6 m c6) m (rowOf encP (M.l.drop c))) :
    (RIn ((w6.setCell ⟨q, 3, none⟩ (.slice a6 m c6)).setCell ⟨q, 2, none⟩ (.int .i64 ((M.h : Int) + (c : Int)))) (fun k => W k ∨ (Value.slice a6 m c6).ownBlock = some k) q a6 c6 { M with h := M.h + c, l := M.l.drop c } ∧ (∀ k, (Value.slice a6 m c6).ownBlock = some k → w.heap.size ≤ k)) ∧
      Blk w6 q [.int .i64 M.n, .int .i64 (polB M.ov), .int .i64 M.h, .slice la M.l.length lc] 47 := by
  have H6 := H.still h6
  have hlq := H.lt q H.own.1
  have htq : Turned (· = q) w6 (w6.setCell ⟨q, 3, none⟩ (.slice a6 m c6)) := turned_set (Turned.refl _ _) _ _
  have hx : ∀ x, a6 = some x → w.heap.size ≤ x.block := by rintro x rfl; exact (ow_lt hown x rfl).1
  have R : RIn (w6.setCell ⟨q, 3, none⟩ (.slice a6 m c6)) (fun k => W k ∨ (Value.slice a6 m c6).ownBlock = some k) q a6 c6 { M with l := M.l.drop c } := by
    refine ⟨fun k hk => ?_, ⟨.inl H.own.1, fun x hx' => ⟨.inr (by rw [hx']; rfl), by have := hx x hx'; omega⟩⟩, by rw [← hm]; exact H6.hd.set 3 _, ?_⟩
    · have hsz : (w6.setCell ⟨q, 3, none⟩ (.slice a6 m c6)).heap.size = w6.heap.size := by simp [World.setCell]
      rw [hsz]
      rcases hk with hk | hk
      · exact H6.lt k hk
      · cases a6 with
        | none => cases hk
        | some x => have := (ow_lt hown x rfl).2; simp only [Value.ownBlock, Option.some.injEq] at hk; omega
    · rw [← hm]
      exact ow_base (ow_turned hown htq (fun b hb e => by
        cases a6 with
        | none => cases hb
        | some x => have := hx x rfl
                    have e' : x.block = b := by simpa [Value.ownBlock] using hb
                    omega)) (Nat.zero_le _)
  have R2 := R.setH (M.h + c)
  rw [show ((M.h + c : Nat) : Int) = (M.h : Int) + (c : Int) by omega] at R2
  refine ⟨⟨R2, fun k hk => ?_⟩, H6.hd⟩
  cases a6 with
  | none => cases hk
  | some x => have := hx x rfl
              have e' : x.block = k := by simpa [Value.ownBlock] using hk
              omega

theorem trim_done {w V w6 : World} {W : Nat → Prop} {q lc : Nat} {la : Option Addr} {M : RM} (H : RIn w W q la lc M) (hV : Still w V) {ao : Option Addr} {c cc : Nat} (hcn : c ≤ M.l.length) (hout : V.ownsRow w.heap.size 3 1 (.slice ao c cc) c (ints ((M.l.take c).map (·.r)))) (h6 : Still V w6) {m c6 : Nat} {a6 : Option Addr} (hm : m = (M.l.drop c).length)
    (hown : w6.ownsRow V.heap.size 59 2 (.slice a6 m c6) m (rowOf encP (M.l.drop c))) {tt : Int} (he : M.trimE tt = 0 ∧ M.trimL tt = (M.l.take c).map (·.r) ∧ M.trimM tt = { M with h := M.h + c, l := M.l.drop c }) :
    TrimSep zrT w W q M tt (.returned (.tuple #[.slice ao c cc, .int .i64 0])) ((w6.setCell ⟨q, 3, none⟩ (.slice a6 m c6)).setCell ⟨q, 2, none⟩ (.int .i64 ((M.h : Int) + (c : Int)))) ∧ Blk w6 q [.int .i64 M.n, .int .i64 (polB M.ov), .int .i64 M.h, .slice la M.l.length lc] 47 := by
  obtain ⟨⟨R, hlo⟩, hb⟩ := (H.still hV).cutN h6 hm hown
  obtain ⟨e1, e2, e3⟩ := he
  have hlen : ((M.l.take c).map (·.r)).length = c := by rw [List.length_map, List.length_take]; omega
  have hq := H.lt q H.own.1
  have hob : ∀ k, (Value.slice ao c cc).ownBlock = some k → w.heap.size ≤ k ∧ k < V.heap.size := by
    intro k hk
    cases ao with
    | none => cases hk
    | some x => have := ow_lt hout x rfl
                have e' : x.block = k := by simpa [Value.ownBlock] using hk
                omega
  have ht : Turned (· = q) w6 ((w6.setCell ⟨q, 3, none⟩ (.slice a6 m c6)).setCell ⟨q, 2, none⟩ (.int .i64 ((M.h : Int) + (c : Int)))) := turned_set (turned_set (Turned.refl _ _) _ _) _ _
  refine ⟨?_, hb⟩
  unfold TrimSep
  rw [e1, e2, e3, hlen]
  refine ⟨ao, cc, rfl, ⟨fun k => (W k ∨ (Value.slice a6 m c6).ownBlock = some k) ∨ (Value.slice ao c cc).ownBlock = some k, ⟨_, _, ⟨a6, c6, R⟩, ⟨ow_base (ow_turned (ow_still hout h6) ht (fun b hb e => by have := hob b hb; omega)) (Nat.zero_le _), fun k => Iff.rfl⟩, fun k hk hk2 => ?_, fun k => Iff.rfl⟩, ?_, fun k hk => ?_⟩⟩
  · have h2 := hob k hk2
    rcases hk with hk | hk
    · have := H.lt k hk; omega
    · have := hlo k hk; omega
  · exact ((hV.trans h6).mono (fun _ _ h => h.elim)).trans (ht.mono (fun i _ e => by subst e; exact H.own.1))
  · rcases hk with (hk | hk) | hk
    · exact .inl hk
    · exact .inr (Nat.le_trans hV.size (hlo k hk))
    · exact .inr (hob k hk).1

set_option maxHeartbeats 4000000 in
theorem zrtrim_sep {w : World} {W : Nat → Prop} {q : Nat} {M : RM} {N : Nat} (H0 : (zrT q M).at_ w W) (hM : M.Ok N) (hN : N < 1000000) (tt : Int) :
    Calls Try.prog 20 #[.pointer (some ⟨q, 0, none⟩), .int .i64 tt] w (TrimSep zrT w W q M tt) := by
  obtain ⟨la, lc, H⟩ := H0
  have hl := hM.low
  by_cases hx : tt < 0
  · have HP := Lib.hid (fun w' (hst : Still w w') => trim_same H hst (tt := tt) (er := 2) (by unfold RM.trimE; rw [if_pos (.inl hx)]) (by omega))
    clear H hM hl
    go_enter Try.func20, Try.ntmps20
    go_wp2_with fail
    go_ret2
    exact HP.out _ (Turned.refl _ _)
  · obtain ⟨n, hn⟩ : ∃ n, n = M.l.length := ⟨_, rfl⟩
    have HT := Lib.hid (fun V (hV : Still w V) => zrtail_any (H.still hV) hM hN)
    obtain ⟨tl, htl⟩ : ∃ tl : Int, tl = ((M.tail : Nat) : Int) := ⟨_, rfl⟩
    rw [← htl] at HT
    have hto0 : 0 ≤ tt := by omega
    by_cases hb : tl < tt
    · have HP := Lib.hid (fun w' (hst : Still w w') => trim_same H hst (tt := tt) (er := 2) (by unfold RM.trimE; rw [if_pos (.inr (by omega))]) (by omega))
      clear H hM hl hn htl hx
      go_enter Try.func20, Try.ntmps20
      go_wp2_with (go_at_call 26; refine (HT.out _ (Turned.refl _ _)).mono ?_; rintro e w1 ⟨rfl, hst1⟩)
      go_ret2
      exact HP.out _ hst1
    · have hble : tt ≤ tl := by omega
      obtain ⟨i0, hi, hz0, hz1, hz2⟩ := info_parts infoIntW
      obtain ⟨c, hc⟩ : ∃ c, c = M.cut tt := ⟨_, rfl⟩
      have hcn : c ≤ n := by rw [hc, hn]; unfold RM.cut; unfold RM.tail at htl; omega
      have hct : tt ≤ (M.h : Int) + (c : Int) ∧ (0 < c → tt = (M.h : Int) + (c : Int)) := by rw [hc]; unfold RM.cut; omega
      have hnmax : n ≤ 64 := by have := hM.len; have := hM.max; omega
      have hHI : (M.h : Int) < 1000000 ∧ (0 : Int) ≤ (M.h : Int) := by unfold RM.tail at hl; omega
      obtain ⟨hHI, hH0⟩ := hHI
      have HC := Lib.hid (fun V (hV : Still w V) => (hn ▸ ⟨(H.still hV).cells.2.2.1, (H.still hV).cells.2.2.2⟩ : V.cell? ⟨q, 2, none⟩ = some (.int .i64 M.h) ∧ V.cell? ⟨q, 3, none⟩ = some (.slice la n lc)))
      have HPl := Lib.hid (fun V (hV : Still w V) (k : Nat) (hk : k < n) => show ∃ (g : Nat) (p : Plc), M.l[k]? = some p ∧ la = some ⟨g, 0, none⟩ ∧ V.cell? ⟨g, k * 2, none⟩ = some (.int .i64 p.r) ∧ V.cell? ⟨g, k * 2 + 1, none⟩ = some (.bool p.d) by
        obtain ⟨p, hp⟩ := get_some (l := M.l) (i := k) (by omega)
        obtain ⟨g, h1, h2, h3, _⟩ := (H.still hV).place hp
        exact ⟨g, p, hp, h1, h2, h3⟩)
      have HNo := Lib.hid (fun w' (hst : Still w w') (k : Nat) (p : Plc) (hk : k < c) (hp : M.l[k]? = some p) (hd : p.d = false) => trim_same H hst (tt := tt) (er := 8) (by
        unfold RM.trimE
        rw [if_neg (by omega), ← hc, if_neg (all_take_no hp hk hd)]) (by omega))
      have HEN := Lib.hid (show (M.l.take c).all (·.d) = true → M.trimE tt = 0 ∧ M.trimL tt = (M.l.take c).map (·.r) ∧ M.trimM tt = { M with h := M.h + c, l := M.l.drop c } from fun ha => by
        have h0 : M.trimE tt = 0 := by unfold RM.trimE; rw [if_neg (by omega), ← hc, if_pos ha]
        refine ⟨h0, ?_, ?_⟩
        · unfold RM.trimL; rw [if_neg (by rw [h0]; simp), ← hc]
        · unfold RM.trimM; rw [if_neg (by rw [h0]; simp), ← hc])
      have HH := Lib.hid H
      have HW := Lib.hid (fun V : World => World.ownsRow_made (e := 3) (size := 1) V #[] 0 (Nat.le_refl _) (by simp) (by simp))
      obtain ⟨hh, hhe⟩ : ∃ hh : Int, hh = (M.h : Int) := ⟨_, rfl⟩
      rw [← hhe] at hct HC hHI hH0
      have HHE := Lib.hid hhe
      have HN := Lib.hid hn
      have hnb : ¬ tt < 0 := by omega
      clear hx hb H hM hl htl hc hn hhe
      go_enter Try.func20, Try.ntmps20
      go_wp2_with (go_at_call 26; refine (HT.out _ (Turned.refl _ _)).mono ?_; rintro e w1 ⟨rfl, hst1⟩)
      have HS1 := Lib.hid hst1
      have HO0 := Lib.hid (ow_base (HW.out w1) hst1.size)
      clear HW hst1 HT
      go_loopw [6, 7] (fun o i wr => ∃ (k : Nat) (ao : Option Addr) (cc : Nat), k ≤ c ∧ i = .int .i64 k ∧ o = .slice ao k cc ∧ wr.ownsRow w.heap.size 3 1 (.slice ao k cc) k (ints ((M.l.take k).map (·.r))) ∧ (M.l.take k).all (·.d) = true ∧ Still w wr) (fun _ i _ => c - (intOf i).toNat)
      case atStart => exact ⟨0, _, 0, Nat.zero_le _, rfl, rfl, HO0.out, rfl, HS1.out.alloc _⟩
      case round =>
        clear HO0 HS1
        obtain ⟨k, ao, cc, hk, rfl, rfl, hown, hall, hst⟩ := hrel
        obtain ⟨r2, r3⟩ := HC.out wr hst
        have HO := Lib.hid hown
        have HS := Lib.hid hst
        have HA := Lib.hid hall
        have hlo := hst.size
        by_cases hlt : k < c
        · obtain ⟨g, p, hp, rfl, d0, d1⟩ := HPl.out wr hst k (by omega)
          have hcond : hh + (k : Int) < tt := by omega
          have hkn : k < n := by omega
          have HPP := Lib.hid hp
          clear hown hst hall hp HPl HEN HH HC
          cases hd : p.d with
          | false =>
            rw [hd] at d1
            have HE := Lib.hid (HNo.out wr HS.out k p hlt HPP.out hd)
            clear hd HNo hct
            go_wp2_with fail
            go_ret2
            exact HE.out
          | true =>
            rw [hd] at d1
            have HD := Lib.hid hd
            clear hd HNo hct
            go_wp2_with (at_builtin; refine wpList_append_own_at _ rfl _ _ 39 rfl w.heap.size 3 i0 (.int .i64 0) 1 8 Try.underlying39 hi hz0 hz1 hz2 rfl (by decide) (.slice ao k cc) k (ints ((M.l.take k).map (·.r))) rfl (ow_still HO.out ((Turned.refl _ _).alloc _)) ⟨wr.heap.size, 0, none⟩ 1 1 [.int .i64 p.r] rfl rfl (ow_cells wr _ _) (ow_ints rfl) (by unfold maxLen; omega) (by omega) (by simp; omega) ?_; intro v6 w6 hown6 hg6 _ hat6; obtain ⟨a6, c6, rfl⟩ := ow_slice hown6; have HS6 := Lib.hid (ow_appended (v6 := .bool true) (ys := []) HS.out HO.out hg6); have HO6 := Lib.hid hown6; clear hown6 hg6 hat6)
            go_roundw
            case rel => exact ⟨k + 1, a6, c6, by omega, by go_num, rfl, by have := RM.refs_get HPP.out; unfold RM.refs at this; rw [List.map_take, this]; simpa [ints, List.map_take] using HO6.out, all_take_step HPP.out HA.out HD.out, HS6.out⟩
            case measure => simp [intOf]; omega
        · obtain rfl : k = c := by omega
          have hcond : ¬ hh + (k : Int) < tt := by omega
          have HEE := Lib.hid (HEN.out hall)
          clear hown hst hall HPl HEN HNo hlt hct
          have hcn2 : k ≤ n := hcn
          obtain ⟨m, hm⟩ : ∃ m, n - k = m := ⟨_, rfl⟩
          have hml : m = (M.l.drop k).length := by rw [List.length_drop, ← HN.out]; omega
          have hnlc : n ≤ lc ∧ (la = none → n = 0 ∧ lc = 0) := by have := ow_le HH.out.ls; rw [← HN.out] at this; exact ⟨this.1, this.2.2⟩
          obtain ⟨hnlc, hnone⟩ := hnlc
          have HDn := Lib.hid (fun (w6 : World) (a6 : Option Addr) (c6 : Nat) (h6 : Still wr w6) => trim_done HH.out HS.out (ao := ao) (cc := cc) (by rw [← HN.out]; exact hcn2) HO.out h6 (m := m) (a6 := a6) (c6 := c6) hml)
          rw [← HHE.out] at HDn
          have HEw := Lib.hid (World.ownsRow_made (base := wr.heap.size) (e := 59) (size := 2) wr #[] 0 (Nat.le_refl _) (by simp) (by simp))
          have hqr : q < wr.heap.size := cell_lt r3
          obtain ⟨j0, ji, jz0, jz1, jz2⟩ := info_parts infoPlc
          have H1 := Lib.hid (encP_ones (M.l.drop k))
          have HLn := Lib.hid (show (rowOf encP (M.l.drop k)).length = m * 2 by rw [rowOf_length encP_len, ← hml])
          have hk0 : (k : Int) ≤ (n : Int) := by omega
          cases la with
          | none =>
            obtain ⟨rfl, rfl⟩ := hnone rfl
            obtain rfl : k = 0 := by omega
            obtain rfl : m = 0 := by omega
            have hd0 : M.l.drop 0 = [] := List.eq_nil_of_length_eq_zero hml.symm
            have HF := Lib.hid (HDn.out (wr.alloc (.cells #[] 59)) (some ⟨wr.heap.size, 0, none⟩) 0 ((Turned.refl _ _).alloc _) (by rw [hd0]; exact HEw.out) HEE.out)
            have HFC := Lib.hid (show Blk (wr.alloc (.cells #[] 59)) q [.int .i64 M.n, .int .i64 (polB M.ov), .int .i64 hh, .slice none M.l.length 0] 47 from HF.out.2)
            obtain ⟨y2, y3, z2, z3⟩ : (wr.alloc (.cells #[] 59)).cell? ⟨q, 2, none⟩ = some (.int .i64 hh) ∧ (wr.alloc (.cells #[] 59)).cell? ⟨q, 3, none⟩ = some (.slice none 0 0) ∧ (wr.alloc (.cells #[] 59)).frozen? ⟨q, 2, none⟩ = false ∧ (wr.alloc (.cells #[] 59)).frozen? ⟨q, 3, none⟩ = false :=
              ⟨HFC.out.cell rfl, by have := HFC.out.cell (o := 3) rfl; rwa [← HN.out] at this, HFC.out.free 2, HFC.out.free 3⟩
            have hff := HF.out.1
            rw [World.setCell_alloc_past (hn := hqr), World.setCell_alloc_past (hn := by simpa [World.setCell] using hqr)] at hff
            rw [show hh + ((0 : Nat) : Int) = hh by omega] at hff
            have HFF := Lib.hid hff
            have q2 := (HH.out.still HS.out).hd.free 2
            have q3 := (HH.out.still HS.out).hd.free 3
            clear hml HC HA hcn hcn2 HN hd0 HF HFC HDn hff y2 y3 z2 z3
            go_wp2_with (at_builtin; refine wpList_append_own_none rfl (.tmp 48) (.tmp 55) 45 rfl wr.heap.size 59 j0 2 Try.underlying45 ji _ 0 [] rfl HEw.out rfl ?_)
            go_ret2
            exact HFF.out
          | some a =>
            obtain ⟨g, rfl⟩ := owm_addr' HH.out.ls
            obtain ⟨ad, had, hnews⟩ : ∃ ad : Addr, (if lc = k then some (⟨g, 0, none⟩ : Addr) else some ⟨g, k * 2, none⟩) = some ad ∧ ∀ (V : World), Still w V → ∀ (j : Nat) (u : Value), (rowOf encP (M.l.drop k))[j]? = some u → V.cell? (ad.add j) = some u := by
              by_cases h1 : lc = k
              · refine ⟨⟨g, 0, none⟩, by rw [if_pos h1], fun V _ j u hu => ?_⟩
                have : M.l.drop k = [] := List.eq_nil_of_length_eq_zero (by omega)
                rw [this] at hu; simp [rowOf] at hu
              · refine ⟨⟨g, k * 2, none⟩, by rw [if_neg h1], fun V hV j u hu => ?_⟩
                rw [Addr.add_lit]
                refine (owm_cell (HH.out.still hV).ls (j := k * 2 + j) ?_).1
                have hsp : M.l = M.l.take k ++ M.l.drop k := (List.take_append_drop _ _).symm
                have hlt : (rowOf encP (M.l.take k)).length = k * 2 := by rw [rowOf_length encP_len, List.length_take, ← HN.out, Nat.min_eq_left hcn2]
                rw [hsp, rowOf_append, List.getElem?_append_right (by omega), hlt, show k * 2 + j - k * 2 = j by omega]
                exact hu
            have HN2 := Lib.hid (hnews wr HS.out)
            have HNW := Lib.hid (fun j u hu => hnews (wr.alloc (.cells #[] 59)) (HS.out.alloc _) j u hu)
            clear hnews hml HC HA hnone hcn hcn2 HN
            go_upto_region 11 with (at_builtin; refine wpList_append_own_at _ rfl (.tmp 48) (.tmp 55) 45 rfl wr.heap.size 59 j0 _ 2 16 Try.underlying45 ji jz0 jz1 jz2 rfl (by decide) (.slice (some ⟨wr.heap.size, 0, none⟩) 0 0) 0 [] rfl HEw.out ad m _ (rowOf encP (M.l.drop k)) rfl HLn.out HNW.out H1.out (by unfold maxLen; omega) (by omega) (by simp) ?_; intro v6 w6 hown6 hg6 _ hat6; obtain ⟨a6, c6, rfl⟩ := ow_slice hown6; rw [Nat.zero_add, List.nil_append] at hown6; have HS6 := Lib.hid (show Still wr w6 from ((Turned.refl (fun _ => False) wr).alloc (.cells #[] 59)).grown hg6 (fun i e => .inr (by cases e; exact Nat.le_refl _))); obtain ⟨hP6, hq6⟩ := HDn.out w6 a6 c6 HS6.out hown6 HEE.out; have HP6 := Lib.hid hP6; have y2 := hq6.cell (o := 2) rfl; have y3 := hq6.cell (o := 3) rfl; have z2 := hq6.free 2; have z3 := hq6.free 3; clear hown6 hg6 hat6 hP6 hq6)
            go_wp2_with fail
            go_ret2
            exact HP6.out

/-- What Trim hands out, and what it leaves: the ring, and the references that went, which can be read as long as the ring stays. -/
def TrimPost (RT : Nat → RM → Thing) (w : World) (W : Nat → Prop) (q : Nat) (M : RM) (tt : Int) (e : Ending) (w' : World) : Prop :=
  ∃ a c, e = .returned (.tuple #[.slice a (M.trimL tt).length c, .int .i64 (M.trimE tt)]) ∧ Goes (numsT (RT q (M.trimM tt)) a (M.trimL tt)) W w w'
theorem zrtrim_any {w : World} {W : Nat → Prop} {q : Nat} {M : RM} {N : Nat} (H0 : (zrT q M).at_ w W) (hM : M.Ok N) (hN : N < 1000000) (tt : Int) :
    Calls Try.prog 20 #[.pointer (some ⟨q, 0, none⟩), .int .i64 tt] w (TrimPost zrT w W q M tt) :=
  (zrtrim_sep H0 hM hN tt).mono fun e w' ⟨a, c, he, hg⟩ => ⟨a, c, he, goes_nums hg⟩
end Go.Proofs.Ytefopajkcpcjpaa
