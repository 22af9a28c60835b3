/- What Claim of the document's ring does. No condition but that the ring is one. -/
import Derived.Test.YtliaaggjefjbeaaRingRefReady
namespace Go.Proofs.Ytliaaggjefjbeaa
open Go.RowKit
set_option linter.unusedVariables false
set_option linter.unusedSimpArgs false
set_option maxRecDepth 100000

theorem infoPlc : (Try.prog.info? 75).map (fun i => (i.zero, i.size, i.bytes)) = some (some (.agg #[.int .i64 0, .bool false]), 2, 16) := by kernel_rfl

/-- The window is another row. -/
theorem RIn.row {w w6 : World} {W : Nat → Prop} {q lc : Nat} {la : Option Addr} {M : RM} (H : RIn w W q la lc M) (hT : Turned (fun k => (Value.slice la M.l.length lc).ownBlock = some k) w w6) {l' : List Plc} {m c6 : Nat} {a6 : Option Addr} (hm : m = l'.length)
    (hown : w6.ownsRow 0 75 2 (.slice a6 m c6) m (rowOf encP l')) (hat : (Value.slice a6 m c6).ownBlock = (Value.slice la M.l.length lc).ownBlock ∨ ∃ j, w.heap.size ≤ j ∧ (Value.slice a6 m c6).ownBlock = some j) :
    RIn (w6.setCell ⟨q, 3, none⟩ (.slice a6 m c6)) (fun k => W k ∨ (Value.slice a6 m c6).ownBlock = some k) q a6 c6 { M with l := l' } ∧ (∀ k, (W k ∨ (Value.slice a6 m c6).ownBlock = some k) → W k ∨ w.heap.size ≤ k) ∧ Blk w6 q [.int .i64 M.n, .int .i64 (polB M.ov), .int .i64 M.h, .slice la M.l.length lc] 48 := by
  subst hm
  have hlq := H.lt q H.own.1
  have hnq : ¬ (Value.slice la M.l.length lc).ownBlock = some q := by
    cases la with
    | none => intro h; cases h
    | some a => intro h; exact (H.own.2 a rfl).2 (by simpa [Value.ownBlock] using h)
  have hx : ∀ x, a6 = some x → (W x.block ∨ w.heap.size ≤ x.block) ∧ x.block ≠ q := by
    rintro x rfl
    rcases hat with e | ⟨j, hj, e⟩
    · cases la with
      | none => cases e
      | some a =>
        have : x.block = a.block := by simpa [Value.ownBlock] using e
        rw [this]
        exact ⟨.inl (H.own.2 a rfl).1, (H.own.2 a rfl).2⟩
    · have : x.block = j := by simpa [Value.ownBlock] using e
      exact ⟨.inr (by omega), by omega⟩
  have hq6 := H.hd.turned hT hnq
  have htq : Turned (· = q) w6 (w6.setCell ⟨q, 3, none⟩ (.slice a6 l'.length c6)) := turned_set (Turned.refl _ _) _ _
  refine ⟨⟨fun k hk => ?_, ⟨.inl H.own.1, fun x hx' => ⟨.inr (by rw [hx']; rfl), (hx x hx').2⟩⟩, hq6.set 3 _, ow_turned hown htq (fun b hb e => ?_)⟩, fun k hk => ?_, hq6⟩
  · simp only [World.setCell]
    have hsz : (w6.setCell ⟨q, 3, none⟩ (.slice a6 l'.length c6)).heap.size = w6.heap.size := by simp [World.setCell]
    show k < (w6.setCell ⟨q, 3, none⟩ (.slice a6 l'.length c6)).heap.size
    rw [hsz]
    rcases hk with hk | hk
    · exact Nat.lt_of_lt_of_le (H.lt k hk) hT.size
    · cases a6 with
      | none => cases hk
      | some x => have := (ow_lt hown x rfl).2; simp only [Value.ownBlock, Option.some.injEq] at hk; omega
  · cases a6 with
    | none => cases hb
    | some x => exact (hx x rfl).2 (by simpa [Value.ownBlock, e] using hb)
  · rcases hk with hk | hk
    · exact .inl hk
    · cases a6 with
      | none => cases hk
      | some x =>
        have e : x.block = k := by simpa [Value.ownBlock] using hk
        rw [← e]; exact (hx x rfl).1
/-- The head is another. -/
theorem RIn.setH {w : World} {W : Nat → Prop} {q lc : Nat} {la : Option Addr} {M : RM} (H : RIn w W q la lc M) (h' : Nat) : RIn (w.setCell ⟨q, 2, none⟩ (.int .i64 (h' : Nat))) W q la lc { M with h := h' } := by
  have htq : Turned (· = q) w (w.setCell ⟨q, 2, none⟩ (.int .i64 (h' : Nat))) := turned_set (Turned.refl _ _) _ _
  refine ⟨fun k hk => by simp [World.setCell]; exact H.lt k hk, H.own, H.hd.set 2 _, ow_turned H.ls htq (fun b hb e => ?_)⟩
  cases la with
  | none => cases hb
  | some x => exact (H.own.2 x rfl).2 (by simpa [Value.ownBlock, e] using hb)

/-- What the call leaves of one more place. -/
theorem RIn.push {w w3 w6 : World} {W W3 : Nat → Prop} {q lc : Nat} {la : Option Addr} {M : RM} (H : RIn w3 W3 q la lc M) (hT3 : Turned W w w3) (hW3 : ∀ k, W3 k → W k ∨ w.heap.size ≤ k) {o : Obj} {x : Int} {n c6 : Nat} {a6 : Option Addr} (hn : n = M.l.length)
    (hown : w6.ownsRow 0 75 2 (.slice a6 (n + 1) c6) (n + 1) (rowOf encP M.l ++ [.int .i64 x, .bool false])) (hg : (w3.alloc o).grownBy w6 (Value.slice la n lc).ownBlock)
    (hat : (Value.slice a6 (n + 1) c6).ownBlock = (Value.slice la n lc).ownBlock ∨ (Value.slice a6 (n + 1) c6).ownBlock = some (w3.alloc o).heap.size) :
    Goes (zrT q { M with l := M.l ++ [⟨x, false⟩] }) W w (w6.setCell ⟨q, 3, none⟩ (.slice a6 (n + 1) c6)) ∧ Blk w6 q [.int .i64 M.n, .int .i64 (polB M.ov), .int .i64 M.h, .slice la M.l.length lc] 48 := by
  subst hn
  have hT : Turned (fun k => (Value.slice la M.l.length lc).ownBlock = some k) w3 w6 := ((Turned.refl _ w3).alloc o).grown hg (fun i e => .inl e)
  obtain ⟨h1, h2, h3⟩ := H.row hT (l' := M.l ++ [⟨x, false⟩]) (m := M.l.length + 1) (by simp) (by rw [rowOf_append]; exact hown) (hat.elim .inl (fun h => .inr ⟨_, by simp, h⟩))
  have hown3 : ∀ k, (Value.slice la M.l.length lc).ownBlock = some k → W3 k := by
    intro k hk
    cases la with
    | none => cases hk
    | some a => have e : a.block = k := by simpa [Value.ownBlock] using hk
                rw [← e]; exact (H.own.2 a rfl).1
  refine ⟨zrT_goes h1 ((hT3.past hT (fun k hk => hW3 k (hown3 k hk))).setCell (p := ⟨q, 3, none⟩) (hW3 q H.own.1) _) (fun k hk => ?_), h3⟩
  rcases h2 k hk with h | h
  · exact hW3 k h
  · exact .inr (Nat.le_trans hT3.size h)

/-- The eldest place goes. -/
theorem RIn.shift {w w6 : World} {W : Nat → Prop} {q lc : Nat} {la : Option Addr} {M : RM} (H : RIn w W q la lc M) (h6 : Still w w6) {m c6 : Nat} {a6 : Option Addr} (hm : m = (M.l.drop 1).length)
    (hown : w6.ownsRow w.heap.size 75 2 (.slice a6 m c6) m (rowOf encP (M.l.drop 1))) :
    (∃ W5, RIn ((w6.setCell ⟨q, 3, none⟩ (.slice a6 m c6)).setCell ⟨q, 2, none⟩ (.int .i64 ((M.h : Int) + 1))) W5 q a6 c6 { M with h := M.h + 1, l := M.l.drop 1 } ∧ (∀ k, W5 k → W k ∨ w.heap.size ≤ k) ∧ Turned W w ((w6.setCell ⟨q, 3, none⟩ (.slice a6 m c6)).setCell ⟨q, 2, none⟩ (.int .i64 ((M.h : Int) + 1)))) ∧
      Blk w6 q [.int .i64 M.n, .int .i64 (polB M.ov), .int .i64 M.h, .slice la M.l.length lc] 48 := by
  have H6 := H.still h6
  have hat : a6 = none ∨ ∃ j, w.heap.size ≤ j ∧ (Value.slice a6 m c6).ownBlock = some j := by
    cases a6 with
    | none => exact .inl rfl
    | some x => exact .inr ⟨x.block, (ow_lt hown x rfl).1, rfl⟩
  have hlq := H.lt q H.own.1
  have htq : Turned (· = q) w6 (w6.setCell ⟨q, 3, none⟩ (.slice a6 m c6)) := turned_set (Turned.refl _ _) _ _
  have hx : ∀ x, a6 = some x → w.heap.size ≤ x.block := by rintro x rfl; exact (ow_lt hown x rfl).1
  have R : RIn (w6.setCell ⟨q, 3, none⟩ (.slice a6 m c6)) (fun k => W k ∨ (Value.slice a6 m c6).ownBlock = some k) q a6 c6 { M with l := M.l.drop 1 } := by
    refine ⟨fun k hk => ?_, ⟨.inl H.own.1, fun x hx' => ⟨.inr (by rw [hx']; rfl), by have := hx x hx'; omega⟩⟩, by rw [← hm]; exact H6.hd.set 3 _, ?_⟩
    · have hsz : (w6.setCell ⟨q, 3, none⟩ (.slice a6 m c6)).heap.size = w6.heap.size := by simp [World.setCell]
      rw [hsz]
      rcases hk with hk | hk
      · exact H6.lt k hk
      · cases a6 with
        | none => cases hk
        | some x => have := (ow_lt hown x rfl).2; simp only [Value.ownBlock, Option.some.injEq] at hk; omega
    · rw [← hm]
      exact ow_base (ow_turned hown htq (fun b hb e => by
        cases a6 with
        | none => cases hb
        | some x => have := hx x rfl
                    have e' : x.block = b := by simpa [Value.ownBlock] using hb
                    omega)) (Nat.zero_le _)
  have R2 := R.setH (M.h + 1)
  rw [show ((M.h + 1 : Nat) : Int) = (M.h : Int) + 1 by omega] at R2
  refine ⟨⟨_, R2, fun k hk => ?_, ((h6.mono (fun _ _ h => h.elim)).setCell (p := ⟨q, 3, none⟩) (.inl H.own.1) _).setCell (p := ⟨q, 2, none⟩) (.inl H.own.1) _⟩, H6.hd⟩
  rcases hk with hk | hk
  · exact .inl hk
  · cases a6 with
    | none => cases hk
    | some x => have := hx x rfl
                have e' : x.block = k := by simpa [Value.ownBlock] using hk
                exact .inr (by omega)

set_option maxHeartbeats 2000000 in
theorem zrclaim_any {w : World} {W : Nat → Prop} {q : Nat} {M : RM} {N : Nat} (H0 : (zrT q M).at_ w W) (hM : M.Ok N) (hN : N < 1000000) (x : Int) :
    Calls Try.prog 34 #[.pointer (some ⟨q, 0, none⟩), .int .i64 x] w fun e w' => e = .returned (.tuple #[.int .i64 (M.claimA x), .int .i64 (M.claimW x), .int .i64 (M.claimE x)]) ∧ Goes (zrT q (M.claimM x)) W w w' := by
  obtain ⟨la, lc, H⟩ := H0
  have hl := hM.low
  by_cases hx : x < 1
  · have HR := Lib.hid (show M.claimE x = 2 by unfold RM.claimE; rw [if_pos hx])
    have HG := Lib.hid (zrT_still H (Turned.refl _ _))
    rw [show M.claimM x = M by unfold RM.claimM; rw [if_pos (by rw [HR.out]; simp)], show M.claimA x = 0 by unfold RM.claimA; rw [if_pos (by rw [HR.out]; simp)], show M.claimW x = 0 by unfold RM.claimW; rw [if_pos (by rw [HR.out]; simp)], HR.out]
    clear H hM HR hl
    go_enter Try.func34, Try.ntmps34
    go_wp2_with fail
    go_ret3
    exact ⟨rfl, HG.out⟩
  · have hx1 : 1 ≤ x := by omega
    obtain ⟨n, hn⟩ : ∃ n, n = M.l.length := ⟨_, rfl⟩
    have HT := Lib.hid (fun V (hV : Still w V) => zrtail_any (H.still hV) hM hN)
    have HC := Lib.hid (fun V (hV : Still w V) => (hn ▸ (H.still hV).cells : V.cell? ⟨q, 0, none⟩ = some (.int .i64 M.n) ∧ V.cell? ⟨q, 1, none⟩ = some (.int .i64 (polB M.ov)) ∧ V.cell? ⟨q, 2, none⟩ = some (.int .i64 M.h) ∧ V.cell? ⟨q, 3, none⟩ = some (.slice la n lc)))
    have ht6 : ((M.tail : Nat) : Int) < 1000000 := by omega
    have ht40 : ¬ (1099511627776 ≤ M.tail) := by omega
    obtain ⟨tl, htl⟩ : ∃ tl : Int, tl = ((M.tail : Nat) : Int) := ⟨_, rfl⟩
    rw [← htl] at HT ht6
    by_cases hf : M.l.length = M.n
    · have hpos : 1 ≤ n := by have := hM.pos; omega
      obtain ⟨p0, hp0⟩ := get_some (l := M.l) (i := 0) (by omega)
      have hhd : M.hdp = p0 := by unfold RM.hdp; rw [hp0]; rfl
      obtain ⟨g, hla, e0, e1, _, hgq, hWg⟩ := H.place hp0
      subst hla
      rw [Nat.zero_mul] at e0
      rw [Nat.zero_mul, Nat.zero_add] at e1
      have HE := Lib.hid (fun V (hV : Still w V) => (⟨still_cell hV e0 rfl, still_cell hV e1 rfl⟩ : V.cell? ⟨g, 0, none⟩ = some (.int .i64 p0.r) ∧ V.cell? ⟨g, 1, none⟩ = some (.bool p0.d)))
      have heq : ((n : Int) == (M.n : Int)) = true := by rw [beq_iff_eq]; omega
      by_cases hno : M.ov = false ∨ M.hdp.d = false
      · have HR := Lib.hid (show M.claimE x = 60 by unfold RM.claimE; rw [if_neg hx, if_neg ht40, if_pos ⟨hf, hno⟩])
        have HG := Lib.hid (fun V (hV : Still w V) => zrT_still H hV)
        rw [show M.claimM x = M by unfold RM.claimM; rw [if_pos (by rw [HR.out]; simp)], show M.claimA x = 0 by unfold RM.claimA; rw [if_pos (by rw [HR.out]; simp)], show M.claimW x = 0 by unfold RM.claimW; rw [if_pos (by rw [HR.out]; simp)], HR.out]
        rw [hhd] at hno
        clear hf hn htl HR ht40 hl hM H hx e0 e1 hp0 hhd
        cases hov : M.ov with
        | false =>
          rw [hov, show polB false = 0 from rfl] at HC
          clear hno hov
          go_enter Try.func34, Try.ntmps34
          go_wp2_with (go_at_call 25; refine (HT.out _ (Turned.refl _ _)).mono ?_; rintro e w1 ⟨rfl, hst1⟩; obtain ⟨c0, c1, c2, c3⟩ := HC.out w1 hst1)
          go_quiet (fail)
          go_wp2_with fail
          go_ret3
          exact ⟨rfl, HG.out _ (hst1.drewN nq)⟩
        | true =>
          rw [hov, show polB true = 1 from rfl] at HC
          have hd0 : p0.d = false := by rcases hno with h | h; exact absurd (hov.symm.trans h) (by simp); exact h
          rw [hd0] at HE
          clear hno hov hd0
          go_enter Try.func34, Try.ntmps34
          go_wp2_with (go_at_call 25; refine (HT.out _ (Turned.refl _ _)).mono ?_; rintro e w1 ⟨rfl, hst1⟩; obtain ⟨c0, c1, c2, c3⟩ := HC.out w1 hst1; obtain ⟨f0, f1⟩ := HE.out w1 hst1)
          go_quiet (fail)
          go_wp2_with fail
          go_ret3
          exact ⟨rfl, HG.out _ (hst1.drewN nq)⟩
      · have hov : M.ov = true := by cases h : M.ov; exact absurd (.inl h) hno; rfl
        have hd0 : p0.d = true := by rw [← hhd]; cases h : M.hdp.d; exact absurd (.inr h) hno; rfl
        have HR := Lib.hid (show M.claimE x = 0 by unfold RM.claimE; rw [if_neg hx, if_neg ht40, if_neg (fun h => hno h.2)])
        have HMM := Lib.hid (show M.claimM x = { M with h := M.h + 1, l := M.l.drop 1 ++ [⟨x, false⟩] } by unfold RM.claimM; rw [if_neg (by rw [HR.out]; simp), if_pos hf])
        rw [HMM.out, show M.claimA x = tl by unfold RM.claimA; rw [if_neg (by rw [HR.out]; simp), htl], show M.claimW x = p0.r by unfold RM.claimW; rw [if_neg (by rw [HR.out]; simp), if_pos hf, hhd], HR.out]
        rw [hov, show polB true = 1 from rfl] at HC
        rw [hd0] at HE
        obtain ⟨m, hm⟩ : ∃ m, n = m + 1 := ⟨n - 1, by omega⟩
        subst hm
        have hml : m = (M.l.drop 1).length := by rw [List.length_drop]; omega
        have HSH := Lib.hid (fun (V w6 : World) (hV : Still w V) (a6 : Option Addr) (c6 : Nat) (h6 : Still V w6) => (H.still hV).shift h6 (a6 := a6) (c6 := c6) hml)
        have hlcn : m + 1 ≤ lc := by have := (ow_le H.ls).1; omega
        obtain ⟨ad, had, hnews⟩ : ∃ ad : Addr, (if lc = 1 then some (⟨g, 0, none⟩ : Addr) else some ⟨g, 2, none⟩) = some ad ∧ ∀ (V : World), Still w V → ∀ (j : Nat) (u : Value), (rowOf encP (M.l.drop 1))[j]? = some u → V.cell? (ad.add j) = some u := by
          by_cases h1 : lc = 1
          · refine ⟨⟨g, 0, none⟩, by rw [if_pos h1], fun V _ j u hu => ?_⟩
            have : M.l.drop 1 = [] := List.eq_nil_of_length_eq_zero (by omega)
            rw [this] at hu; simp [rowOf] at hu
          · refine ⟨⟨g, 2, none⟩, by rw [if_neg h1], fun V hV j u hu => ?_⟩
            rw [Addr.add_lit]
            refine (owm_cell (H.still hV).ls (j := 2 + j) ?_).1
            have hcons : M.l = p0 :: M.l.drop 1 := by
              cases hl2 : M.l with
              | nil => rw [hl2] at hp0; cases hp0
              | cons c r => rw [hl2] at hp0; cases hp0; rfl
            rw [hcons, rowOf_cons, List.getElem?_append_right (by rw [encP_len]; omega), encP_len, show 2 + j - 2 = j by omega]
            exact hu
        have HN := Lib.hid hnews
        have hM1 : ({ M with h := M.h + 1, l := M.l.drop 1 } : RM).Ok N := ⟨hM.pos, hM.max, by show (M.l.drop 1).length ≤ M.n; rw [List.length_drop]; have := hM.len; omega, by unfold RM.tail at hl ⊢; rw [List.length_drop]; dsimp only; omega⟩
        have ht1 : ({ M with h := M.h + 1, l := M.l.drop 1 } : RM).tail = M.tail := by unfold RM.tail; rw [List.length_drop]; dsimp only; omega
        have HT2 := Lib.hid (fun (V : World) (W5 : Nat → Prop) (a6 : Option Addr) (c6 : Nat) (hR : RIn V W5 q a6 c6 { M with h := M.h + 1, l := M.l.drop 1 }) => (by
          have := zrtail_any hR hM1 hN
          rw [ht1, ← htl] at this
          exact this : Calls Try.prog 25 #[.pointer (some ⟨q, 0, none⟩)] V fun e w' => e = .returned (.int .i64 tl) ∧ Still V w'))
        have HP := Lib.hid (fun (w3 w6 : World) (W5 : Nat → Prop) (a5 : Option Addr) (c5 : Nat) (hR : RIn w3 W5 q a5 c5 { M with h := M.h + 1, l := M.l.drop 1 }) (hT3 : Turned W w w3) (hW : ∀ k, W5 k → W k ∨ w.heap.size ≤ k) (a6 : Option Addr) (c6 : Nat) => hR.push (w := w) (W := W) (o := .cells #[.int .i64 x, .bool false] 75) (w6 := w6) (x := x) (a6 := a6) (c6 := c6) hT3 hW hml)
        have hHI : (M.h : Int) < 1000000 := by unfold RM.tail at htl; omega
        have hH0 : (0 : Int) ≤ (M.h : Int) := by omega
        have hmmax : m ≤ 64 := by have := hM.len; have := hM.max; omega
        have hlo0 : ∀ V, Still w V → w.heap.size ≤ V.heap.size := fun V h => h.size
        have HLO := Lib.hid hlo0
        obtain ⟨i0, hi, hz0, hz1, hz2⟩ := info_parts infoPlc
        have H1 := Lib.hid (encP_ones (M.l.drop 1))
        have HLn := Lib.hid (show (rowOf encP (M.l.drop 1)).length = m * 2 by rw [rowOf_length encP_len, ← hml])
        generalize (M.h : Int) = hh at *
        have HML := Lib.hid hml
        clear hf hn htl HMM HR ht40 hl hM H hx e0 e1 hp0 hhd hno hov hd0 hnews hM1 ht1 hlo0 hml
        go_enter Try.func34, Try.ntmps34
        go_wp2_with (go_at_call 25; refine (HT.out _ (Turned.refl _ _)).mono ?_; rintro e w1 ⟨rfl, hst1⟩; obtain ⟨c0, c1, c2, c3⟩ := HC.out w1 hst1; obtain ⟨f0, f1⟩ := HE.out w1 hst1)
        go_quiet (fail)
        go_upto_region 10 with fail
        have hV := hst1.drewN nq
        obtain ⟨V, hVe⟩ : ∃ V, w1.drewN nq = V := ⟨_, rfl⟩
        rw [hVe] at hV ⊢
        obtain ⟨c0, c1, c2, c3⟩ := HC.out V hV
        have hqV : q < V.heap.size := cell_lt c3
        have HV := Lib.hid hV
        have hloV := HLO.out V hV
        have HOe := Lib.hid (World.ownsRow_made (base := V.heap.size) (e := 75) (size := 2) V #[] 0 (Nat.le_refl _) (by simp) (by simp))
        clear hVe hst1 hV f0 f1 HE HC HT
        have HVl := Lib.hid hloV
        clear hloV
        go_upto_region 12 with (at_builtin; refine wpList_append_own_at _ rfl (.tmp 47) (.tmp 52) 46 rfl V.heap.size 75 i0 _ 2 16 Try.underlying46 hi hz0 hz1 hz2 rfl (by decide) (.slice (some ⟨V.heap.size, 0, none⟩) 0 0) 0 [] rfl HOe.out ad m _ (rowOf encP (M.l.drop 1)) rfl HLn.out (HN.out _ (HV.out.alloc _)) H1.out (by unfold maxLen; omega) (by omega) (by simp) ?_; intro v6 w6 hown6 hg6 _ hat6; obtain ⟨a6, c6, rfl⟩ := ow_slice hown6; rw [Nat.zero_add, List.nil_append] at hown6; have HS6 := Lib.hid (show Still V w6 from ((Turned.refl (fun _ => False) V).alloc (.cells #[] 75)).grown hg6 (fun i e => .inr (by cases e; exact Nat.le_refl _))); obtain ⟨⟨W5, R5, hW5, hT5⟩, hq6⟩ := HSH.out V w6 HV.out a6 c6 HS6.out hown6; have HR5 := Lib.hid R5; have HW5 := Lib.hid hW5; have HT5 := Lib.hid hT5; have y2 := hq6.cell (o := 2) rfl; have y3 := hq6.cell (o := 3) rfl; have z2 := hq6.free 2; have z3 := hq6.free 3; clear hown6 hg6 hat6 R5 hW5 hT5 hq6)
        obtain ⟨w5, hw5⟩ : ∃ w5, (w6.setCell ⟨q, 3, none⟩ (.slice a6 m c6)).setCell ⟨q, 2, none⟩ (.int .i64 (hh + 1)) = w5 := ⟨_, rfl⟩
        rw [hw5] at HR5 HT5 ⊢
        clear hw5 y2 y3 z2 z3 c0 c1 c2 c3 had HSH HOe HN H1 HLn
        go_upto_region 13 with (go_at_call 25; refine (HT2.out _ _ _ _ HR5.out).mono ?_; rintro e w7 ⟨rfl, hst7⟩)
        have HR7 := Lib.hid (HR5.out.still hst7)
        have HTW := Lib.hid ((HV.out.mono (T := W) (fun _ _ h => h.elim)).trans (HT5.out.trans (hst7.mono (T := W) (fun _ _ h => h.elim))))
        have HWW := Lib.hid (fun k (hk : W5 k) => show W k ∨ w.heap.size ≤ k from (HW5.out k hk).elim .inl (fun h => .inr (Nat.le_trans HVl.out h)))
        have HO7 := Lib.hid (show w7.ownsRow 0 75 2 (.slice a6 m c6) m (rowOf encP (M.l.drop 1)) by have := HR7.out.ls; rwa [show ({ M with h := M.h + 1, l := M.l.drop 1 } : RM).l.length = m from HML.out.symm] at this)
        have d3 : w7.cell? ⟨q, 3, none⟩ = some (.slice a6 m c6) := by have := HR7.out.cells.2.2.2; rwa [show ({ M with h := M.h + 1, l := M.l.drop 1 } : RM).l.length = m from HML.out.symm] at this
        have hq7 : q < w7.heap.size := cell_lt d3
        clear hst7 HT2 HR5 HT5 HW5 HV HVl
        go_wp2_with (at_builtin; refine wpList_append_own_at _ rfl (.tmp 69) (.tmp 72) 46 rfl 0 75 i0 _ 2 16 Try.underlying46 hi hz0 hz1 hz2 rfl (by decide) (.slice a6 m c6) m (rowOf encP (M.l.drop 1)) rfl (ow_still HO7.out ((Turned.refl _ _).alloc _)) ⟨w7.heap.size, 0, none⟩ 1 1 [.int .i64 x, .bool false] rfl rfl (ow_cells w7 _ _) (by intro u hu; simp at hu; rcases hu with rfl | rfl <;> rfl) (by unfold maxLen; omega) (by omega) (Nat.zero_le _) ?_; intro v8 w8 hown8 hg8 _ hat8; obtain ⟨a8, c8, rfl⟩ := ow_slice hown8; obtain ⟨hP8, hq8⟩ := HP.out w7 w8 W5 a6 c6 HR7.out HTW.out HWW.out a8 c8 hown8 hg8 hat8; have HP8 := Lib.hid hP8; have y3 := hq8.cell (o := 3) rfl; have y4 := hq8.free 3; clear hown8 hg8 hat8 hP8 hq8)
        go_ret3
        exact ⟨rfl, HP8.out⟩
    · have HR := Lib.hid (show M.claimE x = 0 by unfold RM.claimE; rw [if_neg hx, if_neg ht40, if_neg (fun h => hf h.1)])
      have HMM := Lib.hid (show M.claimM x = { M with l := M.l ++ [⟨x, false⟩] } by unfold RM.claimM; rw [if_neg (by rw [HR.out]; simp), if_neg hf])
      have HP := Lib.hid (fun (w3 w6 : World) (h3 : Still w w3) (a6 : Option Addr) (c6 : Nat) => (H.still h3).push (w := w) (W := W) (o := .cells #[.int .i64 x, .bool false] 75) (w6 := w6) (x := x) (a6 := a6) (c6 := c6) (h3.mono (fun _ _ h => h.elim)) (fun k hk => .inl hk) hn)
      rw [HMM.out, show M.claimA x = tl by unfold RM.claimA; rw [if_neg (by rw [HR.out]; simp), htl], show M.claimW x = 0 by unfold RM.claimW; rw [if_neg (by rw [HR.out]; simp), if_neg hf], HR.out]
      have HO := Lib.hid (show w.ownsRow 0 75 2 (.slice la n lc) n (rowOf encP M.l) by rw [hn]; exact H.ls)
      have hne : ((n : Int) == (M.n : Int)) = false := by rw [beq_eq_false_iff_ne]; omega
      have hnmax : n ≤ 64 := by have := hM.len; have := hM.max; omega
      obtain ⟨i0, hi, hz0, hz1, hz2⟩ := info_parts infoPlc
      clear hf hn htl HMM HR ht40 hl hM H hx
      go_enter Try.func34, Try.ntmps34
      go_wp2_with (go_at_call 25; refine (HT.out _ (Turned.refl _ _)).mono ?_; rintro e w1 ⟨rfl, hst1⟩; obtain ⟨c0, c1, c2, c3⟩ := HC.out w1 hst1)
      go_quiet (fail)
      have hst2 := hst1.drewN nq
      go_upto_region 13 with (go_at_call 25; refine (HT.out _ hst2).mono ?_; rintro e w2 ⟨rfl, hst3⟩)
      have hst4 := hst2.trans hst3
      obtain ⟨d0, d1, d2, d3⟩ := HC.out w2 hst4
      have HS4 := Lib.hid hst4
      have HO2 := Lib.hid (ow_still HO.out hst4)
      have hql : q < w2.heap.size := cell_lt d3
      clear hst4 hst3 hst2 hst1 c0 c1 c2 c3 d0 d1 d2 HC HT HO
      go_wp2_with (at_builtin; refine wpList_append_own_at _ rfl (.tmp 69) (.tmp 72) 46 rfl 0 75 i0 _ 2 16 Try.underlying46 hi hz0 hz1 hz2 rfl (by decide) (.slice la n lc) n (rowOf encP M.l) rfl (ow_still HO2.out ((Turned.refl _ _).alloc _)) ⟨w2.heap.size, 0, none⟩ 1 1 [.int .i64 x, .bool false] rfl rfl (ow_cells w2 _ _) (by intro u hu; simp at hu; rcases hu with rfl | rfl <;> rfl) (by unfold maxLen; omega) (by omega) (Nat.zero_le _) ?_; intro v6 w6 hown6 hg6 _ hat6; obtain ⟨a6, c6, rfl⟩ := ow_slice hown6; obtain ⟨hP6, hq6⟩ := HP.out w2 w6 HS4.out a6 c6 hown6 hg6 hat6; have HP6 := Lib.hid hP6; have y3 := hq6.cell (o := 3) rfl; have y4 := hq6.free 3; clear hown6 hg6 hat6 hP6 hq6)
      go_ret3
      exact ⟨rfl, HP6.out⟩
end Go.Proofs.Ytliaaggjefjbeaa
