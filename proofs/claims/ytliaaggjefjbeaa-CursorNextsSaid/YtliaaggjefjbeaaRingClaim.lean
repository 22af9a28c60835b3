/- What Claim of the program's ring does. No condition but that the ring is one. -/
import Derived.Test.YtliaaggjefjbeaaRingCut
namespace Go.Proofs.Ytliaaggjefjbeaa
open Go.RowKit
set_option linter.unusedVariables false
set_option linter.unusedSimpArgs false
set_option maxRecDepth 100000

theorem infoBoolW : (Try.prog.info? 4).map (fun i => (i.zero, i.size, i.bytes)) = some (some (.bool false), 1, 1) := by kernel_rfl

theorem rrefc_any {w : World} {W : Nat → Prop} {q lc pc : Nat} {la pa : Option Addr} {M : RM} {N : Nat} (H : RgM w W q la lc pa pc M) (hM : M.Ok N) (hN : N < 1000000) (x : Int) :
    Calls Try.prog 40 #[.pointer (some ⟨q, 0, none⟩), .int .i64 x] w fun e w' => e = .returned (.int .i64 (M.claimE x)) ∧ Still w w' := by
  have HMd := Lib.hid (rmade_any H hM.pos)
  have HT := Lib.hid (rtail_any H hM.pos M.tail (by rw [RM.refs_len]; rfl) (by have := hM.low; omega))
  have HFl := Lib.hid (fun w' (hst : Still w w') => rfull_any (H.still hst) M.l.length (RM.refs_len M).symm)
  have hlow : M.tail < 1000000 := by have := hM.low; omega
  have htl : ((M.tail : Nat) : Int) < 1000000 := by omega
  by_cases h1 : x < 1
  · have HR := Lib.hid (show M.claimE x = 2 by unfold RM.claimE; rw [if_pos h1])
    rw [HR.out]
    generalize ((M.tail : Nat) : Int) = t at *
    clear HR H hM HFl
    go_enter Try.func40, Try.ntmps40
    go_wp2_with (go_at_call 43; refine HMd.out.mono ?_; rintro e w' ⟨rfl, rfl⟩)
    go_ret
    exact ⟨rfl, Turned.refl _ _⟩
  · have h1' : 1 ≤ x := by omega
    by_cases h2 : M.l.length = M.n
    · have hpos := hM.pos
      obtain ⟨p, hp⟩ := get_some (l := M.l) (i := 0) (by omega)
      have hh : M.hdp = p := by unfold RM.hdp; rw [hp]; rfl
      have HMy := Lib.hid (fun w' (hst : Still w w') => rmay_any (H.still hst) p.d (RM.dn_at hp))
      have HR := Lib.hid (show M.claimE x = if (M.ov && p.d) = true then 0 else 60 by
        unfold RM.claimE
        rw [if_neg h1, if_neg (by omega), hh]
        cases M.ov <;> cases p.d <;> simp [h2])
      rw [HR.out]
      rw [show decide (M.l.length = M.n) = true by simp [h2]] at HFl
      clear HR hp hh
      cases hb : (M.ov && p.d)
      · rw [hb] at HMy
        generalize ((M.tail : Nat) : Int) = t at *
        clear H hM hb
        go_enter Try.func40, Try.ntmps40
        go_wp2_with (first
          | (go_at_call 43; refine HMd.out.mono ?_; rintro e w' ⟨rfl, rfl⟩)
          | (go_at_call 29; refine HT.out.mono ?_; rintro e w2 ⟨rfl, h2⟩)
          | (go_at_call 41; refine (HFl.out _ (by assumption)).mono ?_; rintro e w3 ⟨rfl, h3⟩)
          | (go_at_call 48; refine (HMy.out _ (h2.trans h3)).mono ?_; rintro e w4 ⟨rfl, h4⟩))
        go_ret
        exact ⟨by simp, (h2.trans h3).trans h4⟩
      · rw [hb] at HMy
        generalize ((M.tail : Nat) : Int) = t at *
        clear H hM hb
        go_enter Try.func40, Try.ntmps40
        go_wp2_with (first
          | (go_at_call 43; refine HMd.out.mono ?_; rintro e w' ⟨rfl, rfl⟩)
          | (go_at_call 29; refine HT.out.mono ?_; rintro e w2 ⟨rfl, h2⟩)
          | (go_at_call 41; refine (HFl.out _ (by assumption)).mono ?_; rintro e w3 ⟨rfl, h3⟩)
          | (go_at_call 48; refine (HMy.out _ (h2.trans h3)).mono ?_; rintro e w4 ⟨rfl, h4⟩))
        go_ret
        exact ⟨by simp, (h2.trans h3).trans h4⟩
    · have HR := Lib.hid (show M.claimE x = 0 by unfold RM.claimE; rw [if_neg h1, if_neg (by omega), if_neg (fun h => h2 h.1)])
      rw [HR.out]
      rw [show decide (M.l.length = M.n) = false by simp [h2]] at HFl
      generalize ((M.tail : Nat) : Int) = t at *
      clear HR H hM h2
      go_enter Try.func40, Try.ntmps40
      go_wp2_with (first
        | (go_at_call 43; refine HMd.out.mono ?_; rintro e w' ⟨rfl, rfl⟩)
        | (go_at_call 29; refine HT.out.mono ?_; rintro e w2 ⟨rfl, h2⟩)
        | (go_at_call 41; refine (HFl.out _ (by assumption)).mono ?_; rintro e w3 ⟨rfl, h3⟩))
      go_ret
      exact ⟨rfl, h2.trans h3⟩

/-- A place more, at the tail: its reference. -/
theorem RgIn.addR {w w6 : World} {W : Nat → Prop} {q lc pc n h : Nat} {la pa : Option Addr} {ov : Bool} {R : List Int} {D : List Bool} (H : RgIn w W q la lc pa pc n ov h R D) {o : Obj} {a6 : Option Addr} {c6 m : Nat} {x : Int} (hm : m = R.length)
    (hp : Part w6 3 a6 (m + 1) c6 (ints R ++ [.int .i64 x])) (ht : Turned (PB la lc) (w.alloc o) w6) (hb : ∀ k, PB a6 c6 k → PB la lc k ∨ (w.alloc o).heap.size ≤ k) :
    RgIn (w6.setCell ⟨q, 3, none⟩ (.slice a6 (m + 1) c6)) (fun k => W k ∨ PB a6 c6 k) q a6 c6 pa pc n ov h (R ++ [x]) D ∧ Turned W w (w6.setCell ⟨q, 3, none⟩ (.slice a6 (m + 1) c6)) ∧ w6.cell? ⟨q, 3, none⟩ = some (.slice la m lc) ∧ w6.frozen? ⟨q, 3, none⟩ = false := by
  subst hm
  have hw := (H.still ((Turned.refl _ w).alloc o))
  have hblk := hw.hd.turned ht (fun hk => (hw.lW q hk).2 rfl)
  refine ⟨hw.setR (R' := R ++ [x]) (by simp) ht (by simpa [ints] using hp) hb, ?_, hblk.cell rfl, hblk.free 3⟩
  exact ((((Turned.refl W w).alloc o).trans (ht.mono (fun k hk h => (H.lW k h).1)))).setCell (p := ⟨q, 3, none⟩) (.inl H.own) _
/-- .. its mark. -/
theorem RgIn.addP {w w6 : World} {W : Nat → Prop} {q lc pc n h : Nat} {la pa : Option Addr} {ov : Bool} {R : List Int} {D : List Bool} (H : RgIn w W q la lc pa pc n ov h R D) {o : Obj} {a6 : Option Addr} {c6 m : Nat} {x : Bool} (hm : m = D.length)
    (hp : Part w6 4 a6 (m + 1) c6 (bools D ++ [.bool x])) (ht : Turned (PB pa pc) (w.alloc o) w6) (hb : ∀ k, PB a6 c6 k → PB pa pc k ∨ (w.alloc o).heap.size ≤ k) :
    RgIn (w6.setCell ⟨q, 4, none⟩ (.slice a6 (m + 1) c6)) (fun k => W k ∨ PB a6 c6 k) q la lc a6 c6 n ov h R (D ++ [x]) ∧ Turned W w (w6.setCell ⟨q, 4, none⟩ (.slice a6 (m + 1) c6)) ∧ w6.cell? ⟨q, 4, none⟩ = some (.slice pa m pc) ∧ w6.frozen? ⟨q, 4, none⟩ = false := by
  subst hm
  have hw := (H.still ((Turned.refl _ w).alloc o))
  have hblk := hw.hd.turned ht (fun hk => (hw.pW q hk).2 rfl)
  refine ⟨hw.setP (D' := D ++ [x]) (by simp) ht (by simpa [bools] using hp) hb, ?_, hblk.cell rfl, hblk.free 4⟩
  exact ((((Turned.refl W w).alloc o).trans (ht.mono (fun k hk h => (H.pW k h).1)))).setCell (p := ⟨q, 4, none⟩) (.inl H.own) _

theorem cell_new0 (w : World) (v : Value) (t : TypeId) : (w.alloc (.cells #[v] t)).cell? ⟨w.heap.size, 0, none⟩ = some v := by
  exact ow_cells w [v] t 0 v rfl

set_option maxHeartbeats 2000000 in
theorem rclaim_any {w : World} {W : Nat → Prop} {q : Nat} {M : RM} {N : Nat} (H0 : (rT q M).at_ w W) (hM : M.Ok N) (hN : N < 1000000) (x : Int) (hx64 : w64 x) :
    Calls Try.prog 28 #[.pointer (some ⟨q, 0, none⟩), .int .i64 x] w fun e w' => e = .returned (.tuple #[.int .i64 (M.claimA x), .int .i64 (M.claimW x), .int .i64 (M.claimE x)]) ∧ Goes (rT q (M.claimM x)) W w w' := by
  obtain ⟨la, lc, pa, pc, H⟩ := H0
  have HV := Lib.hid (rrefc_any H hM hN x)
  by_cases he : M.claimE x = 0
  · rw [he] at HV
    have HA := Lib.hid (show M.claimA x = (M.tail : Nat) by unfold RM.claimA; rw [if_neg (by rw [he]; simp)])
    rw [HA.out, he]
    obtain ⟨i0, hi, hz0, hz1, hz2⟩ := info_parts infoIntW
    obtain ⟨j0, ji, jz0, jz1, jz2⟩ := info_parts infoBoolW
    have hlow := hM.low
    have hlen := hM.len
    have hmax := hM.max
    have hpos := hM.pos
    -- how it ends, from a ring whose window has room
    have HEnd := Lib.hid (fun (V : World) (V0 : Nat → Prop) (la2 pa2 : Option Addr) (lc2 pc2 h2 : Nat) (R2 : List Int) (D2 : List Bool) (H2 : RgIn V V0 q la2 lc2 pa2 pc2 M.n M.ov h2 R2 D2) (hT : Turned W w V) (hW : ∀ k, V0 k → W k ∨ w.heap.size ≤ k)
        (e1 : (M.claimM x).h = h2) (e2 : (M.claimM x).refs = R2) (e3 : (M.claimM x).dn = D2) (e4 : (M.claimM x).n = M.n) (e5 : (M.claimM x).ov = M.ov) => show Goes (rT q (M.claimM x)) W w V from
      rT_goes (la := la2) (lc := lc2) (pa := pa2) (pc := pc2) (by show RgIn V V0 q la2 lc2 pa2 pc2 _ _ _ _ _; rw [e1, e2, e3, e4, e5]; exact H2) hT hW)
    by_cases hf : M.l.length = M.n
    · obtain ⟨p, hp⟩ := get_some (l := M.l) (i := 0) (by omega)
      have hh : M.hdp = p := by unfold RM.hdp; rw [hp]; rfl
      have HM := Lib.hid (show M.claimM x = { M with h := M.h + 1, l := M.l.drop 1 ++ [⟨x, false⟩] } by unfold RM.claimM; rw [if_neg (by rw [he]; simp), if_pos hf])
      have HW0 := Lib.hid (show M.claimW x = p.r by unfold RM.claimW; rw [if_neg (by rw [he]; simp), if_pos hf, hh])
      rw [HW0.out]
      have HFl := Lib.hid (fun w' (hst : Still w w') => rfull_any (H.still hst) M.l.length (RM.refs_len M).symm)
      rw [show decide (M.l.length = M.n) = true by simp [hf]] at HFl
      have hlow' : M.h + M.l.length ≤ N := hlow
      have HCu := Lib.hid (fun w' (hst : Still w w') => rcut_any (H.still hst) 1 (by rw [RM.refs_len]; omega) (by rw [RM.dn_len]; omega) (by rw [RM.refs_len]; omega) (by rw [RM.dn_len]; omega) (by omega))
      have HPl := Lib.hid (fun w1 w2 (hst : Still w w1) (ht : Turned (· = q) w1 w2) => (by
        obtain ⟨g, o, e, hPB, h4, _⟩ := (H.still hst).ls.cell (ints_get (RM.refs_at hp))
        refine ⟨g, o, e, ?_⟩
        rw [Nat.add_zero] at h4
        rw [ht.cell (p := ⟨g, o, none⟩) (cell_lt h4) (H.lW g hPB).2]
        exact h4 : ∃ g o, la = some ⟨g, o, none⟩ ∧ w2.cell? ⟨g, o, none⟩ = some (.int .i64 p.r)))
      have hpos' := hM.pos
      have htail : M.tail = M.h + 1 + (M.refs.drop 1).length := by unfold RM.tail; rw [List.length_drop, RM.refs_len]; omega
      have HT := Lib.hid (fun (V : World) (la2 pa2 : Option Addr) (H2 : RgIn V W q la2 (lc - 1) pa2 (pc - 1) M.n M.ov (M.h + 1) (M.refs.drop 1) (M.dn.drop 1)) => rtail_any H2 hpos' M.tail htail (by omega))
      obtain ⟨m, hm⟩ : ∃ m, m = M.l.length - 1 := ⟨_, rfl⟩
      have HH := Lib.hid H
      have hmm : m ≤ 64 := by omega
      have HmR := Lib.hid (show m = (M.refs.drop 1).length by rw [List.length_drop, RM.refs_len]; exact hm)
      have HmD := Lib.hid (show m = (M.dn.drop 1).length by rw [List.length_drop, RM.dn_len]; exact hm)
      have HE2 := Lib.hid (show (M.claimM x).refs = M.refs.drop 1 ++ [x] ∧ (M.claimM x).dn = M.dn.drop 1 ++ [false] ∧ (M.claimM x).h = M.h + 1 ∧ (M.claimM x).n = M.n ∧ (M.claimM x).ov = M.ov by
        rw [HM.out]; exact ⟨by simp [RM.refs], by simp [RM.dn], rfl, rfl, rfl⟩)
      generalize M.claimM x = M2 at *
      generalize ((M.tail : Nat) : Int) = tl at *
      generalize p.r = pr at *
      clear H hM hlow hlen hmax hpos hf HM HW0 HA he hN hm hp hh hlow' hpos' htail
      go_enter Try.func28, Try.ntmps28
      go_upto_region 8 with (first
        | (go_at_call 40; refine HV.out.mono ?_; rintro e w1 ⟨rfl, h1⟩)
        | (go_at_call 41; refine (HFl.out _ h1).mono ?_; rintro e w2 ⟨rfl, h2⟩)
        | (go_at_call 42; refine (HCu.out _ (h1.trans h2)).mono ?_; rintro e wc ⟨rfl, ⟨la2, pa2, hc2⟩, hct⟩; obtain ⟨g, o, rfl, cg⟩ := HPl.out _ _ (h1.trans h2) hct)
        | (go_at_call 29; refine (HT.out _ _ _ hc2).mono ?_; rintro e w3 ⟨rfl, h3⟩))
      have H3 := Lib.hid (hc2.still h3)
      have HG := Lib.hid ((((h1.trans h2).mono (T := W) (fun _ _ h => h.elim)).trans (hct.mono (T := W) (fun k _ e => e ▸ HH.out.own))).trans (h3.mono (T := W) (fun _ _ h => h.elim)))
      clear hc2 hct
      have c3 : w3.cell? ⟨q, 3, none⟩ = some (.slice la2 m (lc - 1)) := by have := H3.out.cells.2.2.2.1; rwa [← HmR.out] at this
      have HPt : Hid (Part w3 3 la2 m (lc - 1) (ints (M.refs.drop 1))) := Lib.hid (by have := H3.out.ls; rwa [← HmR.out] at this)
      have HA := Lib.hid (fun (a6 : Option Addr) (c6 : Nat) (w6 : World) (o : Obj) => H3.out.addR (w6 := w6) (o := o) (a6 := a6) (c6 := c6) (x := x) HmR.out)
      have hqs : q < w3.heap.size := cell_lt c3
      clear h1 h2 h3 HV HFl HT
      go_upto_region 9 with (at_builtin; refine wpList_append_part rfl (.tmp 28) (.tmp 30) 22 rfl 3 i0 (.int .i64 0) 8 Try.underlying22 hi hz0 hz1 hz2 rfl la2 m (lc - 1) (ints (M.refs.drop 1)) rfl (HPt.out.still ((Turned.refl _ _).alloc _)) ⟨w3.heap.size, 0, none⟩ 1 (.int .i64 x) rfl (cell_new0 _ _ _) rfl rfl (by omega) (by omega) ?_; intro a6 c6 w6 hp6 ht6 hb6; obtain ⟨q6, t6, y6, z6⟩ := HA.out a6 c6 w6 _ hp6 ht6 hb6; have HB6 := Lib.hid (show ∀ k, PB a6 c6 k → PB la2 (lc - 1) k ∨ w3.heap.size ≤ k from fun k hk => (hb6 k hk).imp id (fun h => by simp at h; omega)); have HQ6 := Lib.hid q6; have HT6 := Lib.hid t6; clear hp6 ht6 hb6 q6 t6)
      obtain ⟨w7, hw7⟩ : ∃ w7, w7 = w6.setCell ⟨q, 3, none⟩ (.slice a6 (m + 1) c6) := ⟨_, rfl⟩
      rw [← hw7] at HQ6 HT6 ⊢
      have c4 : w7.cell? ⟨q, 4, none⟩ = some (.slice pa2 m (pc - 1)) := by have := HQ6.out.cells.2.2.2.2; rwa [← HmD.out] at this
      have HPp : Hid (Part w7 4 pa2 m (pc - 1) (bools (M.dn.drop 1))) := Lib.hid (by have := HQ6.out.ps; rwa [← HmD.out] at this)
      have HA := Lib.hid (fun (a8 : Option Addr) (c8 : Nat) (w8 : World) (o : Obj) => HQ6.out.addP (w6 := w8) (o := o) (a6 := a8) (c6 := c8) (x := false) HmD.out)
      have hqs : q < w7.heap.size := cell_lt c4
      clear hw7
      go_upto_region 10 with (at_builtin; refine wpList_append_part rfl (.tmp 38) (.tmp 39) 61 rfl 4 j0 (.bool false) 1 Try.underlying61 ji jz0 jz1 jz2 rfl pa2 m (pc - 1) (bools (M.dn.drop 1)) rfl (HPp.out.still ((Turned.refl _ _).alloc _)) ⟨w7.heap.size, 0, none⟩ 1 (.bool false) rfl (cell_new0 _ _ _) rfl rfl (by omega) (by omega) ?_; intro a8 c8 w8 hp8 ht8 hb8; obtain ⟨q8, t8, y8, z8⟩ := HA.out a8 c8 w8 _ hp8 ht8 hb8; have HB8 := Lib.hid (show ∀ k, PB a8 c8 k → PB pa2 (pc - 1) k ∨ w7.heap.size ≤ k from fun k hk => (hb8 k hk).imp id (fun h => by simp at h; omega)); have HQ8 := Lib.hid q8; have HT8 := Lib.hid t8; clear hp8 ht8 hb8 q8 t8)
      obtain ⟨w9, hw9⟩ : ∃ w9, w9 = w8.setCell ⟨q, 4, none⟩ (.slice a8 (m + 1) c8) := ⟨_, rfl⟩
      rw [← hw9] at HQ8 HT8 ⊢
      have hsz := HG.out.size
      have hsz2 := HT6.out.size
      have HF := Lib.hid (HEnd.out w9 _ _ _ _ _ _ _ _ HQ8.out ((HG.out.past (HT6.out.mono (T := W) (fun _ _ h => h)) (fun i hi => .inl hi)).past HT8.out (fun i hi => by
        rcases hi with hi | hi
        · exact .inl hi
        · rcases HB6.out i hi with h | h
          · have hi := (H3.out.lW i h).1; exact .inl hi
          · exact .inr (by omega)))
        (fun k hk => by
          rcases hk with (hk | hk) | hk
          · have hi := hk; exact .inl hi
          · rcases HB6.out k hk with h | h
            · have hi := (H3.out.lW k h).1; exact .inl hi
            · exact .inr (by omega)
          · rcases HB8.out k hk with h | h
            · have hi := (H3.out.pW k h).1; exact .inl hi
            · exact .inr (by omega)) HE2.out.2.2.1 HE2.out.1 HE2.out.2.1 HE2.out.2.2.2.1 HE2.out.2.2.2.2)
      clear hw9
      go_wp2_with fail
      go_ret3
      exact ⟨rfl, HF.out⟩
    · have HM := Lib.hid (show M.claimM x = { M with l := M.l ++ [⟨x, false⟩] } by unfold RM.claimM; rw [if_neg (by rw [he]; simp), if_neg hf])
      have HW0 := Lib.hid (show M.claimW x = 0 by unfold RM.claimW; rw [if_neg (by rw [he]; simp), if_neg hf])
      rw [HW0.out]
      have HFl := Lib.hid (fun w' (hst : Still w w') => rfull_any (H.still hst) M.l.length (RM.refs_len M).symm)
      rw [show decide (M.l.length = M.n) = false by simp [hf]] at HFl
      have HT := Lib.hid (fun w' (hst : Still w w') => rtail_any (H.still hst) hM.pos M.tail (by rw [RM.refs_len]; rfl) (by omega))
      obtain ⟨m, hm⟩ : ∃ m, m = M.l.length := ⟨_, rfl⟩
      have HH := Lib.hid H
      have hmm : m ≤ 64 := by omega
      have HmR := Lib.hid (show m = M.refs.length by rw [RM.refs_len]; exact hm)
      have HmD := Lib.hid (show m = M.dn.length by rw [RM.dn_len]; exact hm)
      have HE2 := Lib.hid (show (M.claimM x).refs = M.refs ++ [x] ∧ (M.claimM x).dn = M.dn ++ [false] ∧ (M.claimM x).h = M.h ∧ (M.claimM x).n = M.n ∧ (M.claimM x).ov = M.ov by
        rw [HM.out]; exact ⟨by simp [RM.refs], by simp [RM.dn], rfl, rfl, rfl⟩)
      generalize M.claimM x = M2 at *
      generalize ((M.tail : Nat) : Int) = tl at *
      clear H hM hlow hlen hmax hpos hf HM HW0 HA he hN hm
      go_enter Try.func28, Try.ntmps28
      go_upto_region 8 with (first
        | (go_at_call 40; refine HV.out.mono ?_; rintro e w1 ⟨rfl, h1⟩)
        | (go_at_call 41; refine (HFl.out _ h1).mono ?_; rintro e w2 ⟨rfl, h2⟩)
        | (go_at_call 29; refine (HT.out _ (h1.trans h2)).mono ?_; rintro e w3 ⟨rfl, h3⟩))
      have H3 := Lib.hid (HH.out.still ((h1.trans h2).trans h3))
      have HG := Lib.hid (((h1.trans h2).trans h3).mono (T := W) (fun _ _ h => h.elim))
      have c3 : w3.cell? ⟨q, 3, none⟩ = some (.slice la m lc) := by have := H3.out.cells.2.2.2.1; rwa [← HmR.out] at this
      have HPt : Hid (Part w3 3 la m lc (ints M.refs)) := Lib.hid (by have := H3.out.ls; rwa [← HmR.out] at this)
      have HA := Lib.hid (fun (a6 : Option Addr) (c6 : Nat) (w6 : World) (o : Obj) => H3.out.addR (w6 := w6) (o := o) (a6 := a6) (c6 := c6) (x := x) HmR.out)
      have hqs : q < w3.heap.size := cell_lt c3
      clear h1 h2 h3 HV HFl HT
      go_upto_region 9 with (at_builtin; refine wpList_append_part rfl (.tmp 28) (.tmp 30) 22 rfl 3 i0 (.int .i64 0) 8 Try.underlying22 hi hz0 hz1 hz2 rfl la m lc (ints M.refs) rfl (HPt.out.still ((Turned.refl _ _).alloc _)) ⟨w3.heap.size, 0, none⟩ 1 (.int .i64 x) rfl (cell_new0 _ _ _) rfl rfl (by omega) (by omega) ?_; intro a6 c6 w6 hp6 ht6 hb6; obtain ⟨q6, t6, y6, z6⟩ := HA.out a6 c6 w6 _ hp6 ht6 hb6; have HB6 := Lib.hid (show ∀ k, PB a6 c6 k → PB la lc k ∨ w3.heap.size ≤ k from fun k hk => (hb6 k hk).imp id (fun h => by simp at h; omega)); have HQ6 := Lib.hid q6; have HT6 := Lib.hid t6; clear hp6 ht6 hb6 q6 t6)
      obtain ⟨w7, hw7⟩ : ∃ w7, w7 = w6.setCell ⟨q, 3, none⟩ (.slice a6 (m + 1) c6) := ⟨_, rfl⟩
      rw [← hw7] at HQ6 HT6 ⊢
      have c4 : w7.cell? ⟨q, 4, none⟩ = some (.slice pa m pc) := by have := HQ6.out.cells.2.2.2.2; rwa [← HmD.out] at this
      have HPp : Hid (Part w7 4 pa m pc (bools M.dn)) := Lib.hid (by have := HQ6.out.ps; rwa [← HmD.out] at this)
      have HA := Lib.hid (fun (a8 : Option Addr) (c8 : Nat) (w8 : World) (o : Obj) => HQ6.out.addP (w6 := w8) (o := o) (a6 := a8) (c6 := c8) (x := false) HmD.out)
      have hqs : q < w7.heap.size := cell_lt c4
      clear hw7
      go_upto_region 10 with (at_builtin; refine wpList_append_part rfl (.tmp 38) (.tmp 39) 61 rfl 4 j0 (.bool false) 1 Try.underlying61 ji jz0 jz1 jz2 rfl pa m pc (bools M.dn) rfl (HPp.out.still ((Turned.refl _ _).alloc _)) ⟨w7.heap.size, 0, none⟩ 1 (.bool false) rfl (cell_new0 _ _ _) rfl rfl (by omega) (by omega) ?_; intro a8 c8 w8 hp8 ht8 hb8; obtain ⟨q8, t8, y8, z8⟩ := HA.out a8 c8 w8 _ hp8 ht8 hb8; have HB8 := Lib.hid (show ∀ k, PB a8 c8 k → PB pa pc k ∨ w7.heap.size ≤ k from fun k hk => (hb8 k hk).imp id (fun h => by simp at h; omega)); have HQ8 := Lib.hid q8; have HT8 := Lib.hid t8; clear hp8 ht8 hb8 q8 t8)
      obtain ⟨w9, hw9⟩ : ∃ w9, w9 = w8.setCell ⟨q, 4, none⟩ (.slice a8 (m + 1) c8) := ⟨_, rfl⟩
      rw [← hw9] at HQ8 HT8 ⊢
      have hsz := HG.out.size
      have hsz2 := HT6.out.size
      have HF := Lib.hid (HEnd.out w9 _ _ _ _ _ _ _ _ HQ8.out ((HG.out.past (HT6.out.mono (T := W) (fun _ _ h => h)) (fun i hi => .inl hi)).past HT8.out (fun i hi => by
        rcases hi with hi | hi
        · exact .inl hi
        · rcases HB6.out i hi with h | h
          · have hi := (H3.out.lW i h).1; exact .inl hi
          · exact .inr (by omega)))
        (fun k hk => by
          rcases hk with (hk | hk) | hk
          · have hi := hk; exact .inl hi
          · rcases HB6.out k hk with h | h
            · have hi := (H3.out.lW k h).1; exact .inl hi
            · exact .inr (by omega)
          · rcases HB8.out k hk with h | h
            · have hi := (H3.out.pW k h).1; exact .inl hi
            · exact .inr (by omega)) HE2.out.2.2.1 HE2.out.1 HE2.out.2.1 HE2.out.2.2.2.1 HE2.out.2.2.2.2)
      clear hw9
      go_wp2_with fail
      go_ret3
      exact ⟨rfl, HF.out⟩
  · have hb : (M.claimE x != 0) = true := by rw [bne_iff_ne]; exact he
    rw [show M.claimM x = M by unfold RM.claimM; rw [if_pos he], show M.claimA x = 0 by unfold RM.claimA; rw [if_pos he], show M.claimW x = 0 by unfold RM.claimW; rw [if_pos he]]
    have HG := Lib.hid (fun w' (hst : Still w w') => rT_still H hst)
    generalize M.claimE x = y at *
    clear H hM hN he
    go_enter Try.func28, Try.ntmps28
    go_wp2_with (go_at_call 40; refine HV.out.mono ?_; rintro e w1 ⟨rfl, h1⟩)
    go_ret3
    exact ⟨rfl, HG.out _ h1⟩
end Go.Proofs.Ytliaaggjefjbeaa
