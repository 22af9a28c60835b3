/- What giveBack and Drop of the program's pool do. No condition but that the pool is one. -/
import Derived.Test.YtinfckoaphgmkaaPoolDo
import Derived.Test.YtinfckoaphgmkaaPoolFreeL
namespace Go.Proofs.Ytinfckoaphgmkaa
open Go.RowKit
set_option linter.unusedVariables false
set_option linter.unusedSimpArgs false
set_option maxRecDepth 100000

theorem give_goes {w w3 w6 : World} {W : Nat → Prop} {q : Nat} {L : PLay} {M : PM} {k : Nat} {s : Slt} (H : PIn w3 W q L M) (hs : M.sl[k]? = some s) (hT3 : Turned W w w3) {a6 : Option Addr} {c6 fl : Nat} (hfl : fl = M.fr.length)
    (hT6 : Turned (· = L.sb) w3 w6) (hown : w6.ownsRow 0 3 1 (.slice a6 (fl + 1) c6) (fl + 1) (ints (nums M.fr.reverse) ++ [.int .i64 (k : Nat)]))
    (hat : (Value.slice a6 (fl + 1) c6).ownBlock = some L.sb ∨ ∃ j, w3.heap.size ≤ j ∧ (Value.slice a6 (fl + 1) c6).ownBlock = some j) :
    Goes (pT q { M with fr := k :: M.fr }) W w (w6.setCell ⟨q, 3, none⟩ (.slice a6 (fl + 1) c6)) ∧ (w6.setCell ⟨q, 3, none⟩ (.slice a6 (fl + 1) c6)).cell? ⟨L.eb, k * 3 + 1, none⟩ = some (.int .i64 s.c) := by
  subst hfl
  obtain ⟨x, rfl⟩ : ∃ x, a6 = some x := by
    cases a6 with
    | none => rcases hat with h | ⟨j, _, h⟩ <;> cases h
    | some x => exact ⟨x, rfl⟩
  obtain ⟨g, rfl⟩ := ow_addr hown
  have hlt := ow_lt hown _ rfl
  -- the pool in w6, the stack's slice as it was told, with the row that it has there
  have hst := H.st.2
  obtain ⟨ev, hev, hl⟩ := H.ee
  have hlW : ∀ k, W k → k < w6.heap.size := fun k hk => Nat.lt_of_lt_of_le (H.lt k hk) hT6.size
  have hg : g = L.sb ∨ w3.heap.size ≤ g := by
    rcases hat with h | ⟨j, hj, h⟩ <;> simp [Value.ownBlock] at h
    · exact .inl h
    · exact .inr (h ▸ hj)
  have hgf : ¬ L.fix q g := by
    rcases hg with rfl | hg
    · exact hst
    · intro h; have := H.lt _ (H.fix _ h); omega
  have hgb : ∀ i, i < M.sl.length → L.bl i ≠ g := by
    rcases hg with rfl | hg
    · exact fun i hi => (H.bs i hi).2.2
    · intro i hi e; have := H.lt _ (H.bs i hi).1; omega
  have hrow : w6.ownsRow 0 3 1 (.slice (some ⟨g, 0, none⟩) (k :: M.fr).length c6) (k :: M.fr).length (ints (nums (k :: M.fr).reverse)) := by
    have : ints (nums (k :: M.fr).reverse) = ints (nums M.fr.reverse) ++ [.int .i64 (k : Nat)] := by simp [ints, nums]
    rw [this]
    exact hown
  have ht : Turned (· = q) w6 (w6.setCell ⟨q, 3, none⟩ (.slice (some ⟨g, 0, none⟩) (M.fr.length + 1) c6)) := turned_set (Turned.refl _ _) _ _
  obtain ⟨n1, n2, n3⟩ := H.ne
  have P : PIn (w6.setCell ⟨q, 3, none⟩ (.slice (some ⟨g, 0, none⟩) (M.fr.length + 1) c6)) (fun i => W i ∨ i = g) q { L with sb := g, sc := c6 } { M with fr := k :: M.fr } := by
    refine ⟨fun i hi => ?_, fun i hi => .inl (H.fix i hi), ⟨.inr rfl, hgf⟩, fun i hi => ⟨.inl (H.bs i hi).1, (H.bs i hi).2.1, hgb i hi⟩, H.inj, H.ne, ?_, ?_, ⟨ev, ?_, hl⟩, fun i t hi => ?_, ?_⟩
    · rw [size_setCell]
      rcases hi with hi | rfl
      · exact hlW i hi
      · exact hlt.2
    · exact (H.hd.turned hT6 (fun e => hst (.inl e.symm))).set 3 _
    · exact (H.gg.turned hT6 (fun e => hst (.inr (.inl e.symm)))).turned ht (Ne.symm n1)
    · exact (hev.turned hT6 (fun e => hst (.inr (.inr e.symm)))).turned ht (Ne.symm n2)
    · obtain ⟨r, r1, r2⟩ := H.bb i t hi
      have hb := H.bs i (get_lt hi)
      exact ⟨r, (r1.turned hT6 hb.2.2).turned ht (fun e => hb.2.1 (.inl e)), r2⟩
    · exact ow_turned hrow ht (fun b hb e => by cases hb; exact hgf (.inl e))
  refine ⟨pT_goes P ((hT3.past (hT6.mono (fun i _ e => by subst e; exact H.st.1) : Turned W w3 w6) (fun i hi => .inl hi)).setCell (p := ⟨q, 3, none⟩) (.inl (H.fix _ (.inl rfl))) _) ?_, (P.slot (k := k) hs).2.1⟩
  rintro i (hi | rfl)
  · exact .inl hi
  · rcases hg with rfl | hg
    · exact .inl H.st.1
    · exact .inr (Nat.le_trans hT3.size hg)

set_option maxHeartbeats 2000000 in
theorem give_any {w : World} {W : Nat → Prop} {q : Nat} {L : PLay} {M : PM} {k : Nat} {s : Slt} (H : PIn w W q L M) (hs : M.sl[k]? = some s) (hf : M.fr.length ≤ 128) (hg : s.g < 1000000000) :
    Calls Try.prog 43 #[.pointer (some ⟨q, 0, none⟩), .pointer (some ⟨L.eb, k * 3, none⟩)] w fun e w' => (∃ v, e = .returned v) ∧ Goes (pT q { M with sl := M.sl.set k { s with g := s.g + 1, b := [] }, fr := k :: M.fr }) W w w' ∧ w'.cell? ⟨L.eb, k * 3 + 1, none⟩ = some (.int .i64 s.c) := by
  obtain ⟨i0, hi, hz0, hz1, hz2⟩ := info_parts infoIntW
  obtain ⟨n1, n2, n3⟩ := H.ne
  obtain ⟨n, hn⟩ : ∃ n, n = M.sl.length := ⟨_, rfl⟩
  obtain ⟨fl, hfl⟩ : ∃ fl, fl = M.fr.length := ⟨_, rfl⟩
  have c1 : w.cell? ⟨q, 1, none⟩ = some (.slice (some ⟨L.gb, 0, none⟩) n n) := hn ▸ H.hd.cell rfl
  obtain ⟨e0, e1, e2, e3⟩ := H.slot hs
  have hkn : k < n := by rw [hn]; exact get_lt hs
  have f1 := H.gg.free k
  have f2 := H.freeE (k * 3 + 2)
  obtain ⟨w3, hw3⟩ : ∃ w3, ((w.setCell ⟨L.gb, k, none⟩ (.int .i64 ((s.g : Int) + 1))).setCell ⟨L.eb, k * 3 + 2, none⟩ (.slice (some ⟨L.bl k, 0, none⟩) 0 M.size)).drew = w3 := ⟨_, rfl⟩
  have H1 := H.setG hs (s.g + 1)
  have H2 : PIn w3 W q L { M with sl := M.sl.set k { s with g := s.g + 1, b := [] } } := by
    rw [← hw3]
    rw [show ((s.g + 1 : Nat) : Int) = (s.g : Int) + 1 by omega] at H1
    obtain ⟨r, r1, r2⟩ := H1.bb k _ (get_set_self' hs)
    have := H1.setL (k := k) (get_set_self' hs) [] ⟨s.b ++ r, by simpa using r1, by simpa using r2⟩ (m := 0) rfl
    have := this.still (Turned.refl _ _).drew
    simpa using this
  have hT3 : Turned W w w3 := by
    rw [← hw3]
    exact (((Turned.refl W w).setCell (p := ⟨L.gb, k, none⟩) (.inl (H.fix _ (.inr (.inl rfl)))) _).setCell (p := ⟨L.eb, k * 3 + 2, none⟩) (.inl (H.fix _ (.inr (.inr rfl)))) _).drew
  have HG := Lib.hid (fun (w6 : World) (a6 : Option Addr) (c6 : Nat) => give_goes (w6 := w6) (a6 := a6) (c6 := c6) (k := k) H2 (get_set_self' hs) hT3 (fl := fl) hfl)
  have d3 : w3.cell? ⟨q, 3, none⟩ = some (.slice (some ⟨L.sb, 0, none⟩) fl L.sc) := by rw [hfl]; exact H2.hd.cell rfl
  have d4 := H2.hd.free 3
  have d0 := (H2.slot (get_set_self' hs)).1
  have HSS : Hid (w3.ownsRow 0 3 1 (.slice (some ⟨L.sb, 0, none⟩) fl L.sc) fl (ints (nums M.fr.reverse))) := Lib.hid (by rw [hfl]; exact H2.ss)
  have HQ := Lib.hid (fun (w6 : World) (ht : Turned (· = L.sb) w3 w6) => (⟨(H2.hd.turned ht (fun e => H.st.2 (.inl e.symm))).cell rfl, (H2.hd.turned ht (fun e => H.st.2 (.inl e.symm))).free 3⟩ : w6.cell? ⟨q, 3, none⟩ = some (.slice (some ⟨L.sb, 0, none⟩) M.fr.length L.sc) ∧ w6.frozen? ⟨q, 3, none⟩ = false))
  rw [← hfl] at HQ
  have HW3 := Lib.hid hw3
  have hgg : (s.g : Int) < 1000000000 := by omega
  have hgg0 : (0 : Int) ≤ (s.g : Int) := by omega
  have hfl' : fl ≤ 128 := by omega
  have hql : q < w3.heap.size := cell_lt d3
  generalize s.g = gn at *
  generalize s.b.length = bn at *
  generalize M.size = sz at *
  clear hw3 H1 H2 hs hf hn hfl H hT3 hg
  go_enter Try.func43, Try.ntmps43
  go_upto_region 0 with fail
  go_cut [] (fun wx => wx = (w.setCell ⟨L.gb, k, none⟩ (.int .i64 ((gn : Int) + 1))).drew)
  case first =>
    clear hi hz0 hz1 hz2
    go_region
    all_goals (go_wp2_with fail; go_meet)
    all_goals rfl
  case rest =>
    subst hcut
    go_upto_region 2 with fail
    rw [HW3.out]
    clear HW3 c1 e0 e1 e2 e3 f1 f2
    go_region_law (refine step_append_own rfl (.tmp 28) (.tmp 33) 31 rfl 0 3 i0 (.int .i64 0) 1 8 Try.underlying31 hi hz0 hz1 hz2 rfl (by decide) _ fl (ints (nums M.fr.reverse)) rfl (ow_still HSS.out ((Turned.refl _ _).drew.alloc _)) _ 1 1 [.int .i64 (k : Nat)] rfl rfl (ow_cells _ _ _) (ow_ints rfl) (by unfold maxLen; omega) (by omega) (Nat.zero_le _) ?_; intro v6 w6 hown6 hg6 hat6; obtain ⟨a6, c6, rfl⟩ := ow_slice hown6; have HT6 := Lib.hid (show Turned (· = L.sb) w3 w6 from ((Turned.refl (· = L.sb) w3).drew.alloc (.cells #[.int .i64 (k : Nat)] 3)).grown hg6 (fun i e => .inl (by cases e; rfl))); have HO6 := Lib.hid hown6; have HAT := Lib.hid (show (Value.slice a6 (fl + 1) c6).ownBlock = some L.sb ∨ ∃ j, w3.heap.size ≤ j ∧ (Value.slice a6 (fl + 1) c6).ownBlock = some j from hat6.elim .inl (fun h => .inr ⟨_, by simp, h⟩)); obtain ⟨q3, q4⟩ := HQ.out w6 HT6.out; clear hown6 hg6 hat6)
    all_goals (go_wp2_with fail)
    all_goals (go_end0; have hgo := HG.out w6 a6 c6 HT6.out HO6.out HAT.out; exact ⟨⟨_, rfl⟩, hgo.1, hgo.2⟩)

set_option maxHeartbeats 2000000 in
theorem drop_any {w : World} {W : Nat → Prop} {q : Nat} {M : PM} {N : Nat} (H0 : (pT q M).at_ w W) (hM : M.Ok N) (hN : N < 1000000) (h : Int) :
    Calls Try.prog 21 #[.pointer (some ⟨q, 0, none⟩), .int .i64 h] w fun e w' => e = .returned (.tuple #[.int .i64 (M.dropN h), .int .i64 (M.err h)]) ∧ Goes (pT q (M.dropM h)) W w w' := by
  obtain ⟨L, H⟩ := H0
  by_cases he : M.err h = 0
  · obtain ⟨h1, hk, hs, hg, hc⟩ := PM.live he
    have HV := Lib.hid (find_ok H hM he)
    have hlow := hM.low _ _ hs
    have hE0 := H.ownE
    have HC := Lib.hid (fun w' (hst : Still w w') => (⟨((H.still hst).slot hs).2.1, (H.still hst).freeE _⟩ : w'.cell? ⟨L.eb, hSlot h * 3 + 1, none⟩ = some (.int .i64 (M.slt h).c) ∧ w'.frozen? ⟨L.eb, hSlot h * 3 + 1, none⟩ = false))
    by_cases h1 : (M.slt h).c = 1
    · have HD := Lib.hid (show M.dropM h = { M with sl := M.sl.set (hSlot h) ⟨(M.slt h).g + 1, 0, []⟩, fr := hSlot h :: M.fr } by unfold PM.dropM; rw [if_neg (by simp [he]), if_pos h1])
      have HN2 := Lib.hid (show M.dropN h = 0 by unfold PM.dropN; rw [if_neg (by simp [he]), h1]; rfl)
      have HG := Lib.hid (fun w' (hst : Still w w') => show Calls Try.prog 43 #[.pointer (some ⟨q, 0, none⟩), .pointer (some ⟨L.eb, hSlot h * 3, none⟩)] (w'.setCell ⟨L.eb, hSlot h * 3 + 1, none⟩ (.int .i64 0)) fun e w2 => (∃ v, e = .returned v) ∧ Goes (pT q (M.dropM h)) W w w2 ∧ w2.cell? ⟨L.eb, hSlot h * 3 + 1, none⟩ = some (.int .i64 0) by
        have HH := (H.still hst).setC hs 0
        rw [show ((0 : Nat) : Int) = 0 from rfl] at HH
        refine (give_any HH (get_set_self' hs) hM.frlen (by show (M.slt h).g < _; omega)).mono ?_
        rintro e w2 ⟨he2, ⟨W', g1, g2, g3⟩, hc2⟩
        refine ⟨he2, ⟨W', ?_, ((hst.mono (T := W) (fun _ _ h => h.elim)).setCell (p := ⟨L.eb, hSlot h * 3 + 1, none⟩) (.inl hE0) _).trans g2, fun i hi => ?_⟩, hc2⟩
        · rw [HD.out]
          simpa using g1
        · rcases g3 i hi with h | h
          · exact .inl h
          · rw [size_setCell] at h; exact .inr (Nat.le_trans hst.size h))
      rw [h1] at HC
      rw [HN2.out, he]
      generalize hSlot h = k at *
      generalize M.dropM h = M2 at *
      clear HD HN2 h1 hs hg hc hlow hN H hM he hk
      go_enter Try.func21, Try.ntmps21
      go_wp2_with (first
        | (go_at_call 41; refine HV.out.mono ?_; rintro e w' ⟨rfl, hst⟩; obtain ⟨cc, fc⟩ := HC.out w' hst)
        | (go_at_call 43; refine (HG.out w' hst).mono ?_; rintro e w2 ⟨⟨v, rfl⟩, hgo, c2⟩))
      go_ret2
      exact ⟨rfl, hgo⟩
    · have h2 : 2 ≤ (M.slt h).c := by omega
      have HD := Lib.hid (show M.dropM h = { M with sl := M.sl.set (hSlot h) { M.slt h with c := (M.slt h).c - 1 } } by unfold PM.dropM; rw [if_neg (by simp [he]), if_neg h1])
      have hX : (((M.slt h).c - 1 : Nat) : Int) = ((M.slt h).c : Int) - 1 := by omega
      have HN2 := Lib.hid (show M.dropN h = ((M.slt h).c : Int) - 1 by unfold PM.dropN; rw [if_neg (by simp [he]), hX])
      have HG := Lib.hid (fun w' (hst : Still w w') => show Goes (pT q (M.dropM h)) W w (w'.setCell ⟨L.eb, hSlot h * 3 + 1, none⟩ (.int .i64 (((M.slt h).c : Int) - 1))) by
        have := (H.still hst).setC hs ((M.slt h).c - 1)
        rw [hX] at this
        rw [HD.out]
        exact pT_goes this ((hst.mono (T := W) (fun _ _ h => h.elim)).setCell (p := ⟨L.eb, _, none⟩) (.inl hE0) _) (fun k hk => .inl hk))
      rw [HN2.out, he]
      have hci : ((M.slt h).c : Int) < 1099511627776 := by omega
      have hc0 : (2 : Int) ≤ ((M.slt h).c : Int) := by omega
      have hzz : (((M.slt h).c : Int) - 1 == 0) = false := by rw [beq_eq_false_iff_ne]; omega
      generalize hSlot h = k at *
      generalize M.dropM h = M2 at *
      clear HD HN2 hX h2 h1 hs hg hc hlow H hM hN
      generalize ((M.slt h).c : Int) = c at *
      clear hk he
      go_enter Try.func21, Try.ntmps21
      go_wp2_with (go_at_call 41; refine HV.out.mono ?_; rintro e w' ⟨rfl, hst⟩; obtain ⟨cc, fc⟩ := HC.out w' hst)
      go_ret2
      exact ⟨rfl, HG.out w' hst⟩
  · have HV := Lib.hid (find_no H hM he)
    have hb : (M.err h != 0) = true := by rw [bne_iff_ne]; exact he
    rw [show M.dropM h = M by unfold PM.dropM; rw [if_pos he], show M.dropN h = 0 by unfold PM.dropN; rw [if_pos he]]
    have HG := Lib.hid (fun w' (hst : Still w w') => pT_still H hst)
    generalize M.err h = x at *
    clear H hM hN he
    go_enter Try.func21, Try.ntmps21
    go_wp2_with (go_at_call 41; refine HV.out.mono ?_; rintro e w' ⟨rfl, hst⟩)
    go_ret2
    exact ⟨rfl, HG.out w' hst⟩
end Go.Proofs.Ytinfckoaphgmkaa
