/- What Drop of the document's pool does. No condition. -/
import Derived.Test.YtinfckoaphgmkaaPoolRefTo
namespace Go.Proofs.Ytinfckoaphgmkaa
open Go.RowKit
set_option linter.unusedVariables false
set_option linter.unusedSimpArgs false
set_option maxRecDepth 100000

theorem ZIn.freeB {w : World} {W : Nat → Prop} {q : Nat} {L : ZLay} {M : PM} (H : ZIn w W q L M) (k : Nat) : w.frozen? ⟨L.bb, k, none⟩ = false := by
  obtain ⟨bv, hb, _⟩ := H.bb
  exact hb.free k

theorem zdrop_goes {w w5 : World} {W : Nat → Prop} {q : Nat} {L : ZLay} {M : PM} {k : Nat} {s : Slt} (H : ZIn w W q L M) (hs : M.sl[k]? = some s) {a : Addr} {c : Nat}
    (hT : Still (((w.setCell ⟨L.cb, k, none⟩ (.int .i64 0)).setCell ⟨L.gb, k, none⟩ (.int .i64 ((s.g : Int) + 1))).setCell ⟨L.bb, k, none⟩ (.slice none 0 0)) w5)
    (hown : w5.ownsRow w.heap.size 3 1 (.slice (some a) (M.fr.length + 1) c) (M.fr.length + 1) (ints (nums (k :: M.fr)))) :
    Goes (zT q { M with sl := M.sl.set k ⟨s.g + 1, 0, []⟩, fr := k :: M.fr }) W w (w5.setCell ⟨q, 3, none⟩ (.slice (some a) (M.fr.length + 1) c)) := by
  have hk := get_lt hs
  have H1 := H.setC hs 0
  have e1 : (M.sl.set k { s with c := 0 })[k]? = some { s with c := 0 } := List.getElem?_set_self hk
  have H2 := H1.setG e1 (s.g + 1)
  rw [show ((s.g + 1 : Nat) : Int) = (s.g : Int) + 1 by omega] at H2
  rw [show ((0 : Nat) : Int) = 0 from rfl] at H2
  have e2 : ((M.sl.set k { s with c := 0 }).set k { s with c := 0, g := s.g + 1 })[k]? = some { s with c := 0, g := s.g + 1 } := List.getElem?_set_self (by simpa using hk)
  have H3 := H2.setB e2 none 0 [] ⟨BytesAt.nil _ _, Nat.le_refl _, Nat.zero_le _, fun _ => rfl, fun x hx => by cases hx⟩
  have ht3 : Turned W w (((w.setCell ⟨L.cb, k, none⟩ (.int .i64 0)).setCell ⟨L.gb, k, none⟩ (.int .i64 ((s.g : Int) + 1))).setCell ⟨L.bb, k, none⟩ (.slice none 0 0)) :=
    (((Turned.refl W w).setCell (p := ⟨L.cb, k, none⟩) (.inl (H.fix _ (.inr (.inr (.inl rfl))))) _).setCell (p := ⟨L.gb, k, none⟩) (.inl (H.fix _ (.inr (.inl rfl)))) _).setCell (p := ⟨L.bb, k, none⟩) (.inl (H.fix _ (.inr (.inr (.inr rfl))))) _
  have hw3 : w.heap.size = (((w.setCell ⟨L.cb, k, none⟩ (.int .i64 0)).setCell ⟨L.gb, k, none⟩ (.int .i64 ((s.g : Int) + 1))).setCell ⟨L.bb, k, none⟩ (.slice none 0 0)).heap.size := by simp [size_setCell]
  have hlt := ow_lt hown a rfl
  have H4 := (H3.still hT).more (W' := fun i => W i ∨ i = a.block) (fun i hi => .inl hi) (by
    rintro i (hi | rfl)
    · exact Nat.lt_of_lt_of_le (H.lt i hi) (by rw [hw3]; exact hT.size)
    · exact hlt.2)
  obtain ⟨l1, l2, _⟩ := ow_le hown
  have H5 := H4.setF a c (k :: M.fr) (NumsAt.of_own hown (by simp [nums])) ⟨by simpa using l1, l2⟩ ⟨.inr rfl, fun hf => by have := H.lt _ (H.fix _ hf); omega⟩
  simp only [List.set_set] at H5
  refine zT_goes H5 ((ht3.trans (hT.mono (T := W) (fun _ _ h => h.elim))).setCell (p := ⟨q, 3, none⟩) (.inl (H.fix _ (.inl rfl))) _) ?_
  rintro i (hi | rfl)
  · exact .inl hi
  · exact .inr hlt.1

set_option maxHeartbeats 2000000 in
theorem zdrop_any {w : World} {W : Nat → Prop} {q : Nat} {M : PM} {N : Nat} (H0 : (zT q M).at_ w W) (hM : M.Ok N) (hN : N < 1099511627776) (h : Int) :
    Calls Try.prog 22 #[.pointer (some ⟨q, 0, none⟩), .int .i64 h] w fun e w' => e = .returned (.tuple #[.int .i64 (M.dropN h), .int .i64 (M.err h)]) ∧ Goes (zT q (M.dropM h)) W w w' := by
  obtain ⟨L, H⟩ := H0
  obtain ⟨n, hn⟩ : ∃ n, n = M.sl.length := ⟨_, rfl⟩
  by_cases he : M.err h = 0
  · obtain ⟨h1, hk, hs, hg, hc⟩ := PM.live he
    have HV := Lib.hid (zlive_ok H he)
    obtain ⟨cg, cc, fg, fc⟩ := H.cell hs
    have c0 : w.cell? ⟨q, 0, none⟩ = some (.slice (some ⟨L.gb, 0, none⟩) n n) := hn ▸ H.hd.cell rfl
    have c1 : w.cell? ⟨q, 1, none⟩ = some (.slice (some ⟨L.cb, 0, none⟩) n n) := hn ▸ H.hd.cell rfl
    have hkn : hSlot h < n := by omega
    have hlow := hM.low _ _ hs
    obtain ⟨n1, n2, n3, n4, n5, n6⟩ := H.ne
    by_cases h1 : (M.slt h).c = 1
    · have HD := Lib.hid (show M.dropM h = { M with sl := M.sl.set (hSlot h) ⟨(M.slt h).g + 1, 0, []⟩, fr := hSlot h :: M.fr } by unfold PM.dropM; rw [if_neg (by simp [he]), if_pos h1])
      have HN2 := Lib.hid (show M.dropN h = 0 by unfold PM.dropN; rw [if_neg (by simp [he]), h1]; rfl)
      have c2 : w.cell? ⟨q, 2, none⟩ = some (.slice (some ⟨L.bb, 0, none⟩) n n) := hn ▸ H.hd.cell rfl
      obtain ⟨fl, hfl⟩ : ∃ fl, fl = M.fr.length := ⟨_, rfl⟩
      have c3 : w.cell? ⟨q, 3, none⟩ = some (.slice (some L.fa) fl L.fc) := hfl ▸ H.hd.cell rfl
      have f3 := H.hd.free 3
      obtain ⟨bv, hb, hl, hbs⟩ := H.bb
      obtain ⟨a, cx, hb1, hb2⟩ := hbs _ _ hs
      have cb : w.cell? ⟨L.bb, hSlot h, none⟩ = some (.slice a (M.slt h).b.length cx) := hb.cell hb1
      have fb := hb.free (hSlot h)
      rw [h1] at cc
      rw [HD.out, HN2.out, he]
      have HG := Lib.hid (fun (w5 : World) (a : Addr) (c : Nat) => zdrop_goes (w5 := w5) (a := a) (c := c) H hs)
      rw [← hfl] at HG
      have HFF := Lib.hid H.ff
      have hfle : fl ≤ 128 := by rw [hfl]; exact hM.frlen
      obtain ⟨w3, hw3⟩ : ∃ w3, ((w.setCell ⟨L.cb, hSlot h, none⟩ (.int .i64 0)).setCell ⟨L.gb, hSlot h, none⟩ (.int .i64 (((M.slt h).g : Int) + 1))).setCell ⟨L.bb, hSlot h, none⟩ (.slice none 0 0) = w3 := ⟨_, rfl⟩
      have hT3 : Turned (fun i => L.fix q i) w w3 := by
        rw [← hw3]
        exact (((Turned.refl _ w).setCell (p := ⟨L.cb, hSlot h, none⟩) (.inl (.inr (.inr (.inl rfl)))) _).setCell (p := ⟨L.gb, hSlot h, none⟩) (.inl (.inr (.inl rfl))) _).setCell (p := ⟨L.bb, hSlot h, none⟩) (.inl (.inr (.inr (.inr rfl)))) _
      have HNC := Lib.hid (fun (V : World) (hV : Still w3 V) (j : Nat) (u : Value) (hu : (ints (nums M.fr))[j]? = some u) => show V.cell? (L.fa.add j) = some u by
        have hN := (H.ff.turned hT3 (fun x hx => by cases hx; exact H.fown.2)).still hV
        simp only [ints, List.getElem?_map, Option.map_eq_some_iff] at hu
        obtain ⟨x, hx, rfl⟩ := hu
        obtain ⟨b, o, e, hc⟩ := hN j x hx
        rw [Option.some.inj e, Addr.add_lit]
        exact hc)
      have HNL := Lib.hid (show (ints (nums M.fr)).length = fl * 1 by rw [ints_length, nums_length, hfl, Nat.mul_one])
      have HN1 := Lib.hid (show ∀ u ∈ ints (nums M.fr), u.oneCell' = true from ow_ints (by simp [ints, isIntW]))
      have hsz3 : w.heap.size ≤ w3.heap.size := hT3.size
      rw [hw3] at HG
      have HW3 := Lib.hid hw3
      have b1 := ((H.hd.other (p := ⟨L.cb, hSlot h, none⟩) (Ne.symm n3) (.int .i64 0)).other (p := ⟨L.gb, hSlot h, none⟩) (Ne.symm n2) (.int .i64 (((M.slt h).g : Int) + 1))).other (p := ⟨L.bb, hSlot h, none⟩) (Ne.symm n4) (.slice none 0 0)
      have b2 := ((H.cc.set (hSlot h) (.int .i64 0)).other (p := ⟨L.gb, hSlot h, none⟩) n1 (.int .i64 (((M.slt h).g : Int) + 1))).other (p := ⟨L.bb, hSlot h, none⟩) (Ne.symm n6) (.slice none 0 0)
      rw [hw3] at b1 b2
      have hlk : hSlot h < (ints (nums (M.sl.map (·.c)))).length := by rw [ints_length, nums_length, List.length_map]; exact hk
      have HFZ := Lib.hid (fun (V : World) (hV : Still w3 V) => show V.frozen? ⟨q, 3, none⟩ = false ∧ V.cell? ⟨q, 3, none⟩ = some (.slice (some L.fa) fl L.fc) ∧ V.cell? ⟨q, 1, none⟩ = some (.slice (some ⟨L.cb, 0, none⟩) n n) ∧ V.cell? ⟨L.cb, hSlot h, none⟩ = some (.int .i64 0) from
        ⟨(b1.turned hV (fun h => h)).free 3, by rw [hfl]; exact (b1.turned hV (fun h => h)).cell rfl, by rw [hn]; exact (b1.turned hV (fun h => h)).cell rfl, (b2.turned hV (fun h => h)).cell (List.getElem?_set_self hlk)⟩)
      obtain ⟨i0, hi, hz0, hz1, hz2⟩ := info_parts infoIntW
      have hgi : ((M.slt h).g : Int) < 1099511627776 ∧ (0 : Int) ≤ ((M.slt h).g : Int) := by omega
      obtain ⟨hgi1, hgi0⟩ := hgi
      have hqs := Ne.symm n1
      have hq2 := Ne.symm n2
      have hq3 := Ne.symm n3
      have hq4 := Ne.symm n4
      have hq5 := Ne.symm n5
      have hq6 := Ne.symm n6
      have cc1 : w.cell? ⟨L.cb, hSlot h, none⟩ = some (.int .i64 1) := cc
      clear HD HN2 h1 hg hc hn hb hl hbs hb1 hb2 hlow hM hT3 hw3 he hs H hfl HFF cc hN hk b1 b2 hlk
      generalize hSlot h = k at *
      generalize ((M.slt h).g : Int) = g at *
      go_enter Try.func22, Try.ntmps22
      go_upto_region 8 with (go_at_call 42; refine HV.out.mono ?_; rintro e w' ⟨rfl, rfl⟩)
      rw [HW3.out]
      obtain ⟨d1, d2, d3, d4⟩ := HFZ.out w3 (Turned.refl _ _)
      have hq7 : q < w3.heap.size := cell_lt d2
      have HO1 := Lib.hid (ow_one w3 (.int .i64 (k : Int)) 3 hsz3)
      clear HW3 c0 c1 c2 c3 f3 fg fc cb fb cg cc1
      go_wp2_with (at_builtin; refine wpList_append_own_at _ rfl (.tmp 51) (.tmp 55) 31 rfl w.heap.size 3 i0 (.int .i64 0) 1 8 Try.underlying31 hi hz0 hz1 hz2 rfl (by decide) _ 1 [.int .i64 (k : Int)] rfl HO1.out L.fa fl L.fc (ints (nums M.fr)) rfl HNL.out (HNC.out _ ((Turned.refl _ _).alloc _)) HN1.out (by unfold maxLen; omega) (by omega) (by simp; omega) ?_; intro v6 w6 hown6 hg6 _ hat6; obtain ⟨a6, c6, rfl⟩ := ow_slice hown6; have HT6 := Lib.hid (show Still w3 w6 from ((Turned.refl (fun _ => False) w3).alloc (.cells #[.int .i64 (k : Int)] 3)).grown hg6 (fun i e => .inr (by cases e; exact Nat.le_refl _))); have HO6 := Lib.hid hown6; have HAT := Lib.hid hat6; obtain ⟨e1, e2, e3, e4⟩ := HFZ.out w6 HT6.out; clear hown6 hg6 hat6 d1 d2 d3 d4)
      go_ret2
      obtain ⟨a6, rfl⟩ : ∃ x, a6 = some x := by
        have := HAT.out
        cases a6 with
        | none => rcases this with h | h <;> cases h
        | some x => exact ⟨x, rfl⟩
      have HO7 := HO6.out
      rw [Nat.add_comm 1 fl] at HO7
      have := HG.out w6 a6 c6 HT6.out (by simpa [ints, nums] using HO7)
      refine ⟨rfl, ?_⟩
      rw [Nat.add_comm 1 fl]
      exact this
    · have h2 : 2 ≤ (M.slt h).c := by omega
      have HD := Lib.hid (show M.dropM h = { M with sl := M.sl.set (hSlot h) { M.slt h with c := (M.slt h).c - 1 } } by unfold PM.dropM; rw [if_neg (by simp [he]), if_neg h1])
      have hX : (((M.slt h).c - 1 : Nat) : Int) = ((M.slt h).c : Int) - 1 := by omega
      have HN2 := Lib.hid (show M.dropN h = ((M.slt h).c : Int) - 1 by unfold PM.dropN; rw [if_neg (by simp [he]), hX])
      have HG := Lib.hid (zT_goes (H.setC hs ((M.slt h).c - 1)) ((Turned.refl W w).setCell (p := ⟨L.cb, hSlot h, none⟩) (.inl (H.fix _ (.inr (.inr (.inl rfl))))) _) (fun k hk => .inl hk))
      rw [← HD.out, hX] at HG
      rw [HN2.out, he]
      have hci : ((M.slt h).c : Int) < 1099511627776 := by omega
      have hc0 : (2 : Int) ≤ ((M.slt h).c : Int) := by omega
      have hzz : (((M.slt h).c : Int) - 1 == 0) = false := by rw [beq_eq_false_iff_ne]; omega
      have hq3 := Ne.symm n3
      have hcq := Ne.symm n3
      generalize hSlot h = k at *
      clear HD HN2 hX h2 h1 hs hg hc hlow hn H hM hN
      generalize ((M.slt h).c : Int) = c at *
      clear hk he
      go_enter Try.func22, Try.ntmps22
      go_wp2_with (go_at_call 42; refine HV.out.mono ?_; rintro e w' ⟨rfl, rfl⟩)
      go_ret2
      exact ⟨rfl, HG.out⟩
  · have HV := Lib.hid (zlive_no H he)
    have hb : (M.err h != 0) = true := by rw [bne_iff_ne]; exact he
    rw [show M.dropM h = M by unfold PM.dropM; rw [if_pos he], show M.dropN h = 0 by unfold PM.dropN; rw [if_pos he]]
    have HG := Lib.hid (zT_same H)
    generalize M.err h = x at *
    clear H hn he
    go_enter Try.func22, Try.ntmps22
    go_wp2_with (go_at_call 42; refine HV.out.mono ?_; rintro e w' ⟨rfl, rfl⟩)
    go_ret2
    exact ⟨rfl, HG.out⟩
end Go.Proofs.Ytinfckoaphgmkaa
