/- What Take of the document's pool does. No condition. -/
import Derived.Test.YtinfckoaphgmkaaPoolRefDrop
namespace Go.Proofs.Ytinfckoaphgmkaa
open Go.RowKit
set_option linter.unusedVariables false
set_option linter.unusedSimpArgs false
set_option maxRecDepth 100000

theorem row_byt (l : List UInt8) : rowOf encB l = byt l := by
  induction l with
  | nil => rfl
  | cons a l ih => rw [rowOf_cons, ih]; simp [byt, encB]
theorem made_byt (k : Nat) : madeCells #[.int .u8 0] k = (byt (List.replicate k 0)).toArray := by
  have := made_row (enc := encB) (0 : UInt8) (z := #[.int .u8 0]) rfl (m := 1) (fun _ => rfl) (by omega) k
  rw [Nat.mul_one] at this
  rw [this, row_byt]

theorem ztake_goes {w w1 w4 : World} {W : Nat → Prop} {q : Nat} {L : ZLay} {M : PM} {k : Nat} {r : List Nat} {s : Slt} (H : ZIn w W q L M) (hs : M.sl[k]? = some s) {a : Addr} {c B nn : Nat}
    (hT1 : Still w w1) (hown : w1.ownsRow w.heap.size 3 1 (.slice (some a) r.length c) r.length (ints (nums r)))
    (hT : Still ((w1.setCell ⟨q, 3, none⟩ (.slice (some a) r.length c)).setCell ⟨L.cb, k, none⟩ (.int .i64 1)) w4) (hB : BytesAt w4 (some ⟨B, 0, none⟩) (List.replicate nn 0)) (hnn : nn ≤ 256)
    (hB0 : w1.heap.size ≤ B) (hB1 : B < w4.heap.size) :
    Goes (zT q { M with sl := M.sl.set k ⟨s.g, 1, List.replicate nn 0⟩, fr := r }) W w (w4.setCell ⟨L.bb, k, none⟩ (.slice (some ⟨B, 0, none⟩) nn nn)) := by
  have hk := get_lt hs
  have hlt := ow_lt hown a rfl
  have hsz1 := hT1.size
  have H1 := (H.still hT1).more (W' := fun i => W i ∨ i = a.block) (fun i hi => .inl hi) (by
    rintro i (hi | rfl)
    · exact Nat.lt_of_lt_of_le (H.lt i hi) hT1.size
    · exact hlt.2)
  obtain ⟨l1, l2, _⟩ := ow_le hown
  have H2 := H1.setF a c r (NumsAt.of_own hown (by simp [nums])) ⟨l1, l2⟩ ⟨.inr rfl, fun hf => by have := H.lt _ (H.fix _ hf); omega⟩
  have H3 := H2.setC hs 1
  rw [show ((1 : Nat) : Int) = 1 from rfl] at H3
  have hsz3 : ((w1.setCell ⟨q, 3, none⟩ (.slice (some a) r.length c)).setCell ⟨L.cb, k, none⟩ (.int .i64 1)).heap.size = w1.heap.size := by rw [size_setCell, size_setCell]
  have H4 := (H3.still hT).more (W' := fun i => (W i ∨ i = a.block) ∨ i = B) (fun i hi => .inl hi) (by
    rintro i (hi | rfl)
    · exact Nat.lt_of_lt_of_le (H3.lt i hi) hT.size
    · exact hB1)
  have e1 : (M.sl.set k { s with c := 1 })[k]? = some { s with c := 1 } := List.getElem?_set_self hk
  have hBo : ∀ x, (some (⟨B, 0, none⟩ : Addr)) = some x → ((W x.block ∨ x.block = a.block) ∨ x.block = B) ∧ ¬ ({ L with fa := a, fc := c } : ZLay).fix q x.block := by
    intro x hx
    cases hx
    refine ⟨.inr rfl, fun hf => ?_⟩
    have := H.lt _ (H.fix B hf)
    omega
  have H5 := H4.setB e1 (some ⟨B, 0, none⟩) nn (List.replicate nn 0) ⟨hB, by simp, by unfold maxLen; omega, (fun e => by cases e), hBo⟩
  simp only [List.set_set, List.length_replicate] at H5
  refine zT_goes H5 ((((hT1.mono (T := W) (fun _ _ h => h.elim)).setCell (p := ⟨q, 3, none⟩) (.inl (H.fix _ (.inl rfl))) _).setCell (p := ⟨L.cb, k, none⟩) (.inl (H.fix _ (.inr (.inr (.inl rfl))))) _).trans (hT.mono (T := W) (fun _ _ h => h.elim)) |>.setCell (p := ⟨L.bb, k, none⟩) (.inl (H.fix _ (.inr (.inr (.inr rfl))))) _) ?_
  rintro i ((hi | rfl) | rfl)
  · exact .inl hi
  · exact .inr hlt.1
  · exact .inr (by omega)

theorem ztake_mid {w w1 : World} {W : Nat → Prop} {q : Nat} {L : ZLay} {M : PM} {k : Nat} {r : List Nat} {s : Slt} (H : ZIn w W q L M) (hs : M.sl[k]? = some s) {a : Addr} {c : Nat}
    (hT1 : Still w w1) (hown : w1.ownsRow w.heap.size 3 1 (.slice (some a) r.length c) r.length (ints (nums r))) :
    ZIn ((w1.setCell ⟨q, 3, none⟩ (.slice (some a) r.length c)).setCell ⟨L.cb, k, none⟩ (.int .i64 1)) (fun i => W i ∨ i = a.block) q { L with fa := a, fc := c } { M with sl := M.sl.set k { s with c := 1 }, fr := r } := by
  have hlt := ow_lt hown a rfl
  have H1 := (H.still hT1).more (W' := fun i => W i ∨ i = a.block) (fun i hi => .inl hi) (by
    rintro i (hi | rfl)
    · exact Nat.lt_of_lt_of_le (H.lt i hi) hT1.size
    · exact hlt.2)
  obtain ⟨l1, l2, _⟩ := ow_le hown
  have H2 := H1.setF a c r (NumsAt.of_own hown (by simp [nums])) ⟨l1, l2⟩ ⟨.inr rfl, fun hf => by have := H.lt _ (H.fix _ hf); omega⟩
  have H3 := H2.setC hs 1
  rw [show ((1 : Nat) : Int) = 1 from rfl] at H3
  exact H3

/-- What the walk asks of a pool's cells at a slot. -/
theorem ZIn.at {w : World} {W : Nat → Prop} {q : Nat} {L : ZLay} {M : PM} (H : ZIn w W q L M) {k : Nat} {s : Slt} (hk : M.sl[k]? = some s) :
    w.cell? ⟨q, 0, none⟩ = some (.slice (some ⟨L.gb, 0, none⟩) M.sl.length M.sl.length) ∧ w.cell? ⟨q, 1, none⟩ = some (.slice (some ⟨L.cb, 0, none⟩) M.sl.length M.sl.length) ∧ w.cell? ⟨q, 2, none⟩ = some (.slice (some ⟨L.bb, 0, none⟩) M.sl.length M.sl.length) ∧
    w.cell? ⟨L.gb, k, none⟩ = some (.int .i64 s.g) ∧ w.cell? ⟨L.cb, k, none⟩ = some (.int .i64 s.c) ∧ (∃ a c, w.cell? ⟨L.bb, k, none⟩ = some (.slice a s.b.length c)) ∧ w.frozen? ⟨q, 3, none⟩ = false ∧ w.frozen? ⟨L.gb, k, none⟩ = false ∧ w.frozen? ⟨L.cb, k, none⟩ = false ∧ w.frozen? ⟨L.bb, k, none⟩ = false := by
  obtain ⟨bv, hb, hl, hbs⟩ := H.bb
  obtain ⟨a, c, h1, h2⟩ := hbs k s hk
  exact ⟨H.hd.cell rfl, H.hd.cell rfl, H.hd.cell rfl, (H.cell hk).1, (H.cell hk).2.1, ⟨a, c, hb.cell h1⟩, H.hd.free 3, (H.cell hk).2.2.1, (H.cell hk).2.2.2, hb.free k⟩

theorem ztake_no {w : World} {W : Nat → Prop} {q : Nat} {L : ZLay} {M : PM} (H : ZIn w W q L M) (n : Int) (hE : M.takeE n ≠ 0) :
    M.takeM n = M ∧ M.takeH n = 0 := by
  unfold PM.takeE at hE
  unfold PM.takeM PM.takeH
  by_cases h1 : n < 0
  · simp [h1]
  · by_cases h2 : (M.size : Int) < n
    · simp [h2]
    · by_cases h3 : M.fr = []
      · simp [h1, h2, h3]
      · rw [if_neg h1, if_neg h2, if_neg h3] at hE
        exact absurd rfl hE

set_option maxHeartbeats 2000000 in
theorem ztake_any {w : World} {W : Nat → Prop} {q : Nat} {M : PM} {N : Nat} (H0 : (zT q M).at_ w W) (hM : M.Ok N) (hN : N < 1099511627776) (n : Int) :
    Calls Try.prog 15 #[.pointer (some ⟨q, 0, none⟩), .int .i64 n] w fun e w' => e = .returned (.tuple #[.int .i64 (M.takeH n), .int .i64 (M.takeE n)]) ∧ Goes (zT q (M.takeM n)) W w w' := by
  obtain ⟨L, H⟩ := H0
  obtain ⟨S, hS⟩ : ∃ S, S = M.size := ⟨_, rfl⟩
  have c4 : w.cell? ⟨q, 4, none⟩ = some (.int .i64 (S : Int)) := hS ▸ H.hd.cell rfl
  have hs1 := hM.size1
  by_cases h1 : n < 0
  · have hE : M.takeE n = 2 := by unfold PM.takeE; rw [if_pos h1]
    obtain ⟨e1, e2⟩ := ztake_no H n (by rw [hE]; decide)
    rw [hE, e1, e2]
    have HG := Lib.hid (zT_same H)
    clear hE e1 e2 H hS hs1 hM hN
    go_enter Try.func15, Try.ntmps15
    go_wp2_with fail
    go_ret2
    exact ⟨rfl, HG.out⟩
  · by_cases h2 : (S : Int) < n
    · have hE : M.takeE n = 3 := by unfold PM.takeE; rw [if_neg h1, if_pos (hS ▸ h2)]
      obtain ⟨e1, e2⟩ := ztake_no H n (by rw [hE]; decide)
      rw [hE, e1, e2]
      have HG := Lib.hid (zT_same H)
      clear hE e1 e2 H hS hs1 hM hN
      go_enter Try.func15, Try.ntmps15
      go_wp2_with fail
      go_ret2
      exact ⟨rfl, HG.out⟩
    · cases hf : M.fr with
      | nil =>
        have hE : M.takeE n = 50 := by unfold PM.takeE; rw [if_neg h1, if_neg (hS ▸ h2), if_pos hf]
        obtain ⟨e1, e2⟩ := ztake_no H n (by rw [hE]; decide)
        rw [hE, e1, e2]
        have HG := Lib.hid (zT_same H)
        have c3 : w.cell? ⟨q, 3, none⟩ = some (.slice (some L.fa) 0 L.fc) := by have := H.hd.cell (o := 3) rfl; rwa [hf] at this
        clear hE e1 e2 H hS hs1 hM hN hf
        go_enter Try.func15, Try.ntmps15
        go_wp2_with fail
        go_ret2
        exact ⟨rfl, HG.out⟩
      | cons k r =>
        have hkl : k < M.sl.length := hM.lt k (by rw [hf]; exact List.mem_cons_self)
        obtain ⟨s, hs⟩ := get_some hkl
        obtain ⟨nn, rfl⟩ : ∃ nn : Nat, n = nn := ⟨n.toNat, by omega⟩
        have hnn : nn ≤ 256 := by omega
        have hE : M.takeE nn = 0 := by unfold PM.takeE; rw [if_neg h1, if_neg (hS ▸ h2), if_neg (by rw [hf]; simp)]
        have hH : M.takeH nn = (s.g : Int) * 128 + (k : Nat) + 1 := by unfold PM.takeH; rw [if_neg (by rw [← hS]; omega), hf]; simp [hs]
        have hMM : M.takeM nn = { M with sl := M.sl.set k ⟨s.g, 1, List.replicate nn 0⟩, fr := r } := by unfold PM.takeM; rw [if_neg (by rw [← hS]; omega), hf]; simp [hs]
        rw [hE, hH, hMM]
        have hlow := hM.low _ _ hs
        have hOF := Lib.hid (fun W => refOf_any (k : Int) (s.g : Int) W)
        rw [haV_ok (by have := hM.len; unfold sgOk; omega)] at hOF
        obtain ⟨m, hm⟩ : ∃ m, m = M.sl.length := ⟨_, rfl⟩
        obtain ⟨rl, hrl⟩ : ∃ rl, rl = r.length := ⟨_, rfl⟩
        have c3 : w.cell? ⟨q, 3, none⟩ = some (.slice (some L.fa) (rl + 1) L.fc) := by have := H.hd.cell (o := 3) rfl; rw [hf, List.length_cons, ← hrl] at this; exact this
        have hff := H.ff
        rw [hf] at hff
        obtain ⟨b, o, hfa, hc0⟩ := hff 0 (k : Int) rfl
        rw [Nat.add_zero] at hc0
        have hfa := Option.some.inj hfa
        have hle := H.fle
        rw [hf, List.length_cons, ← hrl] at hle
        have hmx := hle.2
        unfold maxLen at hmx
        have hrl128 := hM.frlen
        rw [hf, List.length_cons, ← hrl] at hrl128
        have htl : NumsAt w (some ⟨b, o + 1, none⟩) (nums r) := by
          intro i x hx
          obtain ⟨b', o', e, hc⟩ := hff (i + 1) x (by simpa [nums] using hx)
          rw [hfa] at e
          cases e
          exact ⟨b, o + 1, rfl, by rw [Nat.add_assoc, Nat.add_comm 1 i]; exact hc⟩
        have HI := Lib.hid (fun c => bints_any w (some ⟨b, o + 1, none⟩) (nums r) rl c (by rw [nums_length, hrl]) htl (by omega) (fun e => by cases e))
        have HI0 := Lib.hid (fun (h : r = []) c => bints_any w (some ⟨b, o, none⟩) (nums r) rl c (by rw [nums_length, hrl]) (by rw [h]; exact NumsAt.nil _ _) (by omega) (fun e => by cases e))
        rw [hfa] at c3
        have HG := Lib.hid (fun (w1 w4 : World) (a : Addr) (c B : Nat) (hT1 : Still w w1) (hown : w1.ownsRow w.heap.size 3 1 (.slice (some a) rl c) rl (ints (nums r))) => ztake_goes (w1 := w1) (w4 := w4) (B := B) (nn := nn) H hs hT1 (hrl ▸ hown))
        rw [← hrl] at HG
        obtain ⟨fc, hfc⟩ : ∃ fc, fc = L.fc := ⟨_, rfl⟩
        rw [← hfc] at c3 hle hmx
        have hsp : (fc = 1 ∧ rl = 0) ∨ 2 ≤ fc := by omega
        have HRLX := Lib.hid hrl
        have HMM := Lib.hid hm
        have hkm : k < m := by rw [hm]; exact hkl
        clear hm
        clear hE hH hMM hf hff htl hfa hrl hfc hS hs1 hM hN hkl hlow
        rcases hsp with ⟨hc1, hc2⟩ | hc2
        · have hr0 : r = [] := List.eq_nil_of_length_eq_zero (by rw [← HRLX.out]; exact hc2)
          subst hc1
          subst hc2
          have HI := Lib.hid (fun c => HI0.out hr0 c)
          rw [Nat.zero_add] at c3
          clear HI0 hr0
          go_enter Try.func15, Try.ntmps15
          go_upto_region 8 with fail
          go_wp2_with fail
          ((with_reducible refine (HI.out _).mono ?_))
          rintro e w1 ⟨a, c, rfl, hown, hT1⟩
          have HO := Lib.hid hown
          have HT1 := Lib.hid hT1
          have HM := Lib.hid (ztake_mid H hs hT1 (HRLX.out ▸ hown))
          obtain ⟨_, p1, _, _, p4, _, p6, _, p8, _⟩ := (H.still hT1).at hs
          rw [← HMM.out] at p1
          have p3 : ∃ u, w1.cell? ⟨q, 3, none⟩ = some u := ⟨_, (H.still hT1).hd.cell rfl⟩
          obtain ⟨u3, p3⟩ := p3
          have n3 : q ≠ L.cb := H.ne.2.2.1
          have n3' : L.cb ≠ q := Ne.symm n3
          clear hown hT1 H hs
          go_upto_region 10 with fail
          have HG1 := Lib.hid (fun w4 B => HG.out w1 w4 a c B HT1.out HO.out)
          obtain ⟨w3, hw3⟩ : ∃ w3, (w1.setCell ⟨q, 3, none⟩ (.slice (some a) 0 c)).setCell ⟨L.cb, k, none⟩ (.int .i64 1) = w3 := ⟨_, rfl⟩
          have hsz3 := Lib.hid (show w3.heap.size = w1.heap.size by rw [← hw3, size_setCell, size_setCell])
          have HM3 := HM.out
          rw [← HRLX.out, hw3] at HM3
          rw [hw3]
          rw [hw3] at HG1
          have hs3 : (M.sl.set k { s with c := 1 })[k]? = some { s with c := 1 } := List.getElem?_set_self (by rw [← HMM.out]; exact hkm)
          obtain ⟨e0, _, e2, e3, _, e5, _, _, _, e9⟩ := HM3.at hs3
          obtain ⟨ba, bc, e5⟩ := e5
          simp only [List.length_set] at e0 e2
          rw [← HMM.out] at e0 e2
          have hqb := HM3.ne.2.2.2.1
          have hbq := Ne.symm hqb
          have hgb := HM3.ne.2.2.2.2.1
          have hbg := Ne.symm hgb
          dsimp only at e0 e2 e3 e5 e9 hqb hbq hgb hbg
          have l1 : q < w3.heap.size := cell_lt e2
          have l2 : L.bb < w3.heap.size := cell_lt e5
          have l3 : L.gb < w3.heap.size := cell_lt e3
          obtain ⟨i1, ki, kz0, kz1, kz2⟩ := info_parts infoByte
          have hb : (i1.bytes : Int) * (nn : Int) ≤ 281474976710656 := by rw [kz2]; omega
          have hmk := fun W : World => run_make (P := Try.prog) W 32 5 i1 _ Try.underlying32 ki kz0 .i64 .i64 (nn : Int) (nn : Int) (Int.natCast_nonneg nn) (Int.le_refl _) hb (by omega)
          simp only [kz1, Int.toNat_natCast, Nat.mul_one, show Value.cells (.int .u8 0) = #[.int .u8 0] from rfl, made_byt] at hmk
          clear ki kz0 kz1 kz2 hb HM3 hs3 p1 p4 p6 p8 p3 c4 c3 hc0 HI HG n3 n3' hw3
          go_region
          have HGF := Lib.hid (HG1.out (w3.alloc (.cells (byt (List.replicate nn 0)).toArray 5)).drew w3.heap.size (((Turned.refl _ w3).alloc _).drew)
            ((BytesAt.of_blk (r := []) (by rw [List.append_nil]; exact Blk.new w3 (byt (List.replicate nn 0)) 5)).drewN 1) hnn (by rw [hsz3.out]; exact Nat.le_refl _) (by show _ < (w3.alloc _).heap.size; simp))
          rw [World.setCell_drew, World.setCell_alloc_past (hn := l2)] at HGF
          have hkw : (0 : Int) ≤ k := Int.natCast_nonneg _
          clear hmk HG1 e9
          go_wp2_with (go_at_call 40; refine (hOF.out _).mono ?_; rintro e w' ⟨rfl, rfl⟩)
          go_ret2
          exact ⟨rfl, HGF.out⟩
        · clear HI0
          go_enter Try.func15, Try.ntmps15
          go_upto_region 8 with fail
          go_wp2_with fail
          ((with_reducible refine (HI.out _).mono ?_))
          rintro e w1 ⟨a, c, rfl, hown, hT1⟩
          have HO := Lib.hid hown
          have HT1 := Lib.hid hT1
          have HM := Lib.hid (ztake_mid H hs hT1 (HRLX.out ▸ hown))
          obtain ⟨_, p1, _, _, p4, _, p6, _, p8, _⟩ := (H.still hT1).at hs
          rw [← HMM.out] at p1
          have p3 : ∃ u, w1.cell? ⟨q, 3, none⟩ = some u := ⟨_, (H.still hT1).hd.cell rfl⟩
          obtain ⟨u3, p3⟩ := p3
          have n3 : q ≠ L.cb := H.ne.2.2.1
          have n3' : L.cb ≠ q := Ne.symm n3
          clear hown hT1 H hs
          go_upto_region 10 with fail
          have HG1 := Lib.hid (fun w4 B => HG.out w1 w4 a c B HT1.out HO.out)
          obtain ⟨w3, hw3⟩ : ∃ w3, (w1.setCell ⟨q, 3, none⟩ (.slice (some a) rl c)).setCell ⟨L.cb, k, none⟩ (.int .i64 1) = w3 := ⟨_, rfl⟩
          have hsz3 := Lib.hid (show w3.heap.size = w1.heap.size by rw [← hw3, size_setCell, size_setCell])
          have HM3 := HM.out
          rw [← HRLX.out, hw3] at HM3
          rw [hw3]
          rw [hw3] at HG1
          have hs3 : (M.sl.set k { s with c := 1 })[k]? = some { s with c := 1 } := List.getElem?_set_self (by rw [← HMM.out]; exact hkm)
          obtain ⟨e0, _, e2, e3, _, e5, _, _, _, e9⟩ := HM3.at hs3
          obtain ⟨ba, bc, e5⟩ := e5
          simp only [List.length_set] at e0 e2
          rw [← HMM.out] at e0 e2
          have hqb := HM3.ne.2.2.2.1
          have hbq := Ne.symm hqb
          have hgb := HM3.ne.2.2.2.2.1
          have hbg := Ne.symm hgb
          dsimp only at e0 e2 e3 e5 e9 hqb hbq hgb hbg
          have l1 : q < w3.heap.size := cell_lt e2
          have l2 : L.bb < w3.heap.size := cell_lt e5
          have l3 : L.gb < w3.heap.size := cell_lt e3
          obtain ⟨i1, ki, kz0, kz1, kz2⟩ := info_parts infoByte
          have hb : (i1.bytes : Int) * (nn : Int) ≤ 281474976710656 := by rw [kz2]; omega
          have hmk := fun W : World => run_make (P := Try.prog) W 32 5 i1 _ Try.underlying32 ki kz0 .i64 .i64 (nn : Int) (nn : Int) (Int.natCast_nonneg nn) (Int.le_refl _) hb (by omega)
          simp only [kz1, Int.toNat_natCast, Nat.mul_one, show Value.cells (.int .u8 0) = #[.int .u8 0] from rfl, made_byt] at hmk
          clear ki kz0 kz1 kz2 hb HM3 hs3 p1 p4 p6 p8 p3 c4 c3 hc0 HI HG n3 n3' hw3
          go_region
          have HGF := Lib.hid (HG1.out (w3.alloc (.cells (byt (List.replicate nn 0)).toArray 5)).drew w3.heap.size (((Turned.refl _ w3).alloc _).drew)
            ((BytesAt.of_blk (r := []) (by rw [List.append_nil]; exact Blk.new w3 (byt (List.replicate nn 0)) 5)).drewN 1) hnn (by rw [hsz3.out]; exact Nat.le_refl _) (by show _ < (w3.alloc _).heap.size; simp))
          rw [World.setCell_drew, World.setCell_alloc_past (hn := l2)] at HGF
          have hkw : (0 : Int) ≤ k := Int.natCast_nonneg _
          clear hmk HG1 e9
          go_wp2_with (go_at_call 40; refine (hOF.out _).mono ?_; rintro e w' ⟨rfl, rfl⟩)
          go_ret2
          exact ⟨rfl, HGF.out⟩
end Go.Proofs.Ytinfckoaphgmkaa
