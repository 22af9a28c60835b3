/- What sched.Make does, walked: a machine of the programs as it begins, or the document's error. No condition but that the programs read as their instructions. -/
import Derived.Test.YtdbmieofcdafkaaMkSched
import Derived.BigRegion
namespace Go.Proofs.Ytdbmieofcdafkaa
open Go.RowKit
set_option linter.unusedVariables false
set_option linter.unusedSimpArgs false
set_option maxRecDepth 100000

theorem fault_cons (c : Int) (k : Nat) (p : List Ins) (ps : List (List Ins)) : faultFrom c k (p :: ps) = if refuseV p c = 0 then faultFrom c (k + 1) ps else some (k, refuseV p c) := by
  unfold refuseV
  rw [faultFrom]
  by_cases h1 : 64 < p.length
  · simp [h1]
  · by_cases h2 : (p.all fun i => rightB i c p.length) = true
    · simp [h1, h2]
    · simp [h1, h2]

/-- The slice of programs. -/
structure ProgsOk (w : World) (A : Option Addr) (len : Nat) (ps : List (Sl Ins)) : Prop where
  len : ps.length = len
  row : RowAt encSl 1 w A ps
  each : ∀ x ∈ ps, ProgOk w x

theorem ProgOk.turned {S : Nat → Prop} {w w' : World} {x : Sl Ins} (h : ProgOk w x) (ht : Turned S w w') (hs : ∀ y, x.a = some y → x.xs ≠ [] → ¬ S y.block) : ProgOk w' x := ⟨h.len, h.le, h.max, h.none, h.row.turned ht hs⟩
theorem ProgOk.still {w w' : World} {x : Sl Ins} (h : ProgOk w x) (ht : Still w w') : ProgOk w' x := h.turned ht (fun _ _ _ h => h)
theorem ProgsOk.still {w w' : World} {A : Option Addr} {len : Nat} {ps : List (Sl Ins)} (h : ProgsOk w A len ps) (ht : Still w w') : ProgsOk w' A len ps := ⟨h.len, h.row.stays ht, fun x hx => (h.each x hx).still ht⟩

theorem MkInv.still {w wr w2 : World} {n hb mb ab k : Nat} {ps : List (Sl Ins)} {qs : List Nat} {ao : Option Addr} {cc : Nat} (I : MkInv w n hb mb ab ps k qs ao cc wr) (h : Still wr w2) : MkInv w n hb mb ab ps k qs ao cc w2 :=
  ⟨I.hd.turned h (fun h => h), own_turned I.own h (fun _ _ h => h), I.mem.turned h (fun h => h) (fun h => h), I.len, fun j q x hq hx => (I.ses j q x hq hx).turned h (fun h => h) (fun _ _ _ h => h), I.inj,
    fun q hq => Nat.lt_of_lt_of_le (I.lt q hq) h.size, I.t.trans h, I.b1, I.b2, I.b3⟩

theorem mk_mid {w wr w5 w6 : World} {n hb mb ab k : Nat} {ps : List (Sl Ins)} {qs : List Nat} {ao : Option Addr} {cc : Nat} {o1 o2 : Obj} (I : MkInv w n hb mb ab ps k qs ao cc wr)
    (h5 : Still wr w5) (hg : ((w5.alloc o1).alloc o2).grownBy w6 (Value.slice ao k cc).ownBlock) : Blk w6 hb [.pointer (some ⟨mb, 0, none⟩), .slice ao k cc] 65 := by
  have hTp : Still wr ((w5.alloc o1).alloc o2) := (h5.alloc _).alloc _
  have hG : Turned (fun b => (Value.slice ao k cc).ownBlock = some b) ((w5.alloc o1).alloc o2) w6 := (Turned.refl _ _).grown hg (fun b e => .inl e)
  have hdp := I.hd.turned hTp (fun h => h)
  exact hdp.turned hG (own_ne (own_turned I.own hTp (fun _ _ h => h)) hdp (by decide))

theorem mk_own {w wr w5 : World} {n hb mb ab k : Nat} {ps : List (Sl Ins)} {qs : List Nat} {ao : Option Addr} {cc : Nat} (I : MkInv w n hb mb ab ps k qs ao cc wr)
    (h5 : Still wr w5) (o1 o2 : Obj) : ((w5.alloc o1).alloc o2).ownsRow w.heap.size 67 1 (.slice ao k cc) k (qs.map ptrV) := own_turned I.own ((h5.alloc o1).alloc o2) (fun _ _ h => h)

theorem one_new2 (w5 : World) (o1 : Obj) (x : Value) (t : TypeId) : ∀ (j : Nat) (u : Value), [x][j]? = some u → ((w5.alloc o1).alloc (.cells #[x] t)).cell? ((⟨w5.heap.size + 1, 0, none⟩ : Addr).add j) = some u := by
  have := cell_one_new (w5.alloc o1) x t
  rwa [World.size_alloc] at this

theorem fault_none {c : Int} {k : Nat} {ps : List (List Ins)} (h : faultFrom c k ps = none) : ∀ p ∈ ps, p.length ≤ 64 ∧ p.all (fun i => rightB i c p.length) = true := by
  induction ps generalizing k with
  | nil => intro p hp; cases hp
  | cons q ps ih =>
    rw [faultFrom] at h
    intro p hp
    by_cases h3 : 64 < q.length
    · rw [if_pos h3] at h; cases h
    · rw [if_neg h3] at h
      by_cases h4 : (q.all fun i => rightB i c q.length) = true
      · rw [if_pos h4] at h
        rcases List.mem_cons.1 hp with rfl | hp
        · exact ⟨by omega, h4⟩
        · exact ih h p hp
      · rw [if_neg h4] at h; cases h

theorem mk_sm {w wr : World} {n hb mb ab len : Nat} {ps : List (Sl Ins)} {qs : List Nat} {ao : Option Addr} {cc : Nat} (I : MkInv w n hb mb ab ps len qs ao cc wr) (hl1 : 1 ≤ len) (hl2 : len ≤ 16) (hps : ps.length = len)
    (h1 : 1 ≤ n) (h2 : n ≤ 64) (hF : faultFrom n 0 (ps.map (·.xs)) = none) : ∃ L : Lay, hb = L.hb ∧ SM wr L (mach0 n (ps.map (·.xs))) ∧ w.heap.size ≤ L.lo ∧ L.hi ≤ wr.heap.size := by
  rcases I.own.2 with ⟨e0, h0⟩ | ⟨g, cap, cur, e0, hg0, hg, hcap, hcm, hcs, ht⟩
  · omega
  · obtain ⟨rfl, rfl⟩ : ao = some ⟨g, 0, none⟩ ∧ cc = cap := by simpa using e0
    have hsb : Blk wr g cur.toList 67 := hg
    have hmach : (mach0 n (ps.map (·.xs))).ss.length = len := by simp [mach0, hps]
    have hq : ∀ q ∈ qs, ∃ p, SesM w.heap.size wr q p := fun q hqm => by
      obtain ⟨j, hj⟩ := List.getElem?_of_mem hqm
      obtain ⟨x, hx⟩ := get_some (l := ps) (i := j) (by rw [hps, ← I.len]; exact get_lt hj)
      exact ⟨_, I.ses j q x hj hx⟩
    have hqne : ∀ {b : Nat} {xs : List Value} {e : TypeId}, Blk wr b xs e → e ≠ 73 → b ∉ qs := fun hb he hm => by
      obtain ⟨p, a, c, hbq, _⟩ := hq _ hm
      exact blk_ne hb hbq he rfl
    refine ⟨⟨w.heap.size, wr.heap.size, hb, mb, ab, g, cc, qs⟩, rfl, ⟨?_, I.mem, by rw [hmach]; exact I.len, ?_, ?_, I.inj, hqne I.hd (by decide), hqne I.mem.hd (by decide), hqne I.mem.row (by decide), hqne hsb (by decide),
      blk_ne I.hd I.mem.row (by decide), blk_ne hsb I.mem.row (by decide), mach0_ok h1 h2 (by simp [hps]; omega) (by simp [hps]; omega) (fault_none hF), ⟨I.b1, I.hd.lt⟩, ⟨I.b2, I.mem.hd.lt⟩, ⟨I.b3, I.mem.row.lt⟩, ⟨hg0, hsb.lt⟩, ?_, by rw [hmach]; exact hcap⟩, Nat.le_refl _, Nat.le_refl _⟩
    · rw [hmach]; exact I.hd
    · intro k p hp
      refine hsb.cell ?_
      have h3 : (cur.toList.take (len * 1))[k]? = some (ptrV p) := by rw [ht]; simp [hp]
      rw [List.getElem?_take] at h3
      split at h3
      · exact h3
      · cases h3
    · intro k p s hp hs
      obtain ⟨x, hx⟩ := get_some (l := ps) (i := k) (by rw [hps, ← I.len]; exact get_lt hp)
      obtain ⟨a, c, hb, hprow, ha, hB⟩ := I.ses k p x hp hx
      have hse : s = ⟨x.xs, 0, [0, 0, 0, 0]⟩ := by
        simp [mach0, hx] at hs
        exact hs.symm
      subst hse
      refine ⟨a, c, hb, hprow.row, fun y hy hne => ?_⟩
      obtain ⟨gg, cu, e, hgg, _⟩ := hprow hne
      have e : y = ⟨gg, 0, none⟩ := Option.some.inj (hy.symm.trans e)
      subst e
      have hgb : Blk wr gg cu.toList 70 := hgg
      refine ⟨ha hne _ hy, hgb.lt, fun hW => ?_⟩
      rcases hW with h | h
      · exact blk_ne hgb I.mem.row (by decide) h
      · exact hqne hgb (by decide) h
    · intro p hp
      obtain ⟨q, a, c, hb, _, _, hB⟩ := hq p hp
      exact ⟨hB, hb.lt⟩

def MkPost (w : World) (n : Nat) (ps : List (Sl Ins)) (e : Ending) (w' : World) : Prop :=
  (∃ k er, faultFrom n 0 (ps.map (·.xs)) = some (k, er) ∧ e = .returned (.tuple #[.pointer none, .int .i64 (k : Nat), .int .i64 er]) ∧ Still w w') ∨
  (faultFrom n 0 (ps.map (·.xs)) = none ∧ ∃ L : Lay, e = .returned (.tuple #[.pointer (some ⟨L.hb, 0, none⟩), .int .i64 (ps.length : Nat), .int .i64 0]) ∧ SM w' L (mach0 n (ps.map (·.xs))) ∧ Still w w' ∧ w.heap.size ≤ L.lo ∧ L.hi ≤ w'.heap.size)

theorem smake_argc (n : Int) (h : ¬ (1 ≤ n ∧ n ≤ 64)) (A : Option Addr) (len cap : Nat) (w : World) :
    Calls Try.prog 11 #[.int .i64 n, .slice A len cap] w fun e w' => e = .returned (.tuple #[.pointer none, .int .i64 0, .int .i64 2]) ∧ Still w w' := by
  have HM := Lib.hid (make_arg n w h)
  clear h
  go_enter Try.func11, Try.ntmps11
  go_wp2_with fail
  refine HM.out.mono ?_
  rintro e w' ⟨rfl, rfl⟩
  go_wp2_with fail
  exact bodyPost_ret (v := .tuple #[.pointer none, .int .i64 0, .int .i64 2]) (by simp [results, Try.results11, go_sem]) rfl ⟨rfl, Turned.refl _ _⟩

theorem smake_argp (n : Nat) (h1 : 1 ≤ n) (h2 : n ≤ 64) (A : Option Addr) (len cap : Nat) (hl : ¬ (1 ≤ len ∧ len ≤ 16)) (w : World) :
    Calls Try.prog 11 #[.int .i64 n, .slice A len cap] w fun e w' => e = .returned (.tuple #[.pointer none, .int .i64 0, .int .i64 2]) ∧ Still w w' := by
  have HM := Lib.hid (make_ok n w h1 h2)
  by_cases h0 : len < 1
  all_goals
    go_enter Try.func11, Try.ntmps11
    go_wp2_with fail
    refine HM.out.mono ?_
    rintro e w' ⟨mb, ab, rfl, hM, g1, g2, hT⟩
    have HT := Lib.hid hT
    clear hM hT
    go_wp2_with fail
    exact bodyPost_ret (v := .tuple #[.pointer none, .int .i64 0, .int .i64 2]) (by simp [results, Try.results11, go_sem]) rfl ⟨rfl, HT.out⟩

set_option maxHeartbeats 4000000 in
theorem smake_any (n : Nat) (h1 : 1 ≤ n) (h2 : n ≤ 64) (A : Option Addr) (len cap : Nat) (hl1 : 1 ≤ len) (hl2 : len ≤ 16) (ps : List (Sl Ins)) (w : World) (hps : ProgsOk w A len ps) :
    Calls Try.prog 11 #[.int .i64 n, .slice A len cap] w (MkPost w n ps) := by
  have HM := Lib.hid (make_ok n w h1 h2)
  have HP := Lib.hid hps
  have HL := Lib.hid hps.len
  obtain ⟨i0, hi, hz0, hz1, hz2⟩ := info_parts infoSesP
  clear hps
  go_enter Try.func11, Try.ntmps11
  go_wp2_with fail
  refine HM.out.mono ?_
  rintro e w1 ⟨mb, ab, rfl, hM, g1, g2, hT⟩
  have hsz1 := hT.size
  have HI0 := Lib.hid (show MkInv w n w1.heap.size mb ab ps 0 [] none 0 (w1.alloc (.cells #[.pointer (some ⟨mb, 0, none⟩), .slice none 0 0] 65)) from
    ⟨Blk.new w1 _ _, World.ownsRow_nil _ _ _ _, hM.turned (S := fun _ => False) ((Turned.refl _ _).alloc _) (fun h => h) (fun h => h), rfl, fun j q x h => by simp at h, fun i j q h => by simp at h, fun q h => by simp at h, hT.alloc _, hsz1, g1, g2⟩)
  clear hM hT HM
  generalize hhb : w1.heap.size = hb at *
  clear hsz1
  go_wp2_with fail
  go_loopw [34] (fun i wr => ∃ (k : Nat) (qs : List Nat) (ao : Option Addr) (cc : Nat), k ≤ len ∧ i = .int .i64 k ∧ MkInv w n hb mb ab ps k qs ao cc wr ∧ faultFrom n 0 (ps.map (·.xs)) = faultFrom n k ((ps.drop k).map (·.xs))) (fun i _ => len - (intOf i).toNat)
  case atStart => exact ⟨0, [], none, 0, Nat.zero_le _, rfl, HI0.out, by simp⟩
  case round =>
    clear HI0 hhb
    obtain ⟨k, qs, ao, cc, hk, rfl, hI, hF⟩ := hrel
    have HI := Lib.hid hI
    have HF := Lib.hid hF
    clear hF
    by_cases hlt : k < len
    · obtain ⟨x, hx⟩ := get_some (l := ps) (i := k) (by rw [HL.out]; exact hlt)
      obtain ⟨b, o, rfl, hc⟩ := HP.out.row k x hx
      have hxo := (HP.out.each x (List.mem_of_getElem? hx)).still hI.t
      have c0 : wr.cell? ⟨b, o + k, none⟩ = some (.slice x.a x.len x.cap) := still_cell hI.t (hc 0 _ rfl) (by omega)
      have HX := Lib.hid hx
      have HRe := Lib.hid (refuse_any x n wr hxo)
      have hF2 : Hid (faultFrom n 0 (ps.map (·.xs)) = if refuseV x.xs n = 0 then faultFrom n (k + 1) ((ps.drop (k + 1)).map (·.xs)) else some (k, refuseV x.xs n)) := Lib.hid (by
        rw [HF.out, List.drop_eq_getElem_cons (by rw [HL.out]; exact hlt), List.map_cons, fault_cons]
        rw [show ps[k]'(by rw [HL.out]; exact hlt) = x from by have := HX.out; rw [List.getElem?_eq_getElem (by rw [HL.out]; exact hlt)] at this; exact Option.some.inj this])
      have HXO := Lib.hid hxo
      have hlen64 : refuseV x.xs n = 0 → x.len ≤ 64 := fun h => by
        unfold refuseV at h
        by_cases h3 : 64 < x.xs.length
        · rw [if_pos h3] at h; omega
        · have := hxo.len; omega
      have HL64 := Lib.hid hlen64
      clear hx hc hxo hI hlen64
      by_cases hr : refuseV x.xs n = 0
      · rw [hr] at HRe
        have HR0 := Lib.hid hr
        clear hr
        go_wp2_with fail
        refine HRe.out.mono ?_
        rintro e w2 ⟨rfl, hT2⟩
        have hl64 := HL64.out HR0.out
        have HF3 := hF2.out
        rw [if_pos HR0.out] at HF3
        have HFF := Lib.hid HF3
        have HI2 := Lib.hid (HI.out.still (w2 := w2.drew) hT2.drew)
        have HCl := Lib.hid (clone_any w2.drew x (HXO.out.still hT2.drew) hl64)
        have hxl := HXO.out.len
        obtain ⟨xa, xlen, xcap, xxs⟩ := x
        dsimp only at hxl hl64
        subst hxl
        have hcs := HI2.out.hd.cell (o := 1) (v := .slice ao k cc) rfl
        have hbl : hb < w2.heap.size := HI2.out.hd.lt
        have hbw : w.heap.size ≤ w2.heap.size := HI2.out.t.size
        have hk16 : k < 16 := by omega
        clear hT2 HF3 hF2 HRe HXO c0 HL64
        go_wp2_with fail
        go_region_law (first
          | (refine step_append_own rfl (.tmp 50) (.tmp 55) 63 rfl w.heap.size 67 i0 (.pointer none) 1 8 Try.underlying63 hi hz0 hz1 hz2 rfl (by decide) (.slice ao k cc) k (qs.map ptrV) (by rfl) (mk_own HI2.out HT5.out _ _) ⟨w5.heap.size + 1, 0, none⟩ 1 1 [ptrV w5.heap.size] (by rfl) rfl (one_new2 w5 _ _ _) (by intro u hu; simp at hu; subst hu; rfl) (by unfold maxLen; omega) (by omega) (by simp; omega) ?_; intro v' w6 hown hgrow; obtain ⟨ao', cc', rfl⟩ := own_slice hown; have d6 := mk_mid HI2.out HT5.out hgrow; have c6 := d6.cell (o := 1) (v := .slice ao k cc) rfl; have f6 := d6.free 1; have HOW := Lib.hid hown; have HGR := Lib.hid hgrow; clear hown hgrow d6)
          | (go_simp; go_at_call 35; refine HCl.out.mono ?_; rintro e w5 ⟨a5, cc5, rfl, hp5, ha5, hT5⟩; have hl5 : hb < w5.heap.size := Nat.lt_of_lt_of_le hbl hT5.size; have hbw5 : w.heap.size ≤ w5.heap.size := Nat.le_trans hbw hT5.size; have c5 := (HI2.out.hd.turned hT5 (fun h => h)).cell (o := 1) (v := .slice ao k cc) rfl; have HP5 := Lib.hid hp5; have HA5 := Lib.hid ha5; have HT5 := Lib.hid hT5; clear hp5 ha5 hT5))
        all_goals go_wp2_with fail
        all_goals go_roundw
        all_goals first
          | exact ⟨k + 1, qs ++ [w5.heap.size], ao', cc', by omega, by go_num, mk_next HI2.out HX.out HT5.out HP5.out HA5.out HOW.out HGR.out, HFF.out⟩
          | (simp [intOf]; omega)
      · have hne : (refuseV x.xs n != 0) = true := by simpa using hr
        have HR0 := Lib.hid hr
        clear hr
        generalize hrv : refuseV x.xs n = rv at *
        have HRV := Lib.hid hrv
        clear hrv
        go_wp2_with fail
        refine HRe.out.mono ?_
        rintro e w2 ⟨rfl, hT2⟩
        have HT2 := Lib.hid (HI.out.t.trans hT2)
        clear hT2
        go_wp2_with fail
        refine bodyPost_ret (v := .tuple #[.pointer none, .int .i64 k, .int .i64 rv]) (by simp [results, Try.results11, go_sem]) rfl ?_
        exact .inl ⟨k, rv, by rw [hF2.out, if_neg HR0.out], rfl, HT2.out⟩
    · obtain rfl : k = len := by omega
      have hI := HI.out
      have hcs := hI.hd.cell (o := 1) (v := .slice ao k cc) rfl
      clear hI
      have hN : faultFrom n 0 (ps.map (·.xs)) = none := by rw [HF.out, List.drop_of_length_le (by rw [HL.out]; omega)]; rfl
      obtain ⟨L, rfl, hSM, hlo, hhi⟩ := mk_sm HI.out hl1 hl2 HL.out h1 h2 hN
      have HSM := Lib.hid hSM
      have HN := Lib.hid hN
      have HTT := Lib.hid HI.out.t
      clear hSM hN HI
      go_wp2_with fail
      go_quiet (fail)
      go_wp2_with fail
      refine bodyPost_ret (v := .tuple #[.pointer (some ⟨L.hb, 0, none⟩), .int .i64 k, .int .i64 0]) (by simp [results, Try.results11, go_sem]) rfl ?_
      exact .inr ⟨HN.out, L, by rw [HL.out], HSM.out.still ((Turned.refl _ _).drewN _), HTT.out.drewN _, hlo, hhi⟩
end Go.Proofs.Ytdbmieofcdafkaa
