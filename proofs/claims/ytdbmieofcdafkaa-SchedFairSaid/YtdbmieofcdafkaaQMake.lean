/- The document's own Make: the walk. No condition but that the programs read as their instructions. -/
import Derived.Test.YtdbmieofcdafkaaQMk
import Derived.Test.YtdbmieofcdafkaaFew
namespace Go.Proofs.Ytdbmieofcdafkaa
open Go.RowKit
set_option linter.unusedVariables false
set_option linter.unusedSimpArgs false
set_option maxRecDepth 100000

theorem prow_of_own {w : World} {B : Nat} {a : Option Addr} {c n : Nat} {p : List Ins} (h : w.ownsRow B 70 4 (.slice a n c) n (rowOf insEnc p)) : PRow w a p ∧ (p ≠ [] → ∀ y, a = some y → B ≤ y.block) := by
  have hl := h.1
  rw [rowOf_length insEnc_len] at hl
  rcases h.2 with ⟨e0, h0⟩ | ⟨g, cp, cur, e0, hg0, hg, _, _, _, ht⟩
  · have hp : p = [] := List.eq_nil_of_length_eq_zero (by omega)
    exact ⟨fun hne => absurd hp hne, fun hne => absurd hp hne⟩
  · obtain ⟨rfl, rfl⟩ : a = some ⟨g, 0, none⟩ ∧ c = cp := by simpa using e0
    refine ⟨fun _ => ⟨g, cur, rfl, hg, fun j v hv => ?_⟩, fun _ y hy => by cases hy; exact hg0⟩
    rw [← ht, List.getElem?_take] at hv
    split at hv
    · simpa using hv
    · cases hv

theorem one_new3 (w5 : World) (o1 : Obj) (x : Value) (t : TypeId) {b : Nat} (hb : b = w5.heap.size + 1) : ∀ (j : Nat) (u : Value), [x][j]? = some u → ((w5.alloc o1).alloc (.cells #[x] t)).cell? ((⟨b, 0, none⟩ : Addr).add j) = some u := by
  subst hb; exact one_new2 w5 o1 x t

theorem qmake_argc (n : Int) (h : ¬ (1 ≤ n ∧ n ≤ 64)) (A : Option Addr) (len cap : Nat) (w : World) :
    Calls Try.prog 12 #[.int .i64 n, .slice A len cap] w fun e w' => e = .returned (.tuple #[.pointer none, .int .i64 0, .int .i64 2]) ∧ Still w w' := by
  have HM := Lib.hid (rmake_arg n w h)
  clear h
  go_enter Try.func12, Try.ntmps12
  go_wp2_with fail
  refine HM.out.mono ?_
  rintro e w' ⟨rfl, rfl⟩
  go_wp2_with fail
  exact bodyPost_ret (v := .tuple #[.pointer none, .int .i64 0, .int .i64 2]) (by simp [results, Try.results12, go_sem]) rfl ⟨rfl, Turned.refl _ _⟩

theorem qmake_argp (n : Nat) (h1 : 1 ≤ n) (h2 : n ≤ 64) (A : Option Addr) (len cap : Nat) (hl : ¬ (1 ≤ len ∧ len ≤ 16)) (w : World) :
    Calls Try.prog 12 #[.int .i64 n, .slice A len cap] w fun e w' => e = .returned (.tuple #[.pointer none, .int .i64 0, .int .i64 2]) ∧ Still w w' := by
  have HM := Lib.hid (rmake_ok n w h1 h2)
  by_cases h0 : len < 1
  all_goals
    have h16 : ¬ len < 1 → 16 < len := fun h => by omega
    go_enter Try.func12, Try.ntmps12
    go_wp2_with fail
    refine HM.out.mono ?_
    rintro e w' ⟨rb, vb, bb, wb, rfl, hM, g1, g2, g3, g4, hT⟩
    have HT := Lib.hid hT
    clear hM hT
    have h16' : 1 ≤ len → 16 < len := fun h => h16 (by omega)
    go_wp2_with fail
    exact bodyPost_ret (v := .tuple #[.pointer none, .int .i64 0, .int .i64 2]) (by simp [results, Try.results12, go_sem]) rfl ⟨rfl, HT.out⟩

set_option maxHeartbeats 4000000 in
theorem qmake_any (n : Nat) (h1 : 1 ≤ n) (h2 : n ≤ 64) (A : Option Addr) (len cap : Nat) (hl1 : 1 ≤ len) (hl2 : len ≤ 16) (ps : List (Sl Ins)) (w : World) (hps : ProgsOk w A len ps) :
    Calls Try.prog 12 #[.int .i64 n, .slice A len cap] w (QMkPost w n ps) := by
  have HM := Lib.hid (rmake_ok n w h1 h2)
  have HP := Lib.hid hps
  have HL := Lib.hid hps.len
  obtain ⟨i0, hi, hz0, hz1, hz2⟩ := info_parts infoQSesP
  obtain ⟨i1, ki, kz0, kz1, kz2⟩ := info_parts infoInstr
  clear hps
  go_enter Try.func12, Try.ntmps12
  go_wp2_with fail
  refine HM.out.mono ?_
  rintro e w1 ⟨rb, vb, bb, wb, rfl, hM, g1, g2, g3, g4, hT⟩
  have hsz1 := hT.size
  have HI0 := Lib.hid (show QMkInv w n w1.heap.size rb vb bb wb ps 0 [] none 0 (w1.alloc (.cells #[.pointer (some ⟨rb, 0, none⟩), .slice none 0 0] 79)) from
    ⟨Blk.new w1 _ _, World.ownsRow_nil _ _ _ _, hM.turned (S := fun _ => False) ((Turned.refl _ _).alloc _) (fun h => h) (fun h => h) (fun h => h) (fun h => h), rfl, fun j q x h => by simp at h, fun i j q h => by simp at h, fun q h => by simp at h, hT.alloc _, hsz1, g1, g2, g3, g4⟩)
  clear hM hT HM
  generalize hhb : w1.heap.size = hb at *
  clear hsz1
  go_wp2_with fail
  go_loopw [10] (fun i wr => ∃ (k : Nat) (qs : List Nat) (ao : Option Addr) (cc : Nat), k ≤ len ∧ i = .int .i64 k ∧ QMkInv w n hb rb vb bb wb ps k qs ao cc wr ∧ faultFrom n 0 (ps.map (·.xs)) = faultFrom n k ((ps.drop k).map (·.xs))) (fun i _ => len - (intOf i).toNat)
  case atStart => exact ⟨0, [], none, 0, Nat.zero_le _, rfl, HI0.out, by simp⟩
  case round =>
    clear HI0 hhb
    obtain ⟨k, qs, ao, cc, hk, rfl, hI, hF⟩ := hrel
    have HI := Lib.hid hI
    have HF := Lib.hid hF
    clear hF
    by_cases hlt : k < len
    · obtain ⟨x, hx⟩ := get_some (l := ps) (i := k) (by rw [HL.out]; exact hlt)
      obtain ⟨b, o, rfl, hc⟩ := HP.out.row k x hx
      have hxo := (HP.out.each x (List.mem_of_getElem? hx)).still hI.t
      have c0 : wr.cell? ⟨b, o + k, none⟩ = some (.slice x.a x.len x.cap) := still_cell hI.t (hc 0 _ rfl) (by omega)
      have HX := Lib.hid hx
      have hF2 : Hid (faultFrom n 0 (ps.map (·.xs)) = if refuseV x.xs n = 0 then faultFrom n (k + 1) ((ps.drop (k + 1)).map (·.xs)) else some (k, refuseV x.xs n)) := Lib.hid (by
        rw [HF.out, List.drop_eq_getElem_cons (by rw [HL.out]; exact hlt), List.map_cons, fault_cons]
        rw [show ps[k]'(by rw [HL.out]; exact hlt) = x from by have := HX.out; rw [List.getElem?_eq_getElem (by rw [HL.out]; exact hlt)] at this; exact Option.some.inj this])
      have HXO := Lib.hid hxo
      have hxl := hxo.len
      have hmx : x.len ≤ 4611686018427 := hxo.max
      have hxle := hxo.le
      clear hx hc hxo hI
      obtain ⟨xa, xlen, xcap, xxs⟩ := x
      dsimp only at hxl hmx hxle c0
      have HXL := Lib.hid hxl
      clear hxl
      by_cases h64 : 64 < xlen
      · have HRV := Lib.hid (show refuseV xxs n = 3 by unfold refuseV; rw [if_pos (by rw [HXL.out]; exact h64)])
        have HT2 := Lib.hid HI.out.t
        go_wp2_with fail
        refine bodyPost_ret (v := .tuple #[.pointer none, .int .i64 k, .int .i64 3]) (by simp [results, Try.results12, go_sem]) rfl ?_
        refine .inl ⟨k, 3, ?_, rfl, HT2.out⟩
        rw [hF2.out]; show (if refuseV xxs n = 0 then _ else some (k, refuseV xxs n)) = _; rw [HRV.out]; rfl
      · have HRV := Lib.hid (show refuseV xxs n = if xxs.all (fun i => rightB i n xxs.length) then 0 else 5 by unfold refuseV; rw [if_neg (by rw [HXL.out]; exact h64)])
        go_wp2_with fail
        obtain ⟨wo, rfl⟩ : ∃ wo : World, wo = wr := ⟨_, rfl⟩
        have HC0 := Lib.hid c0
        clear c0
        go_loopw [12] (fun i wr => ∃ j : Nat, j ≤ xlen ∧ i = .int .i64 j ∧ (xxs.take j).all (fun i => rightB i n xxs.length) = true ∧ Still wo wr) (fun i _ => xlen - (intOf i).toNat)
        case atStart => exact ⟨0, Nat.zero_le _, rfl, by simp, Turned.refl _ _⟩
        case round =>
          obtain ⟨j, hj, rfl, hall, hT⟩ := hrel
          have HA := Lib.hid hall
          clear hall
          by_cases hjl : j < xlen
          · obtain ⟨i, hi'⟩ := get_some (l := xxs) (i := j) (by rw [HXL.out]; exact hjl)
            obtain ⟨b2, o2, rfl, hc2⟩ := (HXO.out.still hT).row j i hi'
            have e0 : wr.cell? ⟨b2, o2 + j * 4, none⟩ = some (.int .i64 i.op) := hc2 0 _ rfl
            have e1 : wr.cell? ⟨b2, o2 + j * 4 + 1, none⟩ = some (.int .i64 i.cell) := hc2 1 _ rfl
            have e2 : wr.cell? ⟨b2, o2 + j * 4 + 2, none⟩ = some (.int .i64 i.a) := hc2 2 _ rfl
            have e3 : wr.cell? ⟨b2, o2 + j * 4 + 3, none⟩ = some (.int .i64 i.b) := hc2 3 _ rfl
            have HII := Lib.hid hi'
            have HT := Lib.hid hT
            have HG := Lib.hid (fun W => qright_any i n xlen (by omega) W)
            have hv : Hid (rightB i n xxs.length = rightB i n xlen) := Lib.hid (by rw [HXL.out])
            cases hr : rightB i n xlen with
            | true =>
              rw [hr] at HG hv
              clear hi' hc2 hr hT
              obtain ⟨op, ce, a, bb'⟩ := i
              unfold Ins.val at HG
              dsimp only at HG e0 e1 e2 e3
              go_wp2_with fail
              refine (HG.out _).mono ?_
              rintro e w' ⟨rfl, hT2⟩
              have HT2 := Lib.hid (HT.out.trans hT2)
              clear hT2
              go_wp2_with fail
              go_roundw
              case rel =>
                refine ⟨j + 1, by omega, by go_num, ?_, HT2.out⟩
                rw [List.take_add_one, HII.out, List.all_append, HA.out]
                simp [hv.out]
              case measure => simp [intOf]; omega
            | false =>
              rw [hr] at HG hv
              clear hi' hc2 hr hT
              obtain ⟨op, ce, a, bb'⟩ := i
              unfold Ins.val at HG
              dsimp only at HG e0 e1 e2 e3
              go_wp2_with fail
              refine (HG.out _).mono ?_
              rintro e w' ⟨rfl, hT2⟩
              have HT2 := Lib.hid ((HI.out.t.trans HT.out).trans hT2)
              clear hT2
              go_wp2_with fail
              refine bodyPost_ret (v := .tuple #[.pointer none, .int .i64 k, .int .i64 5]) (by simp [results, Try.results12, go_sem]) rfl ?_
              refine .inl ⟨k, 5, ?_, rfl, HT2.out⟩
              have hn : ¬ (xxs.all (fun i => rightB i n xxs.length) = true) := by
                intro h
                rw [List.all_eq_true] at h
                have := h _ (List.mem_of_getElem? HII.out)
                rw [hv.out] at this
                cases this
              rw [hF2.out]; show (if refuseV xxs n = 0 then _ else some (k, refuseV xxs n)) = _; rw [HRV.out, if_neg hn]; rfl
          · obtain rfl : j = xlen := by omega
            have hall2 : xxs.all (fun i => rightB i n xxs.length) = true := by
              have := HA.out
              rwa [List.take_of_length_le (by rw [HXL.out]; omega)] at this
            have HR0 := Lib.hid (show refuseV xxs n = 0 by rw [HRV.out, if_pos hall2])
            have HFF := Lib.hid (show faultFrom n 0 (ps.map (·.xs)) = faultFrom n (k + 1) ((ps.drop (k + 1)).map (·.xs)) by rw [hF2.out]; show (if refuseV xxs n = 0 then _ else some (k, refuseV xxs n)) = _; rw [HR0.out]; rfl)
            have HI2 := Lib.hid (HI.out.still (w2 := wr.drew) hT.drew)
            have HX2 := Lib.hid (HXO.out.still hT.drew)
            have hcs : wr.cell? ⟨hb, 1, none⟩ = some (.slice ao k cc) := HI2.out.hd.cell (o := 1) (v := .slice ao k cc) rfl
            have hbl : hb < wr.heap.size := HI2.out.hd.lt
            have hbw : w.heap.size ≤ wr.heap.size := HI2.out.t.size
            have hk16 : k < 16 := by omega
            have hxl := HXL.out
            subst hxl
            clear hall2 hT HA HRV hF2 HXL HC0 HI HXO
            cases xa with
            | none =>
              obtain ⟨hl0, rfl⟩ := HX2.out.none rfl
              dsimp only at hl0
              obtain rfl : xxs = [] := List.eq_nil_of_length_eq_zero hl0
              have e5 : (wr.drew.alloc (.cells #[] 70)).heap.size = wr.heap.size + 1 := by simp
              have HE5 := Lib.hid e5
              have HT5 := Lib.hid ((Turned.refl (fun _ => False) wr.drew).alloc (.cells #[] 70))
              clear e5 hl0
              have hbl1 : hb < wr.heap.size + 1 := by omega
              have hbl2 : hb < wr.heap.size + 1 + 1 := by omega
              have hbl3 : hb < wr.heap.size + 2 := by omega
              have hcs3 : ∀ o1 o2 o3 : Obj, (((wr.alloc o1).alloc o2).alloc o3).cell? ⟨hb, 1, none⟩ = some (.slice ao k cc) := fun o1 o2 o3 => by
                rw [((((Turned.refl (fun _ => False) wr).alloc o1).alloc o2).alloc o3).cell (p := ⟨hb, 1, none⟩) hbl (fun h => h)]; exact hcs
              go_wp2_with fail
              go_region_law (first
                | (refine step_append_own rfl (.tmp 67) (.tmp 73) 77 rfl w.heap.size 81 i0 (.pointer none) 1 8 Try.underlying77 hi hz0 hz1 hz2 rfl (by decide) (.slice ao k cc) k (qs.map ptrV) (by rfl) (qmk_own HI2.out HT5.out _ _) _ 1 1 [ptrV (wr.heap.size + 1)] (by rfl) rfl (one_new3 (wr.drew.alloc (.cells #[] 70)) _ _ _ (by simp)) (by intro u hu; simp at hu; subst hu; rfl) (by unfold maxLen; omega) (by omega) (by simp; omega) ?_; intro v' w6 hown hgrow; obtain ⟨ao', cc', rfl⟩ := own_slice hown; have d6 := qmk_mid HI2.out HT5.out hgrow; have c6 := d6.cell (o := 1) (v := .slice ao k cc) rfl; have f6 := d6.free 1; have HOW := Lib.hid hown; have HGR := Lib.hid hgrow; clear hown hgrow d6)
                | (refine step_append_none rfl (.tmp 68) (.tmp 69) 59 rfl wr.heap.size 70 i1 4 Try.underlying59 ki (.slice (some ⟨wr.heap.size, 0, none⟩) 0 0) 0 [] rfl (World.ownsRow_made wr.drew #[] 0 (Nat.le_refl _) (by simp) (by simp)) rfl ?_))
              all_goals go_wp2_with fail
              all_goals go_roundw
              all_goals first
                | exact ⟨k + 1, qs ++ [(wr.drew.alloc (.cells #[] 70)).heap.size], ao', cc', by omega, by go_num, qmk_next (a := some ⟨wr.heap.size, 0, none⟩) (c := 0) HI2.out HX.out HT5.out (fun h => absurd rfl h) (fun h => absurd rfl h) (by rw [HE5.out]; exact HOW.out) (by rw [HE5.out]; exact HGR.out), HFF.out⟩
                | (simp [intOf]; omega)
            | some ad =>
              go_wp2_with fail
              go_region_law (first
                | (refine step_append_own rfl (.tmp 67) (.tmp 73) 77 rfl w.heap.size 81 i0 (.pointer none) 1 8 Try.underlying77 hi hz0 hz1 hz2 rfl (by decide) (.slice ao k cc) k (qs.map ptrV) (by rfl) (qmk_own HI2.out HT5.out _ _) ⟨w5.heap.size + 1, 0, none⟩ 1 1 [ptrV w5.heap.size] (by rfl) rfl (one_new2 w5 _ _ _) (by intro u hu; simp at hu; subst hu; rfl) (by unfold maxLen; omega) (by omega) (by simp; omega) ?_; intro v' w6 hown hgrow; obtain ⟨ao', cc', rfl⟩ := own_slice hown; have d6 := qmk_mid HI2.out HT5.out hgrow; have c6 := d6.cell (o := 1) (v := .slice ao k cc) rfl; have f6 := d6.free 1; have HOW := Lib.hid hown; have HGR := Lib.hid hgrow; clear hown hgrow d6)
                | (refine step_append_own rfl (.tmp 68) (.tmp 69) 59 rfl wr.heap.size 70 i1 (.agg #[.int .i64 0, .int .i64 0, .int .i64 0, .int .i64 0]) 4 32 Try.underlying59 ki kz0 kz1 kz2 rfl (by decide) (.slice (some ⟨wr.heap.size, 0, none⟩) 0 0) 0 [] rfl (World.ownsRow_made wr.drew #[] 0 (Nat.le_refl _) (by simp) (by simp)) ad xxs.length xcap (rowOf insEnc xxs) rfl (by rw [rowOf_length insEnc_len]) (prog_cells HX2.out.row ((Turned.refl _ _).alloc _)) (prog_one xxs) (by unfold maxLen; omega) (by omega) (by simp) ?_; intro v' w5 hown5 hgrow5; rw [List.nil_append, Nat.zero_add] at hown5; obtain ⟨a5, cc5, rfl⟩ := own_slice hown5; have HT5 := Lib.hid ((((Turned.refl (fun _ => False) wr.drew).alloc (.cells #[] 70)).grown hgrow5 (fun k e => .inr (by cases e; exact Nat.le_refl _)))); have HP5 := Lib.hid (prow_of_own hown5); have hl5 : hb < w5.heap.size := Nat.lt_of_lt_of_le hbl HT5.out.size; have hbw5 : w.heap.size ≤ w5.heap.size := Nat.le_trans hbw HT5.out.size; have c5 := (HI2.out.hd.turned HT5.out (fun h => h)).cell (o := 1) (v := .slice ao k cc) rfl; clear hown5 hgrow5))
              all_goals go_wp2_with fail
              all_goals go_roundw
              all_goals first
                | exact ⟨k + 1, qs ++ [w5.heap.size], ao', cc', by omega, by go_num, qmk_next HI2.out HX.out HT5.out HP5.out.1 HP5.out.2 HOW.out HGR.out, HFF.out⟩
                | (simp [intOf]; omega)
    · obtain rfl : k = len := by omega
      have hN : faultFrom n 0 (ps.map (·.xs)) = none := by rw [HF.out, List.drop_of_length_le (by rw [HL.out]; omega)]; rfl
      obtain ⟨L, rfl, hSM, hlo, hhi⟩ := qmk_sm HI.out hl1 hl2 HL.out h1 h2 hN
      have HSM := Lib.hid hSM
      have HN := Lib.hid hN
      have HTT := Lib.hid HI.out.t
      clear hSM hN HI
      go_wp2_with fail
      refine bodyPost_ret (v := .tuple #[.pointer (some ⟨L.hb, 0, none⟩), .int .i64 k, .int .i64 0]) (by simp [results, Try.results12, go_sem]) rfl ?_
      exact .inr ⟨HN.out, L, by rw [HL.out], HSM.out, HTT.out, hlo, hhi⟩
end Go.Proofs.Ytdbmieofcdafkaa
