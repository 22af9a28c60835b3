/- A cell is had by one session at most, till it frees it: the walk of the statement CellAlone. No condition. -/
import Derived.Test.YtgdpalefhikbfaaWorks01
import Derived.Test.YtgdpalefhikbfaaActs01
import Derived.Deep.DeepCutAuto
namespace Go.Proofs.Ytgdpalefhikbfaa
open Go.RowKit
set_option linter.unusedVariables false

def hs (st : List Cel) : List Int := st.map (·.h)
def Holds (st : List Cel) : Prop := ∀ c ∈ st, c.h = -1 ∨ Ses c.h

set_option maxRecDepth 100000 in
theorem walk_CellAlone (s : Sl Act1) (w : World) (hs0 : SlOk encAct1 okAct1 4 w s) :
    Calls Try.prog 6 #[.slice s.a s.len s.cap] w fun e w' => e = .returned (.bool true) ∧ Still w w' := by
  obtain ⟨a, n, cap, xs⟩ := s
  have HX := Lib.hid hs0
  have hcap : n ≤ cap := hs0.le
  clear hs0
  go_enter Try.func6, Try.ntmps6
  go_wp2_with fail
  refine (works1 _).mono ?_
  rintro e w1 ⟨rfl, hT1⟩
  go_wp2_with fail
  refine (make_ok 4 _ (by omega) (by omega)).mono ?_
  rintro e w2 ⟨mb, ab, rfl, hM, hmb, hab, hT2⟩
  have hS := Lib.hid (hT1.trans hT2)
  have HM := Lib.hid hM
  have hsz := hT1.size
  have hsz2 := hT2.size
  have hl1 := hM.hd.lt
  have hl2 := hM.row.lt
  clear hT1 hT2 hM
  have HB := Lib.hid (Blk.new w2 (ints [-1, -1, -1, -1]) 3)
  have HM2 := Lib.hid (HM.out.turned (S := fun _ => False) ((Turned.refl _ _).alloc (.cells (ints [-1, -1, -1, -1]).toArray 3)) (fun h => h) (fun h => h))
  have HS2 := Lib.hid (hS.out.alloc (.cells (ints [-1, -1, -1, -1]).toArray 3))
  have hbb : w.heap.size ≤ w2.heap.size := by omega
  go_wp2_with fail
  go_loopw [6] (fun i wr => ∃ (k : Nat) (st : List Cel), k ≤ n ∧ k ≤ 200 ∧ i = .int .i64 k ∧ st.length = 4 ∧ Holds st ∧ Mem wr mb ab st ∧ Blk wr w2.heap.size (ints (hs st)) 3 ∧ Still w wr) (fun i _ => n - (intOf i).toNat)
  case atStart => exact ⟨0, newSt 4, Nat.zero_le _, Nat.zero_le _, rfl, rfl, fun c hc => .inl (by simp [newSt] at hc; rw [hc]), HM2.out, HB.out, HS2.out⟩
  case round =>
    clear HB HM2 HS2 HM hS
    generalize w2.heap.size = bb at *
    obtain ⟨k, st, hk, hk2, rfl, hst, hH, hM, hB, hT⟩ := hrel
    by_cases hlt : k < n
    · by_cases h200 : k < 200
      · have hX := HX.out
        obtain ⟨x, hx⟩ := get_some (l := xs) (i := k) (by rw [hX.len]; exact hlt)
        obtain ⟨b, o, rfl, hc⟩ := hX.row k x hx
        obtain ⟨d, at_, nn, v⟩ := x
        have hT' := hT
        have c0 : wr.cell? ⟨b, o + k * 4, none⟩ = some (.int .i64 d) := still_cell hT (hc 0 _ rfl) (by omega)
        have c1 : wr.cell? ⟨b, o + k * 4 + 1, none⟩ = some (.int .i64 at_) := still_cell hT (hc 1 _ rfl) (by omega)
        have c2 : wr.cell? ⟨b, o + k * 4 + 2, none⟩ = some (.int .i64 nn) := still_cell hT (hc 2 _ rfl) (by omega)
        obtain ⟨t1, ht1⟩ : ∃ t, t = am at_ 4 := ⟨_, rfl⟩
        obtain ⟨t2, ht2⟩ : ∃ t, t = am nn 16 := ⟨_, rfl⟩
        have hl1 : t1 < 4 := ht1 ▸ am_lt at_ (by omega)
        have hl2 : t2 < 16 := ht2 ▸ am_lt nn (by omega)
        have A1 := Lib.hid (fun W => among_lit at_ 4 4 t1 rfl ht1 (by omega) (by omega) W)
        have A2 := Lib.hid (fun W => among_lit nn 16 16 t2 rfl ht2 (by omega) (by omega) W)
        have HM := Lib.hid hM
        have HB := Lib.hid hB
        have HT := Lib.hid hT
        have HH := Lib.hid hH
        have HSt := Lib.hid hst
        clear hx hc hX ht1 ht2 hM hB hT hH hT' hst
        go_wp2_with fail
        go_quiet (first | (go_at_call 11; ((with_reducible exact quietEq (A1.out _)))) | (go_at_call 11; ((with_reducible exact quietEq (A2.out _)))))
        go_upto_if 49 with fail
        go_cut [] (fun wx => ∃ st' : List Cel, st'.length = 4 ∧ Holds st' ∧ Mem wx mb ab st' ∧ Blk wx bb (ints (hs st')) 3 ∧ Still w wx)
        case first =>
          obtain ⟨c, hc⟩ := get_some (l := st) (i := t1) (by rw [HSt.out]; exact hl1)
          have hBq := HB.out.drewN nq
          have hMq := HM.out.drewN nq
          have hTq := HT.out.drewN nq
          generalize wr.drewN nq = wq at *
          have hcb : wq.cell? ⟨bb, t1, none⟩ = some (.int .i64 c.h) := hBq.cell (ints_get (by simp [hs, hc]))
          have hfb := hBq.free t1
          have hch := HH.out c (List.mem_of_getElem? hc)
          have hses : Ses (t2 : Int) := ⟨by omega, by omega⟩
          have hses2 : Ses (t2 : Int) := hses
          have HC := Lib.hid hc
          have HBq := Lib.hid hBq
          have HTq := Lib.hid hTq
          clear c0 c1 c2 A1 A2 HM HB HT
          by_cases hd : d.tmod 2 = 0
          · have hdb : (d.tmod 2 == 0) = true := by simpa using hd
            by_cases hlk : c.h = -1
            · have A := Lib.hid (lock_ok hMq hc hlk hses)
              rw [hlk] at hcb
              clear hMq hc hch hd hBq hTq hlk hses
              have HS2 := Lib.hid hses2
              clear hses2
              go_wp2_with fail
              refine A.out.mono ?_
              rintro e w3 ⟨rfl, hM3, hT3⟩
              have hB3 := HBq.out.turned hT3 (by omega)
              have hcb3 : w3.cell? ⟨bb, t1, none⟩ = some (.int .i64 (-1)) := by rw [hT3.cell (p := ⟨bb, t1, none⟩) (cell_lt hcb) (show bb ≠ ab by omega)]; exact hcb
              have hfb3 := hB3.free t1
              have HM3 := Lib.hid hM3
              have HB3 := Lib.hid hB3
              have HT3 := Lib.hid (HTq.out.pastOne hT3 (by omega))
              clear hM3 hB3 hT3 hcb hfb A
              go_wp2_with fail
              go_meet
              refine ⟨_, ?_, ?_, (HM3.out.turned (S := (· = bb)) (turned_set (Turned.refl _ _) t1 (.int .i64 t2)) (by omega) (by omega)), ?_, HT3.out.setCell (p := ⟨bb, t1, none⟩) (.inr hbb) _⟩
              · rw [List.length_set]; exact HSt.out
              · intro c' hc'
                rcases List.mem_or_eq_of_mem_set hc' with h | h
                · exact HH.out c' h
                · rw [h]; exact .inr HS2.out
              · have := HB3.out.set t1 (.int .i64 t2)
                rw [ints_set] at this
                rw [show hs (st.set t1 { c with h := (t2 : Int) }) = (hs st).set t1 (t2 : Int) from by simp [hs, List.map_set]]
                exact this
            · have hge : 0 ≤ c.h := by
                rcases hch with h | h
                · exact absurd h hlk
                · exact h.1
              have A := Lib.hid (lock_busy hMq hc hlk hses)
              have hnl : ¬ c.h < 0 := by omega
              have HMq := Lib.hid hMq
              obtain ⟨ch, hche⟩ : ∃ ch, ch = c.h := ⟨_, rfl⟩
              rw [← hche] at hcb hge
              clear hMq hc hch hd hBq hTq hlk hses hses2 hnl hche
              go_wp2_with fail
              refine A.out.mono ?_
              rintro e w3 ⟨rfl, rfl⟩
              go_wp2_with fail
              go_meet
              exact ⟨st, HSt.out, HH.out, HMq.out, HBq.out, HTq.out⟩
          · have hdb : (d.tmod 2 == 0) = false := by simpa using hd
            by_cases hfr : c.h = t2
            · have A := Lib.hid (free_ok hMq hc (by rw [hfr]; exact hses))
              rw [hfr] at hcb A
              have hbt : ((t2 : Int) == (t2 : Int)) = true := by simp
              clear hMq hc hch hd hBq hTq hfr hses hses2
              go_wp2_with fail
              refine A.out.mono ?_
              rintro e w3 ⟨rfl, hM3, hT3⟩
              have hB3 := HBq.out.turned hT3 (by omega)
              have hcb3 : w3.cell? ⟨bb, t1, none⟩ = some (.int .i64 t2) := by rw [hT3.cell (p := ⟨bb, t1, none⟩) (cell_lt hcb) (show bb ≠ ab by omega)]; exact hcb
              have hfb3 := hB3.free t1
              have HM3 := Lib.hid hM3
              have HB3 := Lib.hid hB3
              have HT3 := Lib.hid (HTq.out.pastOne hT3 (by omega))
              clear hM3 hB3 hT3 hcb hfb A
              go_wp2_with fail
              go_meet
              refine ⟨_, ?_, ?_, (HM3.out.turned (S := (· = bb)) (turned_set (Turned.refl _ _) t1 (.int .i64 (-1))) (by omega) (by omega)), ?_, HT3.out.setCell (p := ⟨bb, t1, none⟩) (.inr hbb) _⟩
              · rw [List.length_set]; exact HSt.out
              · intro c' hc'
                rcases List.mem_or_eq_of_mem_set hc' with h | h
                · exact HH.out c' h
                · rw [h]; exact .inl rfl
              · have := HB3.out.set t1 (.int .i64 (-1))
                rw [ints_set] at this
                rw [show hs (st.set t1 { c with h := -1 }) = (hs st).set t1 (-1) from by simp [hs, List.map_set]]
                exact this
            · have A := Lib.hid (free_none hMq hc hfr hses)
              have hbt : (c.h == (t2 : Int)) = false := by simpa using hfr
              have HMq := Lib.hid hMq
              obtain ⟨ch, hche⟩ : ∃ ch, ch = c.h := ⟨_, rfl⟩
              rw [← hche] at hcb hbt
              clear hMq hc hch hd hBq hTq hfr hses hses2 hche
              go_wp2_with fail
              refine A.out.mono ?_
              rintro e w3 ⟨rfl, rfl⟩
              go_wp2_with fail
              go_meet
              exact ⟨st, HSt.out, HH.out, HMq.out, HBq.out, HTq.out⟩
        case rest =>
          obtain ⟨st', hst', hH', hM', hB', hT'⟩ := hcut
          go_wp2_with fail
          go_loopw [11] (fun j wr => ∃ q : Nat, q ≤ 4 ∧ j = .int .i64 q ∧ Mem wr mb ab st' ∧ Blk wr bb (ints (hs st')) 3 ∧ Still w wr) (fun j _ => 4 - (intOf j).toNat)
          case atStart => exact ⟨0, Nat.zero_le _, rfl, hM', hB', hT'⟩
          case round =>
            clear hM' hB' hT'
            obtain ⟨q, hq, rfl, hM', hB', hT'⟩ := hrel
            by_cases hq4 : q < 4
            · obtain ⟨c, hc⟩ := get_some (l := st') (i := q) (by rw [hst']; exact hq4)
              have A := Lib.hid (fun n => holder_ok (hM'.drewN n) hc)
              have hcb : wr.cell? ⟨bb, q, none⟩ = some (.int .i64 c.h) := hB'.cell (ints_get (by simp [hs, hc]))
              obtain ⟨ch, hch⟩ : ∃ ch, ch = c.h := ⟨_, rfl⟩
              rw [← hch] at A hcb
              have hbe : (ch != ch) = false := by simp
              have HM' := Lib.hid hM'
              have HB' := Lib.hid hB'
              have HT' := Lib.hid hT'
              have HH' := Lib.hid hH'
              clear hM' hB' hT' hc hch hH' hst'
              go_wp2_with fail
              go_quiet ((go_at_call 24; ((with_reducible exact quietEq (A.out _)))))
              go_wp2_with fail
              go_roundw
              case rel => exact ⟨q + 1, by omega, by go_num, HM'.out.drewN _, HB'.out.drewN _, HT'.out.drewN _⟩
              case measure => simp [intOf]; omega
            · have HM' := Lib.hid hM'
              have HB' := Lib.hid hB'
              have HT' := Lib.hid hT'
              have HH' := Lib.hid hH'
              have HS' := Lib.hid hst'
              clear hM' hB' hT' hH' hst'
              go_wp2_with fail
              go_roundw
              case rel => exact ⟨k + 1, st', by omega, by omega, by go_num, HS'.out, HH'.out, HM'.out, HB'.out, HT'.out⟩
              case measure => simp [intOf]; omega
      · obtain rfl : k = 200 := by omega
        have HT := Lib.hid hT
        clear hM hB hT hH hst
        go_wp2_with fail
        go_ret
        exact ⟨rfl, HT.out⟩
    · have HT := Lib.hid hT
      clear hM hB hT hH hst
      go_wp2_with fail
      go_ret
      exact ⟨rfl, HT.out⟩
end Go.Proofs.Ytgdpalefhikbfaa
