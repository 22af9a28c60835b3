/- The chapter's example of layer 12. No condition but that the program's partitions and pool keep their words. -/
import Derived.Test.YtbljjmehjkmjaaaGreatPtInv
import Derived.Test.YtbljjmehjkmjaaaGreatWorks5
namespace Go.Proofs.YtbljjmehjkmjaaaGreat
open Go.RowKit
set_option linter.unusedVariables false
set_option linter.unusedSimpArgs false
set_option maxRecDepth 100000

def eP0 : PM := PM.new 2 4
def eM0 : RM := RM.new 1 true
def eP1 : PM := ptClP eP0 eM0 1
def eM1 : RM := ptClM eP0 eM0 1
def eP2 : PM := ptFiP eP1 eM1 0 [9]
def eM2 : RM := eM1.pubM 0
def eP3 : PM := ptRdP eP2 eM2 0
def eP4 : PM := ptClP eP3 eM2 1
def eM4 : RM := ptClM eP3 eM2 1
theorem e_1 : ptClA eP0 eM0 1 = 0 ∧ ptClH eP0 eM0 1 = 1 ∧ ptClE eP0 eM0 1 = 0 := by decide +kernel
theorem e_2 : ptFiE eP1 eM1 0 [9] = 0 := by decide +kernel
theorem e_3 : eM1.pubE 0 = 0 := by decide +kernel
theorem e_4 : eM2.getR 0 = 1 ∧ eM2.getE 0 = 0 := by decide +kernel
theorem e_5 : ptClA eP3 eM2 1 = 1 ∧ ptClH eP3 eM2 1 = 2 ∧ ptClE eP3 eM2 1 = 0 := by decide +kernel
theorem e_6 : ptClE eP4 eM4 1 = 60 ∧ ptClA eP4 eM4 1 = 0 ∧ ptClH eP4 eM4 1 = 0 ∧ ptClP eP4 eM4 1 = eP4 ∧ ptClM eP4 eM4 1 = eM4 := by
  have h : ptClE eP4 eM4 1 = 60 := by decide +kernel
  exact ⟨h, if_pos (by rw [h]; decide), if_pos (by rw [h]; decide), if_pos (by rw [h]; decide), if_pos (by rw [h]; decide)⟩
theorem e_7 : eP4.bytes 1 = [9] ∧ eP4.err 1 = 0 := by decide +kernel
theorem e_o0 : eP0.Ok 0 ∧ eM0.Ok 0 ∧ PtInv eP0 (eM0.refs ++ []) := ⟨PM.new_ok (by decide) (by decide) (by decide) (by decide), RM.new_ok (by decide) (by decide), PtInv.new 2 4⟩
theorem e_o1 : eP1.Ok 2 ∧ eM1.Ok 1 ∧ PtInv eP1 (eM1.refs ++ []) := ⟨(ptCl_ok e_o0.1 e_o0.2.1 1).1, (ptCl_ok e_o0.1 e_o0.2.1 1).2.1, inv_claim e_o0.2.2 e_o0.1 e_o0.2.1 (by decide) 1⟩
theorem e_o2 : eP2.Ok 2 ∧ PtInv eP2 (eM1.refs ++ []) := ⟨ok_fill e_o1.1 _ _, inv_fill e_o1.2.2 _ _⟩
theorem e_o3 : eM2.Ok 1 ∧ PtInv eP2 (eM2.refs ++ []) := ⟨e_o1.2.1.pub _, inv_pub e_o2.2 _⟩
theorem e_o4 : eP3.Ok 3 ∧ PtInv eP3 (eM2.refs ++ [1]) := ⟨ok_read e_o2.1 _, by have := inv_read e_o3.2 0; rw [e_4.2, e_4.1] at this; exact this⟩
theorem e_o5 : eP4.Ok 5 ∧ eM4.Ok 2 ∧ PtInv eP4 (eM4.refs ++ [1]) := ⟨(ptCl_ok e_o4.1 e_o3.1 1).1, (ptCl_ok e_o4.1 e_o3.1 1).2.1, inv_claim e_o4.2 e_o4.1 e_o3.1 (by decide) 1⟩

set_option maxHeartbeats 2000000 in
theorem works12 {PT : Nat → PM → Thing} {XT : Nat → Nat → RM → Thing} (A : PartApi PT XT) (B : PoolApi12 PT) (w : World) : Calls Tryz.prog 11 #[] w fun e w' => e = .returned (.bool true) ∧ Still w w' := by
  have C0 := Lib.hid (B.make_ok 2 4 w (by omega) (by omega) (by omega) (by omega))
  have C1 := Lib.hid (fun (W : World) (q : Nat) (R : Thing) (H : Held w W ((PT q eP0).sep R)) => show Calls Tryz.prog 10 #[.pointer (some ⟨q, 0, none⟩), .int .i64 1, .int .i64 1] W (XNew XT W q 1 true) from by
    obtain ⟨_, h, _⟩ := H.fst
    exact A.make_ok h e_o0.1 (by omega) 1 true (by omega) (by omega))
  have C2 := Lib.hid (fun (W : World) (q x : Nat) (R : Thing) (H : Held w W (((PT q eP0).sep (XT x q eM0)).sep R)) => H.call (fun _ h => A.claim h e_o0.2.2 e_o0.1 e_o0.2.1 (by omega) (by omega) 1 ⟨by omega, by omega⟩))
  have C3 := Lib.hid (fun (W : World) (q x : Nat) (R : Thing) (H : Held w W (((PT q eP1).sep (XT x q eM1)).sep R)) (ao : Option Addr) (hA : BytesAt W ao [9]) (hn : ao = none → (1 : Nat) = 0) => H.call (fun _ h => A.fill h e_o1.2.2 e_o1.1 e_o1.2.1 (by omega) (by omega) 0 ⟨by omega, by omega⟩ ao [9] 1 1 rfl hA (by simp) (by omega) (by unfold maxLen; omega) hn))
  have C4 := Lib.hid (fun (W : World) (q x : Nat) (R : Thing) (H : Held w W (((PT q eP2).sep (XT x q eM1)).sep R)) => H.call (fun _ h => A.pub h e_o2.2 e_o2.1 e_o1.2.1 (by omega) (by omega) 0 ⟨by omega, by omega⟩))
  have C5 := Lib.hid (fun (W : World) (q x : Nat) (R : Thing) (H : Held w W (((PT q eP2).sep (XT x q eM2)).sep R)) => H.call (fun _ h => A.read h e_o3.2 e_o2.1 e_o3.1 (by omega) (by omega) 0 ⟨by omega, by omega⟩))
  have C6 := Lib.hid (fun (W : World) (q x : Nat) (R : Thing) (H : Held w W (((PT q eP3).sep (XT x q eM2)).sep R)) => H.call (fun _ h => A.claim h e_o4.2 e_o4.1 e_o3.1 (by omega) (by omega) 1 ⟨by omega, by omega⟩))
  have C7 := Lib.hid (fun (W : World) (q x : Nat) (R : Thing) (H : Held w W (((PT q eP4).sep (XT x q eM4)).sep R)) => H.call (fun _ h => A.claim h e_o5.2.2 e_o5.1 e_o5.2.1 (by omega) (by omega) 1 ⟨by omega, by omega⟩))
  have C8 := Lib.hid (fun (W : World) (q x : Nat) (R : Thing) (H : Held w W (((PT q eP4).sep (XT x q eM4)).sep R)) => show Calls Tryz.prog 45 #[.pointer (some ⟨q, 0, none⟩), .int .i64 1] W (GotBytes W (eP4.bytes 1) (eP4.err 1)) from by
    obtain ⟨_, ⟨_, _, h, _⟩, _⟩ := H.fst
    exact B.bytes h e_o5.1 (by omega) 1 ⟨by omega, by omega⟩)
  rw [e_1.1, e_1.2.1, e_1.2.2, show ptClP eP0 eM0 1 = eP1 from rfl, show ptClM eP0 eM0 1 = eM1 from rfl] at C2
  rw [e_2, show ptFiP eP1 eM1 0 [9] = eP2 from rfl] at C3
  rw [e_3, show eM1.pubM 0 = eM2 from rfl] at C4
  rw [e_4.1, e_4.2, show ptRdP eP2 eM2 0 = eP3 from rfl] at C5
  rw [e_5.1, e_5.2.1, e_5.2.2, show ptClP eP3 eM2 1 = eP4 from rfl, show ptClM eP3 eM2 1 = eM4 from rfl] at C6
  rw [e_6.1, e_6.2.1, e_6.2.2.1, e_6.2.2.2.1, e_6.2.2.2.2] at C7
  rw [e_7.1, e_7.2] at C8
  have C9 := Lib.hid (fun (W : World) (ao bo : Option Addr) (ca cb : Nat) (h1 : BytesAt W ao [9]) (h2 : BytesAt W bo [9]) => sameBytes_any W ao bo [9] [9] ca cb h1 h2)
  go_enter Tryz.func11, Tryz.ntmps11
  go_wp2_with fail
  refine C0.out.mono ?_
  intro e w1 hN
  obtain ⟨q, rfl, H⟩ := Held.made (Turned.refl _ _) hN
  have H1 := Lib.hid H
  clear H hN C0
  go_wp2_with fail
  refine (C1.out _ _ _ H1.out).mono ?_
  rintro e w2 ⟨x, rfl, hV⟩
  have H2 := Lib.hid (show Held w w2 (((PT q eP0).sep (XT x q eM0)).sep Thing.none) from (H1.out.turn_none hV))
  clear hV H1 C1
  go_wp2_with fail
  refine (C2.out _ _ _ _ H2.out).mono ?_
  rintro e w3 ⟨rfl, H⟩
  have H3 := Lib.hid (C3.out (w3.alloc (.cells #[.int .u8 9] 5)) q x _ (H.still ((Turned.refl _ _).alloc _)) (some ⟨w3.heap.size, 0, none⟩) (BytesAt.of_blk (r := []) (Blk.new w3 [.int .u8 9] 5)) (fun h => by cases h))
  clear H H2 C2 C3
  go_wp2_with fail
  refine H3.out.mono ?_
  rintro e w4 ⟨rfl, H⟩
  have H4 := Lib.hid H
  clear H H3
  go_wp2_with fail
  refine (C4.out _ _ _ _ H4.out).mono ?_
  rintro e w5 ⟨rfl, H⟩
  have H5 := Lib.hid H
  clear H H4 C4
  go_wp2_with fail
  refine (C5.out _ _ _ _ H5.out).mono ?_
  rintro e w6 ⟨rfl, H⟩
  have H6 := Lib.hid H
  clear H H5 C5
  go_wp2_with fail
  refine (C6.out _ _ _ _ H6.out).mono ?_
  rintro e w7 ⟨rfl, H⟩
  have H7 := Lib.hid H
  clear H H6 C6
  go_wp2_with fail
  refine (C7.out _ _ _ _ H7.out).mono ?_
  rintro e w8 ⟨rfl, H⟩
  have H8 := Lib.hid H
  clear H H7 C7
  go_wp2_with fail
  refine (C8.out _ _ _ _ H8.out).mono ?_
  rintro e w9 ⟨ba, bc, rfl, hown, hst⟩
  have HT := Lib.hid (H8.out.ground.trans hst)
  have hb := BytesAt.of_own hown
  have HS := Lib.hid (C9.out (w9.alloc (.cells #[.int .u8 9] 5)) ba (some ⟨w9.heap.size, 0, none⟩) bc 1 (hb.still ((Turned.refl _ _).alloc _)) (BytesAt.of_blk (r := []) (Blk.new w9 [.int .u8 9] 5)))
  clear hown hst hb H8 C8 C9
  go_wp2_with fail
  refine HS.out.mono ?_
  rintro e w10 ⟨rfl, rfl⟩
  go_wp2_with fail
  go_ret
  exact ⟨by first | rfl | simp, HT.out.alloc _⟩
end Go.Proofs.YtbljjmehjkmjaaaGreat
