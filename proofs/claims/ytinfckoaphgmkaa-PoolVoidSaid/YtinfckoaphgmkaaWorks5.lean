/- The chapter's example of layer 5. No condition but that the program's pool keeps its words. -/
import Derived.Test.YtinfckoaphgmkaaPoolApi
namespace Go.Proofs.Ytinfckoaphgmkaa
open Go.RowKit
set_option linter.unusedVariables false
set_option maxRecDepth 100000

theorem i64_lit {a : Int} (h1 : -1000000000000000 ≤ a) (h2 : a ≤ 1000000000000000) : i64 a := ⟨by omega, by omega⟩

theorem Held.made {PT : Nat → PM → Thing} {w0 w w' : World} {n s : Nat} {e : Ending} (H : Still w0 w) (h : PNew PT w n s e w') : ∃ q, e = .returned (.tuple #[.pointer (some ⟨q, 0, none⟩), .int .i64 0]) ∧ Held w0 w' ((PT q (PM.new n s)).sep Thing.none) := by
  obtain ⟨q, he, hW⟩ := h
  exact ⟨q, he, (Held.start H).new hW⟩

set_option maxHeartbeats 2000000 in
theorem works5 {PT : Nat → PM → Thing} (A : PoolApi PT) (w : World) : Calls Try.prog 11 #[] w fun e w' => e = .returned (.bool true) ∧ Still w w' := by
  obtain ⟨M0, hM0⟩ : ∃ M, M = PM.new 2 4 := ⟨_, rfl⟩
  obtain ⟨M1, hM1⟩ : ∃ M, M = M0.takeM 2 := ⟨_, rfl⟩
  obtain ⟨M2, hM2⟩ : ∃ M, M = M1.fillM 1 [7, 8] := ⟨_, rfl⟩
  obtain ⟨M3, hM3⟩ : ∃ M, M = M2.dropM 1 := ⟨_, rfl⟩
  obtain ⟨M4, hM4⟩ : ∃ M, M = M3.takeM 0 := ⟨_, rfl⟩
  have o0 : M0.Ok 10 := hM0 ▸ (PM.new_ok (by omega) (by omega) (by omega) (by omega)).mono (by omega)
  have o1 : M1.Ok 10 := hM1 ▸ o0.take (by omega) 2
  have o2 : M2.Ok 10 := hM2 ▸ o1.fill 1 [7, 8]
  have o3 : M3.Ok 11 := hM3 ▸ o2.drop 1
  have o4 : M4.Ok 11 := hM4 ▸ o3.take (by omega) 0
  have a1 : M0.takeH 2 = 1 ∧ M0.takeE 2 = 0 := by rw [hM0]; decide +kernel
  have a2 : M1.fillE 1 [7, 8] = 0 := by rw [hM1, hM0]; decide +kernel
  have a3 : M2.bytes 1 = [7, 8] ∧ M2.err 1 = 0 ∧ M2.dropN 1 = 0 := by rw [hM2, hM1, hM0]; decide +kernel
  have a4 : M3.takeH 0 = 129 ∧ M3.takeE 0 = 0 := by rw [hM3, hM2, hM1, hM0]; decide +kernel
  have a5 : M4.err 1 = 40 ∧ M4.bytes 1 = [] ∧ M4.fr = [1] := by rw [hM4, hM3, hM2, hM1, hM0]; decide +kernel
  have C0 := Lib.hid (A.make_ok 2 4 w (by omega) (by omega) (by omega) (by omega))
  have C1 := Lib.hid (fun (W : World) (q : Nat) (R : Thing) (H : Held w W ((PT q M0).sep R)) => H.call (fun _ h => A.take h o0 (by omega) 2 (i64_lit (by omega) (by omega))))
  have C2 := Lib.hid (fun (W : World) (q : Nat) (R : Thing) (H : Held w W ((PT q M1).sep R)) (ao : Option Addr) (hA : BytesAt W ao [7, 8]) (hn : ao = none → (2 : Nat) = 0) => H.call (fun _ h => A.fill h o1 (by omega) 1 (i64_lit (by omega) (by omega)) ao [7, 8] 2 2 rfl hA (by simp) (by omega) (by unfold maxLen; omega) hn))
  have C3 := Lib.hid (fun (W : World) (q : Nat) (R : Thing) (H : Held w W ((PT q M2).sep R)) => show Calls Try.prog 23 #[.pointer (some ⟨q, 0, none⟩), .int .i64 1] W (GotBytes W (M2.bytes 1) (M2.err 1)) from by
    obtain ⟨_, h, _⟩ := H.fst
    exact A.bytes h o2 (by omega) 1 (i64_lit (by omega) (by omega)))
  have C4 := Lib.hid (fun (W : World) (q : Nat) (R : Thing) (H : Held w W ((PT q M2).sep R)) => H.call (fun _ h => A.drop h o2 (by omega) 1 (i64_lit (by omega) (by omega))))
  have C5 := Lib.hid (fun (W : World) (q : Nat) (R : Thing) (H : Held w W ((PT q M3).sep R)) => H.call (fun _ h => A.take h o3 (by omega) 0 (i64_lit (by omega) (by omega))))
  have C6 := Lib.hid (fun (W : World) (q : Nat) (R : Thing) (H : Held w W ((PT q M4).sep R)) => show Calls Try.prog 23 #[.pointer (some ⟨q, 0, none⟩), .int .i64 1] W (GotBytes W (M4.bytes 1) (M4.err 1)) from by
    obtain ⟨_, h, _⟩ := H.fst
    exact A.bytes h o4 (by omega) 1 (i64_lit (by omega) (by omega)))
  have C7 := Lib.hid (fun (W : World) (q : Nat) (R : Thing) (H : Held w W ((PT q M4).sep R)) => show Calls Try.prog 27 #[.pointer (some ⟨q, 0, none⟩)] W (GotNums W (nums M4.fr) 1) from by
    obtain ⟨_, h, _⟩ := H.fst
    exact A.free h o4 (by omega) 1 (by rw [a5.2.2]; rfl))
  rw [← hM1, a1.1, a1.2] at C1
  rw [← hM2, a2] at C2
  rw [a3.1, a3.2.1] at C3
  rw [← hM3, a3.2.2, a3.2.1] at C4
  rw [← hM4, a4.1, a4.2] at C5
  rw [a5.1, a5.2.1] at C6
  rw [a5.2.2] at C7
  have C8 := Lib.hid (fun (W : World) (ao bo : Option Addr) (ca cb : Nat) (h1 : BytesAt W ao [7, 8]) (h2 : BytesAt W bo [7, 8]) => sameBytes_any W ao bo [7, 8] [7, 8] ca cb h1 h2)
  have C9 := Lib.hid (fun (W : World) (ao bo : Option Addr) (ca cb : Nat) (h1 : NumsAt W ao [1]) (h2 : NumsAt W bo [1]) => sameInts_any W ao bo [1] [1] ca cb rfl (by simp) h1 h2)
  have hM0' := Lib.hid hM0
  clear hM0 hM1 hM2 hM3 hM4 o0 o1 o2 o3 o4 a1 a2 a3 a4 a5
  go_enter Try.func11, Try.ntmps11
  go_wp2_with fail
  refine C0.out.mono ?_
  intro e w1 hN
  obtain ⟨q, rfl, H⟩ := Held.made (Turned.refl _ _) hN
  rw [← hM0'.out] at H
  clear hN C0
  have HH := Lib.hid H
  clear H
  go_wp2_with fail
  refine (C1.out _ _ _ HH.out).mono ?_
  rintro e w2 ⟨rfl, H⟩
  have HF := Lib.hid (C2.out (w2.alloc (.cells #[.int .u8 7, .int .u8 8] 5)) q _ (H.still ((Turned.refl _ _).alloc _)) (some ⟨w2.heap.size, 0, none⟩) (BytesAt.of_blk (r := []) (Blk.new w2 [.int .u8 7, .int .u8 8] 5)) (fun h => by cases h))
  clear H HH C1 C2
  go_wp2_with fail
  refine HF.out.mono ?_
  rintro e w3 ⟨rfl, H⟩
  have HH := Lib.hid H
  clear H HF
  go_wp2_with fail
  refine (C3.out _ _ _ HH.out).mono ?_
  rintro e w4 ⟨ba, bc, rfl, hown, hst⟩
  have HH4 := Lib.hid ((HH.out.got hown hst).assoc)
  clear HH hown hst C3
  go_wp2_with fail
  refine (C4.out _ _ _ HH4.out).mono ?_
  rintro e w5 ⟨rfl, H⟩
  have HH5 := Lib.hid H
  clear H HH4 C4
  go_wp2_with fail
  refine (C5.out _ _ _ HH5.out).mono ?_
  rintro e w6 ⟨rfl, H⟩
  have HH6 := Lib.hid H
  clear H HH5 C5
  go_wp2_with fail
  refine (C6.out _ _ _ HH6.out).mono ?_
  rintro e w7 ⟨a7, c7, rfl, hown7, hst7⟩
  have HH7 := Lib.hid (HH6.out.still hst7)
  have HB7 := Lib.hid (show BytesAt w7 ba [7, 8] from by have := HH7.out.assoc'.own; exact BytesAt.of_own this)
  clear HH6 hown7 hst7 C6
  have HF := Lib.hid (C8.out (w7.alloc (.cells #[.int .u8 7, .int .u8 8] 5)) ba (some ⟨w7.heap.size, 0, none⟩) bc 2 (HB7.out.still ((Turned.refl _ _).alloc _)) (BytesAt.of_blk (r := []) (Blk.new w7 [.int .u8 7, .int .u8 8] 5)))
  have HH8 := Lib.hid (HH7.out.still ((Turned.refl _ w7).alloc (.cells #[.int .u8 7, .int .u8 8] 5)))
  clear C8 HB7 HH7
  go_wp2_with fail
  refine HF.out.mono ?_
  rintro e w' ⟨rfl, rfl⟩
  clear HF
  go_wp2_with fail
  refine (C7.out _ _ _ HH8.out).mono ?_
  rintro e w9 ⟨a9, c9, rfl, hO9, hst9⟩
  have hA9 : NumsAt w9 a9 [1] := NumsAt.of_own hO9 rfl
  have HH9 := Lib.hid (HH8.out.still hst9)
  have HF := Lib.hid (C9.out (w9.alloc (.cells #[.int .i64 1] 3)) a9 (some ⟨w9.heap.size, 0, none⟩) c9 1 (hA9.still ((Turned.refl _ _).alloc _)) (NumsAt.of_blk (Blk.new w9 (ints [1]) 3)))
  have HH10 := Lib.hid (HH9.out.still ((Turned.refl _ w9).alloc (.cells #[.int .i64 1] 3)))
  clear C7 C9 HH8 hA9 hO9 hst9 HH9
  go_wp2_with fail
  refine HF.out.mono ?_
  rintro e w' ⟨rfl, m, rfl⟩
  go_wp2_with fail
  go_ret
  exact ⟨by simp, HH10.out.ground.drewN m⟩
end Go.Proofs.Ytinfckoaphgmkaa
