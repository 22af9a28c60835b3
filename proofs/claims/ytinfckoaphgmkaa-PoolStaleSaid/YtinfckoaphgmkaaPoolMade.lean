/- A new pool of the program. No condition. -/
import Derived.Test.YtinfckoaphgmkaaPoolMake
import Derived.Test.YtinfckoaphgmkaaPoolRefMake
namespace Go.Proofs.Ytinfckoaphgmkaa
open Go.RowKit
set_option linter.unusedVariables false
set_option linter.unusedSimpArgs false
set_option maxRecDepth 100000

theorem pinit (w : World) (n size : Nat) {S : Nat} (hS : S = w.heap.size) :
    PMk w ((w.alloc (.cells (ints (nums (List.replicate n 0))).toArray 3)).alloc (.cells #[.int .i64 (size : Nat), .slice (some ⟨S, 0, none⟩) n n, .slice none 0 0, .slice none 0 0] 63)) (S + 1) S (fun _ => 0) n size none 0 0 0 none 0 0 := by
  subst hS
  have b0 := Blk.new w (ints (nums (List.replicate n 0))) 3
  refine ⟨Blk.newAt _ _ _ (by simp) rfl, b0.alloc _, ⟨rfl, .inl ⟨rfl, rfl⟩⟩, ⟨rfl, .inl ⟨rfl, rfl⟩⟩, fun i hi => absurd hi (Nat.not_lt_zero _), fun i hi => absurd hi (Nat.not_lt_zero _), fun i j hi => absurd hi (Nat.not_lt_zero _), ⟨by omega, by omega, by omega⟩, fun x hx => (by cases hx), fun x hx => (by cases hx), ((Turned.refl _ _).alloc _).alloc _⟩

set_option maxHeartbeats 4000000 in
theorem pmake_ok (n size : Nat) (w : World) (h1 : 1 ≤ n) (h2 : n ≤ 128) (h3 : 1 ≤ size) (h4 : size ≤ 256) :
    Calls Try.prog 9 #[.int .i64 n, .int .i64 size] w (PNew pT w n size) := by
  obtain ⟨i0, hi, hz0, hz1, hz2⟩ := info_parts infoIntW
  obtain ⟨i1, ki, kz0, kz1, kz2⟩ := info_parts infoByte
  obtain ⟨i2, ei, ez0, ez1, ez2⟩ := info_parts infoEnv
  have hb : (i0.bytes : Int) * (n : Int) ≤ 281474976710656 := by rw [hz2]; omega
  have kb : (i1.bytes : Int) * (size : Int) ≤ 281474976710656 := by rw [kz2]; omega
  have hmk := fun W : World => run_make (P := Try.prog) W 31 3 i0 _ Try.underlying31 hi hz0 .i64 .i64 (n : Int) (n : Int) (Int.natCast_nonneg n) (Int.le_refl _) hb (by omega)
  have kmk := fun W : World => run_make (P := Try.prog) W 32 5 i1 _ Try.underlying32 ki kz0 .i64 .i64 (0 : Int) (size : Int) (Int.le_refl 0) (by omega) kb (by omega)
  simp only [hz1, Int.toNat_natCast, Nat.mul_one, show Value.cells (.int .i64 0) = #[.int .i64 0] from rfl, made_ints] at hmk
  simp only [kz1, Int.toNat_natCast, Int.toNat_zero, Nat.mul_one, show Value.cells (.int .u8 0) = #[.int .u8 0] from rfl, made_byt] at kmk
  clear hb kb ki kz0 kz1 kz2
  go_enter Try.func9, Try.ntmps9
  go_wp2
  have HI := Lib.hid (pinit w n size rfl)
  clear hmk
  obtain ⟨W0, hW0⟩ : ∃ W0, ((w.alloc (.cells (ints (nums (List.replicate n 0))).toArray 3)).alloc (.cells #[.int .i64 (size : Nat), .slice (some ⟨w.heap.size, 0, none⟩) n n, .slice none 0 0, .slice none 0 0] 63)) = W0 := ⟨_, rfl⟩
  rw [hW0] at HI ⊢
  clear hW0
  go_loopw [28] (fun i wr => ∃ (k : Nat) (bl : Nat → Nat) (ea : Option Addr) (ec : Nat) (sa : Option Addr) (sc : Nat), k ≤ n ∧ i = .int .i64 k ∧ PMk w wr (w.heap.size + 1) w.heap.size bl n size ea ec k k sa sc k) (fun i _ => n - (intOf i).toNat)
  case atStart => exact ⟨0, _, none, 0, none, 0, Nat.zero_le _, rfl, HI.out⟩
  case round =>
    clear HI
    obtain ⟨k, bl, ea, ec, sa, sc, hk, rfl, hM⟩ := hrel
    have HM := Lib.hid hM
    by_cases hlt : k < n
    · have c2 : wr.cell? ⟨w.heap.size + 1, 2, none⟩ = some (.slice ea k ec) := hM.hd.cell rfl
      have f2 := hM.hd.free 2
      have hql : w.heap.size + 1 < wr.heap.size := hM.hd.lt
      have hlo : w.heap.size ≤ wr.heap.size := by omega
      have hbA : Blk (wr.alloc (.cells (byt (List.replicate size 0)).toArray 5)) wr.heap.size (byt (List.replicate size 0)) 5 := Blk.newAt wr _ _ rfl rfl
      have HB := Lib.hid (hM.bytes ((Turned.refl _ wr).alloc _) hbA)
      have HStep := Lib.hid (fun (w6 : World) (a6 : Option Addr) (c6 : Nat)
        (hown : w6.ownsRow w.heap.size 66 3 (.slice a6 (k + 1) c6) (k + 1) (envRow bl size k ++ [.int .i64 (k : Nat), .int .i64 0, .slice (some ⟨wr.heap.size, 0, none⟩) 0 size]))
        (hg : ((wr.alloc (.cells (byt (List.replicate size 0)).toArray 5)).alloc (.cells #[.int .i64 (k : Nat), .int .i64 0, .slice (some ⟨wr.heap.size, 0, none⟩) 0 size] 66)).drew.grownBy w6 (Value.slice ea k ec).ownBlock) hat =>
          HB.out.env_step (w6 := w6) (a6 := a6) (c6 := c6) (by
            have : envRow (fun i => if i = k then wr.heap.size else bl i) size (k + 1) = envRow bl size k ++ [.int .i64 (k : Nat), .int .i64 0, .slice (some ⟨wr.heap.size, 0, none⟩) 0 size] := by
              rw [envRow, envRow_congr (bl' := bl) (fun i hi => by simp; intro hh; omega)]
              simp
            rw [this]; exact hown) (o := .cells #[.int .i64 (k : Nat), .int .i64 0, .slice (some ⟨wr.heap.size, 0, none⟩) 0 size] 66) ⟨hg.os, hg.tape, hg.output, hg.size, hg.block⟩ hat)
      have HC := Lib.hid (show ∀ (j : Nat) (u : Value), [Value.int .i64 (k : Nat), .int .i64 0, .slice (some ⟨wr.heap.size, 0, none⟩) 0 size][j]? = some u → ((wr.alloc (.cells (byt (List.replicate size 0)).toArray 5)).alloc (.cells #[.int .i64 (k : Nat), .int .i64 0, .slice (some ⟨wr.heap.size, 0, none⟩) 0 size] 66)).drew.cell? ((⟨wr.heap.size + 1, 0, none⟩ : Addr).add j) = some u from fun j u hj => by
        have := ow_cells (wr.alloc (.cells (byt (List.replicate size 0)).toArray 5)) [Value.int .i64 (k : Nat), .int .i64 0, .slice (some ⟨wr.heap.size, 0, none⟩) 0 size] 66 j u hj
        rw [World.size_alloc] at this
        exact this)
      have c2b : ((wr.alloc (.cells (byt (List.replicate size 0)).toArray 5)).alloc (.cells #[.int .i64 (k : Nat), .int .i64 0, .slice (some ⟨wr.heap.size, 0, none⟩) 0 size] 66)).cell? ⟨w.heap.size + 1, 2, none⟩ = some (.slice ea k ec) := still_cell (((Turned.refl _ wr).alloc _).alloc _) c2 rfl
      have c2a : (wr.alloc (.cells (byt (List.replicate size 0)).toArray 5)).cell? ⟨w.heap.size + 1, 2, none⟩ = some (.slice ea k ec) := still_cell ((Turned.refl _ wr).alloc _) c2 rfl
      clear hM hbA
      go_upto_region 7 with fail
      go_region_law (refine step_append_own rfl (.tmp 35) (.tmp 40) 61 rfl w.heap.size 66 i2 _ 3 40 Try.underlying61 ei ez0 ez1 ez2 rfl (by decide) _ k (envRow bl size k) rfl (ow_still HM.out.env (((Turned.refl _ _).alloc _).alloc _).drew) _ 1 1 [.int .i64 (k : Nat), .int .i64 0, .slice (some ⟨wr.heap.size, 0, none⟩) 0 size] rfl rfl HC.out (by intro u hu; simp at hu; rcases hu with rfl | rfl | rfl <;> rfl) (by unfold maxLen; omega) (by omega) (by simp; omega) ?_; intro v6 w6 hown6 hg6 hat6; obtain ⟨a6, c6, rfl⟩ := ow_slice hown6; obtain ⟨hP6, hq6⟩ := HStep.out w6 a6 c6 hown6 hg6 hat6; have HP6 := Lib.hid hP6; have y2 := hq6.cell (o := 2) rfl; have y4 := hq6.free 2; clear hown6 hg6 hat6 hP6 hq6)
      all_goals
        obtain ⟨W7, hW7⟩ : ∃ W7, w6.setCell ⟨w.heap.size + 1, 2, none⟩ (.slice a6 (k + 1) c6) = W7 := ⟨_, rfl⟩
        rw [hW7] at HP6 ⊢
        have d3 : W7.cell? ⟨w.heap.size + 1, 3, none⟩ = some (.slice sa k sc) := HP6.out.hd.cell rfl
        have d4 := HP6.out.hd.free 3
        have hlo7 : w.heap.size ≤ W7.heap.size := HP6.out.st.size
        have hq7 : w.heap.size + 1 < W7.heap.size := HP6.out.hd.lt
        have hkn : (k : Int) < (n : Int) := by omega
        have HIS := Lib.hid (show ints (stkI n k) ++ [.int .i64 ((n : Int) - 1 - (k : Int))] = ints (stkI n (k + 1)) by rw [stkI_step]; simp [ints])
        clear hW7 y2 y4 HStep HC HB HM c2 c2a c2b f2 kmk hql hlo
        go_wp2_with (at_builtin; refine wpList_append_own_at _ rfl (.tmp 48) (.tmp 53) 31 rfl w.heap.size 3 i0 (.int .i64 0) 1 8 Try.underlying31 hi hz0 hz1 hz2 rfl (by decide) (.slice sa k sc) k (ints (stkI n k)) rfl (ow_still HP6.out.stk ((Turned.refl _ _).alloc _)) ⟨W7.heap.size, 0, none⟩ 1 1 [.int .i64 ((n : Int) - 1 - (k : Int))] rfl rfl (ow_cells W7 _ _) (ow_ints rfl) (by unfold maxLen; omega) (by omega) (by simp; omega) ?_; intro v8 w8 hown8 hg8 _ hat8; obtain ⟨a8, c8, rfl⟩ := ow_slice hown8; rw [HIS.out] at hown8; obtain ⟨hP8, hq8⟩ := HP6.out.stk_step hown8 hg8 hat8; have HP8 := Lib.hid hP8; have e3 := hq8.cell (o := 3) rfl; have e4 := hq8.free 3; clear hown8 hg8 hat8 hP8 hq8)
        go_roundw
        case rel => exact ⟨k + 1, _, a6, c6, a8, c8, by omega, by go_num, HP8.out⟩
        case measure => simp [intOf]; omega
    · obtain rfl : k = n := by omega
      clear hM
      go_wp2
      go_ret2
      exact ⟨w.heap.size + 1, rfl, HM.out.done h1⟩
end Go.Proofs.Ytinfckoaphgmkaa
