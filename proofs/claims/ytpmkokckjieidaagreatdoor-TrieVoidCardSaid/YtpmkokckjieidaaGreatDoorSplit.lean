/- The library's Split at a stroke: a new row of a text's levels. No condition but that the text is not too long. -/
import Derived.Test.YtpmkokckjieidaaGreatDoorBdName
import Derived.Test.YtpmkokckjieidaaGreatDoorTextMore
import Derived.Shelf.Strings.Split
namespace Go.Proofs.YtpmkokckjieidaaGreatDoor
open Go.RowKit
set_option linter.unusedVariables false
set_option linter.unusedSimpArgs false
set_option maxRecDepth 100000

theorem splitK_spl : ∀ (k : Nat) (l : Txt), l.length ≤ k → Lib.splitK [47] 0 (l.count 47) l = spl l := by
  intro k
  induction k with
  | zero =>
    intro l h
    obtain rfl := List.length_eq_zero_iff.1 (Nat.le_zero.1 h)
    rfl
  | succ k ih =>
    intro l h
    rcases ixb l 47 with ⟨h1, h2⟩ | ⟨i, h1, h2, h3, h4⟩
    · rw [List.count_eq_zero.2 h2, spl_one h2]; rfl
    · have hc : l.count 47 = (l.drop (i + 1)).count 47 + 1 := by
        conv => lhs; rw [h3]
        rw [List.count_append, List.count_eq_zero.2 h4, List.count_cons_self]; omega
      have hs : spl l = l.take i :: spl (l.drop (i + 1)) := (congrArg spl h3).trans (spl_cut h4)
      rw [hc, Lib.splitK, Lib.index_one, h1, if_neg (by simp), hs, show ((i : Int).toNat + 0) = i by simp, show ((i : Int).toNat + [(47 : UInt8)].length) = i + 1 by simp, ih _ (by simp; omega)]
theorem spl_count (l : Txt) : (spl l).length = l.count 47 + 1 := by
  have h := Lib.splitB_all ⟨#[47]⟩ (by decide) 0 _ ⟨l.toArray⟩ rfl
  have hc : Lib.countB ⟨l.toArray⟩ ⟨#[47]⟩ = l.count 47 := Lib.count_one 47 l
  have hd := Lib.splitB_data ⟨#[47]⟩ 0 (l.count 47) ⟨l.toArray⟩
  rw [hc] at h
  rw [← h, ← List.length_map (f := fun x : ByteArray => x.data.toList), hd]
  exact congrArg List.length (splitK_spl _ l (Nat.le_refl _)).symm

def SplPost (w : World) (l : Txt) (e : Ending) (w' : World) : Prop := e = .returned (.slice (some ⟨w.heap.size, 0, none⟩) (spl l).length (spl l).length) ∧ w' = w.alloc (.cells (txs (spl l)).toArray 9)

theorem gsplit_any (l : Txt) (w : World) (hmax : l.length ≤ 1000000) : Calls Tryz.prog 117 #[tx l, tx [47], .int .i64 0, .int .i64 (-1)] w (SplPost w l) := by
  have hc : Lib.countB ⟨l.toArray⟩ ⟨#[47]⟩ = l.count 47 := Lib.count_one 47 l
  have hsz : (ByteArray.mk l.toArray).size = l.length := tx_size l
  have hle : l.count 47 ≤ l.length := List.count_le_length
  have hlen := Lib.splitB_all ⟨#[47]⟩ (by decide) 0 _ ⟨l.toArray⟩ hc
  have H := Any.strings_genSplit_core Tryz.lays221 (by kernel_rfl) ⟨l.toArray⟩ ⟨#[47]⟩ 0 (-1) (l.count 47 + 1) w (by rw [hsz]; omega) (by decide) (by decide)
    (fun x c hx => (Tryz.strings_Index_one x 47 _).mono fun e w' ⟨h1, h2⟩ => ⟨h1.trans (by unfold Lib.indexB; rw [show (ByteArray.mk #[(47 : UInt8)]).data.toList = [47] from rfl, Lib.index_one]), h2⟩)
    ((Tryz.strings_Count_one ⟨l.toArray⟩ 47 w).mono fun e w' ⟨h1, h2⟩ => ⟨h1.trans (by rw [hc]; rfl), h2⟩)
    (by decide) (by decide) (by rw [hc, hsz, if_pos (by decide)]; omega)
  rw [Nat.add_sub_cancel, hlen] at H
  have hcells : Lib.cellsOf (Lib.splitB ⟨#[47]⟩ 0 (l.count 47) ⟨l.toArray⟩) (l.count 47 + 1) = (txs (spl l)).toArray := by
    rw [← hlen, Lib.cellsOf_full, ← splitK_spl _ l (Nat.le_refl _)]
    have hd := Lib.splitB_data ⟨#[47]⟩ 0 (l.count 47) ⟨l.toArray⟩
    have hd' : Lib.splitK [47] 0 (l.count 47) l = (Lib.splitB ⟨#[47]⟩ 0 (l.count 47) ⟨l.toArray⟩).map (·.data.toList) := hd.symm
    rw [hd']
    unfold txs
    rw [List.map_map]
    rfl
  rw [hcells] at H
  refine H.mono fun e w' ⟨h1, h2⟩ => ⟨?_, h2⟩
  rw [h1, spl_count]

set_option maxHeartbeats 1000000 in
theorem split_any (l : Txt) (w : World) (hmax : l.length ≤ 1000000) : Calls Tryz.prog 82 #[tx l, tx [47]] w (SplPost w l) := by
  have H := Lib.hid (gsplit_any l w hmax)
  clear hmax
  obtain ⟨n, hn⟩ : ∃ n, n = (spl l).length := ⟨_, rfl⟩
  obtain ⟨W, hW⟩ : ∃ W, W = w.alloc (.cells (txs (spl l)).toArray 9) := ⟨_, rfl⟩
  unfold SplPost at *
  rw [← hn, ← hW] at H ⊢
  clear hn hW
  unfold tx at *
  go_enter Tryz.func82, Tryz.ntmps82
  go_wp2_with (go_at_call 117; ((with_reducible refine H.out.mono ?_)); rintro e w5 ⟨rfl, rfl⟩)
  go_ret
  exact ⟨rfl, rfl⟩
end Go.Proofs.YtpmkokckjieidaaGreatDoor
