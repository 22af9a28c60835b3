/- slices.Clone of bytes and of numbers, slices.Delete of the last number. No condition. -/
import Derived.Test.YtinfckoaphgmkaaMem
import Derived.Test.YtinfckoaphgmkaaPoolRefDo
namespace Go.Proofs.Ytinfckoaphgmkaa
open Go.RowKit
set_option linter.unusedVariables false
set_option linter.unusedSimpArgs false
set_option maxRecDepth 100000

theorem clone_bytes (w : World) (ad : Addr) (l : List UInt8) (m cap : Nat) (hm : m = l.length) (hA : BytesAt w (some ad) l) (hmax : m ≤ 70368744177664) :
    Calls Try.prog 44 #[.slice (some ad) m cap] w fun e w' => ∃ a c, e = .returned (.slice a m c) ∧ w'.ownsRow w.heap.size 5 1 (.slice a m c) m (byt l) ∧ Still w w' := by
  obtain ⟨i0, hi, hz0, hz1, hz2⟩ := info_parts infoByte
  have HC := Lib.hid (fun j u hj => (hA.still ((Turned.refl (fun _ => False) w).alloc (.cells #[] 5))).cells j u hj)
  have H1 := Lib.hid (byt_one l)
  have HL := Lib.hid (byt_length l)
  have HM := Lib.hid hm
  have hnil := fun W : World => Lib.run_eql_slice_nil (P := Try.prog) W 32 5 (some ad) m cap 0 0 Try.underlying32
  simp only [Option.isNone_some] at hnil
  clear hA hm
  go_enter Try.func44, Try.ntmps44
  go_wp2_with (at_builtin; refine wpList_append_own_at _ rfl _ _ 32 rfl w.heap.size 5 i0 (.int .u8 0) 1 1 Try.underlying32 hi hz0 hz1 hz2 rfl (by decide) _ _ _ rfl (World.ownsRow_made w #[] 0 (Nat.le_refl _) (by simp) (by simp)) ad m cap (byt l) rfl (by rw [HL.out, HM.out]; omega) HC.out H1.out (by unfold maxLen; omega) (by omega) (by simp) ?_; intro v' w1 hown hgrow hnil hat; obtain ⟨aa, cc, rfl⟩ := own_slice' hown)
  go_ret
  rw [Nat.zero_add] at hown
  exact ⟨aa, cc, rfl, hown, ((Turned.refl (fun _ => False) w).alloc _).grown hgrow (fun k e => .inr (by cases e; exact Nat.le_refl _))⟩

theorem clone_ints (w : World) (ad : Addr) (l : List Int) (n cap : Nat) (hn : n = l.length) (hA : NumsAt w (some ad) l) (hmax : n ≤ 70368744177) :
    Calls Try.prog 45 #[.slice (some ad) n cap] w (IntsPost w l n) := by
  obtain ⟨i0, hi, hz0, hz1, hz2⟩ := info_parts infoIntW
  have HC := Lib.hid (show ∀ (j : Nat) (u : Value), (ints l)[j]? = some u → (w.alloc (.cells #[] 3)).cell? (ad.add j) = some u from fun j u hj => by
    simp only [ints, List.getElem?_map, Option.map_eq_some_iff] at hj
    obtain ⟨x, hx, rfl⟩ := hj
    obtain ⟨b, o, e, hc⟩ := (hA.still ((Turned.refl (fun _ => False) w).alloc (.cells #[] 3))) j x hx
    cases e
    rw [Addr.add_lit]
    exact hc)
  have H1 := Lib.hid (show ∀ u ∈ ints l, u.oneCell' = true from ow_ints (by simp [ints, isIntW]))
  have HL := Lib.hid (show (ints l).length = n * 1 by rw [ints_length, hn, Nat.mul_one])
  have hnil := fun W : World => Lib.run_eql_slice_nil (P := Try.prog) W 31 3 (some ad) n cap 0 0 Try.underlying31
  simp only [Option.isNone_some] at hnil
  clear hA hn
  go_enter Try.func45, Try.ntmps45
  go_wp2_with (at_builtin; refine wpList_append_own_at _ rfl _ _ 31 rfl w.heap.size 3 i0 (.int .i64 0) 1 8 Try.underlying31 hi hz0 hz1 hz2 rfl (by decide) _ _ _ rfl (World.ownsRow_made w #[] 0 (Nat.le_refl _) (by simp) (by simp)) ad n cap (ints l) rfl HL.out HC.out H1.out (by unfold maxLen; omega) (by omega) (by simp) ?_; intro v' w1 hown hgrow hnil hat; obtain ⟨aa, cc, rfl⟩ := ow_slice hown)
  go_ret
  rw [Nat.zero_add] at hown
  obtain ⟨aa, rfl⟩ : ∃ x, aa = some x := by
    cases aa with
    | none => rcases hat with h | h <;> cases h
    | some x => exact ⟨x, rfl⟩
  exact ⟨aa, cc, rfl, hown, ((Turned.refl (fun _ => False) w).alloc _).grown hgrow (fun k e => .inr (by cases e; exact Nat.le_refl _))⟩

/-- The block of a row of one's own, and the row of a block. -/
theorem ow_parts {w : World} {B : Nat} {g n cc : Nat} {xs : List Value} {e : TypeId} (h : w.ownsRow B e 1 (.slice (some ⟨g, 0, none⟩) n cc) n xs) :
    ∃ r, Blk w g (xs ++ r) e ∧ xs.length = n ∧ (xs ++ r).length = cc ∧ n ≤ cc ∧ cc ≤ maxLen ∧ B ≤ g := by
  have hx : xs.length = n := by simpa using h.1
  rcases h.2 with ⟨h', _⟩ | ⟨g', cap', cur, h', hB, hg, hnc, hcm, hcs, htake⟩
  · simp at h'
  · simp only [Value.slice.injEq, Option.some.injEq, Addr.mk.injEq, and_true, true_and] at h'
    obtain ⟨rfl, rfl⟩ := h'
    refine ⟨cur.toList.drop n, ?_, hx, ?_, hnc, hcm, hB⟩
    · have : xs ++ cur.toList.drop n = cur.toList := by
        rw [← htake, Nat.mul_one]; exact List.take_append_drop _ _
      rw [this]
      exact hg
    · have : xs ++ cur.toList.drop n = cur.toList := by
        rw [← htake, Nat.mul_one]; exact List.take_append_drop _ _
      rw [this]
      simpa using hcs
theorem ow_of_parts {w : World} {B : Nat} {g n cc : Nat} {xs r : List Value} {e : TypeId} (hb : Blk w g (xs ++ r) e) (hx : xs.length = n) (hl : (xs ++ r).length = cc) (hm : cc ≤ maxLen) (hB : B ≤ g) :
    w.ownsRow B e 1 (.slice (some ⟨g, 0, none⟩) n cc) n xs := by
  refine ⟨by simpa using hx, .inr ⟨g, cc, (xs ++ r).toArray, rfl, hB, hb, ?_, hm, by simpa using hl, ?_⟩⟩
  · rw [← hl, ← hx]; simp
  · rw [Nat.mul_one, ← hx]; simp

theorem zeroInt : ∀ w, (zeroValue 3).run Try.prog w = .ok (.int .i64 0) w := Try.zeroValue3
set_option maxHeartbeats 2000000 in
theorem delete_last {w : World} {sb fl sc : Nat} {l : List Int} {x : Int} (h : w.ownsRow 0 3 1 (.slice (some ⟨sb, 0, none⟩) (fl + 1) sc) (fl + 1) (ints (l ++ [x]))) (hl : fl ≤ 128) (a b : Int) (ha : a = fl) (hb : b = (fl : Int) + 1) :
    Calls Try.prog 37 #[.slice (some ⟨sb, 0, none⟩) (fl + 1 : Nat) sc, .int .i64 a, .int .i64 b] w fun e w' => e = .returned (.slice (some ⟨sb, 0, none⟩) fl sc) ∧ w'.ownsRow 0 3 1 (.slice (some ⟨sb, 0, none⟩) fl sc) fl (ints l) ∧ Turned (· = sb) w w' := by
  subst ha
  subst hb
  obtain ⟨i0, hi, hz0, hz1, hz2⟩ := info_parts infoIntW
  obtain ⟨r, hblk, hx, hcc, hn, hm, _⟩ := ow_parts h
  have hxl : (ints l).length = fl := by simpa [ints] using hx
  have hcc' : (ints l ++ ([Value.int .i64 x] ++ r)).length = sc := by simpa [ints] using hcc
  have hblk' : Blk w sb (ints l ++ ([Value.int .i64 x] ++ r)) 3 := by simpa [ints] using hblk
  have hle : fl ≤ sc := by omega
  have hf0 : (0 : Int) ≤ (fl : Int) + 1 := by omega
  have HE := Lib.hid (fun (w' : World) (hb : Blk w' sb (laid (ints l ++ ([Value.int .i64 x] ++ r)) fl (List.replicate 1 (Value.int .i64 0))) 3) => show w'.ownsRow 0 3 1 (.slice (some ⟨sb, 0, none⟩) fl sc) fl (ints l) by
    refine ow_of_parts (r := Value.int .i64 0 :: r) ?_ hxl (by simpa using hcc') hm (Nat.zero_le _)
    have : laid (ints l ++ ([Value.int .i64 x] ++ r)) fl (List.replicate 1 (Value.int .i64 0)) = ints l ++ Value.int .i64 0 :: r := by
      subst hxl
      simp [laid, List.take_append, List.drop_append]
    rwa [this] at hb)
  have HB := Lib.hid hblk'
  have HCC := Lib.hid hcc'
  clear h hblk hx hcc hxl hcc' hblk' hm
  go_enter Try.func37, Try.ntmps37
  go_wp2
  go_region_law (refine step_append_zero rfl (.tmp 22) (.tmp 25) 31 rfl 3 i0 Try.underlying31 hi (some ⟨sb, 0, none⟩) _ fl sc _ rfl rfl hle ?_)
  all_goals (go_wp2_with (with_reducible refine atClear ?_; refine wpList_clear_blk rfl (.tmp 31) 31 rfl 3 (.int .i64 0) Try.underlying31 zeroInt rfl rfl sb fl 1 _ rfl _ _ HB.out.drew (by have := HCC.out; simp at this; simp; omega) ?_; intro w1 hb1 ht1))
  all_goals first
    | (go_ret; exact ⟨rfl, HE.out _ hb1, (Turned.refl _ w).drew.trans ht1⟩)
    | (have hsc : sc = fl + 1 := by assumption
       subst hsc
       go_ret
       exact ⟨rfl, HE.out _ hb1, (Turned.refl _ w).drew.trans ht1⟩)
end Go.Proofs.Ytinfckoaphgmkaa
