/- Rows of texts in memory; what the base's Split, SameTexts, Begins do. No condition. -/
import Derived.Test.YtpmkokckjieidaaGreatDoorText
import Derived.Deep.RegionHeld3
import Derived.Deep.DeepCutAuto
import Derived.Deep.CutBlock
import Derived.Maps.AppendAt
import Derived.BigQuiet
namespace Go.Proofs.YtpmkokckjieidaaGreatDoor
open Go.RowKit
set_option linter.unusedVariables false
set_option linter.unusedSimpArgs false
set_option maxRecDepth 100000

def txs (l : List Txt) : List Value := l.map tx
theorem txs_length (l : List Txt) : (txs l).length = l.length := by simp [txs]
theorem txs_get {l : List Txt} {i : Nat} {x : Txt} (h : l[i]? = some x) : (txs l)[i]? = some (tx x) := by simp [txs, h]
theorem txs_one (l : List Txt) : ∀ u ∈ txs l, u.oneCell' = true := by
  intro u hu
  simp only [txs, List.mem_map] at hu
  obtain ⟨x, _, rfl⟩ := hu
  rfl
theorem tx_of (s : ByteArray) : Value.string s = tx s.data.toList := by cases s; simp [tx]
theorem tx_size (l : Txt) : (ByteArray.mk l.toArray).size = l.length := by show l.toArray.size = _; simp

def TextsAt (w : World) (ao : Option Addr) (l : List Txt) : Prop := ∀ i x, l[i]? = some x → ∃ b o, ao = some ⟨b, o, none⟩ ∧ w.cell? ⟨b, o + i, none⟩ = some (tx x)
theorem TextsAt.nil (w : World) (ao : Option Addr) : TextsAt w ao [] := fun i x h => by simp at h
theorem TextsAt.turned {S : Nat → Prop} {w w' : World} {ao : Option Addr} {l : List Txt} (h : TextsAt w ao l) (ht : Turned S w w') (hs : ∀ a, ao = some a → ¬ S a.block) : TextsAt w' ao l := fun i x hx => by
  obtain ⟨b, o, rfl, hc⟩ := h i x hx
  exact ⟨b, o, rfl, by rw [ht.cell (p := ⟨b, o + i, none⟩) (cell_lt hc) (hs ⟨b, o, none⟩ rfl)]; exact hc⟩
theorem TextsAt.still {w w' : World} {ao : Option Addr} {l : List Txt} (h : TextsAt w ao l) (ht : Still w w') : TextsAt w' ao l := h.turned ht (fun _ _ hs => hs)
theorem TextsAt.take {w : World} {ao : Option Addr} {l : List Txt} (h : TextsAt w ao l) (n : Nat) : TextsAt w ao (l.take n) := fun i x hx => by
  rw [List.getElem?_take] at hx
  split at hx
  · exact h i x hx
  · cases hx
theorem TextsAt.of_own {w : World} {base : Nat} {a : Option Addr} {c n : Nat} {l : List Txt} (h : w.ownsRow base 9 1 (.slice a n c) n (txs l)) (hn : n = l.length) : TextsAt w a l := by
  subst hn
  intro i x hx
  obtain ⟨g, r, rfl, _, hb⟩ := ow_blk h (Nat.lt_of_le_of_lt (Nat.zero_le _) (get_lt hx))
  refine ⟨g, 0, rfl, ?_⟩
  rw [Nat.zero_add]
  refine hb.cell ?_
  rw [List.getElem?_append_left (by rw [txs_length]; exact get_lt hx)]
  exact txs_get hx
def encT (s : ByteArray) : List Value := [.string s]
theorem cellsString : Tryz.prog.cellsOf 9 = 1 := by kernel_rfl
theorem rdTexts : Rd Tryz.prog 23 encSl (SlOk encT okS 1) := rd_slice Tryz.underlying23 cellsString (by omega) (fun _ => rfl) (rd_string Tryz.underlying9)
theorem TextsAt.of_row {w : World} {a : Option Addr} {l : List ByteArray} (h : RowAt encT 1 w a l) : TextsAt w a (l.map fun s => s.data.toList) := by
  intro i x hx
  simp only [List.getElem?_map, Option.map_eq_some_iff] at hx
  obtain ⟨s, hs, rfl⟩ := hx
  obtain ⟨b, o, rfl, hc⟩ := h i s hs
  refine ⟨b, o, rfl, ?_⟩
  rw [← tx_of]
  simpa using hc 0 _ rfl

theorem infoStr : (Tryz.prog.info? 9).map (fun i => (i.zero, i.size, i.bytes)) = some (some (.string ⟨#[]⟩), 1, 16) := by kernel_rfl

/-- Texts that are handed out: a slice of one's own. -/
def OutTexts (w : World) (l : List Txt) (n : Nat) (e : Ending) (w' : World) : Prop := ∃ a c, e = .returned (.slice a n c) ∧ w'.ownsRow w.heap.size 9 1 (.slice a n c) n (txs l) ∧ Still w w'
/-- What append of one value leaves of a row of one's own. -/
theorem ow_put {w wr w6 : World} {e : TypeId} {ao : Option Addr} {k cc : Nat} {xs : List Value} {o : Obj} (hs : Still w wr) (h : wr.ownsRow w.heap.size e 1 (.slice ao k cc) k xs) (hg : (wr.alloc o).grownBy w6 (Value.slice ao k cc).ownBlock) : Still w w6 := by
  refine (hs.alloc o).past ((Turned.refl (fun i => (Value.slice ao k cc).ownBlock = some i) _).grown hg (fun i e => .inl e)) (fun i hi => ?_)
  cases ao with
  | none => cases hi
  | some x => have := (ow_lt h x rfl).1
              have e : x.block = i := by simpa [Value.ownBlock] using hi
              exact .inr (by omega)

set_option maxHeartbeats 1000000 in
theorem bsplit_any (l : Txt) (w : World) (n : Nat) (hn : n = (spl l).length) (hmax : l.length ≤ 1000000) :
    Calls Tryz.prog 57 #[tx l, .int .u8 47] w (OutTexts w (spl l) n) := by
  obtain ⟨i0, hi, hz0, hz1, hz2⟩ := info_parts infoStr
  obtain ⟨m, hm⟩ : ∃ m, m = l.length := ⟨_, rfl⟩
  have hmm : m ≤ 1000000 := by omega
  obtain ⟨s, hs⟩ : ∃ s, s = ByteArray.mk l.toArray := ⟨_, rfl⟩
  have hsz : s.size = m := by rw [hs, hm, tx_size]
  have HX := Lib.hid (fun (k : Nat) (hk : k < m) => show ∃ x : UInt8, l[k]? = some x ∧ ∀ h, s[k]'h = x from ⟨l[k], by simp, fun h => by subst hs; rfl⟩)
  have HE := Lib.hid (fun (f k : Nat) => show s.extract f k = ByteArray.mk ((l.drop f).take (k - f)).toArray by rw [hs, ByteArray.extract_mk])
  have HN := Lib.hid hn
  have HL := Lib.hid hm
  unfold tx
  rw [← hs]
  clear hs hn hm hmax
  have HW := Lib.hid (World.ownsRow_made (e := 9) (size := 1) w #[] 0 (Nat.le_refl _) (by simp) (by simp))
  go_enter Tryz.func57, Tryz.ntmps57
  go_wp2
  go_loopw [5, 6, 7] (fun o f i wr => ∃ (k fr : Nat) (d : List Txt) (c : Txt) (dn : Nat) (ao : Option Addr) (cc : Nat), k ≤ m ∧ fr ≤ k ∧ dn ≤ k ∧ dn = d.length ∧ i = .int .i64 k ∧ f = .int .i64 fr ∧ o = .slice ao dn cc ∧ (l.drop fr).take (k - fr) = c ∧ spl l = spF d c (l.drop k) ∧ wr.ownsRow w.heap.size 9 1 (.slice ao dn cc) dn (txs d) ∧ Still w wr) (fun _ _ i _ => m - (intOf i).toNat)
  case atStart => exact ⟨0, 0, [], [], 0, _, 0, Nat.zero_le _, Nat.le_refl _, Nat.le_refl _, rfl, rfl, rfl, rfl, by simp, by rw [List.drop_zero]; rfl, HW.out, (Turned.refl _ _).alloc _⟩
  case round =>
    obtain ⟨k, fr, d, c, dn, ao, cc, hk, hfr, hdn, hdl, rfl, rfl, rfl, hc, hsp, hown, hst⟩ := hrel
    have HO := Lib.hid hown
    have HS := Lib.hid hst
    have HC := Lib.hid hc
    have HSP := Lib.hid hsp
    have HDL := Lib.hid hdl
    have hlo := hst.size
    clear hown hst hc hsp hdl
    by_cases hlt : k < m
    · obtain ⟨x, hx, hsx⟩ := HX.out k hlt
      have hsx' := hsx (by omega)
      have HXX := Lib.hid hx
      clear hx hsx HX
      by_cases h47 : x = 47
      · have hxv : (x.toNat : Int) = 47 := by rw [h47]; rfl
        have HT := Lib.hid (show Value.string (s.extract fr k) = tx c by rw [HE.out, HC.out]; rfl)
        clear h47
        go_wp2_with (at_builtin; refine wpList_append_own_at _ rfl _ _ 23 rfl w.heap.size 9 i0 (.string ⟨#[]⟩) 1 16 Tryz.underlying23 hi hz0 hz1 hz2 rfl (by decide) (.slice ao dn cc) dn (txs d) rfl (ow_still HO.out ((Turned.refl _ _).alloc _)) ⟨wr.heap.size, 0, none⟩ 1 1 [.string (s.extract fr k)] rfl rfl (ow_cells wr _ _) (by simp [Value.oneCell']) (by unfold maxLen; omega) (by omega) (by simp; omega) ?_; intro v6 w6 hown6 hg6 _ hat6; obtain ⟨a6, c6, rfl⟩ := ow_slice hown6; have HS6 := Lib.hid (ow_put HS.out HO.out hg6); have HO6 := Lib.hid hown6; clear hown6 hg6 hat6)
        go_roundw
        case rel =>
          refine ⟨k + 1, k + 1, d ++ [c], [], dn + 1, a6, c6, by omega, by omega, by omega, by simp [HDL.out], by go_num, by go_num, rfl, by simp, ?_, ?_, HS6.out⟩
          · rw [HSP.out, spF_step HXX.out, if_pos (UInt8.toNat_inj.1 (by have : (47 : UInt8).toNat = 47 := rfl; omega))]
          · have := HO6.out
            rw [HT.out] at this
            simpa [txs] using this
        case measure => simp [intOf]; omega
      · have hxv : ¬ (x.toNat : Int) = 47 := fun h => h47 (UInt8.toNat_inj.1 (by have : (47 : UInt8).toNat = 47 := rfl; omega))
        go_wp2_with fail
        go_roundw
        case rel =>
          refine ⟨k + 1, fr, d, c ++ [x], dn, ao, cc, by omega, by omega, by omega, HDL.out, by go_num, rfl, rfl, ?_, ?_, HO.out, HS.out⟩
          · rw [← HC.out, show k + 1 - fr = (k - fr) + 1 by omega, List.take_add_one, List.getElem?_drop, show fr + (k - fr) = k by omega, HXX.out]; rfl
          · rw [HSP.out, spF_step HXX.out, if_neg h47]
        case measure => simp [intOf]; omega
    · obtain rfl : k = m := by omega
      have HT := Lib.hid (show Value.string (s.extract fr k) = tx c by rw [HE.out, HC.out]; rfl)
      clear HX
      go_wp2_with (at_builtin; refine wpList_append_own_at _ rfl _ _ 23 rfl w.heap.size 9 i0 (.string ⟨#[]⟩) 1 16 Tryz.underlying23 hi hz0 hz1 hz2 rfl (by decide) (.slice ao dn cc) dn (txs d) rfl (ow_still HO.out ((Turned.refl _ _).alloc _)) ⟨wr.heap.size, 0, none⟩ 1 1 [.string (s.extract fr k)] rfl rfl (ow_cells wr _ _) (by simp [Value.oneCell']) (by unfold maxLen; omega) (by omega) (by simp; omega) ?_; intro v6 w6 hown6 hg6 _ hat6; obtain ⟨a6, c6, rfl⟩ := ow_slice hown6; have HS6 := Lib.hid (ow_put HS.out HO.out hg6); have HO6 := Lib.hid hown6; clear hown6 hg6 hat6)
      go_ret
      have e : spl l = d ++ [c] := by rw [HSP.out, List.drop_of_length_le (by rw [HL.out]; exact Nat.le_refl _)]; rfl
      have en : n = dn + 1 := by rw [HN.out, e, HDL.out]; simp
      refine ⟨a6, c6, by rw [en]; rfl, ?_, HS6.out⟩
      have := HO6.out
      rw [HT.out] at this
      rw [e, en]
      simpa [txs] using this

@[go_sem] theorem binOp_text_gtr (t : TypeId) (a b : ByteArray) : binOp .gtr t (.string a) (.string b) = pure (.bool !(Op.bytesLess a.toList b.toList || (a.toList == b.toList))) := by simp [binOp, Op.stringOp]

theorem sameT_any (a b : List Txt) (w : World) (ao bo : Option Addr) (n m ac bc : Nat) (hn : n = a.length) (hm : m = b.length) (hA : TextsAt w ao a) (hB : TextsAt w bo b) (hmax : n ≤ 1000000) (hmax2 : m ≤ 1000000) :
    Calls Tryz.prog 30 #[.slice ao n ac, .slice bo m bc] w fun e w' => e = .returned (.bool (decide (a = b))) ∧ Still w w' := by
  have HN := Lib.hid hn
  have HM := Lib.hid hm
  have HA := Lib.hid hA
  have HB := Lib.hid hB
  clear hA hB
  by_cases hnm : n = m
  · subst hnm
    clear hn hm
    obtain ⟨r, hr⟩ : ∃ r, r = decide (a = b) := ⟨_, rfl⟩
    rw [← hr]
    have HR := Lib.hid hr
    clear hr
    go_enter Tryz.func30, Tryz.ntmps30
    go_wp2_with fail
    go_loopw [5] (fun i wr => ∃ k : Nat, k ≤ n ∧ i = .int .i64 k ∧ a.take k = b.take k ∧ Still w wr) (fun i _ => n - (intOf i).toNat)
    case atStart => exact ⟨0, Nat.zero_le _, rfl, by simp, Turned.refl _ _⟩
    case round =>
      obtain ⟨k, hk, rfl, htk, hst⟩ := hrel
      have HTk := Lib.hid htk
      have HS := Lib.hid hst
      clear htk
      by_cases hlt : k < n
      · obtain ⟨x, hx⟩ := get_some (l := a) (i := k) (by rw [← HN.out]; exact hlt)
        obtain ⟨y, hy⟩ := get_some (l := b) (i := k) (by rw [← HM.out]; exact hlt)
        obtain ⟨g, o, rfl, hcx⟩ := (HA.out.still hst) k x hx
        obtain ⟨g', o', rfl, hcy⟩ := (HB.out.still hst) k y hy
        have HX := Lib.hid hx
        have HY := Lib.hid hy
        unfold tx at hcx hcy
        clear hx hy hst
        by_cases hxy : x = y
        · have HE := Lib.hid (show a.take (k + 1) = b.take (k + 1) by rw [List.take_add_one, List.take_add_one, HTk.out, HX.out, HY.out, hxy])
          subst hxy
          go_wp2_with fail
          go_quiet (fail)
          go_wp2_with fail
          go_roundw
          case rel => exact ⟨k + 1, by omega, by go_num, HE.out, HS.out.drewN _⟩
          case measure => simp [intOf]; omega
        · have hne : decide (a = b) = false := decide_eq_false (fun h => hxy (by rw [h, HY.out] at HX; exact (Option.some.inj HX.out).symm))
          have HNE := Lib.hid (HR.out.trans hne)
          have hb : (x == y) = false := by simpa using hxy
          clear hne hxy
          go_wp2_with fail
          go_quiet (fail)
          go_wp2_with fail
          go_ret
          exact ⟨by rw [HNE.out]; rfl, HS.out.drewN _⟩
      · obtain rfl : k = n := by omega
        have e : a = b := by
          have := HTk.out
          rwa [List.take_of_length_le (by rw [← HN.out]; exact Nat.le_refl _), List.take_of_length_le (by rw [← HM.out]; exact Nat.le_refl _)] at this
        have HNE := Lib.hid (HR.out.trans (decide_eq_true e))
        clear e hst
        go_wp2_with fail
        go_ret
        exact ⟨by rw [HNE.out]; rfl, HS.out⟩
  · have hne : decide (a = b) = false := decide_eq_false (fun h => hnm (by rw [hn, hm, h]))
    rw [hne]
    have h1 : ¬ (n : Int) = (m : Int) := by omega
    clear hne hn hm
    go_enter Tryz.func30, Tryz.ntmps30
    go_wp2_with fail
    go_ret
    exact ⟨rfl, Turned.refl _ _⟩

theorem beq_dec (x y : Txt) : (x == y) = decide (x = y) := by
  by_cases h : x = y
  · subst h; simp
  · rw [decide_eq_false h]; simpa using h

theorem begins_any (x y : Txt) (w : World) (hx : x.length ≤ 1000000) (hy : y.length ≤ 1000000) :
    Calls Tryz.prog 72 #[tx x, tx y] w fun e w' => e = .returned (.bool (decide (x.take y.length = y))) ∧ w' = w := by
  unfold tx
  by_cases hle : y.length ≤ x.length
  · have h1 : (y.length : Int) ≤ (x.length : Int) := by omega
    go_enter Tryz.func72, Tryz.ntmps72
    go_wp2_with fail
    go_ret
    refine ⟨?_, rfl⟩
    show Ending.returned (Value.bool (((ByteArray.mk x.toArray).extract 0 y.length).toList == y)) = _
    rw [ByteArray.extract_mk, ByteArray.toList_mk, List.drop_zero, Nat.sub_zero, beq_dec]
  · have hne : decide (x.take y.length = y) = false := decide_eq_false (fun h => by have := congrArg List.length h; rw [List.length_take] at this; omega)
    rw [hne]
    go_enter Tryz.func72, Tryz.ntmps72
    go_wp2_with fail
    go_ret
    exact ⟨rfl, rfl⟩
end Go.Proofs.YtpmkokckjieidaaGreatDoor
