/- What the document's routes do. No condition but that there are no more keys, and none longer, than the statements make. -/
import Derived.Test.YtdblhflebaffcaaRowsOwn
import Derived.Test.YtdblhflebaffcaaHashRef
import Derived.Deep.RegionHeld3
import Derived.Deep.DeepCutAuto
import Derived.BigQuiet
namespace Go.Proofs.Ytdblhflebaffcaa
open Go.RowKit
set_option linter.unusedVariables false
set_option linter.unusedSimpArgs false
set_option maxRecDepth 100000

theorem zrtof_any (n : Int) (l : List UInt8) (w : World) (ao : Option Addr) (m cap : Nat) (hm : m = l.length) (hA : BytesAt w ao l) (hmax : m ≤ 1000000) :
    Calls Try.prog 16 #[.int .i64 n, .slice ao m cap] w fun e w' => e = .returned (.tuple #[.int .i64 (rtP n l), .int .i64 (rtE n l)]) ∧ Still w w' := by
  by_cases hn : n < 1 ∨ 8 < n
  · have e1 : rtE n l = 2 := if_pos hn
    have e2 : rtP n l = 0 := if_neg (by omega)
    rw [e1, e2]
    clear hA
    rcases hn with hn | hn
    · go_enter Try.func16, Try.ntmps16
      go_wp2_with fail
      go_ret2
      exact ⟨rfl, Turned.refl _ _⟩
    · have hn1 : ¬ n < 1 := by omega
      go_enter Try.func16, Try.ntmps16
      go_wp2_with fail
      go_ret2
      exact ⟨rfl, Turned.refl _ _⟩
  · have hn1 : ¬ n < 1 := by omega
    have hn2 : ¬ 8 < n := by omega
    by_cases h64 : 64 < m
    · have e1 : rtE n l = 3 := by unfold rtE; rw [if_neg hn, if_pos (by omega)]
      have e2 : rtP n l = 0 := if_neg (by omega)
      rw [e1, e2]
      have h64' : (64 : Int) < (m : Int) := by omega
      clear hA hm
      go_enter Try.func16, Try.ntmps16
      go_wp2_with fail
      go_ret2
      exact ⟨rfl, Turned.refl _ _⟩
    · have e1 : rtE n l = 0 := rtE_zero.2 ⟨by omega, by omega, by omega⟩
      have e2 : rtP n l = partOf n l := if_pos e1
      have h64' : ¬ (64 : Int) < (m : Int) := by omega
      have H := Lib.hid (refPart_any n w ao l cap (by omega) hA (by omega))
      rw [← hm] at H
      have HV := Lib.hid (show partV n l = .tuple #[.int .i64 (partOf n l), .int .i64 0] by simp [partV, partErr, hn1])
      rw [HV.out] at H
      rw [e1, e2]
      clear e1 e2 HV hA hm
      generalize partOf n l = q at *
      go_enter Try.func16, Try.ntmps16
      go_wp2_with (go_at_call 26; ((with_reducible refine H.out.mono ?_)); rintro e w5 ⟨rfl, k, rfl⟩)
      go_ret2
      exact ⟨rfl, (Turned.refl _ _).drewN _⟩

/-- Rows that a call hands out, beside an error. -/
def OutR (w : World) (L : List (List Int)) (er : Int) (e : Ending) (w' : World) : Prop := ∃ a n c rs, e = .returned (.tuple #[.slice a n c, .int .i64 er]) ∧ n = rs.length ∧ rs.map (·.xs) = L ∧ RwsAt w' a rs ∧ SlW a n c ∧ Still w w'

theorem infoIntsR : (Try.prog.info? 33).map (fun i => (i.zero, i.size, i.bytes)) = some (some (.slice none 0 0), 1, 24) := by kernel_rfl

theorem stE_take {n : Int} {K : List (List UInt8)} {i : Nat} {k : List UInt8} (hn : 1 ≤ n) (hn2 : n ≤ 8) (hk : K[i]? = some k) (h64 : 64 < k.length) : stE n K = 3 := by
  rcases stE_or n K with h | h | h
  · have := (stE_zero.1 h).2.2.2 k (List.mem_of_getElem? hk); omega
  · unfold stE at h
    rw [if_neg (by omega)] at h
    split at h <;> omega
  · exact h

set_option maxHeartbeats 4000000 in
theorem zrtsort_any (n : Int) (ks : List (Sl UInt8)) (w : World) (ao : Option Addr) (m cap : Nat) (hm : m = ks.length) (hK : KysAt w ao ks) (hmax : m ≤ 100000) (hs : ∀ k ∈ ks, k.xs.length ≤ 100000) :
    Calls Try.prog 9 #[.int .i64 n, .slice ao m cap] w (OutR w (sortL n (kxs ks)) (stE n (kxs ks))) := by
  have hml : (kxs ks).length = m := by rw [List.length_map]; exact hm.symm
  have HNo := Lib.hid (fun (er : Int) (h : stE n (kxs ks) = er) (h0 : er ≠ 0) (V : World) (hV : Still w V) => show OutR w (sortL n (kxs ks)) (stE n (kxs ks)) (.returned (.tuple #[.slice none 0 0, .int .i64 er])) V from
    ⟨none, 0, 0, [], by rw [h], rfl, by unfold sortL; rw [if_neg (by omega)]; rfl, ⟨fun i r hr => by simp at hr, fun r hr => by cases hr⟩, ⟨Nat.le_refl _, by unfold maxLen; omega, fun _ => ⟨rfl, rfl⟩⟩, hV⟩)
  by_cases hn : n < 1 ∨ 8 < n
  · have HE := Lib.hid (HNo.out 2 (if_pos hn) (by omega) w (Turned.refl _ _))
    clear hK hs HNo
    rcases hn with hn | hn
    · go_enter Try.func9, Try.ntmps9
      go_wp2_with fail
      go_ret2
      exact HE.out
    · have hn1 : ¬ n < 1 := by omega
      go_enter Try.func9, Try.ntmps9
      go_wp2_with fail
      go_ret2
      exact HE.out
  · have hn1 : ¬ n < 1 := by omega
    have hn2 : ¬ 8 < n := by omega
    by_cases h256 : 256 < m
    · have HE := Lib.hid (HNo.out 3 (by unfold stE; rw [if_neg hn, if_pos (.inl (by omega))]) (by omega) w (Turned.refl _ _))
      have h256' : (256 : Int) < (m : Int) := by omega
      clear hK hs HNo hml hm
      go_enter Try.func9, Try.ntmps9
      go_wp2_with fail
      go_ret2
      exact HE.out
    · have h256' : ¬ (256 : Int) < (m : Int) := by omega
      obtain ⟨p, rfl⟩ : ∃ p : Nat, n = (p : Int) := ⟨n.toNat, by omega⟩
      have hp1 : 1 ≤ p := by omega
      have hp8 : p ≤ 8 := by omega
      obtain ⟨i0, hi, hz0, hz1, hz2⟩ := info_parts infoIntsR
      obtain ⟨j0, ji, jz0, jz1, jz2⟩ := info_parts infoIntW
      have hmk := fun W : World => run_make (P := Try.prog) W 24 33 i0 _ Try.underlying24 hi hz0 .i64 .i64 (p : Int) (p : Int) (Int.natCast_nonneg p) (Int.le_refl _) (by rw [hz2]; omega) (by omega)
      simp only [hz1, Int.toNat_natCast, Nat.mul_one, show Value.cells (.slice none 0 0) = #[.slice none 0 0] from rfl, made_nil] at hmk
      have HLong := Lib.hid (fun i k (h : ks[i]? = some k) (h64 : 64 < k.xs.length) => HNo.out 3 (stE_take (k := k.xs) (i := i) (by omega) (by omega) (by rw [List.getElem?_map, h]; rfl) h64) (by omega))
      have HOk := Lib.hid (fun (h : ∀ k ∈ kxs ks, k.length ≤ 64) => show stE (p : Int) (kxs ks) = 0 ∧ sortL (p : Int) (kxs ks) = srL p (kxs ks) from by
        have h0 : stE (p : Int) (kxs ks) = 0 := stE_zero.2 ⟨by omega, by omega, by omega, h⟩
        exact ⟨h0, by unfold sortL; rw [if_pos h0, Int.toNat_natCast]⟩)
      have HK := Lib.hid hK
      have HS := Lib.hid hs
      have HM := Lib.hid hm
      have HMl := Lib.hid hml
      clear hK hs hm hml HNo hn
      go_enter Try.func9, Try.ntmps9
      go_wp2_with fail
      have hst0 : Still w (w.alloc (.cells (nilsV p).toArray 33)) := (Turned.refl _ _).alloc _
      have HR0 := Lib.hid (RsOwn.made w p)
      obtain ⟨g, hg⟩ : ∃ g, g = w.heap.size := ⟨_, rfl⟩
      obtain ⟨W0, hW0⟩ : ∃ W0, W0 = w.alloc (.cells (nilsV p).toArray 33) := ⟨_, rfl⟩
      rw [← hW0] at HR0 hst0 ⊢
      rw [← hg] at HR0 ⊢
      have HG := Lib.hid hg
      clear hmk hg hW0 hz0 hz1 hz2 hi
      go_loopw [7] (fun i wr => ∃ (k : Nat) (rs : List (Sl Int)), k ≤ m ∧ i = .int .i64 k ∧ RsOwn g wr g rs ∧ rs.map (·.xs) = srL p ((kxs ks).take k) ∧ (∀ x ∈ (kxs ks).take k, x.length ≤ 64) ∧ Still w wr) (fun i _ => m - (intOf i).toNat)
      case atStart => exact ⟨0, _, Nat.zero_le _, rfl, HR0.out, by rw [List.take_zero, srL_nil, List.map_replicate], by simp, hst0⟩
      case round =>
        clear hst0 HR0
        obtain ⟨k, rs, hk, rfl, hrs, hmap, h64a, hst⟩ := hrel
        have HRs := Lib.hid hrs
        have HMap := Lib.hid hmap
        have H64 := Lib.hid h64a
        have HSt := Lib.hid hst
        clear hrs hmap h64a
        by_cases hlt : k < m
        · obtain ⟨y, hy⟩ := get_some (l := ks) (i := k) (by rw [← HM.out]; exact hlt)
          obtain ⟨b, o, rfl, hc, hyb, hyw, hyl⟩ := (HK.out.still hst).get hy
          have hyx := HS.out y (List.mem_of_getElem? hy)
          have hkx : (kxs ks)[k]? = some y.xs := by rw [List.getElem?_map, hy]; rfl
          obtain ⟨ya, yl, yc, yx⟩ := y
          dsimp only at hc hyb hyw hyl hyx hkx
          have HOf := Lib.hid (fun V (h : Still wr V) => zrtof_any (p : Int) yx V ya yl yc hyl (hyb.still h) (by omega))
          by_cases h64 : 64 < yx.length
          · have HE := Lib.hid (fun V (hV : Still w V) => HLong.out k ⟨ya, yl, yc, yx⟩ hy h64 V hV)
            have e1 : rtE (p : Int) yx = 3 := by unfold rtE; rw [if_neg (by omega), if_pos h64]
            have e2 : rtP (p : Int) yx = 0 := if_neg (by omega)
            rw [e1, e2] at HOf
            clear hyb hyw hyl hyx hkx e1 e2 hy HLong HOk
            go_wp2_with (go_at_call 16; ((with_reducible refine (HOf.out _ (Turned.refl _ _)).mono ?_)); rintro e w5 ⟨rfl, hT5⟩)
            go_ret2
            exact HE.out _ (HSt.out.trans hT5)
          · have e1 : rtE (p : Int) yx = 0 := rtE_zero.2 ⟨by omega, by omega, by omega⟩
            have e2 : rtP (p : Int) yx = ((pt p yx : Nat) : Int) := by unfold rtP; rw [if_pos e1]; unfold partOf pt; rw [if_neg (by omega), Int.toNat_natCast]
            have hqp : pt p yx < p := Nat.mod_lt _ (by omega)
            rw [e1, e2] at HOf
            have HStep := Lib.hid (srL_step hkx (show 0 < p by omega))
            have H64' := Lib.hid (show ∀ x ∈ (kxs ks).take (k + 1), x.length ≤ 64 by
              intro x hx
              rw [List.take_add_one, hkx] at hx
              rcases List.mem_append.1 hx with hx | hx
              · exact H64.out x hx
              · simp at hx; subst hx; omega)
            have hrl : rs.length = p := by have := congrArg List.length HMap.out; rwa [List.length_map, srL_length] at this
            obtain ⟨q, hq⟩ : ∃ q, q = pt p yx := ⟨_, rfl⟩
            rw [← hq] at HOf HStep hqp
            obtain ⟨r, hr⟩ := get_some (l := rs) (i := q) (by omega)
            have hrx : r.xs = plG p q 0 ((kxs ks).take k) := by
              have h1 := srL_get (K := (kxs ks).take k) hqp
              rw [← HMap.out, List.getElem?_map, hr] at h1
              exact Option.some.inj h1
            have HRx := Lib.hid hrx
            have HCell := Lib.hid (fun V (h : RsOwn g V g rs) => show V.cell? ⟨g, q, none⟩ = some (.slice r.a r.len r.cap) ∧ V.frozen? ⟨g, q, none⟩ = false from ⟨h.cell hr, h.hd.free _⟩)
            obtain ⟨o1, o2, o3⟩ := HRs.out.own q r hr
            have hr257 : r.len ≤ 256 := by
              rw [o2, hrx]
              have h1 : (plG p q 0 ((kxs ks).take k)).length ≤ ((kxs ks).take k).length := plG_len _ _ _ _
              rw [List.length_take] at h1
              omega
            have HO := Lib.hid (fun V (h : Still wr V) => ow_still o1 h)
            have HSt2 := Lib.hid (fun V (h : RsOwn g V g rs) (w1 : World) (o : Obj) (a' : Option Addr) (n' c' : Nat) (hg : (V.alloc o).grownBy w1 (Value.slice r.a r.len r.cap).ownBlock) (hown : w1.ownsRow g 3 1 (.slice a' n' c') n' (ints (r.xs ++ [(k : Int)]))) (hn : n' = r.len + 1) (hat : (Value.slice a' n' c').ownBlock = (Value.slice r.a r.len r.cap).ownBlock ∨ (Value.slice a' n' c').ownBlock = some (V.alloc o).heap.size) => h.step hr (x := (k : Int)) hg hown hn hat)
            have HCl := Lib.hid (fun V (h : Still wr V) => show RsOwn g V g rs from HRs.out.still h)
            have HGr := Lib.hid (fun (V w1 : World) (o : Obj) (h : RsOwn g V g rs) (hg : (V.alloc o).grownBy w1 (Value.slice r.a r.len r.cap).ownBlock) => show w1.cell? ⟨g, q, none⟩ = some (.slice r.a r.len r.cap) ∧ w1.frozen? ⟨g, q, none⟩ = false from by
              have hb : Blk w1 g (rs.map slv) 33 := (h.hd.alloc o).of_eq (hg.block g (by have := h.hd.lt; simp; omega) (fun e => by
                cases hra : r.a with
                | none => rw [hra] at e; cases e
                | some z => rw [hra] at e; exact o3 z hra (by simpa [Value.ownBlock] using e.symm)))
              exact ⟨hb.cell (by rw [List.getElem?_map, hr]; rfl), hb.free _⟩)
            obtain ⟨ra, rl, rc, rx⟩ := r
            dsimp only at *
            have hqi : (q : Int) < (p : Int) := by omega
            have HR2 := Lib.hid hr
            have HKx := Lib.hid hkx
            clear hyb hyw hyl hyx hkx e1 e2 hy HLong HOk hq hr hrx o1 o2 o3 hrl h64 HK HS
            go_wp2_with (first
              | (go_at_call 16; ((with_reducible refine (HOf.out _ (Turned.refl _ _)).mono ?_)); rintro e w5 ⟨rfl, hT5⟩; have HC5 := Lib.hid (HCl.out _ hT5); obtain ⟨f1, f2⟩ := HCell.out _ HC5.out; have HT5 := Lib.hid (HSt.out.trans hT5))
              | (at_builtin; refine wpList_append_own_at _ rfl (.tmp 44) (.tmp 46) 33 rfl g 3 j0 (.int .i64 0) 1 8 Try.underlying33 ji jz0 jz1 jz2 rfl (by decide) (.slice ra rl rc) rl (ints rx) rfl (ow_still (HO.out _ hT5) ((Turned.refl _ _).alloc _)) ⟨w5.heap.size, 0, none⟩ 1 1 [.int .i64 (k : Int)] rfl rfl (ow_cells w5 _ _) (ow_ints rfl) (by unfold maxLen; omega) (by omega) (by have := HG.out; have := HT5.out.size; simp; omega) ?_; intro v6 w6 hown6 hg6 _ hat6; obtain ⟨a6, c6, rfl⟩ := ow_slice hown6; obtain ⟨f3, f4⟩ := HGr.out _ _ _ HC5.out hg6; have HS6 := Lib.hid (HSt2.out _ HC5.out _ _ _ _ _ hg6 (by simpa [ints] using hown6) rfl hat6); clear hown6 hg6 hat6))
            go_roundw
            case rel =>
              refine ⟨k + 1, _, by omega, by go_num, HS6.out.1, ?_, H64'.out, HS6.out.2 w HT5.out (by rw [HG.out]; exact Nat.le_refl _)⟩
              rw [List.map_set, HMap.out, HStep.out]
              simp only
              rw [HRx.out]
            case measure => simp [intOf]; omega
        · obtain rfl : k = m := by omega
          have hall : (kxs ks).take k = kxs ks := List.take_of_length_le (by rw [HMl.out]; exact Nat.le_refl _)
          have h1 := H64.out
          rw [hall] at h1
          obtain ⟨e1, e2⟩ := HOk.out h1
          have hrl : rs.length = p := by have := congrArg List.length HMap.out; rwa [List.length_map, srL_length] at this
          have HEnd := Lib.hid (show OutR w (sortL (p : Int) (kxs ks)) (stE (p : Int) (kxs ks)) (.returned (.tuple #[.slice (some ⟨g, 0, none⟩) p p, .int .i64 0])) wr from
            ⟨some ⟨g, 0, none⟩, p, p, rs, by rw [e1], hrl.symm, by rw [e2, HMap.out, hall], HRs.out.rws, ⟨Nat.le_refl _, by unfold maxLen; omega, fun h => by cases h⟩, HSt.out⟩)
          clear hall h1 e1 e2 hrl hst HLong HOk HK HS
          go_wp2_with fail
          go_ret2
          exact HEnd.out
end Go.Proofs.Ytdblhflebaffcaa
