/- Texts that lie next to one another, laid into one: each says what it holds. No condition but what each states. -/
import Derived.Test.YtmmkcfiecgpkpaaGreatBxTpSameP
import Derived.Deep.RegionHeld3
import Derived.Deep.DeepCutAuto
import Derived.Deep.CutBlock
import Derived.BigQuiet

/- What the statements' own 'same' answers of two sets that are alike. No condition but that the program's sets, partitions and pool keep their words. -/
namespace Go.Proofs.YtmmkcfiecgpkpaaGreat
open Go.RowKit
set_option linter.unusedVariables false
set_option linter.unusedSimpArgs false
set_option maxRecDepth 100000

/-- The numbers below one. -/
def iotN (k : Nat) : List Int := (List.range k).map (fun i : Nat => (i : Int))
theorem iotN_len (k : Nat) : (iotN k).length = k := by simp [iotN]
theorem iotN_step (k : Nat) : iotN (k + 1) = iotN k ++ [(k : Int)] := by unfold iotN; rw [List.range_succ, List.map_append]; rfl
theorem plcs_some {T : List TpM} {l : List Int} {j : Nat} {x : Int × Int} (hT : T.length ≤ 16) (h8 : ∀ t ∈ T, t.ps.length ≤ 8) (h : (plcs T l)[j]? = some x) : ∃ (ti pi : Nat) (M : RM), x = ((ti : Int), (pi : Int)) ∧ prt T ti pi = some M ∧ ti < 16 ∧ pi < 8 := by
  have hm := List.mem_of_getElem? h
  unfold plcs at hm
  obtain ⟨t, _, ht⟩ := List.mem_flatMap.1 hm
  unfold plcOf at ht
  split at ht
  · rename_i h0
    obtain ⟨p, hp, rfl⟩ := List.mem_map.1 ht
    have hp' := List.mem_range.1 hp
    unfold nps at hp'
    cases hx : T[t.toNat]? with
    | none => rw [hx] at hp'; simp at hp'
    | some y =>
      rw [hx] at hp'
      have hp2 : p < y.ps.length := by simpa using hp'
      have hlt := (List.getElem?_eq_some_iff.1 hx).1
      have h88 := h8 y (List.mem_of_getElem? hx)
      refine ⟨t.toNat, p, y.ps[p], by rw [show ((t.toNat : Nat) : Int) = t by omega], ?_, by omega, by omega⟩
      unfold prt
      rw [hx, Option.bind_some, List.getElem?_eq_getElem hp2]
  · cases ht
theorem plcV_len (x : Int × Int) : (plcV x).length = 2 := rfl

set_option maxHeartbeats 8000000 in
theorem same13_any {HT : Nat → Nat → List Txt → List (List Nat) → Thing} {ws : World} {s q z zq : Nat} {za : Option Addr} {zc : Nat} {T : List TpM} {fr : List Nat} (H : SameS HT ws s q z zq za zc T fr) :
    Calls Tryz.prog 26 #[.pointer (some ⟨s, 0, none⟩), .pointer (some ⟨z, 0, none⟩)] ws fun e w' => e = .returned (.bool true) ∧ Still ws w' := by
  have HH := Lib.hid H
  have HSI := Lib.hid (fun V ao bo l n m ca cb hn hm hl hA hB => sameI_yes13 V ao bo l n m ca cb hn hm hl hA hB)
  obtain ⟨i0, hi, hz0, hz1, hz2⟩ := info_parts infoIntW
  have h16 := H.len
  obtain ⟨fa, fc, hfc⟩ := H.fcell
  have HF := Lib.hid hfc
  obtain ⟨fl, hfl⟩ : ∃ fl, fl = fr.length := ⟨_, rfl⟩
  have HFl := Lib.hid hfl
  have hfl128 : fl ≤ 128 := by rw [hfl]; exact H.frl
  obtain ⟨nT, hnT⟩ : ∃ nT, nT = T.length := ⟨_, rfl⟩
  have HNT := Lib.hid hnT
  have C1 := Lib.hid (fun V (h : Still ws V) => by have := H.topics V h; rw [← hnT] at this; exact this)
  have C2 := Lib.hid (fun V (h : Still ws V) => H.pool V h)
  have C3 := Lib.hid (fun V (h : Still ws V) => by have := H.free V h; rw [← hfl] at this; exact this)
  have CC := Lib.hid (fun V (h : Still ws V) => show V.cell? ⟨z, 0, none⟩ = some (.pointer (some ⟨zq, 0, none⟩)) ∧ V.cell? ⟨z, 1, none⟩ = some (.slice za nT zc) ∧ V.cell? ⟨zq, 3, none⟩ = some (.slice (some fa) fl fc) from by
    rw [hfl, hnT]; exact ⟨(H.cells V h).1, (H.cells V h).2, (hfc V h).1⟩)
  have hn16 : nT ≤ 16 := by omega
  have HE : Hid (ws.ownsRow ws.heap.size 3 1 (.slice none 0 0) 0 (ints [])) := Lib.hid (World.ownsRow_nil _ _ _ _)
  have HSt0 := Lib.hid ((Turned.refl (fun _ => False) ws).drew)
  obtain ⟨k1, k2, k3⟩ := CC.out _ HSt0.out
  clear hfl hfc h16 H hnT HE
  go_enter Tryz.func26, Tryz.ntmps26
  go_wp2_with fail
  have hUd : Still ws ws.drew := HSt0.out
  go_region_held3 (fun Z => Z.cell? ⟨z, 0, none⟩ = some (.pointer (some ⟨zq, 0, none⟩)) ∧ Z.cell? ⟨z, 1, none⟩ = some (.slice za nT zc) ∧ Z.cell? ⟨zq, 3, none⟩ = some (.slice (some fa) fl fc)) (first | exact ⟨by assumption, by assumption, by assumption⟩ | go_keep) (first
    | (go_at_call 33; ((with_reducible refine (C1.out _ (by assumption)).mono ?_)); rintro e w5 ⟨rfl, hT5⟩; have hU5 : Still ws w5 := Turned.trans (by assumption) hT5; obtain ⟨k51, k52, k53⟩ := CC.out _ hU5; clear hT5)
    | (go_at_call 35; ((with_reducible refine (C2.out _ (by assumption)).mono ?_)); rintro e w6 ⟨rfl, hT6⟩; have hU6 : Still ws w6 := Turned.trans (by assumption) hT6; obtain ⟨k61, k62, k63⟩ := CC.out _ hU6; clear hT6)
    | (go_at_call 56; ((with_reducible refine (C3.out _ (by assumption)).mono ?_)); rintro e w7 ⟨a7, c7, rfl, hN7, hT7⟩; have HN7 := Lib.hid hN7; have hU7 : Still ws w7 := Turned.trans (by assumption) hT7; obtain ⟨k71, k72, k73⟩ := CC.out _ hU7; clear hT7 hN7)
    | (go_at_call 55; ((with_reducible refine (HSI.out _ _ _ (nums fr) fl fl _ _ (by rw [nums_length]; exact HFl.out) (by rw [nums_length]; exact HFl.out) (by rw [nums_length, ← HFl.out]; omega) (HN7.out _ (Turned.refl _ _)) (HF.out _ hU7).2).mono ?_)); rintro e w8 ⟨rfl, hT8⟩; have hU8 : Still ws w8 := Turned.trans (by assumption) hT8; obtain ⟨k81, k82, k83⟩ := CC.out _ hU8; clear hT8))
  all_goals (
    go_wp2_with fail
    have H0 := Lib.hid (show (w8.alloc (.cells #[] 3)).ownsRow ws.heap.size 3 1 (.slice (some ⟨w8.heap.size, 0, none⟩) 0 0) 0 (ints (iotN 0)) ∧ Still ws (w8.alloc (.cells #[] 3)) from
      ⟨ow_base (World.ownsRow_made (e := 3) (size := 1) w8 #[] 0 (Nat.le_refl _) (by simp) (by simp [iotN, ints])) hU8.size, hU8.alloc _⟩)
    clear hUd hU5 hU6 hU7 hU8 k51 k52 k53 k61 k62 k63 k71 k72 k73 k81 k82 k83 k1 k2 k3
    go_loopw [6, 5] (fun i o wr => ∃ (k : Nat) (ao : Option Addr) (c : Nat), k ≤ nT ∧ i = .int .i64 k ∧ o = .slice ao k c ∧ wr.ownsRow ws.heap.size 3 1 (.slice ao k c) k (ints (iotN k)) ∧ Still ws wr) (fun i _ _ => nT - (intOf i).toNat)
    case atStart => exact ⟨0, _, 0, Nat.zero_le _, rfl, rfl, H0.out.1, H0.out.2⟩
    case round =>
      clear H0
      obtain ⟨k, ao, c, hk, rfl, rfl, hrow, hst⟩ := hrel
      have HRow := Lib.hid hrow
      have HSt := Lib.hid hst
      obtain ⟨k1, k2, k3⟩ := CC.out wr hst
      have hszw := hst.size
      clear hrow hst
      by_cases hlt : k < nT
      · have hki : (k : Int) < (nT : Int) := by omega
        obtain ⟨t, ht⟩ := get_some (l := T) (i := k) (by rw [← HNT.out]; exact hlt)
        have CN := Lib.hid (fun V (h : Still ws V) => HH.out.name V h k t ht)
        have CZ := Lib.hid (fun V (h : Still ws V) => HH.out.zname V h k t ht)
        obtain ⟨nm, hnm⟩ : ∃ nm, nm = t.nm := ⟨_, rfl⟩
        rw [← hnm] at CN CZ
        obtain ⟨g, rfl, _⟩ := CZ.out wr HSt.out
        have CZ2 := Lib.hid (fun V (h : Still ws V) => show V.cell? ⟨g, k * 2, none⟩ = some (tx nm) ∧ V.cell? ⟨z, 1, none⟩ = some (.slice (some ⟨g, 0, none⟩) nT zc) from by
          obtain ⟨g', e, h1⟩ := CZ.out V h
          obtain rfl : g = g' := by cases e; rfl
          exact ⟨h1, (CC.out V h).2.1⟩)
        unfold tx at CN CZ2
        clear ht hnm CZ
        go_wp2_with (at_builtin; refine wpList_append_own_at _ rfl _ _ 23 rfl ws.heap.size 3 i0 (.int .i64 0) 1 8 Tryz.underlying23 hi hz0 hz1 hz2 rfl (by decide) _ _ _ rfl (HRow.out.alloc _) ⟨wr.heap.size, 0, none⟩ 1 1 [.int .i64 (k : Nat)] rfl rfl (ow_cells wr [.int .i64 (k : Nat)] 3) (ow_ints rfl) (by unfold maxLen; omega) (by omega) (by first | (simp; done) | (simp; omega)) ?_; intro v6 w6 hown6 hg6 _ hat6; obtain ⟨a6, c6, rfl⟩ := ow_slice hown6; have H6 := Lib.hid (show w6.ownsRow ws.heap.size 3 1 (.slice a6 (k + 1) c6) (k + 1) (ints (iotN (k + 1))) ∧ Still ws w6 from ⟨by rw [iotN_step]; simpa [ints] using hown6, zow_past HSt.out HRow.out (((Turned.refl _ _).alloc _).grown hg6 (fun k hk => .inl hk))⟩); clear hown6 hg6 hat6)
        have hUd : Still ws w6.drew := H6.out.2.drew
        obtain ⟨y1, y2⟩ := CZ2.out _ hUd
        clear k1 k2 k3
        go_region_held3 (fun Z => Z.cell? ⟨g, k * 2, none⟩ = some (.string ⟨nm.toArray⟩) ∧ Z.cell? ⟨z, 1, none⟩ = some (.slice (some ⟨g, 0, none⟩) nT zc)) (first | exact ⟨by assumption, by assumption⟩ | go_keep) (first | (go_at_call 30; ((with_reducible refine (CN.out _ (by assumption)).mono ?_)); rintro e w7 ⟨rfl, hT7⟩; have hU7 : Still ws w7 := Turned.trans (by assumption) hT7; have hT67 : Still w6 w7 := (Turned.refl _ w6).drew.trans hT7; obtain ⟨y71, y72⟩ := CZ2.out _ hU7; clear hT7))
        all_goals (
          go_wp2_with fail
          go_roundw
          case rel => exact ⟨k + 1, a6, c6, by omega, by go_num, rfl, ow_still H6.out.1 hT67, hU7⟩
          case measure => simp [intOf]; omega)
      · obtain rfl : k = nT := by omega
        obtain ⟨l, hl⟩ : ∃ l, l = iotN k := ⟨_, rfl⟩
        have hll : k = l.length := by rw [hl, iotN_len]
        obtain ⟨n, hn⟩ : ∃ n, n = (plcs T l).length := ⟨_, rfl⟩
        have hn128 : n ≤ 128 := by
          have := zplcs_le (fun t ht => (HH.out.nps t ht).2) l
          omega
        have HNum := Lib.hid (show NumsAt wr ao l from by have := HRow.out; rw [← hl] at this; exact NumsAt.of_own this hll)
        have HSl := Lib.hid (show SlW ao k c from SlW.of_own HRow.out)
        have CP := Lib.hid (HH.out.places wr HSt.out ao l k c n hll HNum.out HSl.out (by omega) hn)
        have CQ := Lib.hid (fun V (h : Still wr V) => HH.out.zplaces V (HSt.out.trans h) ao l k c n hll (HNum.out.still h) (by omega) hn)
        have HGet := Lib.hid (fun (j : Nat) (hj : j < n) => show ∃ (ti pi : Nat) (M : RM), (plcs T l)[j]? = some (((ti : Nat) : Int), ((pi : Nat) : Int)) ∧ prt T ti pi = some M ∧ ti < 16 ∧ pi < 8 from by
          obtain ⟨x, hx⟩ := get_some (l := plcs T l) (i := j) (by omega)
          obtain ⟨ti, pi, M, rfl, h1, h2, h3⟩ := plcs_some HH.out.len (fun t ht => (HH.out.nps t ht).2) hx
          exact ⟨ti, pi, M, hx, h1, h2, h3⟩)
        have HNn := Lib.hid hn
        unfold OutPl at CP CQ
        clear hlt hl hn hll
        go_wp2_with (first
          | (go_at_call 27; ((with_reducible refine CP.out.mono ?_)); rintro e w5 ⟨a5, c5, rfl, ho5, hT5⟩; have HO5 := Lib.hid ho5; have HT5 := Lib.hid hT5; clear ho5 hT5)
          | (go_at_call 29; ((with_reducible refine (CQ.out _ HT5.out).mono ?_)); rintro e w6 ⟨b6, d6, rfl, ho6, hT6⟩; have HO6 := Lib.hid ho6; have HT6 := Lib.hid hT6; clear ho6 hT6))
        have HU6 := Lib.hid (show Still ws w6 from HSt.out.trans (HT5.out.trans HT6.out))
        have HCl := Lib.hid (fun (j : Nat) (x : Int × Int) (hx : (plcs T l)[j]? = some x) => show ∃ ga gb, a5 = some ⟨ga, 0, none⟩ ∧ b6 = some ⟨gb, 0, none⟩ ∧ ∀ V, Still w6 V → V.cell? ⟨ga, j * 2, none⟩ = some (.int .i64 x.1) ∧ V.cell? ⟨ga, j * 2 + 1, none⟩ = some (.int .i64 x.2) ∧ V.cell? ⟨gb, j * 2, none⟩ = some (.int .i64 x.1) ∧ V.cell? ⟨gb, j * 2 + 1, none⟩ = some (.int .i64 x.2) from by
          have hjn := (List.getElem?_eq_some_iff.1 hx).1
          have hlen : (plcs T l).length = n := HNn.out.symm
          obtain ⟨ga, rfl⟩ := owm_addr HO5.out (by omega)
          obtain ⟨gb, rfl⟩ := owm_addr HO6.out (by omega)
          have e0 : (rowOf plcV (plcs T l))[j * 2 + 0]? = some (.int .i64 x.1) := rowOf_get plcV_len hx (j := 0) rfl
          have e1 : (rowOf plcV (plcs T l))[j * 2 + 1]? = some (.int .i64 x.2) := rowOf_get plcV_len hx (j := 1) rfl
          refine ⟨ga, gb, rfl, rfl, fun V h => ⟨still_cell (HT6.out.trans h) (owm_cell HO5.out e0).1 rfl, still_cell (HT6.out.trans h) (owm_cell HO5.out e1).1 rfl, still_cell h (owm_cell HO6.out e0).1 rfl, still_cell h (owm_cell HO6.out e1).1 rfl⟩⟩)
        go_loopw [9] (fun i wr => ∃ j : Nat, j ≤ n ∧ i = .int .i64 j ∧ Still w6 wr) (fun i _ => n - (intOf i).toNat)
        case atStart => exact ⟨0, Nat.zero_le _, rfl, Turned.refl _ _⟩
        case round =>
          obtain ⟨j, hj, rfl, hst6⟩ := hrel
          have HS6 := Lib.hid hst6
          clear hst6
          by_cases hjn : j < n
          · have hji : (j : Int) < (n : Int) := by omega
            obtain ⟨ti, pi, M, hx, hM, hti, hpi⟩ := HGet.out j hjn
            obtain ⟨ga, gb, rfl, rfl, hcl⟩ := HCl.out j _ hx
            have HC2 := Lib.hid hcl
            obtain ⟨x, y, r, m, hS, hp1, hp2⟩ := HH.out.part ti pi M hM
            have HS := Lib.hid hS
            have P1 := Lib.hid hp1
            have P2 := Lib.hid hp2
            have hm := hS.small
            have HLm := Lib.hid hS.len
            obtain ⟨q1, q2, q3, q4⟩ := hcl _ HS6.out
            dsimp only at q1 q2 q3 q4
            clear hx hM hcl hS hp1 hp2 q1 q2
            go_wp2_with (first
              | (go_at_call 22; ((with_reducible refine (P1.out _ (HU6.out.trans HS6.out)).mono ?_)); rintro e w7 ⟨rfl, hT7⟩; have HT7 := Lib.hid (HS6.out.trans hT7); obtain ⟨_, _, q53, q54⟩ := HC2.out w7 (HS6.out.trans hT7); clear hT7)
              | (go_at_call 23; ((with_reducible refine (P2.out _ (HU6.out.trans HT7.out)).mono ?_)); rintro e w8 ⟨rfl, hT8⟩; have HT8 := Lib.hid (HT7.out.trans hT8); clear hT8))
            have HC6 := Lib.hid (fun V (h : Still w6 V) => show V.cell? ⟨ga, j * 2, none⟩ = some (.int .i64 (ti : Nat)) ∧ V.cell? ⟨ga, j * 2 + 1, none⟩ = some (.int .i64 (pi : Nat)) ∧ V.cell? ⟨gb, j * 2, none⟩ = some (.int .i64 (ti : Nat)) ∧ V.cell? ⟨gb, j * 2 + 1, none⟩ = some (.int .i64 (pi : Nat)) ∧ V.cell? ⟨y, 1, none⟩ = some (.pointer (some ⟨r, 0, none⟩)) ∧ V.cell? ⟨r, 2, none⟩ = some (.int .i64 M.h) from by
              obtain ⟨g1, g2, g3, g4⟩ := HC2.out V h
              obtain ⟨g5, g6⟩ := HS.out.cells V (HU6.out.trans h)
              exact ⟨g1, g2, g3, g4, g5, g6⟩)
            have hUd8 : Still w6 w8.drew := HT8.out.drew
            obtain ⟨ka, kb, kc, kd, ke, kf⟩ := HC6.out _ hUd8
            clear q3 q4 q53 q54
            go_region_held3 (fun Z => Z.cell? ⟨ga, j * 2, none⟩ = some (.int .i64 (ti : Nat)) ∧ Z.cell? ⟨ga, j * 2 + 1, none⟩ = some (.int .i64 (pi : Nat)) ∧ Z.cell? ⟨gb, j * 2, none⟩ = some (.int .i64 (ti : Nat)) ∧ Z.cell? ⟨gb, j * 2 + 1, none⟩ = some (.int .i64 (pi : Nat)) ∧ Z.cell? ⟨y, 1, none⟩ = some (.pointer (some ⟨r, 0, none⟩)) ∧ Z.cell? ⟨r, 2, none⟩ = some (.int .i64 M.h)) (first | exact ⟨by assumption, by assumption, by assumption, by assumption, by assumption, by assumption⟩ | go_keep) (first
              | (go_at_call 57; ((with_reducible refine (HS.out.head _ (HU6.out.trans (by assumption))).mono ?_)); rintro e w15 ⟨rfl, hT15⟩; have hU15 : Still w6 w15 := Turned.trans (by assumption) hT15; obtain ⟨ka15, kb15, kc15, kd15, ke15, kf15⟩ := HC6.out _ hU15; clear hT15)
              | (go_at_call 32; ((with_reducible refine (HS.out.tail _ (HU6.out.trans (by assumption))).mono ?_)); rintro e w16 ⟨rfl, hT16⟩; have hU16 : Still w6 w16 := Turned.trans (by assumption) hT16; obtain ⟨ka16, kb16, kc16, kd16, ke16, kf16⟩ := HC6.out _ hU16; clear hT16)
              | (go_at_call 58; ((with_reducible refine (HS.out.ztail _ (HU6.out.trans (by assumption))).mono ?_)); rintro e w17 ⟨rfl, hT17⟩; have hU17 : Still w6 w17 := Turned.trans (by assumption) hT17; obtain ⟨ka17, kb17, kc17, kd17, ke17, kf17⟩ := HC6.out _ hU17; clear hT17)
              | (go_at_call 59; ((with_reducible refine (HS.out.refs _ (HU6.out.trans (by assumption))).mono ?_)); rintro e w18 ⟨a18, c18, rfl, hN18, hT18⟩; have hU18 : Still w6 w18 := Turned.trans (by assumption) hT18; obtain ⟨ka18, kb18, kc18, kd18, ke18, kf18⟩ := HC6.out _ hU18; have HN18 := Lib.hid hN18; clear hN18; clear hT18)
              | (go_at_call 60; ((with_reducible refine (HS.out.zrefs _ (HU6.out.trans (by assumption))).mono ?_)); rintro e w19 ⟨a19, c19, rfl, hN19, hT19⟩; have hU19 : Still w6 w19 := Turned.trans (by assumption) hT19; obtain ⟨ka19, kb19, kc19, kd19, ke19, kf19⟩ := HC6.out _ hU19; have HN19 := Lib.hid hN19; have HNa := Lib.hid (HN18.out _ hT19); clear hN19; clear hT19)
              | (go_at_call 55; ((with_reducible refine (HSI.out _ _ _ M.refs m m _ _ HLm.out.symm HLm.out.symm (by rw [HLm.out]; omega) HNa.out (HN19.out _ (Turned.refl _ _))).mono ?_)); rintro e w20 ⟨rfl, hT20⟩; have hU20 : Still w6 w20 := Turned.trans (by assumption) hT20; obtain ⟨ka20, kb20, kc20, kd20, ke20, kf20⟩ := HC6.out _ hU20; clear hT20))
            all_goals (
              go_wp2_with fail
              go_roundw
              case rel => exact ⟨j + 1, by omega, by go_num, hU20⟩
              case measure => simp [intOf]; omega)
          · obtain rfl : j = n := by omega
            have HEnd := Lib.hid (HU6.out.trans HS6.out)
            go_wp2_with fail
            go_ret
            exact ⟨rfl, HEnd.out⟩)
end Go.Proofs.YtmmkcfiecgpkpaaGreat
