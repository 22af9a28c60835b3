/- Assign of the program's shares. No condition. -/
import Derived.Test.YtlnbgfglpdkifaaShKep
import Derived.Test.YtlnbgfglpdkifaaShForm
import Derived.Test.YtlnbgfglpdkifaaShRef
namespace Go.Proofs.Ytlnbgfglpdkifaa
open Go.RowKit
set_option linter.unusedVariables false
set_option linter.unusedSimpArgs false
set_option maxRecDepth 100000

theorem asgI_oL (ms : List Int) (ps : List Plc) (os : List Own) : asgI ms ps os = oL ps ((outI ms ps os).map (idI ms)) := by
  unfold asgI oL
  rw [List.zipWith_map_right]

set_option maxHeartbeats 2000000 in
theorem shasg_any (w : World) (ao bo co : Option Addr) (ms : List Int) (ps : List Plc) (os : List Own) (m n k c1 c2 c3 r : Nat) (hm : m = ms.length) (hn : n = ps.length) (hk : k = os.length) (h1 : m ≤ 1000) (h2 : n ≤ 1000) (h3 : k ≤ 1000)
    (hA : NumsAt w ao ms) (hB : PlAt w bo ps) (hC : OwAt w co os) (hr : r = (asgV ms ps os).length) :
    Calls Try.prog 9 #[.slice ao m c1, .slice bo n c2, .slice co k c3] w (OutAsg w (asgV ms ps os) r (asgE ms ps os)) := by
  have HRf := Lib.hid (shref_any w ao bo co ms ps os m n k c1 c2 c3 hm hn hk h1 h2 h3 hA hB)
  by_cases hE : asgE ms ps os = 0
  · obtain ⟨_, _, hri, hdi⟩ := asgE_ok hE
    have hV := asgV_ok hE
    rw [hV] at hr ⊢
    rw [hE] at HRf ⊢
    have hrn : r = n := by rw [hr, asgI_len, hn]
    subst hrn
    have hm8 : m ≤ 8 := by rw [hm]; exact hri.1
    obtain ⟨F, hF⟩ : ∃ F, F = ps.map (hadI os) := ⟨_, rfl⟩
    have HFl := Lib.hid (show r = F.length from by rw [hF, List.length_map, hn])
    obtain ⟨who, hwho⟩ : ∃ who, who = F.map (idxI ms) := ⟨_, rfl⟩
    have hw2 : who = whoI ms ps os := by rw [hwho, hF]; unfold whoI; rw [List.map_map]; rfl
    have hwl : who.length = r := by rw [hw2, who_len, hn]
    obtain ⟨q, hq⟩ : ∃ q, q = quoO m who := ⟨_, rfl⟩
    have HQ := Lib.hid (show cL m (quotaN r m (hadN F ms)) = cL m q from by
      rw [hq]
      unfold quoO
      rw [hwl]
      refine cL_congr fun j hj => quota_congr (fun i hi => ?_) hj
      unfold hadN
      obtain ⟨y, hy⟩ := get_some (l := ms) (i := i) (by rw [← hm]; exact hi)
      have hg : ms.getD i 0 = y := by rw [List.getD_eq_getElem?_getD, hy]; rfl
      rw [hg, had_who hri.2.2 hy F.length (Nat.le_refl _), ← hwho, List.take_of_length_le (by rw [hwl, HFl.out]; exact Nat.le_refl _)])
    have HQl := Lib.hid (show ∀ j, q j ≤ 1000 from fun j => by
      rw [hq]
      have := (quota_ge who.length m (cntO who) j).2
      unfold quoO
      have := Nat.div_le_self who.length m
      have := (asgE_ok hE).1
      omega)
    have HFin := Lib.hid (show asgI ms ps os = oL ps ((fillL m q (cntO (keepL q (fun _ => 0) who)) (keepL q (fun _ => 0) who)).map (idI ms)) from by
      rw [asgI_oL]
      unfold outI asgO keptO
      rw [← hw2, ← hm, ← hq])
    have HOk := Lib.hid (show okW m (keepL q (fun _ => 0) who) from keep_ok (by rw [hw2, hm]; exact who_ok ms ps os))
    have HKl := Lib.hid (show r = (keepL q (fun _ => 0) who).length from by rw [keep_len, hwl])
    have HFo := Lib.hid (fun V (hs : Still w V) => shform_any V bo co ps os r k c2 c3 hn hk h2 h3 (row_still hB hs) (row_still hC hs))
    have HFr := Lib.hid (fun V (hs : Still w V) => shfree_any V bo ps r c2 hn h2 (row_still hB hs))
    have HA := Lib.hid hA
    have HM := Lib.hid hm
    have HN := Lib.hid hn
    have HRi := Lib.hid hri
    have HWh := Lib.hid hwho
    rw [← hF] at HFo
    rw [HFin.out]
    clear hA hB hC hm hn hk hri hdi hE hV hr hF hwho hw2 hwl hq HFin
    go_enter Try.func9, Try.ntmps9
    go_wp2_with (go_at_call 19; ((with_reducible refine HRf.out.mono ?_)); rintro e w1 ⟨rfl, hs⟩; have S1 := Lib.hid hs; clear hs)
    go_wp2_with (go_at_call 20; ((with_reducible refine (HFo.out _ S1.out).mono ?_)); rintro e w2 hO; obtain ⟨af, cf, rfl, hK⟩ := (Held.start S1.out).outs hO; have K2 := Lib.hid hK; have HQu := Lib.hid (fun (c : Nat) => shquo_any w2 ao af ms F m r c cf HM.out HFl.out hm8 h2 (HA.out.still hK.ground) (ints_at hK.snd HFl.out)); clear hO hK S1)
    go_wp2_with (go_at_call 21; ((with_reducible refine (HQu.out _).mono ?_)); rintro e w3 hO; rw [HQ.out] at hO; obtain ⟨al, cl, rfl, hK⟩ := K2.out.outs hO; have K3 := Lib.hid hK; clear hO hK K2)
    go_wp2_with (go_at_call 22; ((with_reducible refine (HFr.out _ K3.out.ground).mono ?_)); rintro e w4 hO; obtain ⟨an, cn, rfl, hK⟩ := K3.out.row hO; have K4 := Lib.hid (((hK.assoc.swap.im (sep_imp2 sep_swap sep_swap)).assoc').drop); have HKe := Lib.hid (fun c => shkeep_any w w4 an ao al af ps ms F q r m cn c cl cf HN.out HFl.out HM.out h2 h1 HQl.out HRi.out.2.2 HA.out K4.out); rw [← HWh.out] at HKe; clear hO hK K3 K4)
    go_wp2_with (go_at_call 23; ((with_reducible refine (HKe.out _).mono ?_)); rintro e w5 ⟨rfl, hK⟩; have HGi := Lib.hid (fun c => shgive_any w w5 an ao al ps ms (keepL q (fun _ => 0) who) q (cntO (keepL q (fun _ => 0) who)) r m cn c cl HN.out HKl.out HM.out h2 h1 HQl.out HOk.out (fun x hx => (HRi.out.2.1 x hx).1) HA.out hK.drop); clear hK HKe)
    go_wp2_with (go_at_call 24; ((with_reducible refine (HGi.out _).mono ?_)); rintro e w6 ⟨rfl, hK⟩; have K6 := Lib.hid (ow_raise hK.drop); clear hK HGi)
    go_ret2
    exact ⟨_, _, rfl, K6.out⟩
  · have hV := asgV_no hE
    rw [hV] at hr ⊢
    obtain rfl : r = 0 := hr
    obtain ⟨E, hEE⟩ : ∃ E, E = asgE ms ps os := ⟨_, rfl⟩
    rw [← hEE] at HRf hE ⊢
    have hne : (E != 0) = true := by simpa using hE
    clear hA hB hC hm hn hk hV hEE
    go_enter Try.func9, Try.ntmps9
    go_wp2_with (go_at_call 19; ((with_reducible refine HRf.out.mono ?_)); rintro e w1 ⟨rfl, hs⟩; have S1 := Lib.hid hs; clear hs)
    go_ret2
    exact ⟨none, 0, rfl, World.ownsRow_nil _ _ _ _, S1.out⟩
end Go.Proofs.Ytlnbgfglpdkifaa
