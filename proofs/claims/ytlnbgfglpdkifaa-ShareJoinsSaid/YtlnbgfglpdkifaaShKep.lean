/- Each member keeps the first of its places: what the program leaves. No condition but that members rise. -/
import Derived.Test.YtlnbgfglpdkifaaShGiv
import Derived.Test.YtlnbgfglpdkifaaShKepM
namespace Go.Proofs.Ytlnbgfglpdkifaa
open Go.RowKit Go.Shelf
attribute [local go_sem] Oper.semAt_some
set_option linter.unusedVariables false
set_option linter.unusedSimpArgs false
set_option maxRecDepth 100000

abbrev bxK (an al : Option Addr) (Bn Bl n m cn cl : Nat) : Thing := (blkT Bn [.slice an n cn] 24).sep (blkT Bl [.slice al m cl] 22)
abbrev KO (an al : Option Addr) (Bn Bl : Nat) (ps : List Plc) (ms : List Int) (q : Nat → Nat) (who : List (Option Nat)) (n m cn cl i e : Nat) (Ds : List Nat) : Thing :=
  (markT Ds).sep ((ownsT an n cn (oL ps (XK ms q who n i e))).sep ((intsT al m cl (cL m (lftC q (cK q who i e)))).sep (bxK an al Bn Bl n m cn cl)))
abbrev KI (an al : Option Addr) (Bn Bl Bi Bk : Nat) (ps : List Plc) (ms : List Int) (q : Nat → Nat) (who : List (Option Nat)) (n m cn cl i e : Nat) (mk : Int) (Ds : List Nat) : Thing :=
  (markT Ds).sep ((ownsT an n cn (oL ps (XK ms q who n i e))).sep ((intsT al m cl (cL m (lftC q (cK q who i e)))).sep ((bxK an al Bn Bl n m cn cl).sep ((blkT Bi [.int .i64 (i : Int)] 3).sep (blkT Bk [.int .i64 mk] 3)))))

set_option maxHeartbeats 4000000 in
theorem shkeep_any (w0 w : World) (an ao al af : Option Addr) (ps : List Plc) (ms F : List Int) (q : Nat → Nat) (n m cn cm cl cf : Nat) (hn : n = ps.length) (hF : n = F.length) (hm : m = ms.length) (h1 : n ≤ 1000) (h2 : m ≤ 1000) (hq : ∀ k, q k ≤ 1000)
    (hr : ms.Pairwise (· < ·)) (hA : NumsAt w0 ao ms) (H : Held w0 w (((ownsT an n cn (oL ps (List.replicate n (-1)))).sep (intsT al m cl (cL m q))).sep (intsT af n cf F))) :
    Calls Try.prog 23 #[.slice an n cn, .slice ao m cm, .slice al m cl, .slice af n cf] w fun e w' => e = .returned (.tuple #[]) ∧
      Held w0 w' ((((ownsT an n cn (oL ps ((keepL q (fun _ => 0) (F.map (idxI ms))).map (idI ms)))).sep (intsT al m cl (cL m (lftC q (cntO (keepL q (fun _ => 0) (F.map (idxI ms)))))))).sep (intsT af n cf F))) := by
  have HA := Lib.hid hA
  have HM := Lib.hid hm
  have HN := Lib.hid hn
  have HFl := Lib.hid hF
  have HR := Lib.hid hr
  have HQ := Lib.hid hq
  obtain ⟨who, hwho⟩ : ∃ who, who = F.map (idxI ms) := ⟨_, rfl⟩
  have HWl := Lib.hid (show who.length = n from by rw [hwho, List.length_map, hF])
  have HWg := Lib.hid (fun p x (hx : F[p]? = some x) => show who[p]? = some (idxI ms x) from by rw [hwho, List.getElem?_map, hx]; rfl)
  have HWh := Lib.hid (fun i mk (hi : ms[i]? = some mk) p (hp : p ≤ F.length) => show (hadTo F mk p).length = cntO (who.take p) i from by rw [hwho]; exact had_who hr hi p hp)
  have HOk := Lib.hid (show okW m who from by
    rw [hwho]
    intro o ho
    obtain ⟨x, _, rfl⟩ := List.mem_map.1 ho
    cases hx : idxI ms x with
    | none => exact .inl rfl
    | some k => exact .inr ⟨k, by rw [hm]; exact idx_lt hx, rfl⟩)
  rw [← hwho]
  obtain ⟨Bn, hBn⟩ : ∃ b, b = w.heap.size := ⟨_, rfl⟩
  obtain ⟨Bl, hBl⟩ : ∃ b, b = w.heap.size + 1 := ⟨_, rfl⟩
  have K0 := Lib.hid (show Held w0 ((w.alloc (.cells #[.slice an n cn] 24)).alloc (.cells #[.slice al m cl] 22)) ((KO an al Bn Bl ps ms q who n m cn cl 0 0 []).sep (intsT af n cf F)) from by
    have h := (H.box [.slice an n cn] 24).box [.slice al m cl] 22
    rw [World.size_alloc, ← hBn] at h
    rw [show Bn + 1 = Bl from by omega] at h
    have h2 := ((h.assoc.flip.im (sep_imp2 sep_assoc (fun h => h))).mark.flip.im (sep_imp2 sep_swap (fun h => h)))
    unfold KO
    rw [XK_zero, cK_zero]
    exact h2)
  clear H hA hm hn hF hr hq hwho
  refine (callsIn_wide (n := 9)).1 (callsIn_of_wp_marks Try.func23 rfl trivial ?_ rfl)
  simp only [Try.ntmps23, List.size_toArray, List.length_cons, List.length_nil, Nat.reduceAdd, Nat.reduceSub, Array.replicate_succ, Array.replicate_zero, List.push_toArray, List.append_toArray, List.nil_append, List.cons_append]
  gi_wp2
  rw [← hBl, ← hBn]
  clear hBl hBn
  refine wpIn_loop (fun a wq => ∃ (i : Nat) (Ds : List Nat) (v8 v9 v10 v14 v15 v16 v17 v18 v19 v20 v21 v22 v23 v24 v25 v26 v27 v28 v29 v30 v31 v32 v33 v34 v35 v36 v37 v38 : Value), a = { tmps := #[.slice an n cn, .slice ao m cm, .slice al m cl, .slice af n cf, .pointer (some ⟨Bn, 0, none⟩), undef, .pointer (some ⟨Bl, 0, none⟩), undef, v8, v9, v10, .slice ao m cm, .int .i64 (m : Int), .int .i64 (i : Int), v14, v15, v16, v17, v18, v19, v20, v21, v22, v23, v24, v25, v26, v27, v28, v29, v30, v31, v32, v33, v34, v35, v36, v37, v38], defers := Ds.map mkD } ∧ i ≤ m ∧ Held w0 wq ((KO an al Bn Bl ps ms q who n m cn cl i 0 Ds).sep (intsT af n cf F))) (fun a _ => m - (intOf (a.tmps.getD 13 undef)).toNat) ?_ ?_
  · exact ⟨0, [], _, _, _, _, _, _, _, _, _, _, _, _, _, _, _, _, _, _, _, _, _, _, _, _, _, _, _, _, rfl, Nat.zero_le _, K0.out⟩
  · rintro a wq ⟨i, Ds, v8, v9, v10, v14, v15, v16, v17, v18, v19, v20, v21, v22, v23, v24, v25, v26, v27, v28, v29, v30, v31, v32, v33, v34, v35, v36, v37, v38, rfl, hi, hH⟩
    clear K0
    dsimp only
    by_cases hlt : i < m
    · obtain ⟨mk, hmk⟩ := get_some (l := ms) (i := i) (by rw [← HM.out]; exact hlt)
      obtain ⟨ba, oa, rfl, ca⟩ := (HA.out.still hH.ground) i mk hmk
      have hii : (i : Int) < (m : Int) := by omega
      have hgd : ms.getD i (-1) = mk := by rw [List.getD_eq_getElem?_getD, hmk]; rfl
      obtain ⟨gl, rfl⟩ : ∃ gl, al = some ⟨gl, 0, none⟩ := by
        have := (hH.drop.im un1).turn.im un1
        obtain ⟨W, h, _⟩ := ((hH.drop.im un1).turn).fst
        exact owm_addr h.1 (by omega)
      obtain ⟨V2, hV2⟩ : ∃ V2, V2 = (wq.alloc (.cells #[.int .i64 (i : Int)] 3)).alloc (.cells #[.int .i64 mk] 3) := ⟨_, rfl⟩
      obtain ⟨Bi, hBi⟩ : ∃ b, b = wq.heap.size := ⟨_, rfl⟩
      obtain ⟨Bk, hBk⟩ : ∃ b, b = wq.heap.size + 1 := ⟨_, rfl⟩
      have K2 : Held w0 V2 ((KI an (some ⟨gl, 0, none⟩) Bn Bl Bi Bk ps ms q who n m cn cl i 0 mk Ds).sep (intsT af n cf F)) := by
        have h := (hH.box [.int .i64 (i : Int)] 3).box [.int .i64 mk] 3
        rw [World.size_alloc, ← hBi] at h
        rw [show Bi + 1 = Bk from by omega] at h
        rw [hV2]
        exact h.assoc.flip.im (sep_imp2 ap3 (fun h => h))
      obtain ⟨WW, ⟨Q0, QF, hI0, hFt, hd0, hWW⟩, hlo, hst2⟩ := K2
      have ck : V2.cell? ⟨Bk, 0, none⟩ = some (.int .i64 mk) := by
        obtain ⟨_, ⟨cK, _⟩, _⟩ := (Sit.start hI0).snd.snd.snd.snd.snd
        exact cK.cell rfl
      have hB2 : NumsAt V2 af F := NumsAt.of_own hFt.1 HFl.out
      have HE := Lib.hid (shhad_any af n cf mk V2)
      have HR2 := Lib.hid (evH_new (n := n) (c := cf) (x := mk) hB2)
      have HIt := Lib.hid (shhad_it af n cf F mk HFl.out h1 V2.heap.size (V2.heap.size + 1))
      have ht3 : Still V2 ((V2.alloc (.cells #[.slice af n cf] 22)).alloc (.cells #[.int .i64 mk] 3)) := ((Turned.refl _ _).alloc _).alloc _
      have hlt0 := Thing.lt _ hI0
      have HI0 := Lib.hid (show (Thing.and_ (0 ≤ q i) (KI an (some ⟨gl, 0, none⟩) Bn Bl Bi Bk ps ms q who n m cn cl i 0 mk Ds)).at_ ((V2.alloc (.cells #[.slice af n cf] 22)).alloc (.cells #[.int .i64 mk] 3)) Q0 from ⟨Nat.zero_le _, Thing.keep _ hI0 ht3 (fun _ _ h => h)⟩)
      have HFt := Lib.hid (Thing.keep _ hFt ht3 (fun _ _ h => h))
      have HSt := Lib.hid (hst2.trans ht3)
      have HLo := Lib.hid hlo
      have HWW := Lib.hid hWW
      have HD0 := Lib.hid hd0
      have HD := Lib.hid (show ∀ k, Q0 k → ¬ (k = V2.heap.size ∨ k = V2.heap.size + 1 ∨ (F ≠ [] ∧ ∃ x, af = some x ∧ x.block = k)) from by
        intro k hk hk2
        have hkl := hlt0 k hk
        rcases hk2 with h | h | ⟨_, x, hx, h⟩
        · omega
        · omega
        · exact hd0 k hk ((hFt.2 k).2 (by rw [hx, ← h]; rfl)))
      have HV2 := Lib.hid hV2
      have HBi := Lib.hid hBi
      have HBk := Lib.hid hBk
      have HGd := Lib.hid hgd
      have HMk := Lib.hid hmk
      have hf1 : Fence.wide.fn 30 := trivial
      have HEnd := Lib.hid (fun (e D : Nat) (V : World) (Q' : Nat → Prop) (h0 : e ≤ q i) (h1 : e = q i ∨ e = cntO who i) (h2 : e ≤ cntO who i) (hD : ((V2.alloc (.cells #[.slice af n cf] 22)).alloc (.cells #[.int .i64 mk] 3)).heap.size ≤ D) (hK : V.heap[D]? = some (.deferred (some []))) (hQD : ¬ Q' D)
          (hI : (KI an (some ⟨gl, 0, none⟩) Bn Bl Bi Bk ps ms q who n m cn cl i e mk Ds).at_ V Q') (hsk : Since Q0 ((V2.alloc (.cells #[.slice af n cf] 22)).alloc (.cells #[.int .i64 mk] 3)) Q' V) =>
        show Held w0 V ((KO an (some ⟨gl, 0, none⟩) Bn Bl ps ms q who n m cn cl (i + 1) 0 (D :: Ds)).sep (intsT af n cf F)) from by
          have h := held_again HFt.out HD0.out HWW.out HLo.out HSt.out (goes_loop hsk hD hK hQD hI)
          rw [XK_next h0 h1, cK_next h0 h1 h2] at h
          exact (h.im (sep_imp2 ap3' (fun h => h))).flip.drop)
      clear hH hI0 hFt hd0 hWW hlo hst2 hB2 ht3 hlt0 hV2 hBi hBk hgd hmk
      rw [HV2.out] at ck
      gi_wp2_with (gi_at_call 30; rw [← HV2.out]; ((with_reducible refine (callsIn_wide.2 HE.out).mono ?_)); rintro e w2 ⟨rfl, rfl⟩)
      rw [← HBk.out, ← HBi.out]
      clear HV2 ca ck
      refine loopX_outer (i0 := 2) rfl (enters_of Try.func34 (by kernel_rfl) rfl) HIt.out (by exact fun _ => rfl) (fun e => Thing.and_ (e ≤ q i) (KI an (some ⟨gl, 0, none⟩) Bn Bl Bi Bk ps ms q who n m cn cl i e mk Ds)) (fun e => Thing.and_ (e = q i) (KI an (some ⟨gl, 0, none⟩) Bn Bl Bi Bk ps ms q who n m cn cl i e mk Ds)) HR2.out HI0.out HD.out ?_ ?_ ?_
      · rintro x
        apply Exists.intro
        apply And.intro
        · intro l1 V K hK
          dsimp only [encH16]
          gi_wp2
          exact hK
        · intro l1 e V Q' hr hl1 hx hI hQl hsk
          obtain ⟨hxn, hxF⟩ := hadTo_mem hx
          have hev := had_event hx
          have hwi : who[x]? = some (some i) := by rw [HWg.out x mk hxF, idx_at HR.out HMk.out]
          have hce : cntO (who.take x) i = e := by rw [← HWh.out i mk HMk.out x (by have := HFl.out; omega)]; exact hev
          obtain ⟨p, hp⟩ := get_some (l := ps) (i := x) (by rw [← HN.out]; exact hxn)
          obtain ⟨hpe, hI⟩ := hI
          obtain ⟨gn, rfl⟩ : ∃ gn, an = some ⟨gn, 0, none⟩ := by
            obtain ⟨W, h, _⟩ := (Sit.start hI).turn.fst
            exact owm_addr h.1 (by omega)
          have S0 := Sit.start hI
          have hlv : lftC q (cK q who i e) i = q i - e := by unfold lftC; rw [cK_at]
          have hq1 := HQ.out i
          have HC := Lib.hid (fun (V1 : World) (xs : List Int) (S : Sit Q' V V1 ((markT Ds).sep ((ownsT (some ⟨gn, 0, none⟩) n cn (oL ps xs)).sep ((intsT (some ⟨gl, 0, none⟩) m cl (cL m (lftC q (cK q who i e)))).sep ((bxK (some ⟨gn, 0, none⟩) (some ⟨gl, 0, none⟩) Bn Bl n m cn cl).sep ((blkT Bi [.int .i64 (i : Int)] 3).sep (blkT Bk [.int .i64 mk] 3))))))) =>
            show V1.cell? ⟨Bn, 0, none⟩ = some (.slice (some ⟨gn, 0, none⟩) n cn) ∧ V1.cell? ⟨Bl, 0, none⟩ = some (.slice (some ⟨gl, 0, none⟩) m cl) ∧ V1.cell? ⟨Bi, 0, none⟩ = some (.int .i64 (i : Int)) ∧ V1.cell? ⟨Bk, 0, none⟩ = some (.int .i64 mk) from by
              have hb := S.snd.snd.snd
              obtain ⟨_, ⟨b1, _⟩, _⟩ := hb.drop.drop
              obtain ⟨_, ⟨b2, _⟩, _⟩ := hb.drop.snd
              obtain ⟨_, ⟨b3, _⟩, _⟩ := hb.snd.drop
              obtain ⟨_, ⟨b4, _⟩, _⟩ := hb.snd.snd
              exact ⟨b1.cell rfl, b2.cell rfl, b3.cell rfl, b4.cell rfl⟩)
          obtain ⟨d1, d2, d3, d4⟩ := HC.out _ _ S0
          obtain ⟨t1, t2, t3⟩ := sit_own S0.turn hp (XK_get hxn)
          obtain ⟨s1, s2, s3⟩ := sit_ints (S0.imp un1).turn (cL_get (lftC q (cK q who i e)) hlt)
          rw [hlv] at s1
          have hxi : (x : Int) < (n : Int) := by omega
          by_cases hv : e = q i
          · have hvz : q i - e = 0 := by omega
            rw [hvz] at s1
            have HF := Lib.hid (show Goes (Thing.and_ (e = q i) (KI (some ⟨gn, 0, none⟩) (some ⟨gl, 0, none⟩) Bn Bl Bi Bk ps ms q who n m cn cl i e mk Ds)) Q' V V from Goes.and_ hv S0.goes)
            clear hr hl1 hx hI hQl hsk S0 s3 t3 hv
            gi_wp2
            exact ⟨rfl, HF.out⟩
          · obtain ⟨v, hvv⟩ : ∃ v, v = q i - e := ⟨_, rfl⟩
            rw [← hvv] at s1
            have hvz : ((v : Int) == 0) = false := by rw [beq_eq_false_iff_ne]; omega
            have hv1 : v ≤ 1000 := by omega
            have S1 := (t3 mk).turn
            obtain ⟨f1, f2, f3, f4⟩ := HC.out _ _ S1
            obtain ⟨z1, z2, z3⟩ := sit_ints (S1.imp un1).turn (cL_get (lftC q (cK q who i e)) hlt)
            rw [hlv, ← hvv] at z1
            have HF := Lib.hid (show Goes (Thing.and_ (e + 1 ≤ q i) (KI (some ⟨gn, 0, none⟩) (some ⟨gl, 0, none⟩) Bn Bl Bi Bk ps ms q who n m cn cl i (e + 1) mk Ds)) Q' V ((V.setCell ⟨gn, x * 3 + 2, none⟩ (.int .i64 mk)).setCell ⟨gl, i, none⟩ (.int .i64 ((v : Int) - 1))) from by
              have h := ((z3 ((v : Int) - 1)).turn).imp un1
              have e1 := cL_set (m := m) (k := i) (c := lftC q (cK q who i e)) (d := lftC q (cK q who i (e + 1))) hlt (fun j _ hj => by unfold lftC; rw [cK_other hj])
              have e2 : ((lftC q (cK q who i (e + 1)) i : Nat) : Int) = (v : Int) - 1 := by unfold lftC; rw [cK_at]; omega
              rw [e2] at e1
              have e3 := XK_step (ms := ms) (q := q) HWl.out hwi hce
              rw [HGd.out] at e3
              rw [e1, e3] at h
              exact Goes.and_ (by omega) h.goes)
            clear hr hl1 hx hI hQl hsk S0 s3 t3 hv S1 z3 hlv hvv
            gi_wp2
            exact HF.out
      · intro D V Q' hD hK hQD hI hsk
        have hlen : (hadTo F mk n).length = cntO who i := by
          have := HWh.out i mk HMk.out n (by rw [HFl.out]; exact Nat.le_refl _)
          rwa [List.take_of_length_le (by rw [HWl.out]; exact Nat.le_refl _)] at this
        have K8 := Lib.hid (HEnd.out _ D V Q' hI.1 (.inr hlen) (by rw [hlen]; exact Nat.le_refl _) hD hK hQD hI.2 hsk)
        clear hK hQD hI hsk hlen
        gi_wp2
        refine ⟨⟨i + 1, D :: Ds, _, _, _, _, _, _, _, _, _, _, _, _, _, _, _, _, _, _, _, _, _, _, _, _, _, _, _, _, rfl, by omega, K8.out⟩, ?_⟩
        simp [intOf]; omega
      · intro D e V Q' hD hK hQD hel hI hsk
        have hlen : (hadTo F mk n).length = cntO who i := by
          have := HWh.out i mk HMk.out n (by rw [HFl.out]; exact Nat.le_refl _)
          rwa [List.take_of_length_le (by rw [HWl.out]; exact Nat.le_refl _)] at this
        have K8 := Lib.hid (HEnd.out _ D V Q' (by rw [hI.1]; exact Nat.le_refl _) (.inl hI.1) (by omega) hD hK hQD hI.2 hsk)
        clear hK hQD hI hsk hlen
        gi_wp2
        refine ⟨⟨i + 1, D :: Ds, _, _, _, _, _, _, _, _, _, _, _, _, _, _, _, _, _, _, _, _, _, _, _, _, _, _, _, _, rfl, by omega, K8.out⟩, ?_⟩
        simp [intOf]; omega
    · obtain rfl : i = m := by omega
      have K9 := Lib.hid (show Held w0 wq ((((ownsT an n cn (oL ps ((keepL q (fun _ => 0) who).map (idI ms)))).sep (intsT al i cl (cL i (lftC q (cntO (keepL q (fun _ => 0) who)))))).sep (intsT af n cf F)).sep (markT Ds)) from by
        have e1 := XK_all (ms := ms) (q := q) HWl.out HM.out HOk.out
        have e2 : cL i (lftC q (cK q who i 0)) = cL i (lftC q (cntO (keepL q (fun _ => 0) who))) := cL_congr fun j hj => by unfold lftC; rw [cK_all q who i j hj]
        unfold KO at hH
        rw [e1, e2] at hH
        exact ((hH.assoc.swap.assoc.im (sep_imp2 sep_assoc' (fun h => h))).flip.drop).assoc')
      clear hH
      gi_wp2
      exact leaves_marks (by simp) K9.out (fun w' hw => ⟨_, results_none rfl _ _ _, rfl, hw⟩)
end Go.Proofs.Ytlnbgfglpdkifaa
