/- Who gets the places that nobody has: what the program leaves. No condition but that members rise. -/
import Derived.Test.YtlnbgfglpdkifaaBdShQ
import Derived.Test.YtlnbgfglpdkifaaShFree
import Derived.Scope
namespace Go.Proofs.Ytlnbgfglpdkifaa
open Go.RowKit
set_option linter.unusedVariables false
set_option linter.unusedSimpArgs false
set_option maxRecDepth 100000

/-- A place's owner, in owners of one's own. -/
theorem held_own {w0 w : World} {a : Option Addr} {n c i : Nat} {ps : List Plc} {xs : List Int} {p : Plc} {x : Int} {B : Thing} (H : Held w0 w ((ownsT a n c (oL ps xs)).sep B)) (hn : n = ps.length) (hp : ps[i]? = some p) (hx : xs[i]? = some x) :
    ∃ g, a = some ⟨g, 0, none⟩ := by
  obtain ⟨W, h, _⟩ := H.fst
  exact owm_addr h.1 (by have := (List.getElem?_eq_some_iff.1 hp).1; omega)
theorem held_int {w0 w : World} {a : Option Addr} {n c i : Nat} {l : List Int} {x : Int} {B : Thing} (H : Held w0 w ((intsT a n c l).sep B)) (hn : n = l.length) (hx : l[i]? = some x) :
    ∃ g, a = some ⟨g, 0, none⟩ := by
  obtain ⟨W, h, _⟩ := H.fst
  exact owm_addr h.1 (by have := (List.getElem?_eq_some_iff.1 hx).1; omega)
/-- What is left of the quotas. -/
def lftC (q c : Nat → Nat) : Nat → Nat := fun k => q k - c k
theorem lft_upd {m k : Nat} {q c : Nat → Nat} (hk : k < m) (h : c k < q k) : (cL m (lftC q c)).set k (((lftC q c k : Nat) : Int) - 1) = cL m (lftC q (upd c k)) := by
  have := cL_set (m := m) (k := k) (c := lftC q c) (d := lftC q (upd c k)) hk (fun j _ hj => by unfold lftC upd; rw [if_neg hj])
  rw [← this]
  congr 1
  unfold lftC upd
  rw [if_pos rfl]
  omega

set_option maxHeartbeats 4000000 in
theorem shgive_any (w0 w : World) (an ao al : Option Addr) (ps : List Plc) (ms : List Int) (l : List (Option Nat)) (q c : Nat → Nat) (n m cn cm cl : Nat) (hn : n = ps.length) (hl : n = l.length) (hm : m = ms.length) (h1 : n ≤ 1000) (h2 : m ≤ 1000) (hq : ∀ k, q k ≤ 1000)
    (hok : okW m l) (hms : ∀ x ∈ ms, 0 ≤ x) (hA : NumsAt w0 ao ms) (H : Held w0 w ((ownsT an n cn (oL ps (l.map (idI ms)))).sep (intsT al m cl (cL m (lftC q c))))) :
    Calls Try.prog 24 #[.slice an n cn, .slice ao m cm, .slice al m cl] w fun e w' => e = .returned (.tuple #[]) ∧ Held w0 w' ((ownsT an n cn (oL ps ((fillL m q c l).map (idI ms)))).sep (intsT al m cl (cL m (lftC q (stF m q c l n))))) := by
  have HN := Lib.hid hn
  have HL := Lib.hid hl
  have HM := Lib.hid hm
  have HA := Lib.hid hA
  have HMs := Lib.hid hms
  have HOk := Lib.hid hok
  have HQ := Lib.hid hq
  obtain ⟨F, hF⟩ : ∃ F, F = fillL m q c l := ⟨_, rfl⟩
  obtain ⟨X, hX⟩ : ∃ X, X = F.map (idI ms) := ⟨_, rfl⟩
  obtain ⟨X0, hX0⟩ : ∃ X0, X0 = l.map (idI ms) := ⟨_, rfl⟩
  have HXl := Lib.hid (show X.length = X0.length from by rw [hX, hX0, hF, List.length_map, List.length_map, fill_len])
  have HX0l := Lib.hid (show X0.length = n from by rw [hX0, List.length_map, hl])
  have HX0g := Lib.hid (fun i o (ho : l[i]? = some o) => show X0[i]? = some (idI ms o) from by rw [hX0, List.getElem?_map, ho]; rfl)
  have HXg := Lib.hid (fun i o (ho : F[i]? = some o) => show X[i]? = some (idI ms o) from by rw [hX, List.getElem?_map, ho]; rfl)
  have HFs := Lib.hid (fun i k (ho : l[i]? = some (some k)) => show F[i]? = some (some k) from by rw [hF]; exact fill_keep m q l c i k ho)
  have HFn := Lib.hid (fun i (ho : l[i]? = some none) => show F[i]? = some (roomK m q (stF m q c l i)) from by rw [hF]; exact fill_none ho)
  rw [← hF, ← hX]
  have K0 := Lib.hid (show Held w0 w ((ownsT an n cn (oL ps (mix X X0 0))).sep (intsT al m cl (cL m (lftC q (stF m q c l 0))))) from by
    rw [mix_zero, stF_zero, hX0]; exact H)
  clear H hn hl hm hA hms hok hq hF hX hX0
  go_enter Try.func24, Try.ntmps24
  go_wp2_with fail
  refine wp_scope_straight ?_
  go_wp2_with fail
  refine (wpIn_wide (n := 9)).1 (wpIn_label ?_)
  go_wp2_with fail
  go_loopw [11] (fun ix wq => ∃ i : Nat, i ≤ n ∧ ix = .int .i64 i ∧ Held w0 wq ((ownsT an n cn (oL ps (mix X X0 i))).sep (intsT al m cl (cL m (lftC q (stF m q c l i)))))) (fun ix _ => n - (intOf ix).toNat)
  case atStart => exact ⟨0, Nat.zero_le _, rfl, K0.out⟩
  case round =>
    clear K0
    obtain ⟨i, hi, rfl, hH⟩ := hrel
    by_cases hlt : i < n
    · obtain ⟨o, ho⟩ := get_some (l := l) (i := i) (by rw [← HL.out]; exact hlt)
      obtain ⟨p, hp⟩ := get_some (l := ps) (i := i) (by rw [← HN.out]; exact hlt)
      have hx0 := HX0g.out i o ho
      have hmx : (mix X X0 i)[i]? = some (idI ms o) := by rw [mix_get HXl.out (by rw [HX0l.out]; exact hlt), if_neg (Nat.lt_irrefl _), hx0]
      obtain ⟨gn, rfl⟩ := held_own hH HN.out hp hmx
      obtain ⟨s1, s2, s3⟩ := held_putO hH hp hmx
      have hii : (i : Int) < (n : Int) := by omega
      cases o with
      | some k =>
        have hkm : k < m := by
          rcases HOk.out _ (List.mem_of_getElem? ho) with h | ⟨k', h, e⟩
          · cases h
          · obtain rfl := Option.some.inj e; exact h
        obtain ⟨y, hy⟩ := get_some (l := ms) (i := k) (by rw [← HM.out]; exact hkm)
        have hid : idI ms (some k) = y := by unfold idI; simp [List.getD, hy]
        have hy0 := HMs.out y (List.mem_of_getElem? hy)
        have hne : (y != -1) = true := by simp; omega
        rw [hid] at s1
        have K2 := Lib.hid (show Held w0 wr ((ownsT (some ⟨gn, 0, none⟩) n cn (oL ps (mix X X0 (i + 1)))).sep (intsT al m cl (cL m (lftC q (stF m q c l (i + 1)))))) from by
          rw [stF_some ho, mix_same HXl.out (by rw [hx0, HXg.out i _ (HFs.out i k ho)])]
          exact hH)
        clear hH s2 s3 ho hp hx0 hmx hy hid
        go_wp2_with fail
        go_roundw
        case rel => exact ⟨i + 1, by omega, by go_num, K2.out⟩
        case measure => simp [intOf]; omega
      | none =>
        have hid : idI ms none = -1 := rfl
        rw [hid] at s1 hmx hx0
        have hF := HFn.out i ho
        have hstn := stF_none (m := m) (q := q) (c := c) ho
        obtain ⟨ci, hci⟩ : ∃ ci, ci = stF m q c l i := ⟨_, rfl⟩
        rw [← hci] at hH hF hstn
        have K2 := Lib.hid hH
        have HStn := Lib.hid hstn
        have HF := Lib.hid hF
        have HP := Lib.hid hp
        have HMx := Lib.hid hmx
        have HX0i := Lib.hid hx0
        clear hH s2 s3 ho hp hx0 hmx hF hstn hci hid
        go_wp2_with fail
        go_loopw [22] (fun kx wq => ∃ k : Nat, k ≤ m ∧ kx = .int .i64 k ∧ wq = wr ∧ ∀ j, j < k → ¬ ci j < q j) (fun kx _ => m - (intOf kx).toNat)
        case atStart => exact ⟨0, Nat.zero_le _, rfl, rfl, fun j hj => by omega⟩
        case round =>
          obtain ⟨k, hk, rfl, rfl, hall⟩ := hrel
          have HAll := Lib.hid hall
          clear hall
          by_cases hkm : k < m
          · obtain ⟨y, hy⟩ := get_some (l := ms) (i := k) (by rw [← HM.out]; exact hkm)
            obtain ⟨ba, oa, rfl, ca⟩ := (HA.out.still K2.out.ground) k y hy
            obtain ⟨gl, rfl⟩ := held_int K2.out.swap (cL_len _ _).symm (cL_get (lftC q ci) hkm)
            obtain ⟨t1, t2, t3⟩ := held_put K2.out.swap (cL_get (lftC q ci) hkm)
            have hki : (k : Int) < (m : Int) := by omega
            have hlq : lftC q ci k ≤ 1000 := by unfold lftC; have := HQ.out k; omega
            obtain ⟨v, hv⟩ : ∃ v, v = lftC q ci k := ⟨_, rfl⟩
            rw [← hv] at t1 hlq
            by_cases hc : ci k < q k
            · have hvp : (0 : Int) < (v : Int) := by rw [hv]; unfold lftC; omega
              obtain ⟨_, x2, x3⟩ := held_putO K2.out HP.out HMx.out
              have K3 := (x3 y).swap
              obtain ⟨z1, z2, z3⟩ := held_put K3 (cL_get (lftC q ci) hkm)
              have hroom := room_is hkm hc HAll.out
              have K4 := Lib.hid (show Held w0 ((wr.setCell ⟨gn, i * 3 + 2, none⟩ (.int .i64 y)).setCell ⟨gl, k, none⟩ (.int .i64 ((v : Int) - 1))) ((ownsT (some ⟨gn, 0, none⟩) n cn (oL ps (mix X X0 (i + 1)))).sep (intsT (some ⟨gl, 0, none⟩) m cl (cL m (lftC q (stF m q c l (i + 1)))))) from by
                have h := z3 ((v : Int) - 1)
                rw [hv, lft_upd hkm hc] at h
                have e1 := HStn.out
                rw [hroom] at e1
                have e2 := HXg.out i _ HF.out
                rw [hroom, show idI ms (some k) = y from by unfold idI; simp [List.getD, hy]] at e2
                rw [mix_set HXl.out e2] at h
                rw [e1, hv]
                exact h.swap)
              rw [← hv] at z1
              clear hv t3 x3 K3 z3 hroom hy K2
              go_wp2_with fail
              go_roundw
              case rel => exact ⟨i + 1, by omega, by go_num, K4.out⟩
              case measure => simp [intOf]; omega
            · have hvp : ¬ (0 : Int) < (v : Int) := by rw [hv]; unfold lftC; omega
              have HA2 := Lib.hid (show ∀ j, j < k + 1 → ¬ ci j < q j from fun j hj => by
                by_cases e : j = k
                · rw [e]; exact hc
                · exact HAll.out j (by omega))
              clear hv t3 hy
              go_wp2_with fail
              go_roundw
              case rel => exact ⟨k + 1, by omega, by go_num, by first | rfl | trivial, HA2.out⟩
              case measure => simp [intOf]; omega
          · obtain rfl : k = m := by omega
            have hroom := room_no HAll.out
            have K4 := Lib.hid (show Held w0 wr ((ownsT (some ⟨gn, 0, none⟩) n cn (oL ps (mix X X0 (i + 1)))).sep (intsT al k cl (cL k (lftC q (stF k q c l (i + 1)))))) from by
              have e1 := HStn.out
              rw [hroom] at e1
              have e2 := HXg.out i _ HF.out
              rw [hroom] at e2
              rw [e1, mix_same HXl.out (by rw [e2, HX0i.out]; rfl)]
              exact K2.out)
            clear hroom K2
            go_wp2_with fail
            go_roundw
            case rel => exact ⟨i + 1, by omega, by go_num, K4.out⟩
            case measure => simp [intOf]; omega
    · obtain rfl : i = n := by omega
      have e := mix_all HXl.out
      rw [HX0l.out] at e
      rw [e] at hH
      have K5 := Lib.hid hH
      clear hH e
      go_wp2_with fail
      dsimp only [Exit.noGoto]
      trace_state
      go_end0
      exact ⟨rfl, K5.out⟩
end Go.Proofs.Ytlnbgfglpdkifaa
