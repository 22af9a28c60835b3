/- ShareKeeps: the walk. No condition but the words. -/
import Derived.Test.YtlnbgfglpdkifaaShCut
import Derived.Deep.RegionHeld3
namespace Go.Proofs.Ytlnbgfglpdkifaa
open Go.RowKit
set_option linter.unusedVariables false
set_option linter.unusedSimpArgs false
set_option maxRecDepth 100000

theorem cntO_snoc (l : List (Option Nat)) (o : Option Nat) (k : Nat) : cntO (l ++ [o]) k = cntO l k + if o = some k then 1 else 0 := by
  unfold cntO
  rw [List.filter_append, List.length_append, List.filter_cons, List.filter_nil]
  by_cases h : o = some k
  · rw [if_pos (by simpa using h), if_pos h]; rfl
  · rw [if_neg (by simpa using h), if_neg h]; rfl
theorem both_snoc {k : Nat} (a b : Option Nat) : ∀ {l r : List (Option Nat)}, l.length = r.length → bothN k (l ++ [a]) (r ++ [b]) = bothN k l r + if a = some k ∧ b = some k then 1 else 0
  | [], [], _ => by simp [bothN]
  | [], _ :: _, h => by simp at h
  | _ :: _, [], h => by simp at h
  | x :: l, y :: r, h => by
    show bothN k (x :: (l ++ [a])) (y :: (r ++ [b])) = _
    rw [bothN, bothN, both_snoc a b (l := l) (r := r) (by simpa using h)]; omega

/-- How far the counts are. -/
def KeC (ms : List Int) (ps : List Plc) (os : List Own) (k i h c : Nat) : Prop := h = cntO ((whoI ms ps os).take i) k ∧ c = bothN k ((whoI ms ps os).take i) ((outI ms ps os).take i)
theorem ke_take {α : Type} {l : List α} {k : Nat} {x : α} (h : l[k]? = some x) : l.take (k + 1) = l.take k ++ [x] := by
  rw [List.take_add_one, h]; rfl
theorem KeC.step {ms : List Int} {ps : List Plc} {os : List Own} {k i h c : Nat} {p : Plc} {y : Int} (K : KeC ms ps os k i h c) (hr : risI ms) (hp : ps[i]? = some p) (hy : ms[k]? = some y) :
    ∃ x, (asgI ms ps os)[i]? = some (p, x) ∧ (hadI os p ≠ y → KeC ms ps os k (i + 1) h c) ∧ (hadI os p = y → x ≠ y → KeC ms ps os k (i + 1) (h + 1) c) ∧ (hadI os p = y → x = y → KeC ms ps os k (i + 1) (h + 1) (c + 1)) := by
  have hi : i < ps.length := (List.getElem?_eq_some_iff.1 hp).1
  obtain ⟨hk, ey⟩ := List.getElem?_eq_some_iff.1 hy
  obtain ⟨o, ho⟩ := get_some (l := outI ms ps os) (i := i) (by rw [out_len]; exact hi)
  have hw : (whoI ms ps os)[i]? = some (idxI ms (hadI os p)) := by unfold whoI; rw [List.getElem?_map, hp]; rfl
  have h1 : idxI ms (hadI os p) = some k ↔ hadI os p = y := by rw [idx_iff hr.2.2 hk, ey]
  have h2 : idI ms o = y ↔ o = some k := by
    constructor
    · intro e
      rw [← idx_id hr (out_ok ms ps os o (List.mem_of_getElem? ho)), e, ← ey]; exact (idx_iff hr.2.2 hk).2 rfl
    · rintro rfl; rw [idI_at hk]; exact ey
  have hlen : ((whoI ms ps os).take i).length = ((outI ms ps os).take i).length := by rw [List.length_take, List.length_take, who_len, out_len]
  obtain ⟨k1, k2⟩ := K
  refine ⟨_, asgI_at hp ho, fun a => ⟨?_, ?_⟩, fun a b => ⟨?_, ?_⟩, fun a b => ⟨?_, ?_⟩⟩
  · rw [ke_take hw, cntO_snoc, ← k1, if_neg (fun e => a (h1.1 e))]; rfl
  · rw [ke_take hw, ke_take ho, both_snoc _ _ hlen, ← k2, if_neg (fun e => a (h1.1 e.1))]; rfl
  · rw [ke_take hw, cntO_snoc, ← k1, if_pos (h1.2 a)]
  · rw [ke_take hw, ke_take ho, both_snoc _ _ hlen, ← k2, if_neg (fun e => b (h2.2 e.2))]; rfl
  · rw [ke_take hw, cntO_snoc, ← k1, if_pos (h1.2 a)]
  · rw [ke_take hw, ke_take ho, both_snoc _ _ hlen, ← k2, if_pos ⟨h1.2 a, h2.1 b⟩]
theorem KeC.done {ms : List Int} {ps : List Plc} {os : List Own} {k n h c : Nat} (K : KeC ms ps os k n h c) (hn : n = ps.length) (hk : k < ms.length) :
    min h (n / ms.length) ≤ c ∧ (h ≤ n / ms.length → c = h) := by
  obtain ⟨k1, k2⟩ := K
  rw [List.take_of_length_le (by rw [who_len]; omega)] at k1 k2
  rw [List.take_of_length_le (by rw [out_len]; omega)] at k2
  have := keeps_law (by omega) (who_ok ms ps os) hk
  rw [who_len, ← hn] at this
  rw [k1, k2]; exact this

set_option maxHeartbeats 8000000 in
theorem shkeeps_walk (A : ShareApi) (s1 : Sl Int) (s2 : Sl Plc) (s3 : Sl Own) (w : World) (h1 : SlOk encI (okI .i64) 1 w s1) (h2 : SlOk encPl okPl 2 w s2) (h3 : SlOk encOw okOw 3 w s3) :
    Calls Try.prog 5 #[.slice s1.a s1.len s1.cap, .slice s2.a s2.len s2.cap, .slice s3.a s3.len s3.cap] w fun e w' => e = .returned (.bool true) ∧ Still w w' := by
  have HWk := Lib.hid (works16 A w)
  have m1 := h1.max
  have m2 := h2.max
  have m3 := h3.max
  unfold maxLen at m1 m2 m3
  have HCt := Lib.hid (fun V => cut_any V s1.a s2.a s3.a s1.len s2.len s3.len s1.cap s2.cap s3.cap h1.le h2.le h3.le (by omega) (by omega) (by omega))
  obtain ⟨m, hm⟩ : ∃ m, m = min s1.len 20 := ⟨_, rfl⟩
  obtain ⟨n, hn⟩ : ∃ n, n = min s2.len 257 := ⟨_, rfl⟩
  obtain ⟨k, hk⟩ : ∃ k, k = min s3.len 257 := ⟨_, rfl⟩
  have C := cut3 h1 h2 h3
  rw [← hm, ← hn, ← hk] at C HCt
  obtain ⟨ms, hms⟩ : ∃ l, l = s1.xs.take 20 := ⟨_, rfl⟩
  obtain ⟨ps, hps⟩ : ∃ l, l = s2.xs.take 257 := ⟨_, rfl⟩
  obtain ⟨os, hos⟩ : ∃ l, l = s3.xs.take 257 := ⟨_, rfl⟩
  rw [← hms, ← hps, ← hos] at C
  have HC := Lib.hid (fun V (hs : Still w V) => C.still hs)
  obtain ⟨a1, l1, z1', y1'⟩ := s1
  obtain ⟨a2, l2, z2, y2⟩ := s2
  obtain ⟨a3, l3, z3, y3⟩ := s3
  dsimp only at HCt ⊢
  have HLn := Lib.hid C.ln
  have HMx := Lib.hid C.mx
  clear h1 h2 h3 m1 m2 m3 hm hn hk hms hps hos C
  by_cases hE : asgE ms ps os = 0
  · obtain ⟨l, hl⟩ : ∃ l, l = asgI ms ps os := ⟨_, rfl⟩
    have hln : n = l.length := by rw [hl, asgI_len]; exact HLn.out
    have e4 := asgV_ok hE
    rw [← hl] at e4
    have hmx := HMx.out
    have HLm := Lib.hid (show m = ms.length from (HC.out w (Turned.refl _ _)).lm)
    have H1 := Lib.hid (fun V (hs : Still w V) c1 c2 c3 => (HC.out V hs).assign A (c1 := c1) (c2 := c2) (c3 := c3) hE e4 hln)
    have HR := Lib.hid (asgE_ok hE).2.2.1
    have HLk := Lib.hid (show k = os.length from (HC.out w (Turned.refl _ _)).lk)
    have HHd := Lib.hid (fun V (hs : Still w V) (p q : Int) c1 => hadR_any V a3 os k c1 (p, q) HLk.out (by omega) (HC.out V hs).hos)
    have HLL := Lib.hid hl
    obtain ⟨hm20, hn257, _⟩ := hmx
    clear hE e4 hln hl
    by_cases hm0 : m = 0
    · subst hm0
      go_enter Try.func5, Try.ntmps5
      go_wp2_with (first
        | (go_at_call 7; ((with_reducible refine HWk.out.mono ?_)); rintro e w1 ⟨rfl, hs⟩; have S1 := Lib.hid hs; clear hs)
        | (go_at_call 8; ((with_reducible refine (HCt.out _).mono ?_)); rintro e w2 ⟨rfl, hs⟩; have S2 := Lib.hid (S1.out.trans hs); clear hs S1))
      go_wp2_with (go_at_call 9; ((with_reducible refine (H1.out _ S2.out _ _ _).mono ?_)); rintro e w3 ⟨g3, c3, rfl, h, hs⟩; have S3 := Lib.hid (S2.out.trans hs); clear hs h S2)
      go_ret
      exact ⟨by first | rfl | simp, S3.out⟩
    · have hm1 : 0 < m := by omega
      have hm2 : (0 : Int) < (m : Int) := by omega
      have hm3 : ((m : Int) == 0) = false := by rw [beq_eq_false_iff_ne]; omega
      have hm5 : (m == 0) = false := by rw [beq_eq_false_iff_ne]; omega
      obtain ⟨q, hq⟩ : ∃ q, q = n / m := ⟨_, rfl⟩
      have hq1 : q ≤ n := by rw [hq]; exact Nat.div_le_self _ _
      have hwq : wrap64 ((n : Int) / (m : Int)) = (q : Int) := by rw [show (n : Int) / (m : Int) = ((n / m : Nat) : Int) from by simp, ← hq, IntWalk.wrap64_in _ (by omega)]
      have HQ := Lib.hid hq
      clear hq
      go_enter Try.func5, Try.ntmps5
      go_wp2_with (first
        | (go_at_call 7; ((with_reducible refine HWk.out.mono ?_)); rintro e w1 ⟨rfl, hs⟩; have S1 := Lib.hid hs; clear hs)
        | (go_at_call 8; ((with_reducible refine (HCt.out _).mono ?_)); rintro e w2 ⟨rfl, hs⟩; have S2 := Lib.hid (S1.out.trans hs); clear hs S1))
      go_wp2_with (go_at_call 9; ((with_reducible refine (H1.out _ S2.out _ _ _).mono ?_)); rintro e w3 ⟨g3, c3, rfl, h, hs⟩; have A3 := Lib.hid h; have S3 := Lib.hid (S2.out.trans hs); clear hs h S2)
      rw [hwq]
      clear hwq
      go_loopw [10] (fun kk wr => ∃ k : Nat, k ≤ m ∧ kk = .int .i64 k ∧ Still w3 wr) (fun kk _ => m - (intOf kk).toNat)
      case atStart => exact ⟨0, Nat.zero_le _, rfl, Turned.refl _ _⟩
      case round =>
        obtain ⟨j, hj, rfl, hs⟩ := hrel
        by_cases hlt : j < m
        · obtain ⟨y, hy⟩ := get_some (l := ms) (i := j) (by rw [← HLm.out]; exact hlt)
          have HY := Lib.hid hy
          have hji : (j : Int) < (m : Int) := by omega
          have HSr := Lib.hid hs
          clear hy hs
          go_wp2_with fail
          go_loopw [11, 12, 13] (fun hh cc ii wq => ∃ h c i : Nat, i ≤ n ∧ h ≤ i ∧ c ≤ i ∧ hh = .int .i64 h ∧ cc = .int .i64 c ∧ ii = .int .i64 i ∧ KeC ms ps os j i h c ∧ Still w3 wq) (fun _ _ ii _ => n - (intOf ii).toNat)
          case atStart => exact ⟨0, 0, 0, Nat.zero_le _, Nat.le_refl _, Nat.le_refl _, rfl, rfl, rfl, ⟨by simp [cntO_nil], by simp [bothN]⟩, HSr.out⟩
          case round =>
            obtain ⟨h, c, i, hin, hhi, hci, rfl, rfl, rfl, hK, hs2⟩ := hrel
            by_cases hlt2 : i < n
            · obtain ⟨⟨pt, pp⟩, hp⟩ := get_some (l := ps) (i := i) (by rw [← HLn.out]; exact hlt2)
              obtain ⟨x, hx, K1, K2, K3⟩ := hK.step HR.out hp HY.out
              rw [← HLL.out] at hx
              have hsw := S3.out.trans hs2
              obtain ⟨gb, go, rfl, d0, d1, d2⟩ := OwAt.get (row_still A3.out hs2) hx
              obtain ⟨pb, po, hpa, y0, y1⟩ := PlAt.get (HC.out _ hsw).hps hp
              obtain ⟨mb, mo, hma, t0⟩ := (HC.out _ hsw).hms j y HY.out
              dsimp only at hpa hma
              subst hpa hma
              have hii : (i : Int) < (n : Int) := by omega
              have KK1 := Lib.hid K1
              have KK2 := Lib.hid K2
              have KK3 := Lib.hid K3
              have hd : Still w wr.drew := hsw.drew
              have HT0 := Lib.hid t0
              have HD2 := Lib.hid d2
              have HS2 := Lib.hid hs2
              clear hp hx K1 K2 K3 hK hs2 d0 d1 d2
              have hyy0 : wr.drew.cell? ⟨pb, po + i * 2, none⟩ = some (.int .i64 pt) := by simpa using y0
              have hyy1 : wr.drew.cell? ⟨pb, po + i * 2 + 1, none⟩ = some (.int .i64 pp) := by simpa using y1
              have htt0 : wr.drew.cell? ⟨mb, mo + j, none⟩ = some (.int .i64 y) := by simpa using t0
              go_wp2_with fail
              go_region_held3 (fun V => V.cell? ⟨mb, mo + j, none⟩ = some (.int .i64 y) ∧ V.cell? ⟨pb, po + i * 2, none⟩ = some (.int .i64 pt) ∧ V.cell? ⟨pb, po + i * 2 + 1, none⟩ = some (.int .i64 pp)) (first | exact ⟨by assumption, by assumption, by assumption⟩ | go_keep) (first
                | (go_at_call 14; ((with_reducible refine (HHd.out _ hd pt pp _).mono ?_)); rintro e w5 ⟨rfl, hs5⟩; have tt5 := still_cell hs5 htt0 rfl; have ty5 := still_cell hs5 hyy0 rfl; have tz5 := still_cell hs5 hyy1 rfl))
              all_goals
                have hsr : Still wr w5 := ((Turned.refl _ wr).drew).trans hs5
                have HS6 := Lib.hid (HS2.out.trans hsr)
                have d5 := still_cell hsr HD2.out rfl
                clear hs5 hsr hd hyy0 hyy1 htt0 ty5 tz5 y0 y1 t0
                by_cases ha : hadI os (pt, pp) = y
                · have hb : (hadI os (pt, pp) != y) = false := by simpa using ha
                  by_cases hxy : x = y
                  · have KN := Lib.hid (KK3.out ha hxy)
                    have hc : (x == y) = true := by simpa using hxy
                    go_wp2_with fail
                    go_quiet (fail)
                    go_wp2_with fail
                    go_roundw
                    case rel => exact ⟨h + 1, c + 1, i + 1, by omega, by omega, by omega, by go_num, by go_num, by go_num, KN.out, HS6.out.drewN _⟩
                    case measure => simp [intOf]; omega
                  · have KN := Lib.hid (KK2.out ha hxy)
                    have hc : (x == y) = false := by simpa using hxy
                    go_wp2_with fail
                    go_quiet (fail)
                    go_wp2_with fail
                    go_roundw
                    case rel => exact ⟨h + 1, c, i + 1, by omega, by omega, by omega, by go_num, rfl, by go_num, KN.out, HS6.out.drewN _⟩
                    case measure => simp [intOf]; omega
                · have hb : (hadI os (pt, pp) != y) = true := by simpa using ha
                  have KN := Lib.hid (KK1.out ha)
                  go_wp2_with fail
                  go_roundw
                  case rel => exact ⟨h, c, i + 1, by omega, by omega, by omega, rfl, rfl, by go_num, KN.out, HS6.out⟩
                  case measure => simp [intOf]; omega
            · obtain rfl : i = n := by omega
              obtain ⟨f1, f2⟩ := hK.done HLn.out (by rw [← HLm.out]; exact hlt)
              rw [← HLm.out, ← HQ.out] at f1 f2
              have HS6 := Lib.hid hs2
              clear hK hs2 hlt2
              by_cases hhq : h ≤ q
              · have e := f2 hhq
                subst e
                have g1 : (c : Int) ≤ (q : Int) := by omega
                have g2 : (if (q : Int) < (c : Int) then (q : Int) else (c : Int)) = (c : Int) := if_neg (by omega)
                go_wp2_with fail
                go_roundw
                case rel => exact ⟨j + 1, by omega, by go_num, HS6.out⟩
                case measure => simp [intOf]; omega
              · have g1 : ¬ (h : Int) ≤ (q : Int) := by omega
                have g2 : (if (q : Int) < (h : Int) then (q : Int) else (h : Int)) = (q : Int) := if_pos (by omega)
                have g3 : ¬ (c : Int) < (q : Int) := by omega
                go_wp2_with fail
                go_roundw
                case rel => exact ⟨j + 1, by omega, by go_num, HS6.out⟩
                case measure => simp [intOf]; omega
        · obtain rfl : j = m := by omega
          have S4 := Lib.hid (S3.out.trans hs)
          clear hlt hs
          go_wp2_with fail
          go_ret
          exact ⟨by first | rfl | simp, S4.out⟩
  · have e4 := asgV_no hE
    obtain ⟨E, hEE⟩ : ∃ E, E = asgE ms ps os := ⟨_, rfl⟩
    rw [← hEE] at hE
    have hEb : (E != 0) = true := by simpa using hE
    have H1 := Lib.hid (fun V (hs : Still w V) c1 c2 c3 => (HC.out V hs).assign A (c1 := c1) (c2 := c2) (c3 := c3) hEE.symm e4 (r := 0) rfl)
    clear e4 hEE
    go_enter Try.func5, Try.ntmps5
    go_wp2_with (first
      | (go_at_call 7; ((with_reducible refine HWk.out.mono ?_)); rintro e w1 ⟨rfl, hs⟩; have S1 := Lib.hid hs; clear hs)
      | (go_at_call 8; ((with_reducible refine (HCt.out _).mono ?_)); rintro e w2 ⟨rfl, hs⟩; have S2 := Lib.hid (S1.out.trans hs); clear hs S1))
    go_wp2_with (go_at_call 9; ((with_reducible refine (H1.out _ S2.out _ _ _).mono ?_)); rintro e w3 ⟨g3, c3, rfl, _, hs⟩; have S3 := Lib.hid (S2.out.trans hs); clear hs S2)
    go_ret
    exact ⟨by first | rfl | simp, S3.out⟩
end Go.Proofs.Ytlnbgfglpdkifaa
