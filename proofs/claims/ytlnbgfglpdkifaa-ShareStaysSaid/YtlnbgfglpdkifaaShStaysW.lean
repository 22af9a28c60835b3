/- ShareStays: the walk. No condition but the words. -/
import Derived.Test.YtlnbgfglpdkifaaShCut
namespace Go.Proofs.Ytlnbgfglpdkifaa
open Go.RowKit
set_option linter.unusedVariables false
set_option linter.unusedSimpArgs false
set_option maxRecDepth 100000

theorem asg_again_ok {ms : List Int} {ps : List Plc} {os : List Own} (h : asgE ms ps os = 0) : asgE ms ps (asgI ms ps os) = 0 ∧ asgV ms ps (asgI ms ps os) = asgI ms ps os ∧ movedI (asgI ms ps os) (asgI ms ps os) = [] := by
  obtain ⟨h1, h2, h3, h4⟩ := asgE_ok h
  have e := asgE_of (ms := ms) (os := asgI ms ps os) h1 (by rw [asgI_len]; exact h1) h3 h4
  exact ⟨e, by rw [asgV_ok e]; exact asgI_again h3 h4, moved_none h4⟩

set_option maxHeartbeats 4000000 in
theorem shstays_walk (A : ShareApi) (s1 : Sl Int) (s2 : Sl Plc) (s3 : Sl Own) (w : World) (h1 : SlOk encI (okI .i64) 1 w s1) (h2 : SlOk encPl okPl 2 w s2) (h3 : SlOk encOw okOw 3 w s3) :
    Calls Try.prog 4 #[.slice s1.a s1.len s1.cap, .slice s2.a s2.len s2.cap, .slice s3.a s3.len s3.cap] w fun e w' => e = .returned (.bool true) ∧ Still w w' := by
  have HWk := Lib.hid (works16 A w)
  have m1 := h1.max
  have m2 := h2.max
  have m3 := h3.max
  unfold maxLen at m1 m2 m3
  have HCt := Lib.hid (fun V => cut_any V s1.a s2.a s3.a s1.len s2.len s3.len s1.cap s2.cap s3.cap h1.le h2.le h3.le (by omega) (by omega) (by omega))
  obtain ⟨m, hm⟩ : ∃ m, m = min s1.len 20 := ⟨_, rfl⟩
  obtain ⟨n, hn⟩ : ∃ n, n = min s2.len 257 := ⟨_, rfl⟩
  obtain ⟨k, hk⟩ : ∃ k, k = min s3.len 257 := ⟨_, rfl⟩
  have C := cut3 h1 h2 h3
  rw [← hm, ← hn, ← hk] at C HCt
  obtain ⟨ms, hms⟩ : ∃ l, l = s1.xs.take 20 := ⟨_, rfl⟩
  obtain ⟨ps, hps⟩ : ∃ l, l = s2.xs.take 257 := ⟨_, rfl⟩
  obtain ⟨os, hos⟩ : ∃ l, l = s3.xs.take 257 := ⟨_, rfl⟩
  rw [← hms, ← hps, ← hos] at C
  have HC := Lib.hid (fun V (hs : Still w V) => C.still hs)
  obtain ⟨a1, l1, z1, y1⟩ := s1
  obtain ⟨a2, l2, z2, y2⟩ := s2
  obtain ⟨a3, l3, z3, y3⟩ := s3
  dsimp only at HCt ⊢
  have HLn := Lib.hid C.ln
  have HMx := Lib.hid C.mx
  clear h1 h2 h3 m1 m2 m3 hm hn hk hms hps hos C
  by_cases hE : asgE ms ps os = 0
  · obtain ⟨e1, e2, e3⟩ := asg_again_ok hE
    obtain ⟨l, hl⟩ : ∃ l, l = asgI ms ps os := ⟨_, rfl⟩
    have hln : n = l.length := by rw [hl, asgI_len]; exact HLn.out
    have e4 := asgV_ok hE
    rw [← hl] at e1 e2 e3 e4
    have hmx := HMx.out
    have HNd := Lib.hid (asgV_nodup hE e4)
    have H1 := Lib.hid (fun V (hs : Still w V) c1 c2 c3 => (HC.out V hs).assign A (c1 := c1) (c2 := c2) (c3 := c3) hE e4 hln)
    have H2 := Lib.hid (fun V (hs : Still w V) g (hg : OwAt V g l) c1 c2 c3 => (HC.out V hs).assign2 A hg hln (by omega) (c1 := c1) (c2 := c2) (c3 := c3) e1 e2 hln)
    have H3 := Lib.hid (fun V g g' (hg : OwAt V g l) (hg' : OwAt V g' l) c1 c2 => show Calls Try.prog 13 #[.slice g n c1, .slice g' n c2] V _ from A.moved hln hln (by omega) (by omega) hg hg' HNd.out [] 0 e3.symm rfl)
    have H4 := Lib.hid (fun V g g' (hg : OwAt V g l) (hg' : OwAt V g' l) c1 c2 => show Calls Try.prog 12 #[.slice g n c1, .slice g' n c2] V _ from sameOw_any V g g' l l n n c1 c2 hln hln (by omega) hg hg')
    clear hE e1 e2 e3 e4 hl hln hmx
    go_enter Try.func4, Try.ntmps4
    go_wp2_with (first
      | (go_at_call 7; ((with_reducible refine HWk.out.mono ?_)); rintro e w1 ⟨rfl, hs⟩; have S1 := Lib.hid hs; clear hs)
      | (go_at_call 8; ((with_reducible refine (HCt.out _).mono ?_)); rintro e w2 ⟨rfl, hs⟩; have S2 := Lib.hid (S1.out.trans hs); clear hs S1))
    go_wp2_with (go_at_call 9; ((with_reducible refine (H1.out _ S2.out _ _ _).mono ?_)); rintro e w3 ⟨g3, c3, rfl, h, hs⟩; have A3 := Lib.hid h; have S3 := Lib.hid (S2.out.trans hs); clear hs h S2)
    go_wp2_with (go_at_call 9; ((with_reducible refine (H2.out _ S3.out _ A3.out _ _ _).mono ?_)); rintro e w4 ⟨g4, c4, rfl, h, hs⟩; have A4 := Lib.hid (row_still A3.out hs); have B4 := Lib.hid h; have S4 := Lib.hid (S3.out.trans hs); clear hs h S3 A3)
    go_wp2_with (first
      | (go_at_call 12; ((with_reducible refine (H4.out _ _ _ A4.out B4.out _ _).mono ?_)); rintro e w5 ⟨rfl, hs⟩; have A5 := Lib.hid (row_still A4.out hs); have B5 := Lib.hid (row_still B4.out hs); have S5 := Lib.hid (S4.out.trans hs); clear hs S4 A4 B4)
      | (go_at_call 13; ((with_reducible refine (H3.out _ _ _ A5.out B5.out _ _).mono ?_)); rintro e w6 ⟨g6, c6, rfl, _, hs⟩; have S6 := Lib.hid (S5.out.trans hs); clear hs S5 A5 B5))
    go_ret
    exact ⟨by first | rfl | simp, S6.out⟩
  · have e4 := asgV_no hE
    obtain ⟨E, hEE⟩ : ∃ E, E = asgE ms ps os := ⟨_, rfl⟩
    rw [← hEE] at hE
    have hEb : (E != 0) = true := by simpa using hE
    have H1 := Lib.hid (fun V (hs : Still w V) c1 c2 c3 => (HC.out V hs).assign A (c1 := c1) (c2 := c2) (c3 := c3) hEE.symm e4 (r := 0) rfl)
    clear e4 hEE
    go_enter Try.func4, Try.ntmps4
    go_wp2_with (first
      | (go_at_call 7; ((with_reducible refine HWk.out.mono ?_)); rintro e w1 ⟨rfl, hs⟩; have S1 := Lib.hid hs; clear hs)
      | (go_at_call 8; ((with_reducible refine (HCt.out _).mono ?_)); rintro e w2 ⟨rfl, hs⟩; have S2 := Lib.hid (S1.out.trans hs); clear hs S1))
    go_wp2_with (go_at_call 9; ((with_reducible refine (H1.out _ S2.out _ _ _).mono ?_)); rintro e w3 ⟨g3, c3, rfl, _, hs⟩; have S3 := Lib.hid (S2.out.trans hs); clear hs S2)
    go_ret
    exact ⟨by first | rfl | simp, S3.out⟩
end Go.Proofs.Ytlnbgfglpdkifaa
