/- ShareAll: the walk. No condition but the words. -/
import Derived.Test.YtlnbgfglpdkifaaShCut
namespace Go.Proofs.Ytlnbgfglpdkifaa
open Go.RowKit
set_option linter.unusedVariables false
set_option linter.unusedSimpArgs false
set_option maxRecDepth 100000

theorem foldl_max_le {q : Nat} : ∀ (l : List Nat) (a : Nat), a ≤ q → (∀ x, x ∈ l → x ≤ q) → l.foldl max a ≤ q
  | [], a, h, _ => h
  | x :: l, a, h, hl => foldl_max_le l (max a x) (by have := hl x (List.mem_cons_self ..); omega) (fun y hy => hl y (List.mem_cons_of_mem _ hy))
theorem foldl_min_ge {q : Nat} : ∀ (l : List Nat) (a : Nat), q ≤ a → (∀ x, x ∈ l → q ≤ x) → q ≤ l.foldl min a
  | [], a, h, _ => h
  | x :: l, a, h, hl => foldl_min_ge l (min a x) (by have := hl x (List.mem_cons_self ..); omega) (fun y hy => hl y (List.mem_cons_of_mem _ hy))
theorem even_le {ms : List Int} {ps : List Plc} {os : List Own} (hr : risI ms) : evenI ms (asgI ms ps os) ≤ 1 := by
  have hb : ∀ x, x ∈ cntsI ms (asgI ms ps os) → ps.length / ms.length ≤ x ∧ x ≤ ps.length / ms.length + 1 := by
    intro x hx
    obtain ⟨id, hid, rfl⟩ := List.mem_map.1 hx
    obtain ⟨k, hk, rfl⟩ := List.mem_iff_getElem.1 hid
    exact of_even hr hk
  unfold evenI
  cases hc : cntsI ms (asgI ms ps os) with
  | nil => simp
  | cons x r =>
    rw [hc] at hb
    have h1 := foldl_max_le r x (hb x (List.mem_cons_self ..)).2 (fun y hy => (hb y (List.mem_cons_of_mem _ hy)).2)
    have h2 := foldl_min_ge r x (hb x (List.mem_cons_self ..)).1 (fun y hy => (hb y (List.mem_cons_of_mem _ hy)).1)
    show ((r.foldl max x : Nat) : Int) - ((r.foldl min x : Nat) : Int) ≤ 1
    omega

set_option maxHeartbeats 4000000 in
theorem shall_walk (A : ShareApi) (s1 : Sl Int) (s2 : Sl Plc) (s3 : Sl Own) (w : World) (h1 : SlOk encI (okI .i64) 1 w s1) (h2 : SlOk encPl okPl 2 w s2) (h3 : SlOk encOw okOw 3 w s3) :
    Calls Try.prog 3 #[.slice s1.a s1.len s1.cap, .slice s2.a s2.len s2.cap, .slice s3.a s3.len s3.cap] w fun e w' => e = .returned (.bool true) ∧ Still w w' := by
  have HWk := Lib.hid (works16 A w)
  have m1 := h1.max
  have m2 := h2.max
  have m3 := h3.max
  unfold maxLen at m1 m2 m3
  have HCt := Lib.hid (fun V => cut_any V s1.a s2.a s3.a s1.len s2.len s3.len s1.cap s2.cap s3.cap h1.le h2.le h3.le (by omega) (by omega) (by omega))
  obtain ⟨m, hm⟩ : ∃ m, m = min s1.len 20 := ⟨_, rfl⟩
  obtain ⟨n, hn⟩ : ∃ n, n = min s2.len 257 := ⟨_, rfl⟩
  obtain ⟨k, hk⟩ : ∃ k, k = min s3.len 257 := ⟨_, rfl⟩
  have C := cut3 h1 h2 h3
  rw [← hm, ← hn, ← hk] at C HCt
  obtain ⟨ms, hms⟩ : ∃ l, l = s1.xs.take 20 := ⟨_, rfl⟩
  obtain ⟨ps, hps⟩ : ∃ l, l = s2.xs.take 257 := ⟨_, rfl⟩
  obtain ⟨os, hos⟩ : ∃ l, l = s3.xs.take 257 := ⟨_, rfl⟩
  rw [← hms, ← hps, ← hos] at C
  have HC := Lib.hid (fun V (hs : Still w V) => C.still hs)
  have HCp := Lib.hid (show m ≤ s1.cap from by have := h1.le; omega)
  obtain ⟨a1, l1, z1', y1'⟩ := s1
  obtain ⟨a2, l2, z2, y2⟩ := s2
  obtain ⟨a3, l3, z3, y3⟩ := s3
  dsimp only at HCt ⊢
  have HLn := Lib.hid C.ln
  have HMx := Lib.hid C.mx
  clear h1 h2 h3 m1 m2 m3 hm hn hk hms hps hos C
  by_cases hE : asgE ms ps os = 0
  · obtain ⟨l, hl⟩ : ∃ l, l = asgI ms ps os := ⟨_, rfl⟩
    have hln : n = l.length := by rw [hl, asgI_len]; exact HLn.out
    have e4 := asgV_ok hE
    have hev := even_le (asgE_ok hE).2.2.1 (ps := ps) (os := os)
    have HAt := Lib.hid (fun (i : Nat) (p : Plc) (hp : ps[i]? = some p) => asgI_all (ms := ms) (os := os) hp)
    rw [← hl] at e4 hev HAt
    have hmx := HMx.out
    have HNd := Lib.hid (asgV_nodup hE e4)
    have HLm := Lib.hid (show m = ms.length from (HC.out w (Turned.refl _ _)).lm)
    have H1 := Lib.hid (fun V (hs : Still w V) c1 c2 c3 => (HC.out V hs).assign A (c1 := c1) (c2 := c2) (c3 := c3) hE e4 hln)
    have H2 := Lib.hid (fun V (hs : Still w V) g (hg : OwAt V g l) c1 c2 (hc : m ≤ c1) => show Calls Try.prog 11 #[.slice a1 m c1, .slice g n c2] V _ from A.even HLm.out hln (by omega) (by omega) (HC.out V hs).hms hg hc HNd.out _ rfl)
    have HHs := Lib.hid (fun V (hs : Still w V) x c1 => hasI_any V a1 ms m c1 x HLm.out (by omega) (HC.out V hs).hms)
    have HEv := Lib.hid hev
    obtain ⟨hm20, hn257, _⟩ := hmx
    clear hE e4 hl hln hev
    go_enter Try.func3, Try.ntmps3
    go_wp2_with (first
      | (go_at_call 7; ((with_reducible refine HWk.out.mono ?_)); rintro e w1 ⟨rfl, hs⟩; have S1 := Lib.hid hs; clear hs)
      | (go_at_call 8; ((with_reducible refine (HCt.out _).mono ?_)); rintro e w2 ⟨rfl, hs⟩; have S2 := Lib.hid (S1.out.trans hs); clear hs S1))
    go_wp2_with (go_at_call 9; ((with_reducible refine (H1.out _ S2.out _ _ _).mono ?_)); rintro e w3 ⟨g3, c3, rfl, h, hs⟩; have A3 := Lib.hid h; have S3 := Lib.hid (S2.out.trans hs); clear hs h S2)
    go_loopw [9] (fun i wr => ∃ k : Nat, k ≤ n ∧ i = .int .i64 k ∧ Still w3 wr) (fun i _ => n - (intOf i).toNat)
    case atStart => exact ⟨0, Nat.zero_le _, rfl, Turned.refl _ _⟩
    case round =>
      obtain ⟨k, hk, rfl, hs⟩ := hrel
      by_cases hlt : k < n
      · obtain ⟨⟨pt, pp⟩, hp⟩ := get_some (l := ps) (i := k) (by rw [← HLn.out]; exact hlt)
        obtain ⟨x, hx, hx1, hx2⟩ := HAt.out k _ hp
        have hsw := S3.out.trans hs
        obtain ⟨gb, go, rfl, d0, d1, d2⟩ := OwAt.get (row_still A3.out hs) hx
        obtain ⟨pb, po, hpa, y0, y1⟩ := PlAt.get (HC.out _ hsw).hps hp
        dsimp only at hpa
        subst hpa
        have hki : (k : Int) < (n : Int) := by omega
        have hgek : decide ((n : Int) ≤ (k : Int)) = false := by simpa using hki
        have HS := Lib.hid hs
        have HW := Lib.hid hsw
        by_cases hm0 : m = 0
        · have e0 : ms = [] := List.eq_nil_of_length_eq_zero (by rw [← HLm.out]; exact hm0)
          obtain rfl := hx2 (by rw [e0]; rfl)
          subst hm0 e0
          have HQ := Lib.hid (fun q => show Calls Try.prog 10 #[.slice a1 (0 : Nat) z1', .int .i64 (-1)] (wr.drewN q) fun e w' => e = .returned (.bool false) ∧ wr.drewN q = w' from (HHs.out _ (hsw.drewN q) (-1) z1').mono fun e w' ⟨he, hw⟩ => ⟨by rw [he]; rfl, hw⟩)
          clear hp hx hx1 hx2 hs hsw
          go_wp2_with fail
          go_quiet ((go_at_call 10; ((with_reducible exact quietEq (HQ.out _)))))
          go_wp2_with fail
          go_roundw
          case rel => exact ⟨k + 1, by omega, by go_num, HS.out.drewN _⟩
          case measure => simp [intOf]; omega
        · have hxm := hx1 (by rw [← HLm.out]; omega)
          have HQ := Lib.hid (fun q => show Calls Try.prog 10 #[.slice a1 m z1', .int .i64 x] (wr.drewN q) fun e w' => e = .returned (.bool true) ∧ wr.drewN q = w' from (HHs.out _ (hsw.drewN q) x z1').mono fun e w' ⟨he, hw⟩ => ⟨by rw [he, decide_eq_true hxm], hw⟩)
          have hm1 : (0 : Int) < (m : Int) := by omega
          have hm2 : 0 < m := by omega
          have hm3 : ((m : Int) == 0) = false := by rw [beq_eq_false_iff_ne]; omega
          have hm4 : decide ((0 : Int) < (m : Int)) = true := decide_eq_true hm1
          have hm5 : (m == 0) = false := by rw [beq_eq_false_iff_ne]; omega
          clear hp hx hx1 hx2 hs hsw
          go_wp2_with fail
          go_quiet ((go_at_call 10; ((with_reducible exact quietEq (HQ.out _)))))
          go_wp2_with fail
          go_roundw
          case rel => exact ⟨k + 1, by omega, by go_num, HS.out.drewN _⟩
          case measure => simp [intOf]; omega
      · obtain rfl : k = n := by omega
        have hev : decide (evenI ms l ≤ 1) = true := by simpa using HEv.out
        have A4 := Lib.hid (row_still A3.out hs)
        have S4 := Lib.hid (S3.out.trans hs)
        clear hlt hs
        go_wp2_with (go_at_call 11; ((with_reducible refine (H2.out _ S4.out _ A4.out _ _ HCp.out).mono ?_)); rintro e w5 ⟨rfl, hs⟩; have S5 := Lib.hid (S4.out.trans hs); clear hs)
        go_ret
        exact ⟨by first | rfl | simp, S5.out⟩
  · have e4 := asgV_no hE
    obtain ⟨E, hEE⟩ : ∃ E, E = asgE ms ps os := ⟨_, rfl⟩
    rw [← hEE] at hE
    have hEb : (E != 0) = true := by simpa using hE
    have H1 := Lib.hid (fun V (hs : Still w V) c1 c2 c3 => (HC.out V hs).assign A (c1 := c1) (c2 := c2) (c3 := c3) hEE.symm e4 (r := 0) rfl)
    clear e4 hEE
    go_enter Try.func3, Try.ntmps3
    go_wp2_with (first
      | (go_at_call 7; ((with_reducible refine HWk.out.mono ?_)); rintro e w1 ⟨rfl, hs⟩; have S1 := Lib.hid hs; clear hs)
      | (go_at_call 8; ((with_reducible refine (HCt.out _).mono ?_)); rintro e w2 ⟨rfl, hs⟩; have S2 := Lib.hid (S1.out.trans hs); clear hs S1))
    go_wp2_with (go_at_call 9; ((with_reducible refine (H1.out _ S2.out _ _ _).mono ?_)); rintro e w3 ⟨g3, c3, rfl, _, hs⟩; have S3 := Lib.hid (S2.out.trans hs); clear hs S2)
    go_ret
    exact ⟨by first | rfl | simp, S3.out⟩
end Go.Proofs.Ytlnbgfglpdkifaa
