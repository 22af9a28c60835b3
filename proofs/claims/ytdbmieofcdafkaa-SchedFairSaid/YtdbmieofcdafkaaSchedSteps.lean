/- A machine of any programs is made, or refused, and any picks do what the document's own machine does: the walk of the statement SchedSteps. No condition. -/
import Derived.Test.YtdbmieofcdafkaaQMake
import Derived.Test.YtdbmieofcdafkaaSame
namespace Go.Proofs.Ytdbmieofcdafkaa
open Go.RowKit
set_option linter.unusedVariables false
set_option linter.unusedSimpArgs false
set_option maxRecDepth 100000

theorem qmade_none {w : World} {B : Nat} {ao : Option Addr} {cc : Nat} {pss : List (Sl Ins)} (h : PsOwn B w ao cc pss) {n : Int} {P : List (List Ins)} (hP : pss.map (·.xs) = P) (hm : mkM n P = none) :
    Calls Try.prog 12 #[.int .i64 n, .slice ao pss.length cc] w fun e w' => e = .returned (.tuple #[.pointer none, .int .i64 ((mkE n P).1 : Nat), .int .i64 (mkE n P).2]) ∧ Still w w' := by
  have hl : P.length = pss.length := by rw [← hP, List.length_map]
  by_cases hi : MkIn n P
  · obtain ⟨⟨h1, h2⟩, h3, h4⟩ := id hi
    obtain ⟨m, rfl⟩ : ∃ m : Nat, n = m := ⟨n.toNat, by omega⟩
    refine (qmake_any m (by omega) (by omega) ao pss.length cc (by omega) (by omega) pss w h.ok).mono ?_
    rintro e w' (⟨k, er, hf, rfl, hT⟩ | ⟨hf, L, rfl, hSM, hT, hlo, hhi⟩)
    · rw [hP] at hf
      unfold mkE
      rw [if_pos hi, hf]
      exact ⟨rfl, hT⟩
    · rw [hP] at hf
      unfold mkM at hm
      rw [if_pos hi, hf] at hm
      cases hm
  · unfold mkE
    rw [if_neg hi]
    by_cases hn : 1 ≤ n ∧ n ≤ 64
    · obtain ⟨m, rfl⟩ : ∃ m : Nat, n = m := ⟨n.toNat, by omega⟩
      exact qmake_argp m (by omega) (by omega) ao pss.length cc (fun hc => hi ⟨hn, by omega, by omega⟩) w
    · exact qmake_argc n hn ao pss.length cc w

theorem qmade_some {w : World} {B : Nat} {ao : Option Addr} {cc : Nat} {pss : List (Sl Ins)} (h : PsOwn B w ao cc pss) {n : Int} {P : List (List Ins)} {M : Mach} (hP : pss.map (·.xs) = P) (hm : mkM n P = some M) :
    Calls Try.prog 12 #[.int .i64 n, .slice ao pss.length cc] w fun e w' => ∃ L : QLay, e = .returned (.tuple #[.pointer (some ⟨L.hb, 0, none⟩), .int .i64 (M.ss.length : Nat), .int .i64 0]) ∧ QM w' L M ∧ Still w w' ∧ w.heap.size ≤ L.lo ∧ L.hi ≤ w'.heap.size := by
  have hl : P.length = pss.length := by rw [← hP, List.length_map]
  unfold mkM at hm
  by_cases hi : MkIn n P
  · rw [if_pos hi] at hm
    obtain ⟨⟨h1, h2⟩, h3, h4⟩ := hi
    obtain ⟨m, rfl⟩ : ∃ m : Nat, n = m := ⟨n.toNat, by omega⟩
    refine (qmake_any m (by omega) (by omega) ao pss.length cc (by omega) (by omega) pss w h.ok).mono ?_
    rintro e w' (⟨k, er, hf, rfl, hT⟩ | ⟨hf, L, rfl, hSM, hT, hlo, hhi⟩)
    · rw [hP] at hf
      rw [hf] at hm
      cases hm
    · rw [hP] at hf hSM
      rw [hf] at hm
      have hm : mach0 m P = M := by simpa using hm
      subst hm
      refine ⟨L, ?_, hSM, hT, hlo, hhi⟩
      rw [show (mach0 m P).ss.length = pss.length by simp [mach0, hl]]
  · rw [if_neg hi] at hm; cases hm

/-- Both machines in one memory, behind all that was there. -/
structure XY (w V : World) (Lx : Lay) (Ly : QLay) (Ma Mb : Mach) : Prop where
  x : SM V Lx Ma
  y : QM V Ly Mb
  t : Still w V

structure Apart (w : World) (Lx : Lay) (Ly : QLay) : Prop where
  a : w.heap.size ≤ Lx.lo
  b : Lx.hi ≤ Ly.lo
  c : Lx.lo ≤ Lx.hi

theorem XY.still {w V V' : World} {Lx : Lay} {Ly : QLay} {Ma Mb : Mach} (h : XY w V Lx Ly Ma Mb) (ht : Still V V') : XY w V' Lx Ly Ma Mb := ⟨h.x.still ht, h.y.still ht, h.t.trans ht⟩

theorem XY.stepX {w V : World} {Lx : Lay} {Ly : QLay} {Ma Mb : Mach} (A : Apart w Lx Ly) (h : XY w V Lx Ly Ma Mb) (k : Int) :
    Calls Try.prog 14 #[.pointer (some ⟨Lx.hb, 0, none⟩), .int .i64 k] V fun e w' => e = .returned (.bool (!Ma.over k)) ∧ XY w w' Lx Ly (Ma.step k) Mb :=
  (step_any h.x k).mono fun e w' ⟨h1, h2, h3⟩ => ⟨h1, h2, h.y.turned h3 (fun b hb => .inl (Nat.lt_of_lt_of_le (h.x.W_in hb).2 A.b)), h.t.past h3 (fun b hb => .inr (Nat.le_trans A.a (h.x.W_in hb).1))⟩

theorem XY.stepY {w V : World} {Lx : Lay} {Ly : QLay} {Ma Mb : Mach} (A : Apart w Lx Ly) (h : XY w V Lx Ly Ma Mb) (k : Int) :
    Calls Try.prog 15 #[.pointer (some ⟨Ly.hb, 0, none⟩), .int .i64 k] V fun e w' => e = .returned (.bool (!Mb.over k)) ∧ XY w w' Lx Ly Ma (Mb.step k) :=
  (qstep_any h.y k).mono fun e w' ⟨h1, h2, h3⟩ => ⟨h1, h.x.turned h3 (fun b hb => .inr (Nat.le_trans A.b (h.y.W_in hb).1)), h2, h.t.past h3 (fun b hb => .inr (by have := (h.y.W_in hb).1; have := A.a; have := A.b; have := A.c; omega))⟩

theorem XY.same {w V : World} {Lx : Lay} {Ly : QLay} {M : Mach} (h : XY w V Lx Ly M M) :
    Calls Try.prog 16 #[.pointer (some ⟨Lx.hb, 0, none⟩), .pointer (some ⟨Ly.hb, 0, none⟩)] V fun e w' => e = .returned (.bool true) ∧ XY w w' Lx Ly M M :=
  (same_any h.x h.y).mono fun e w' ⟨h1, h2⟩ => ⟨h1, h.still h2⟩

theorem SM.lohi {w : World} {L : Lay} {M : Mach} (H : SM w L M) : L.lo ≤ L.hi := by have := H.i1; omega

set_option maxHeartbeats 8000000 in
theorem walk_SchedSteps (n0 : Int) (s : Sl (Sl Ins)) (t : Sl Int) (w : World) (_ : (Lit.int .i64 n0).wf = true) (hs : SlOk encSl (SlOk insEnc okT 4) 1 w s) (ht : SlOk encI (okI .i64) 1 w t) :
    Calls Try.prog 3 #[.int .i64 n0, .slice s.a s.len s.cap, .slice t.a t.len t.cap] w fun e w' => e = .returned (.bool true) ∧ Still w w' := by
  have HTX := Lib.hid (nums_row ht.row)
  have HTL := Lib.hid (show t.xs.length = t.len from ht.len)
  obtain ⟨ta, tl, tc, tx⟩ := t
  have HF := Lib.hid (few_any s w hs)
  clear hs ht
  dsimp only at HTX HTL ⊢
  obtain ⟨P, hP⟩ : ∃ P, P = fewL (s.xs.map (·.xs)) := ⟨_, rfl⟩
  cases hm : mkM n0 P with
  | none =>
    have HM := Lib.hid hm
    have HPP := Lib.hid hP
    obtain ⟨er, her⟩ : ∃ er, er = (mkE n0 P).2 := ⟨_, rfl⟩
    obtain ⟨ek, hek⟩ : ∃ ek, ek = (mkE n0 P).1 := ⟨_, rfl⟩
    have HE := Lib.hid her
    have HK := Lib.hid hek
    clear hm hP her hek
    go_enter Try.func3, Try.ntmps3
    go_wp2_with fail
    refine HF.out.mono ?_
    rintro e w2 ⟨ao, cc, pss, rfl, hPO, hpm, hT2⟩
    have HMk := Lib.hid (made_none hPO (P := P) (hpm.trans HPP.out.symm) HM.out)
    have HPO := Lib.hid hPO
    have HPM := Lib.hid (hpm.trans HPP.out.symm)
    have HT2 := Lib.hid hT2
    rw [← HE.out, ← HK.out] at HMk
    clear hPO hpm hT2 HF
    go_wp2_with fail
    refine HMk.out.mono ?_
    rintro e w3 ⟨rfl, hT3⟩
    have HQk := Lib.hid (qmade_none (HPO.out.still hT3) HPM.out HM.out)
    rw [← HE.out, ← HK.out] at HQk
    have HT3 := Lib.hid (HT2.out.trans hT3)
    clear hT3
    go_wp2_with fail
    refine HQk.out.mono ?_
    rintro e w4 ⟨rfl, hT4⟩
    have HT4 := Lib.hid (HT3.out.trans hT4)
    clear hT4
    go_wp2_with fail
    refine (works2 _).mono ?_
    rintro e w5 ⟨rfl, hT5⟩
    have HT5 := Lib.hid (HT4.out.trans hT5)
    clear hT5
    go_wp2_with fail
    go_ret
    exact ⟨rfl, HT5.out⟩
  | some M0 =>
    have HM := Lib.hid hm
    have HPP := Lib.hid hP
    clear hm hP
    go_enter Try.func3, Try.ntmps3
    go_wp2_with fail
    refine HF.out.mono ?_
    rintro e w2 ⟨ao, cc, pss, rfl, hPO, hpm, hT2⟩
    have HMk := Lib.hid (made_some hPO (P := P) (hpm.trans HPP.out.symm) HM.out)
    have HPO := Lib.hid hPO
    have HPM := Lib.hid (hpm.trans HPP.out.symm)
    have HT2 := Lib.hid hT2
    obtain ⟨N, hN⟩ : ∃ N, N = M0.ss.length := ⟨_, rfl⟩
    rw [← hN] at HMk
    have HN := Lib.hid hN
    clear hPO hpm hT2 HF hN
    go_wp2_with fail
    refine HMk.out.mono ?_
    rintro e w3 ⟨Lx, rfl, hSM, hT3, hlo, hhi⟩
    have HQk := Lib.hid (qmade_some (HPO.out.still hT3) HPM.out HM.out)
    rw [← HN.out] at HQk
    have hAl : w.heap.size ≤ Lx.lo := Nat.le_trans HT2.out.size hlo
    have HT3 := Lib.hid (HT2.out.trans hT3)
    have HSM := Lib.hid hSM
    clear hT3 hSM HMk
    go_wp2_with fail
    refine HQk.out.mono ?_
    rintro e w4 ⟨Ly, rfl, hQM, hT4, hlo2, hhi2⟩
    have HA := Lib.hid (show Apart w Lx Ly from ⟨hAl, Nat.le_trans hhi hlo2, HSM.out.lohi⟩)
    have HXY := Lib.hid (show XY w w4 Lx Ly M0 M0 from ⟨HSM.out.still hT4, hQM, HT3.out.trans hT4⟩)
    clear hT4 hQM HQk HSM HT3 hlo hhi hlo2 hhi2 hAl HPO
    go_wp2_with fail
    go_loopw [13] (fun i wr => ∃ (k : Nat) (M : Mach), k ≤ tl ∧ k ≤ 300 ∧ i = .int .i64 k ∧ XY w wr Lx Ly M M) (fun i _ => tl - (intOf i).toNat)
    case atStart => exact ⟨0, M0, Nat.zero_le _, Nat.zero_le _, rfl, HXY.out⟩
    case round =>
      clear HXY
      obtain ⟨k, M, hk, hk3, rfl, hXY⟩ := hrel
      have HXY := Lib.hid hXY
      by_cases hlt : k < tl
      · by_cases h3 : k < 300
        · obtain ⟨x, hx⟩ := get_some (l := tx) (i := k) (by rw [HTL.out]; exact hlt)
          obtain ⟨b, o, rfl, hc⟩ := HTX.out k x hx
          have HC : Hid (∀ V, Still w V → V.cell? ⟨b, o + k, none⟩ = some (.int .i64 x)) := Lib.hid (fun V hV => still_cell hV hc rfl)
          have c0 := HC.out wr hXY.t
          have A1 : Hid (∀ V, XY w V Lx Ly M M → Calls Try.prog 14 #[.pointer (some ⟨Lx.hb, 0, none⟩), .int .i64 x] V fun e w' => e = .returned (.bool (!M.over x)) ∧ XY w w' Lx Ly (M.step x) M) := Lib.hid (fun V h => h.stepX HA.out x)
          have A2 : Hid (∀ V, XY w V Lx Ly (M.step x) M → Calls Try.prog 15 #[.pointer (some ⟨Ly.hb, 0, none⟩), .int .i64 x] V fun e w' => e = .returned (.bool (!M.over x)) ∧ XY w w' Lx Ly (M.step x) (M.step x)) := Lib.hid (fun V h => h.stepY HA.out x)
          have A3 : Hid (∀ V, XY w V Lx Ly (M.step x) (M.step x) → Calls Try.prog 16 #[.pointer (some ⟨Lx.hb, 0, none⟩), .pointer (some ⟨Ly.hb, 0, none⟩)] V fun e w' => e = .returned (.bool true) ∧ XY w w' Lx Ly (M.step x) (M.step x)) := Lib.hid (fun V h => h.same)
          have hXYd : XY w wr.drew Lx Ly M M := hXY.still (Turned.refl _ _).drew
          have hki : (k : Int) < (tl : Int) := by omega
          clear hx hc hXY HXY
          generalize M.over x = ov at *
          generalize M.step x = M' at *
          go_wp2_with fail
          go_region_held3 (fun V => V.cell? ⟨b, o + k, none⟩ = some (.int .i64 x)) (first | assumption | go_keep) (first
            | (go_at_call 14; refine (A1.out _ (by assumption)).mono ?_; rintro e w5 ⟨rfl, hX5⟩; have f5 := HC.out w5 hX5.t)
            | (go_at_call 15; refine (A2.out _ (by assumption)).mono ?_; rintro e w6 ⟨rfl, hX6⟩; have f6 := HC.out w6 hX6.t)
            | (go_at_call 16; refine (A3.out _ (by assumption)).mono ?_; rintro e w7 ⟨rfl, hX7⟩; have f7 := HC.out w7 hX7.t))
          all_goals go_wp2_with fail
          all_goals go_roundw
          all_goals first
            | exact ⟨k + 1, M', by omega, by omega, by go_num, by assumption⟩
            | (simp [intOf]; omega)
        · have h3' : (300 : Int) ≤ (k : Int) := by omega
          have HT := Lib.hid hXY.t
          clear hXY HXY
          go_wp2_with fail
          refine (works2 _).mono ?_
          rintro e w5 ⟨rfl, hT5⟩
          have HT5 := Lib.hid (HT.out.trans hT5)
          clear hT5
          go_wp2_with fail
          go_ret
          exact ⟨rfl, HT5.out⟩
      · have HT := Lib.hid hXY.t
        clear hXY HXY
        go_wp2_with fail
        refine (works2 _).mono ?_
        rintro e w5 ⟨rfl, hT5⟩
        have HT5 := Lib.hid (HT.out.trans hT5)
        clear hT5
        go_wp2_with fail
        go_ret
        exact ⟨rfl, HT5.out⟩
end Go.Proofs.Ytdbmieofcdafkaa
