/- What the program's Compare and Above answer. No condition but that the texts are no longer than the statements make them. -/
import Derived.Test.YthioimecelaaiaaNameLv
import Derived.Test.YthioimecelaaiaaNameJn
namespace Go.Proofs.Ythioimecelaaiaa
open Go.RowKit
set_option linter.unusedVariables false
set_option linter.unusedSimpArgs false
set_option maxRecDepth 100000

/-- Which of two texts is ahead, byte by byte. -/
def cmpT (x y : Txt) : Int := if Op.bytesLess x y = true then -1 else if Op.bytesLess y x = true then 1 else 0

theorem cmp_any (x y : Txt) (w : World) : Calls Try.prog 42 #[tx x, tx y] w fun e w' => e = .returned (.int .i64 (cmpT x y)) ∧ w' = w := by
  unfold cmpT tx
  cases h1 : Op.bytesLess x y with
  | true =>
    go_enter Try.func42, Try.ntmps42
    go_wp2
    go_ret
    exact ⟨rfl, rfl⟩
  | false =>
    cases h2 : Op.bytesLess y x with
    | true =>
      have hne : (x == y) = false := by
        by_cases e : x = y
        · subst e; rw [bl_irrefl] at h2; cases h2
        · simpa using e
      go_enter Try.func42, Try.ntmps42
      go_wp2
      go_ret
      exact ⟨rfl, rfl⟩
    | false =>
      have e : x = y := by
        rcases bl_total x y with h | h | h
        · rw [h1] at h; cases h
        · exact h
        · rw [h2] at h; cases h
      subst e
      clear h2
      go_enter Try.func42, Try.ntmps42
      go_wp2
      go_ret
      exact ⟨rfl, rfl⟩

theorem cmpL_cmpT {X Y : List Txt} {k : Nat} {x y : Txt} (hx : X[k]? = some x) (hy : Y[k]? = some y) : cmpL (X.drop k) (Y.drop k) = if cmpT x y = 0 then cmpL (X.drop (k + 1)) (Y.drop (k + 1)) else cmpT x y := by
  rw [cmpL_drop hx hy]
  unfold cmpT
  cases Op.bytesLess x y with
  | true => simp
  | false =>
    cases Op.bytesLess y x with
    | true => simp
    | false => simp

set_option maxHeartbeats 1000000 in
theorem slcmp_any (X Y : List Txt) (w : World) (ao bo : Option Addr) (p q ca cb : Nat) (hp : p = X.length) (hq : q = Y.length) (hX : TextsAt w ao X) (hY : TextsAt w bo Y) (hp8 : p ≤ 8) (hq8 : q ≤ 8) :
    Calls Try.prog 34 #[.slice ao p ca, .slice bo q cb] w fun e w' => e = .returned (.int .i64 (cmpL X Y)) ∧ w' = w := by
  obtain ⟨r, hr⟩ : ∃ r, r = cmpL X Y := ⟨_, rfl⟩
  rw [← hr]
  have HR := Lib.hid hr
  have HPl := Lib.hid hp
  have HQl := Lib.hid hq
  have HX := Lib.hid hX
  have HY := Lib.hid hY
  clear hr hp hq hX hY
  go_enter Try.func34, Try.ntmps34
  go_wp2_with fail
  go_loopw [11] (fun i wr => ∃ k : Nat, k ≤ p ∧ k ≤ q ∧ i = .int .i64 k ∧ cmpL X Y = cmpL (X.drop k) (Y.drop k) ∧ wr = w) (fun i _ => p - (intOf i).toNat)
  case atStart => exact ⟨0, Nat.zero_le _, Nat.zero_le _, rfl, by simp, rfl⟩
  case round =>
    obtain ⟨k, hkp, hkq, rfl, hcd, rfl⟩ := hrel
    have HCd := Lib.hid (HR.out.trans hcd)
    clear hcd
    by_cases hlp : k < p
    · obtain ⟨x, hx⟩ := get_some (l := X) (i := k) (by rw [← HPl.out]; exact hlp)
      obtain ⟨g, o, rfl, hcx⟩ := HX.out k x hx
      have HXX := Lib.hid hx
      clear hx
      unfold tx at hcx
      by_cases hlq : k < q
      · obtain ⟨y, hy⟩ := get_some (l := Y) (i := k) (by rw [← HQl.out]; exact hlq)
        obtain ⟨g', o', rfl, hcy⟩ := HY.out k y hy
        have HSt := Lib.hid (cmpL_cmpT HXX.out hy)
        have HC := Lib.hid (cmp_any x y wr)
        unfold tx at hcy HC
        obtain ⟨c, hc⟩ : ∃ c, c = cmpT x y := ⟨_, rfl⟩
        rw [← hc] at HSt HC
        clear hy hc HX HY
        by_cases h0 : c = 0
        · have HE := Lib.hid (show cmpL X Y = cmpL (X.drop (k + 1)) (Y.drop (k + 1)) by rw [← HR.out, HCd.out, HSt.out, if_pos h0])
          subst h0
          go_wp2_with (go_at_call 42; ((with_reducible refine HC.out.mono ?_)); rintro e w5 ⟨rfl, rfl⟩)
          go_roundw
          case rel => exact ⟨k + 1, by omega, by omega, by go_num, HE.out, by trivial⟩
          case measure => simp [intOf]; omega
        · have HE := Lib.hid (show r = c by rw [HCd.out, HSt.out, if_neg h0])
          clear HSt HCd
          go_wp2_with (go_at_call 42; ((with_reducible refine HC.out.mono ?_)); rintro e w5 ⟨rfl, rfl⟩)
          go_ret
          exact ⟨by rw [HE.out]; rfl, rfl⟩
      · obtain rfl : k = q := by omega
        have HE := Lib.hid (show r = 1 by rw [HCd.out, cmpL_end (by rw [← HPl.out, ← HQl.out]; omega) (by rw [← HPl.out]; omega) (by rw [← HQl.out]; omega), ← HPl.out, ← HQl.out, if_neg (by omega), if_pos (by omega)])
        clear HX HY HCd
        go_wp2_with fail
        go_ret
        exact ⟨by rw [HE.out]; rfl, rfl⟩
    · obtain rfl : k = p := by omega
      have HEnd := Lib.hid (show r = if k < q then -1 else if q < k then 1 else 0 by rw [HCd.out, cmpL_end (by rw [← HPl.out, ← HQl.out]; omega) (by rw [← HPl.out]; omega) (by rw [← HQl.out]; omega), ← HPl.out, ← HQl.out])
      clear HX HY HCd
      by_cases h3 : k < q
      · have HE := Lib.hid (show r = -1 by rw [HEnd.out, if_pos h3])
        have h3' : (k : Int) < (q : Int) := by omega
        clear HEnd
        go_wp2_with fail
        go_ret
        exact ⟨by rw [HE.out]; rfl, rfl⟩
      · have HE := Lib.hid (show r = 0 by rw [HEnd.out, if_neg h3, if_neg (by omega)])
        have h3' : ¬ (k : Int) < (q : Int) := by omega
        clear HEnd
        go_wp2_with fail
        go_ret
        exact ⟨by rw [HE.out]; rfl, rfl⟩

set_option maxHeartbeats 1000000 in
theorem compare_any8 (a b : Txt) (w : World) (ha : a.length ≤ 1000000) (hb : b.length ≤ 1000000) : Calls Try.prog 23 #[tx a, tx b] w fun e w' => e = .returned (.tuple #[.int .i64 (cpN a b), .int .i64 (cpE a b)]) ∧ Still w w' := by
  have HLa := Lib.hid (fun V => levels_any8 a V ha)
  have HLb := Lib.hid (fun V => levels_any8 b V hb)
  have hla := lvls_len a
  have hlb := lvls_len b
  unfold LevPost at HLa HLb
  rcases nmE_or a with ea | ea
  · rcases nmE_or b with eb | eb
    · have eE : cpE a b = 0 := cpE_iff.2 ⟨ea, eb⟩
      have eN : cpN a b = cmpL (lvls a) (lvls b) := by unfold cpN; rw [if_pos eE, lvls_ok ea, lvls_ok eb]
      rw [eE, eN]
      rw [ea] at HLa
      rw [eb] at HLb
      have HC := Lib.hid (fun V ao bo ca cb h1 h2 => slcmp_any (lvls a) (lvls b) V ao bo _ _ ca cb rfl rfl h1 h2 hla hlb)
      generalize cmpL (lvls a) (lvls b) = r at *
      have HA := Lib.hid (fun (V V' : World) ao (h : TextsAt V ao (lvls a)) (hs : Still V V') => h.still hs)
      generalize hp : (lvls a).length = p at *
      generalize hq : (lvls b).length = q at *
      clear eE eN ea eb hp hq ha hb
      unfold tx at *
      go_enter Try.func23, Try.ntmps23
      go_wp2_with (first
        | (go_at_call 10; ((with_reducible refine (HLa.out _).mono ?_)); rintro e w5 ⟨a5, c5, rfl, hA5, hW5, hT5⟩; have HA5 := Lib.hid hA5; have HW5 := Lib.hid hW5; clear hA5 hW5)
        | (go_at_call 10; ((with_reducible refine (HLb.out _).mono ?_)); rintro e w6 ⟨a6, c6, rfl, hA6, hW6, hT6⟩; have HA6 := Lib.hid hA6; have HW6 := Lib.hid hW6; clear hA6 hW6)
        | (go_at_call 34; ((with_reducible refine (HC.out _ _ _ _ _ (HA.out _ _ _ HA5.out hT6) HA6.out).mono ?_)); rintro e w7 ⟨rfl, rfl⟩))
      go_ret2
      exact ⟨rfl, hT5.trans hT6⟩
    · have eE : cpE a b = 80 := (cpE_or a b).resolve_left (fun h => by have := (cpE_iff.1 h).2; omega)
      have eN : cpN a b = 0 := if_neg (by omega)
      rw [eE, eN]
      rw [ea] at HLa
      rw [eb] at HLb
      generalize hp : (lvls a).length = p at *
      generalize hq : (lvls b).length = q at *
      clear eE eN ea eb hp hq ha hb
      unfold tx at *
      go_enter Try.func23, Try.ntmps23
      go_wp2_with (first
        | (go_at_call 10; ((with_reducible refine (HLa.out _).mono ?_)); rintro e w5 ⟨a5, c5, rfl, hA5, hW5, hT5⟩; have HA5 := Lib.hid hA5; have HW5 := Lib.hid hW5; clear hA5 hW5)
        | (go_at_call 10; ((with_reducible refine (HLb.out _).mono ?_)); rintro e w6 ⟨a6, c6, rfl, hA6, hW6, hT6⟩; have HA6 := Lib.hid hA6; have HW6 := Lib.hid hW6; clear hA6 hW6))
      go_ret2
      exact ⟨rfl, hT5.trans hT6⟩
  · have eE : cpE a b = 80 := (cpE_or a b).resolve_left (fun h => by have := (cpE_iff.1 h).1; omega)
    have eN : cpN a b = 0 := if_neg (by omega)
    rw [eE, eN]
    rw [ea] at HLa
    generalize hp : (lvls a).length = p at *
    clear eE eN ea hp ha hb HLb hlb
    unfold tx at *
    go_enter Try.func23, Try.ntmps23
    go_wp2_with (go_at_call 10; ((with_reducible refine (HLa.out _).mono ?_)); rintro e w5 ⟨a5, c5, rfl, hA5, hW5, hT5⟩; have HA5 := Lib.hid hA5; have HW5 := Lib.hid hW5; clear hA5 hW5)
    go_ret2
    exact ⟨rfl, hT5⟩

set_option maxHeartbeats 1000000 in
theorem above_any8 (l : Txt) (d : Int) (w : World) (hmax : l.length ≤ 300) (hd : i64w d) : Calls Try.prog 21 #[tx l, .int .i64 d] w fun e w' => e = .returned (.tuple #[tx (abT l d), .int .i64 (abE l d)]) ∧ Still w w' := by
  have HL := Lib.hid (fun V => levels_any8 l V (by omega))
  have hll := lvls_len l
  obtain ⟨hd1, hd2⟩ := hd
  unfold LevPost at HL
  rcases nmE_or l with h0 | h0
  · by_cases hd0 : d < 1
    · have e1 : abE l d = 2 := by unfold abE; rw [if_neg (by omega), if_pos (.inl hd0)]
      have e2 : abT l d = [] := if_neg (by omega)
      rw [e1, e2]
      rw [h0] at HL
      generalize (lvls l).length = p at *
      clear e1 e2 h0
      unfold tx at *
      go_enter Try.func21, Try.ntmps21
      go_wp2_with (go_at_call 10; ((with_reducible refine (HL.out _).mono ?_)); rintro e w5 ⟨a5, c5, rfl, hA5, hW5, hT5⟩; have HA5 := Lib.hid hA5; have HW5 := Lib.hid hW5; clear hA5 hW5)
      go_ret2
      exact ⟨rfl, hT5⟩
    · have hls : lvls l = spl l := lvls_ok h0
      by_cases hdm : ((lvls l).length : Int) < d
      · have e1 : abE l d = 2 := by unfold abE; rw [if_neg (by omega), if_pos (.inr (by rw [← hls]; exact hdm))]
        have e2 : abT l d = [] := if_neg (by omega)
        rw [e1, e2]
        rw [h0] at HL
        generalize (lvls l).length = p at *
        clear e1 e2 h0 hls
        unfold tx at *
        go_enter Try.func21, Try.ntmps21
        go_wp2_with (go_at_call 10; ((with_reducible refine (HL.out _).mono ?_)); rintro e w5 ⟨a5, c5, rfl, hA5, hW5, hT5⟩; have HA5 := Lib.hid hA5; have HW5 := Lib.hid hW5; clear hA5 hW5)
        go_ret2
        exact ⟨rfl, hT5⟩
      · obtain ⟨k, rfl⟩ : ∃ k : Nat, d = (k : Int) := ⟨d.toNat, by omega⟩
        have e1 : abE l (k : Int) = ofE ((lvls l).take k) := by unfold abE; rw [if_neg (by omega), if_neg (by rw [← hls]; omega), hls]; rfl
        have e2 : abT l (k : Int) = ofT ((lvls l).take k) := by unfold abT ofT; rw [e1, hls]; rfl
        rw [e1, e2]
        rw [h0] at HL
        have hsm : ∀ x ∈ (lvls l).take k, x.length ≤ 300 := by
          intro x hx
          have hx' := List.mem_of_mem_take hx
          rw [hls] at hx'
          exact spl_small hmax x hx'
        have HO := Lib.hid (fun V ao cap (h : TextsAt V ao (lvls l)) (hw : SlW ao (lvls l).length cap) => of_any8 ((lvls l).take k) V ao k cap (by rw [List.length_take]; omega) (h.take k) ⟨by have := hw.le; omega, hw.max, fun e => by obtain ⟨a1, a2⟩ := hw.none e; omega⟩ (by omega) hsm)
        have HLe := Lib.hid (fun (ao : Option Addr) (cap : Nat) (hw : SlW ao (lvls l).length cap) => show k ≤ cap by have := hw.le; omega)
        generalize ofE ((lvls l).take k) = r at *
        generalize ofT ((lvls l).take k) = t at *
        generalize hp : (lvls l).length = p at *
        clear e1 e2 h0 hls hsm hp
        unfold tx at *
        go_enter Try.func21, Try.ntmps21
        go_wp2_with (first
          | (go_at_call 10; ((with_reducible refine (HL.out _).mono ?_)); rintro e w5 ⟨a5, c5, rfl, hA5, hW5, hT5⟩; have HA5 := Lib.hid hA5; have HW5 := Lib.hid hW5; have hle5 := HLe.out _ _ hW5; clear hA5 hW5)
          | (go_at_call 19; ((with_reducible refine (HO.out _ _ _ HA5.out HW5.out).mono ?_)); rintro e w6 ⟨rfl, hT6⟩))
        go_ret2
        exact ⟨rfl, hT5.trans hT6⟩
  · have e1 : abE l d = 80 := by unfold abE; rw [if_pos (by omega)]
    have e2 : abT l d = [] := if_neg (by omega)
    rw [e1, e2]
    rw [h0] at HL
    generalize (lvls l).length = p at *
    clear e1 e2 h0
    unfold tx at *
    go_enter Try.func21, Try.ntmps21
    go_wp2_with (go_at_call 10; ((with_reducible refine (HL.out _).mono ?_)); rintro e w5 ⟨a5, c5, rfl, hA5, hW5, hT5⟩; have HA5 := Lib.hid hA5; have HW5 := Lib.hid hW5; clear hA5 hW5)
    go_ret2
    exact ⟨rfl, hT5⟩
end Go.Proofs.Ythioimecelaaiaa
