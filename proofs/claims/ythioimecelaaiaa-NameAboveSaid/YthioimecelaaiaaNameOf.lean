/- What Of, Above and Compare of the document's name do. No condition but that the texts are no longer than the statements make them. -/
import Derived.Test.YthioimecelaaiaaNameRef
namespace Go.Proofs.Ythioimecelaaiaa
open Go.RowKit
set_option linter.unusedVariables false
set_option linter.unusedSimpArgs false
set_option maxRecDepth 100000

theorem tx_append (a b : Txt) : Value.string (ByteArray.mk a.toArray ++ ByteArray.mk b.toArray) = tx (a ++ b) := by rw [ByteArray.mk_append_mk]; rfl

set_option maxHeartbeats 2000000 in
theorem znof_any (ls : List Txt) (w : World) (ao : Option Addr) (n cap : Nat) (hn : n = ls.length) (hA : TextsAt w ao ls) (hmax : n ≤ 1000) (hsm : ∀ x ∈ ls, x.length ≤ 300) :
    Calls Try.prog 20 #[.slice ao n cap] w fun e w' => e = .returned (.tuple #[tx (ofT ls), .int .i64 (ofE ls)]) ∧ Still w w' := by
  obtain ⟨r, hr⟩ : ∃ r, r = ofE ls := ⟨_, rfl⟩
  obtain ⟨v, hv⟩ : ∃ v, v = tx (ofT ls) := ⟨_, rfl⟩
  rw [← hr, ← hv]
  have HBad := Lib.hid (fun (h : ofE ls = 80) => show v = .string ⟨#[]⟩ ∧ r = 80 from ⟨by rw [hv]; unfold ofT; rw [if_neg (by omega)]; rfl, by rw [hr, h]⟩)
  have HEnd := Lib.hid (fun (h1 : ∀ x ∈ ls, (47 : UInt8) ∉ x) => show (nmE (jn ls) = 0 → v = tx (jn ls) ∧ r = 0) ∧ (nmE (jn ls) = 80 → v = .string ⟨#[]⟩ ∧ r = 80) from
    ⟨fun h2 => by
      have h3 := ofE_iff.2 ⟨h1, h2⟩
      exact ⟨by rw [hv]; unfold ofT; rw [if_pos h3], by rw [hr, h3]⟩,
     fun h2 => by
      have h3 : ofE ls = 80 := ofE_no (fun h => by have := (ofE_iff.1 h).2; omega)
      exact ⟨by rw [hv]; unfold ofT; rw [if_neg (by omega)]; rfl, by rw [hr, h3]⟩⟩)
  clear hr hv
  have HN := Lib.hid hn
  have HA := Lib.hid hA
  have HSm := Lib.hid hsm
  have hmax' : (n : Int) ≤ 1000 := by omega
  clear hn hA hsm
  go_enter Try.func20, Try.ntmps20
  go_wp2_with fail
  go_loopw [4, 5] (fun o i wr => ∃ (k : Nat) (c : Txt), k ≤ n ∧ i = .int .i64 k ∧ o = .string ⟨c.toArray⟩ ∧ c = jn (ls.take k) ∧ c.length ≤ 400 ∧ (∀ x ∈ ls.take k, (47 : UInt8) ∉ x) ∧ Still w wr) (fun _ i _ => n - (intOf i).toNat)
  case atStart => exact ⟨0, [], Nat.zero_le _, rfl, rfl, by simp [jn], by simp, by simp, Turned.refl _ _⟩
  case round =>
    obtain ⟨k, c, hk, rfl, rfl, hc, hcl, hp, hst⟩ := hrel
    have HC := Lib.hid hc
    have HP := Lib.hid hp
    have HS := Lib.hid hst
    clear hc hp
    by_cases hlt : k < n
    · obtain ⟨x, hx⟩ := get_some (l := ls) (i := k) (by rw [← HN.out]; exact hlt)
      obtain ⟨g, o, rfl, hcx⟩ := (HA.out.still hst) k x hx
      have hxl := HSm.out x (List.mem_of_getElem? hx)
      have HSp := Lib.hid (fun V => bsplit_any x V _ rfl (by omega))
      have HLater := Lib.hid (fun V (h : Still wr V) => show V.cell? ⟨g, o + k, none⟩ = some (tx x) from still_cell h hcx rfl)
      have HX := Lib.hid hx
      unfold tx at hcx HSp HLater
      have hnewc : ∀ c' : Txt, c' = (if k = 0 then x else c ++ 47 :: x) → c' = jn (ls.take (k + 1)) := fun c' h => by rw [h, jn_take hx, HC.out]
      have HNew := Lib.hid hnewc
      clear hnewc hx hst
      by_cases h47 : (47 : UInt8) ∈ x
      · obtain ⟨e1, e2⟩ := HBad.out (of_stroke (List.mem_of_getElem? HX.out) h47)
        have HE := Lib.hid e1
        have HR := Lib.hid e2
        have hq : 1 < (spl x).length := spl_many.2 h47
        generalize (spl x).length = q at *
        have hq' : (1 : Int) < (q : Int) := by omega
        clear e1 e2 h47 HBad HEnd
        go_wp2_with (go_at_call 28; ((with_reducible refine (HSp.out _).mono ?_)); rintro e w6 ⟨a6, c6, rfl, _, hT6⟩)
        go_ret2
        exact ⟨by rw [HE.out, HR.out]; rfl, HS.out.trans hT6⟩
      · have hq : ¬ 1 < (spl x).length := fun h => h47 (spl_many.1 h)
        generalize (spl x).length = q at *
        have hq' : ¬ (1 : Int) < (q : Int) := by omega
        have HP2 := Lib.hid (show ∀ y ∈ ls.take (k + 1), (47 : UInt8) ∉ y from fun y hy => by
          rw [List.take_add_one, HX.out] at hy
          rcases List.mem_append.1 hy with hy | hy
          · exact HP.out y hy
          · simp at hy; subst hy; exact h47)
        clear h47
        by_cases h8 : 8 ≤ k
        · obtain ⟨e1, e2⟩ := HBad.out (of_many (by rw [← HN.out]; omega))
          have HE := Lib.hid e1
          have HR := Lib.hid e2
          have h8' : (8 : Int) ≤ (k : Int) := by omega
          clear e1 e2 HBad HEnd
          go_wp2_with (go_at_call 28; ((with_reducible refine (HSp.out _).mono ?_)); rintro e w6 ⟨a6, c6, rfl, _, hT6⟩)
          go_ret2
          exact ⟨by rw [HE.out, HR.out]; rfl, HS.out.trans hT6⟩
        · have h8' : ¬ (8 : Int) ≤ (k : Int) := by omega
          by_cases h64 : 64 < c.length
          · obtain ⟨e1, e2⟩ := HBad.out (of_long (k := k) (by rw [← HC.out]; exact h64))
            have HE := Lib.hid e1
            have HR := Lib.hid e2
            have h64' : (64 : Int) < (c.length : Int) := by omega
            clear e1 e2 HBad HEnd
            go_wp2_with (go_at_call 28; ((with_reducible refine (HSp.out _).mono ?_)); rintro e w6 ⟨a6, c6, rfl, _, hT6⟩)
            go_ret2
            exact ⟨by rw [HE.out, HR.out]; rfl, HS.out.trans hT6⟩
          · have h64' : ¬ (64 : Int) < (c.length : Int) := by omega
            by_cases h0 : k = 0
            · have hc0 : c = [] := by rw [HC.out, h0]; simp [jn]
              subst h0
              subst hc0
              clear HBad HEnd
              simp only [Int.natCast_zero, Nat.add_zero] at hcx HLater
              have hz : ((0 : Nat) : Int) = 0 := rfl
              go_wp2_with (go_at_call 28; ((with_reducible refine (HSp.out _).mono ?_)); rintro e w6 ⟨a6, c6, rfl, _, hT6⟩; have hl6 := HLater.out w6 hT6)
              go_roundw
              case rel => exact ⟨1, x, by omega, rfl, by rw [show (ByteArray.mk #[]) = ByteArray.mk ([] : Txt).toArray from rfl, ByteArray.mk_append_mk]; rfl, HNew.out x (by simp), by omega, HP2.out, HS.out.trans hT6⟩
              case measure => simp [intOf]; omega
            · clear HBad HEnd
              go_wp2_with (go_at_call 28; ((with_reducible refine (HSp.out _).mono ?_)); rintro e w6 ⟨a6, c6, rfl, _, hT6⟩; have hl6 := HLater.out w6 hT6)
              go_roundw
              case rel => exact ⟨k + 1, c ++ 47 :: x, by omega, by go_num, by rw [show (ByteArray.mk #[47]) = ByteArray.mk ([47] : Txt).toArray from rfl, ByteArray.mk_append_mk, ByteArray.mk_append_mk]; simp, HNew.out _ (if_neg h0).symm, by rw [List.length_append, List.length_cons]; omega, HP2.out, HS.out.trans hT6⟩
              case measure => simp [intOf]; omega
    · obtain rfl : k = n := by omega
      have hall : ∀ x ∈ ls, (47 : UInt8) ∉ x := fun x hx => HP.out x (by rwa [List.take_of_length_le (by rw [← HN.out]; exact Nat.le_refl _)])
      have hcj : c = jn ls := by rw [HC.out, List.take_of_length_le (by rw [← HN.out]; exact Nat.le_refl _)]
      obtain ⟨g1, g2⟩ := HEnd.out hall
      rw [← hcj] at g1 g2
      have HCk := Lib.hid (fun V => zncheck_any c V (by omega))
      clear HBad HEnd hall hcj HA
      rcases nmE_or c with h0 | h0
      · obtain ⟨e1, e2⟩ := g1 h0
        have HE := Lib.hid e1
        have HR := Lib.hid e2
        rw [h0] at HCk
        unfold tx at *
        clear g1 g2 h0 e1 e2 hst
        go_wp2_with (go_at_call 15; ((with_reducible refine (HCk.out _).mono ?_)); rintro e w6 ⟨rfl, hT6⟩)
        go_ret2
        exact ⟨by rw [HE.out, HR.out]; rfl, HS.out.trans hT6⟩
      · obtain ⟨e1, e2⟩ := g2 h0
        have HE := Lib.hid e1
        have HR := Lib.hid e2
        rw [h0] at HCk
        unfold tx at *
        clear g1 g2 h0 e1 e2 hst
        go_wp2_with (go_at_call 15; ((with_reducible refine (HCk.out _).mono ?_)); rintro e w6 ⟨rfl, hT6⟩)
        go_ret2
        exact ⟨by rw [HE.out, HR.out]; rfl, HS.out.trans hT6⟩

theorem spl_small {l : Txt} {m : Nat} (h : l.length ≤ m) : ∀ x ∈ spl l, x.length ≤ m := by
  intro x hx
  obtain ⟨i, hi⟩ := List.getElem?_of_mem hx
  have h1 := jn_len_le (spl l) (i + 1)
  rw [jn_spl, jn_take hi] at h1
  split at h1
  · omega
  · rw [List.length_append, List.length_cons] at h1; omega

theorem znabove_any (l : Txt) (d : Int) (w : World) (hmax : l.length ≤ 300) : Calls Try.prog 22 #[tx l, .int .i64 d] w fun e w' => e = .returned (.tuple #[tx (abT l d), .int .i64 (abE l d)]) ∧ Still w w' := by
  have HL := Lib.hid (fun V => znlevels_any l V _ rfl (by omega))
  rcases nmE_or l with h0 | h0
  · rw [lvls_ok h0] at HL
    have hlen := (nmE_iff.1 h0).2.2.2
    have hE : ∀ {r t}, abE l d = r → (r ≠ 0 → t = []) → (r = 0 → t = jn ((spl l).take d.toNat)) → (tx (abT l d) = tx t ∧ abE l d = r) := fun {r t} h1 h2 h3 => by
      refine ⟨?_, h1⟩
      unfold abT
      rw [h1]
      split
      · rename_i h; rw [h3 h]
      · rename_i h; rw [h2 h]
    by_cases hd : d < 1 ∨ ((spl l).length : Int) < d
    · obtain ⟨e1, e2⟩ := hE (r := 2) (t := []) (by unfold abE; rw [if_neg (by omega), if_pos hd]) (fun _ => rfl) (fun h => by cases h)
      rw [e1, e2]
      unfold LvPost at HL
      rw [h0, lvls_ok h0] at HL
      generalize (spl l).length = q at *
      generalize spl l = sl at *
      clear e1 e2 hE h0 hmax
      unfold tx at *
      rcases hd with hd | hd
      · go_enter Try.func22, Try.ntmps22
        go_wp2_with (go_at_call 11; ((with_reducible refine (HL.out _).mono ?_)); rintro e w5 ⟨a5, c5, rfl, hown5, hT5⟩)
        go_ret2
        exact ⟨rfl, hT5⟩
      · by_cases hd1 : d < 1
        · go_enter Try.func22, Try.ntmps22
          go_wp2_with (go_at_call 11; ((with_reducible refine (HL.out _).mono ?_)); rintro e w5 ⟨a5, c5, rfl, hown5, hT5⟩)
          go_ret2
          exact ⟨rfl, hT5⟩
        · go_enter Try.func22, Try.ntmps22
          go_wp2_with (go_at_call 11; ((with_reducible refine (HL.out _).mono ?_)); rintro e w5 ⟨a5, c5, rfl, hown5, hT5⟩)
          go_ret2
          exact ⟨rfl, hT5⟩
    · obtain ⟨m, hm⟩ : ∃ m : Nat, d = m := ⟨d.toNat, by omega⟩
      subst hm
      obtain ⟨q, hq⟩ : ∃ q, q = (spl l).length := ⟨_, rfl⟩
      have hm1 : 1 ≤ m := by omega
      have hmq : m ≤ q := by omega
      have eE : abE l m = ofE ((spl l).take m) := by unfold abE; rw [if_neg (by omega), if_neg hd]; rfl
      have eT : abT l m = ofT ((spl l).take m) := by unfold abT ofT; rw [eE]; rfl
      rw [eE, eT]
      have HO := Lib.hid (fun (V : World) (a : Option Addr) (c : Nat) (B : Nat) (h : V.ownsRow B 9 1 (.slice a q c) q (txs (spl l))) => znof_any ((spl l).take m) V a m c (by rw [List.length_take]; omega) ((TextsAt.of_own h hq).take m) (by omega) (fun x hx => spl_small hmax x (List.mem_of_mem_take hx)))
      have HLe := Lib.hid (fun (V : World) (a : Option Addr) (c : Nat) (B : Nat) (h : V.ownsRow B 9 1 (.slice a q c) q (txs (spl l))) => show (q : Int) ≤ (c : Int) ∧ ∃ g, a = some ⟨g, 0, none⟩ from ⟨by have := (ow_le h).1; omega, by obtain ⟨g, _, h1, _⟩ := ow_blk h (by omega); exact ⟨g, h1⟩⟩)
      unfold LvPost at HL
      rw [h0, lvls_ok h0, ← hq] at HL
      have hm1' : ¬ (m : Int) < 1 := by omega
      have hmq' : ¬ (q : Int) < (m : Int) := by omega
      have hmq2 : (m : Int) ≤ (q : Int) := by omega
      generalize ofE ((spl l).take m) = re at *
      generalize ofT ((spl l).take m) = rt at *
      clear eE eT hE h0 hmax hd hq hm1 hlen
      unfold tx at *
      go_enter Try.func22, Try.ntmps22
      go_wp2_with (first
        | (go_at_call 11; ((with_reducible refine (HL.out _).mono ?_)); rintro e w5 ⟨a5, c5, rfl, hown5, hT5⟩; obtain ⟨hle5, g5, rfl⟩ := HLe.out _ _ _ _ hown5; have HO5 := Lib.hid (HO.out _ _ _ _ hown5); clear hown5)
        | (go_at_call 20; ((with_reducible refine HO5.out.mono ?_)); rintro e w6 ⟨rfl, hT6⟩))
      go_ret2
      exact ⟨rfl, hT5.trans hT6⟩
  · have e1 : abE l d = 80 := by unfold abE; rw [if_pos (by omega)]; 
    have e2 : abT l d = [] := by unfold abT; rw [if_neg (by omega)]
    rw [e1, e2]
    unfold LvPost at HL
    rw [h0, lvls_no (by omega)] at HL
    clear e1 e2 h0 hmax
    unfold tx at *
    go_enter Try.func22, Try.ntmps22
    go_wp2_with (go_at_call 11; ((with_reducible refine (HL.out _).mono ?_)); rintro e w5 ⟨a5, c5, rfl, hown5, hT5⟩)
    go_ret2
    exact ⟨rfl, hT5⟩
end Go.Proofs.Ythioimecelaaiaa
