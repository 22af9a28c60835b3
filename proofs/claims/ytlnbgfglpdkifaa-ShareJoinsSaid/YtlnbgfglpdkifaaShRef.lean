/- Why shares may not be assigned: what the program answers. No condition. -/
import Derived.Test.YtlnbgfglpdkifaaShBy
import Derived.Test.YtlnbgfglpdkifaaShPlain
namespace Go.Proofs.Ytlnbgfglpdkifaa
open Go.RowKit
set_option linter.unusedVariables false
set_option linter.unusedSimpArgs false
set_option maxRecDepth 100000

/-- The first i members may be so; the next one is to be least at least. -/
def risTo (ms : List Int) (i : Nat) (least : Int) : Prop := 0 ≤ least ∧ least ≤ 16 ∧ (∀ x ∈ ms.take i, 0 ≤ x ∧ x < least) ∧ (ms.take i).Pairwise (· < ·) ∧ (least = 0 ∨ least - 1 ∈ ms.take i)
theorem risTo_step {ms : List Int} {i : Nat} {least x : Int} (h : risTo ms i least) (hx : ms[i]? = some x) (h1 : least ≤ x) (h2 : x < 16) : risTo ms (i + 1) (x + 1) := by
  obtain ⟨a, b, c, d, e⟩ := h
  have ht : ms.take (i + 1) = ms.take i ++ [x] := by rw [List.take_add_one, hx]; rfl
  refine ⟨by omega, by omega, fun y hy => ?_, ?_, .inr ?_⟩
  · rw [ht] at hy
    rcases List.mem_append.1 hy with hy | hy
    · have := c y hy; omega
    · have := List.mem_singleton.1 hy; omega
  · rw [ht]
    exact List.pairwise_append.2 ⟨d, List.pairwise_singleton _ _, fun y hy z hz => by
      have := c y hy
      have := List.mem_singleton.1 hz
      omega⟩
  · rw [ht, show x + 1 - 1 = x by omega]
    exact List.mem_append.2 (.inr (List.mem_singleton.2 rfl))
theorem risTo_bad {ms : List Int} {i : Nat} {least x : Int} (h : risTo ms i least) (hx : ms[i]? = some x) (hb : x < least ∨ 16 ≤ x) : ¬ risI ms := by
  rintro ⟨_, r1, r2⟩
  obtain ⟨a, b, c, d, e⟩ := h
  have h1 := r1 x (List.mem_of_getElem? hx)
  rcases hb with hb | hb
  · rcases e with e | e
    · omega
    · have ht : ms = ms.take i ++ x :: ms.drop (i + 1) := by
        obtain ⟨h1, h2⟩ := List.getElem?_eq_some_iff.1 hx
        rw [← h2, ← List.drop_eq_getElem_cons h1, List.take_append_drop]
      rw [ht] at r2
      have := (List.pairwise_append.1 r2).2.2 _ e x (List.mem_cons_self ..)
      omega
  · omega
theorem risTo_all {ms : List Int} {least : Int} (h : risTo ms ms.length least) : risI ms ↔ ms.length ≤ 8 := by
  obtain ⟨a, b, c, d, e⟩ := h
  rw [List.take_length] at c d
  exact ⟨fun h => h.1, fun h => ⟨h, fun x hx => by have := c x hx; omega, d⟩⟩

set_option maxHeartbeats 1000000 in
theorem shris_any (w : World) (ao : Option Addr) (ms : List Int) (m c : Nat) (hm : m = ms.length) (h1 : m ≤ 1000) (hA : NumsAt w ao ms) :
    Calls Try.prog 27 #[.slice ao m c] w fun e w' => e = .returned (.bool (decide (risI ms))) ∧ Still w w' := by
  have HA := Lib.hid hA
  have HM := Lib.hid hm
  clear hA hm
  go_enter Try.func27, Try.ntmps27
  go_wp2_with fail
  go_loopw [3, 8] (fun lx ix wq => ∃ (i : Nat) (least : Int), i ≤ m ∧ ix = .int .i64 i ∧ lx = .int .i64 least ∧ risTo ms i least ∧ wq = w) (fun _ ix _ => m - (intOf ix).toNat)
  case atStart => exact ⟨0, 0, Nat.zero_le _, rfl, rfl, ⟨by omega, by omega, fun x hx => by simp at hx, List.Pairwise.nil, .inl rfl⟩, rfl⟩
  case round =>
    obtain ⟨i, least, hi, rfl, rfl, hR, rfl⟩ := hrel
    have HR := Lib.hid hR
    obtain ⟨l0, l1⟩ : 0 ≤ least ∧ least ≤ 16 := ⟨hR.1, hR.2.1⟩
    clear hR
    by_cases hlt : i < m
    · obtain ⟨x, hx⟩ := get_some (l := ms) (i := i) (by rw [← HM.out]; exact hlt)
      obtain ⟨ba, oa, rfl, ca⟩ := HA.out i x hx
      have HX := Lib.hid hx
      have hii : (i : Int) < (m : Int) := by omega
      clear hx
      by_cases c1 : x < least
      · have HB := Lib.hid (show decide (risI ms) = false from decide_eq_false (risTo_bad HR.out HX.out (.inl c1)))
        go_wp2_with fail
        go_ret
        exact ⟨by rw [HB.out]; rfl, Turned.refl _ _⟩
      · by_cases c2 : 16 ≤ x
        · have HB := Lib.hid (show decide (risI ms) = false from decide_eq_false (risTo_bad HR.out HX.out (.inr c2)))
          go_wp2_with fail
          go_ret
          exact ⟨by rw [HB.out]; rfl, Turned.refl _ _⟩
        · have HS := Lib.hid (risTo_step HR.out HX.out (by omega) (by omega))
          go_wp2_with fail
          go_roundw
          case rel => exact ⟨i + 1, x + 1, by omega, by go_num, rfl, HS.out, by first | rfl | trivial⟩
          case measure => simp [intOf]; omega
    · obtain rfl : i = m := by omega
      have HB := Lib.hid (show decide (risI ms) = decide (i ≤ 8) from by
        have h := HR.out
        rw [HM.out] at h
        have := risTo_all h
        rw [HM.out]
        exact decide_eq_decide.2 this)
      go_wp2_with fail
      go_ret
      exact ⟨by rw [HB.out]; by_cases h : i ≤ 8 <;> simp [h] <;> omega, Turned.refl _ _⟩

def disTo (ps : List Plc) (i : Nat) : Prop := (∀ p ∈ ps.take i, 0 ≤ p.1 ∧ 0 ≤ p.2) ∧ (ps.take i).Nodup
theorem disTo_step {ps : List Plc} {i : Nat} {p : Plc} (h : disTo ps i) (hp : ps[i]? = some p) (h1 : 0 ≤ p.1) (h2 : 0 ≤ p.2) (h3 : timP (ps.take i) p = 0) : disTo ps (i + 1) := by
  have ht : ps.take (i + 1) = ps.take i ++ [p] := by rw [List.take_add_one, hp]; rfl
  refine ⟨fun y hy => ?_, ?_⟩
  · rw [ht] at hy
    rcases List.mem_append.1 hy with hy | hy
    · exact h.1 y hy
    · rw [List.mem_singleton.1 hy]; exact ⟨h1, h2⟩
  · rw [ht]
    refine List.nodup_append.2 ⟨h.2, by simp, fun a ha b hb e => ?_⟩
    rw [List.mem_singleton] at hb
    rw [e, hb] at ha
    exact timP_zero.1 h3 ha
theorem dis_bad {ps : List Plc} {i : Nat} {p : Plc} (hp : ps[i]? = some p) (h : p.1 < 0 ∨ p.2 < 0 ∨ timP (ps.take i) p ≠ 0) : ¬ disI ps := by
  rintro ⟨r1, r2⟩
  have h1 := r1 p (List.mem_of_getElem? hp)
  rcases h with h | h | h
  · omega
  · omega
  · have hm : p ∈ ps.take i := Classical.byContradiction fun hn => h (timP_zero.2 hn)
    have ht : ps = ps.take i ++ p :: ps.drop (i + 1) := by
      obtain ⟨h1, h2⟩ := List.getElem?_eq_some_iff.1 hp
      rw [← h2, ← List.drop_eq_getElem_cons h1, List.take_append_drop]
    rw [ht] at r2
    exact (List.nodup_append.1 r2).2.2 _ hm _ (List.mem_cons_self ..) rfl

set_option maxHeartbeats 2000000 in
theorem shdis_any (w : World) (ao : Option Addr) (ps : List Plc) (n c : Nat) (hn : n = ps.length) (h1 : n ≤ 1000) (hA : PlAt w ao ps) :
    Calls Try.prog 28 #[.slice ao n c] w fun e w' => e = .returned (.bool (decide (disI ps))) ∧ Still w w' := by
  have HA := Lib.hid hA
  have HN := Lib.hid hn
  have hmk := MapF.made (kv := plV) w
  obtain ⟨mb, hmb⟩ : ∃ mb, mb = w.heap.size := ⟨_, rfl⟩
  rw [← hmb] at hmk
  have HM0 := Lib.hid (hmk.congr (g := tmsP (ps.take 0)) (fun _ => rfl))
  have hmm : (Instr.makeMap 56 none).run Try.prog w = .ok (.map (some mb)) (w.alloc (.map #[] 0)) := by rw [hmb]; exact run_makeMap 56 w
  have HMB := Lib.hid (show w.heap.size ≤ mb from by omega)
  clear hA hn hmk hmb
  go_enter Try.func28, Try.ntmps28
  go_wp2_with fail
  clear hmm
  go_loopw [9] (fun ix wq => ∃ i : Nat, i ≤ n ∧ ix = .int .i64 i ∧ disTo ps i ∧ MapF plV wq mb (tmsP (ps.take i)) ∧ Still w wq) (fun ix _ => n - (intOf ix).toNat)
  case atStart => exact ⟨0, Nat.zero_le _, rfl, ⟨fun p hp => by simp at hp, by simp⟩, HM0.out, (Turned.refl _ _).alloc _⟩
  case round =>
    clear HM0
    obtain ⟨i, hi, rfl, hD, hmp, hst⟩ := hrel
    have HD := Lib.hid hD
    clear hD
    by_cases hlt : i < n
    · obtain ⟨⟨p1, p2⟩, hp⟩ := get_some (l := ps) (i := i) (by rw [← HN.out]; exact hlt)
      obtain ⟨b, o, rfl, hc⟩ := row_still HA.out hst i _ hp
      have c0 : wr.cell? ⟨b, o + i * 2, none⟩ = some (.int .i64 p1) := hc 0 _ rfl
      have c1 : wr.cell? ⟨b, o + i * 2 + 1, none⟩ = some (.int .i64 p2) := by rw [Nat.add_assoc]; exact hc 1 _ rfl
      have hii : (i : Int) < (n : Int) := by omega
      have HP := Lib.hid hp
      obtain ⟨m, hm⟩ : ∃ m, m = timP (ps.take i) (p1, p2) := ⟨_, rfl⟩
      have hm1 : m ≤ 1000 := by
        rw [hm]
        refine Nat.le_trans (timP_le _ _) ?_
        rw [List.length_take]; omega
      have hz0 : mb < wr.heap.size := hmp.lt
      obtain ⟨U, hU⟩ : ∃ U, U = (wr.alloc (.cells #[.int .i64 p1, .int .i64 p2] 32)).drew := ⟨_, rfl⟩
      have hsU : Still wr U := by rw [hU]; exact ((Turned.refl _ _).alloc _).drew
      have hb0 : Blk U wr.heap.size [.int .i64 p1, .int .i64 p2] 32 := by rw [hU]; exact (Blk.new wr _ _).turned (S := fun _ => False) ((Turned.refl _ _).drew) (fun h => h)
      have hmU := hmp.keep hsU (fun h => h)
      have hwr : IntKind.i64.wrap (((m : Nat) : Int) + 1) = ((m : Nat) : Int) + 1 := by simp [IntKind.wrap, IntKind.signed, IntKind.bits]; omega
      obtain ⟨U1, U2, st, hE, hm2, ht2, hS, hm3, ht3⟩ := MapF.entry keysPl hmU (p1, p2) (((m : Nat) : Int) + 1)
      rw [tmsP_get, ← hm] at hE hm2
      have hL0 := MapF.look keysPl hmU (p1, p2) false
      have hL1 := MapF.look keysPl hm2 (p1, p2) false
      have hL2 := MapF.look keysPl hm3 (p1, p2) false
      rw [tmsP_get, ← hm] at hL0
      simp only [if_true, Option.getD_some, plV] at hE hL0 hL1 hL2
      rw [if_neg Bool.false_ne_true] at hL0 hL1 hL2
      have hb1 := hb0.turned ht2 (by omega)
      have hb2 := hb1.turned ht3 (by omega)
      have c10 := hb1.cell (o := 0) rfl
      have c11 := hb1.cell (o := 1) rfl
      have c20 := hb2.cell (o := 0) rfl
      have c21 := hb2.cell (o := 1) rfl
      have HM3 := Lib.hid (show MapF plV U2 mb (tmsP (ps.take (i + 1))) from by
        have e : ps.take (i + 1) = ps.take i ++ [(p1, p2)] := by rw [List.take_add_one, hp]; rfl
        rw [e]
        exact hm3.congr (fun c => by rw [← tmsP_snoc, ← hm]))
      have HT := Lib.hid (show Still w U2 from by
        have h2 : Turned (fun k => w.heap.size ≤ k) w U2 := ((hst.trans hsU).mono (fun _ _ h => h.elim)).trans ((ht2.trans ht3).mono (fun k _ e => by rw [e]; exact HMB.out))
        exact h2.mono (fun k hk h => by omega))
      have HMz := Lib.hid hm
      rw [hU] at hE hL0
      clear hp hc hm hmp hst hmU hm2 hm3 ht2 ht3 hb0 hb1 hb2 hsU hU
      go_wp2_with fail
      go_region
      clear hE hS hL0 hL1 c10 c11
      by_cases d1 : p1 < 0
      · have HB := Lib.hid (show decide (disI ps) = false from decide_eq_false (dis_bad HP.out (.inl d1)))
        go_wp2_with fail
        go_ret
        exact ⟨by rw [HB.out]; rfl, HT.out⟩
      · by_cases d2 : p2 < 0
        · have HB := Lib.hid (show decide (disI ps) = false from decide_eq_false (dis_bad HP.out (.inr (.inl d2))))
          go_wp2_with fail
          go_ret
          exact ⟨by rw [HB.out]; rfl, HT.out⟩
        · by_cases d3 : m = 0
          · subst d3
            have HD2 := Lib.hid (disTo_step HD.out HP.out (show (0 : Int) ≤ p1 by omega) (show (0 : Int) ≤ p2 by omega) HMz.out.symm)
            go_wp2_with fail
            go_roundw
            case rel => exact ⟨i + 1, by omega, by go_num, HD2.out, HM3.out, HT.out⟩
            case measure => simp [intOf]; omega
          · have d4 : (1 : Int) < (m : Int) + 1 := by omega
            have HB := Lib.hid (show decide (disI ps) = false from decide_eq_false (dis_bad HP.out (.inr (.inr (by rw [← HMz.out]; exact d3)))))
            go_wp2_with fail
            go_ret
            exact ⟨by rw [HB.out]; rfl, HT.out⟩
    · obtain rfl : i = n := by omega
      have HB := Lib.hid (show decide (disI ps) = true from decide_eq_true (by
        have h := HD.out
        unfold disTo at h
        rw [HN.out, List.take_length] at h
        exact h))
      have HT := Lib.hid hst
      clear hst hmp
      go_wp2_with fail
      go_ret
      exact ⟨by rw [HB.out]; rfl, HT.out⟩

set_option maxHeartbeats 1000000 in
theorem shref_any (w : World) (ao bo co : Option Addr) (ms : List Int) (ps : List Plc) (os : List Own) (m n k c1 c2 c3 : Nat) (hm : m = ms.length) (hn : n = ps.length) (hk : k = os.length) (h1 : m ≤ 1000) (h2 : n ≤ 1000) (h3 : k ≤ 1000) (hA : NumsAt w ao ms) (hB : PlAt w bo ps) :
    Calls Try.prog 19 #[.slice ao m c1, .slice bo n c2, .slice co k c3] w fun e w' => e = .returned (.int .i64 (asgE ms ps os)) ∧ Still w w' := by
  have HR := Lib.hid (shris_any w ao ms m c1 hm h1 hA)
  have HD := Lib.hid (fun V (hs : Still w V) => shdis_any V bo ps n c2 hn h2 (row_still hB hs))
  have HE := Lib.hid (show asgE ms ps os = if 256 < n ∨ 256 < k then 3 else if risI ms ∧ disI ps then 0 else 2 from by unfold asgE; rw [hn, hk])
  clear hm hn hk hA hB
  by_cases hn : 256 < n
  · have hni : (256 : Int) < (n : Int) := by omega
    go_enter Try.func19, Try.ntmps19
    go_wp2_with fail
    go_ret
    exact ⟨by rw [HE.out, if_pos (.inl hn)]; rfl, Turned.refl _ _⟩
  · have hni : ¬ (256 : Int) < (n : Int) := by omega
    by_cases hk : 256 < k
    · have hki : (256 : Int) < (k : Int) := by omega
      go_enter Try.func19, Try.ntmps19
      go_wp2_with fail
      go_ret
      exact ⟨by rw [HE.out, if_pos (.inr hk)]; rfl, Turned.refl _ _⟩
    · have hki : ¬ (256 : Int) < (k : Int) := by omega
      rw [if_neg (fun h => h.elim hn hk)] at HE
      by_cases hr : risI ms
      · rw [decide_eq_true hr] at HR
        by_cases hd : disI ps
        · rw [decide_eq_true hd] at HD
          rw [if_pos ⟨hr, hd⟩] at HE
          clear hr hd
          go_enter Try.func19, Try.ntmps19
          go_wp2_with (first | (go_at_call 27; ((with_reducible refine HR.out.mono ?_)); rintro e w1 ⟨rfl, hs⟩; have S1 := Lib.hid hs; clear hs) | (go_at_call 28; ((with_reducible refine (HD.out _ S1.out).mono ?_)); rintro e w2 ⟨rfl, hs⟩; have S2 := Lib.hid (S1.out.trans hs); clear hs))
          go_ret
          exact ⟨by rw [HE.out]; rfl, S2.out⟩
        · rw [decide_eq_false hd] at HD
          rw [if_neg (fun h => hd h.2)] at HE
          clear hr hd
          go_enter Try.func19, Try.ntmps19
          go_wp2_with (first | (go_at_call 27; ((with_reducible refine HR.out.mono ?_)); rintro e w1 ⟨rfl, hs⟩; have S1 := Lib.hid hs; clear hs) | (go_at_call 28; ((with_reducible refine (HD.out _ S1.out).mono ?_)); rintro e w2 ⟨rfl, hs⟩; have S2 := Lib.hid (S1.out.trans hs); clear hs))
          go_ret
          exact ⟨by rw [HE.out]; rfl, S2.out⟩
      · rw [decide_eq_false hr] at HR
        rw [if_neg (fun h => hr h.1)] at HE
        clear hr HD
        go_enter Try.func19, Try.ntmps19
        go_wp2_with (go_at_call 27; ((with_reducible refine HR.out.mono ?_)); rintro e w1 ⟨rfl, hs⟩; have S1 := Lib.hid hs; clear hs)
        go_ret
        exact ⟨by rw [HE.out]; rfl, S1.out⟩
end Go.Proofs.Ytlnbgfglpdkifaa
