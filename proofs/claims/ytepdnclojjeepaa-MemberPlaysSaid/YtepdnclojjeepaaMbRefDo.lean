/- What Join, Leave and Eldest of the document's list do. No condition but that it is one. -/
import Derived.Test.YtepdnclojjeepaaMbRef
namespace Go.Proofs.Ytepdnclojjeepaa
open Go.RowKit
set_option linter.unusedVariables false
set_option linter.unusedSimpArgs false
set_option maxRecDepth 100000

section
variable {q K : Nat} {M : MbM} {w w' V : World} {W : Nat → Prop}
/-- Both stores; between them the world may have drawn. -/
theorem zmb_put {f : World → World} (hf : ∀ {S : Nat → Prop} {a x : World}, Turned S a x → Turned S a (f x)) (hfb : ∀ {x : World} {b : Nat} {xs : List Value} {e : TypeId}, Blk x b xs e → Blk (f x) b xs e)
    (h : (zMbT q M).at_ w W) (hs : Still w V) (hM : M.Ok K) (k v : Nat) (hk : k < 16) :
    (V.cell? ⟨q, 16, none⟩ = some (.int .i64 ((M.T : Nat) : Int)) ∧ V.frozen? ⟨q, 16, none⟩ = false ∧ (V.setCell ⟨q, 16, none⟩ (.int .i64 (((M.T : Nat) : Int) + 1))).cell? ⟨q, 16, none⟩ = some (.int .i64 (((M.T : Nat) : Int) + 1)) ∧
      (∃ u, (V.setCell ⟨q, 16, none⟩ (.int .i64 (((M.T : Nat) : Int) + 1))).cell? ⟨q, k, none⟩ = some u) ∧ (V.setCell ⟨q, 16, none⟩ (.int .i64 (((M.T : Nat) : Int) + 1))).frozen? ⟨q, k, none⟩ = false) ∧
    ((f (V.setCell ⟨q, 16, none⟩ (.int .i64 (((M.T : Nat) : Int) + 1)))).setCell ⟨q, k, none⟩ (.int .i64 ((v : Nat) : Int))).cell? ⟨q, 16, none⟩ = some (.int .i64 (((M.T : Nat) : Int) + 1)) ∧
    Hid (Goes (zMbT q (M.put (k : Int) v)) W w ((f (V.setCell ⟨q, 16, none⟩ (.int .i64 (((M.T : Nat) : Int) + 1)))).setCell ⟨q, k, none⟩ (.int .i64 ((v : Nat) : Int)))) := by
  have h0 := (zMbT q M).keep h hs (fun _ _ h => h)
  obtain ⟨hb, hW⟩ := h0
  have hW0 := h.2
  have h1 := hb.set 16 (.int .i64 (((M.T : Nat) : Int) + 1))
  have h1d := hfb h1
  have h2 := h1d.set k (.int .i64 ((v : Nat) : Int))
  have hl : 16 < (sVm M).length := (List.getElem?_eq_some_iff.1 (sVm_time hM)).1
  have hq : q < w.heap.size := h.1.lt
  refine ⟨⟨hb.cell (sVm_time hM), hb.free _, h1.cell (by rw [List.getElem?_set_self hl]), ⟨_, h1.cell (by rw [List.getElem?_set_ne (by omega)]; exact sVm_get hM hk)⟩, h1.free _⟩, h2.cell (by rw [List.getElem?_set_ne (by omega), List.getElem?_set_self hl]), Lib.hid ?_⟩
  have e := sVm_put hM k v hk
  rw [show (((M.T + 1 : Nat)) : Int) = ((M.T : Nat) : Int) + 1 from rfl] at e
  rw [e] at h2
  refine ⟨W, ⟨h2, hW0⟩, ?_, fun _ h => .inl h⟩
  have t1 : Turned W w V := hs.mono (fun _ _ h => h.elim)
  exact ((hf (t1.setCell (p := ⟨q, 16, none⟩) (.inl ((hW0 q).2 rfl)) _)).setCell (p := ⟨q, k, none⟩) (.inl ((hW0 q).2 rfl)) _)
theorem joinE_nat {k : Nat} (h : k < 16) : M.joinE (k : Int) = if M.at k = 0 then (if 8 ≤ M.memb.length then 4 else 0) else 6 := by unfold MbM.joinE; rw [if_pos (by omega), Int.toNat_natCast]
theorem joinE_no {id : Int} (h : ¬ (0 ≤ id ∧ id < 16)) : M.joinE id = 2 := by unfold MbM.joinE; rw [if_neg h]

set_option maxHeartbeats 1000000 in
theorem zmbjoin_any (h : (zMbT q M).at_ w W) (hM : M.Ok K) (hK : K < 1000000) (id : Int) :
    Calls Try.prog 11 #[.pointer (some ⟨q, 0, none⟩), .int .i64 id] w fun e w' => e = .returned (.tuple #[.int .i64 ((M.joinV id : Nat) : Int), .int .i64 (M.joinE id)]) ∧ Goes (zMbT q (M.join id)) W w w' := by
  have HS := Lib.hid (fun V (hs : Still w V) => Goes.still h hs)
  have hrd := zMbT_rd hM h
  unfold MbM.joinV MbM.join
  by_cases hs : 0 ≤ id ∧ id < 16
  · obtain ⟨k, rfl⟩ : ∃ k : Nat, id = k := ⟨id.toNat, by omega⟩
    have hk : k < 16 := by omega
    have HSe := Lib.hid (zmbses_yes k w hk)
    have c0 := hrd.cell k hk
    rw [joinE_nat hk]
    have hki : (k : Int) < 16 := by omega
    obtain ⟨n, hn⟩ : ∃ n, n = M.memb.length := ⟨_, rfl⟩
    have HA := Lib.hid (zmball_any hrd n hn)
    have hn8 : n ≤ 8 := by have := hM.full; omega
    by_cases ha : M.at k = 0
    · rw [ha] at c0
      rw [if_pos ha]
      by_cases hf : 8 ≤ M.memb.length
      · rw [if_pos hf, if_neg (by omega), if_neg (by omega)]
        have hni : (8 : Int) ≤ (n : Int) := by omega
        clear hrd h hs hM hn ha hf
        go_enter Try.func11, Try.ntmps11
        go_wp2_with (first
          | (go_at_call 33; ((with_reducible refine HSe.out.mono ?_)); rintro e w1 ⟨rfl, rfl⟩)
          | (go_at_call 24; ((with_reducible refine HA.out.mono ?_)); rintro e w2 ⟨a2, c2, rfl, _, hs2⟩; have S2 := Lib.hid hs2; clear hs2))
        go_ret2
        exact ⟨rfl, HS.out _ S2.out⟩
      · rw [if_neg hf, if_pos rfl, if_pos rfl]
        have hni : ¬ (8 : Int) ≤ (n : Int) := by omega
        have hT : M.T < 1000000 := by have := hM.low; omega
        have HP := Lib.hid (fun V (hs : Still w V) => zmb_put (f := World.drew) (fun h => h.drew) (fun h => h.drew) h hs hM k (M.T + 1) hk)
        generalize M.T = T at *
        clear hrd h hs hM hn ha hf hK
        go_enter Try.func11, Try.ntmps11
        go_wp2_with (first
          | (go_at_call 33; ((with_reducible refine HSe.out.mono ?_)); rintro e w1 ⟨rfl, rfl⟩)
          | (go_at_call 24; ((with_reducible refine HA.out.mono ?_)); rintro e w2 ⟨a2, c2, rfl, _, hs2⟩; have S2 := Lib.hid hs2; obtain ⟨⟨p1, p2, p3, ⟨p40, p4⟩, p5⟩, p6, p7⟩ := HP.out w2 hs2; clear hs2))
        go_region_held3 (fun V => V.cell? ⟨q, 16, none⟩ = some (.int .i64 (((T : Nat) : Int) + 1))) (first | assumption | go_keep) (fail)
        go_wp2_with fail
        go_ret2
        exact ⟨rfl, p7.out⟩
    · rw [if_neg ha, if_neg (by omega), if_neg (by omega)]
      have hai : (0 : Int) < ((M.at k : Nat) : Int) := by omega
      generalize M.at k = a at *
      clear hrd h hs hM hn
      go_enter Try.func11, Try.ntmps11
      go_wp2_with (go_at_call 33; ((with_reducible refine HSe.out.mono ?_)); rintro e w1 ⟨rfl, rfl⟩)
      go_ret2
      exact ⟨rfl, HS.out _ (Turned.refl _ _)⟩
  · have HSe := Lib.hid (zmbses_no id w hs)
    rw [joinE_no hs, if_neg (by omega), if_neg (by omega)]
    clear h hrd hM hs
    go_enter Try.func11, Try.ntmps11
    go_wp2_with (go_at_call 33; ((with_reducible refine HSe.out.mono ?_)); rintro e w1 ⟨rfl, rfl⟩)
    go_ret2
    exact ⟨rfl, HS.out _ (Turned.refl _ _)⟩
theorem zmbleave_any (h : (zMbT q M).at_ w W) (hM : M.Ok K) (hK : K < 1000000) (id : Int) :
    Calls Try.prog 13 #[.pointer (some ⟨q, 0, none⟩), .int .i64 id] w fun e w' => e = .returned (.tuple #[.int .i64 ((M.leaveV id : Nat) : Int), .int .i64 (M.findE id)]) ∧ Goes (zMbT q (M.leave id)) W w w' := by
  have HS := Lib.hid (fun V (hs : Still w V) => Goes.still h hs)
  have HF := Lib.hid (zmbfind_any (zMbT_rd hM h) id)
  unfold MbM.leaveV MbM.leave
  by_cases he : M.findE id = 0
  · obtain ⟨hs, _⟩ := findE_ok he
    obtain ⟨k, rfl⟩ : ∃ k : Nat, id = k := ⟨id.toNat, by omega⟩
    have hk : k < 16 := by omega
    rw [if_pos he, if_pos he, he]
    rw [he] at HF
    have hki : (k : Int) < 16 := by omega
    have hT : M.T < 1000000 := by have := hM.low; omega
    obtain ⟨⟨p1, p2, p3, ⟨p40, p4⟩, p5⟩, p6, p7⟩ := zmb_put (f := fun x => x) (fun h => h) (fun h => h) h (Turned.refl _ _) hM k 0 hk
    generalize M.T = T at *
    clear h hM hs he hK HS
    go_enter Try.func13, Try.ntmps13
    go_wp2_with (go_at_call 35; ((with_reducible refine HF.out.mono ?_)); rintro e w1 ⟨rfl, rfl⟩)
    go_ret2
    exact ⟨rfl, p7.out⟩
  · rw [if_neg he, if_neg he]
    generalize M.findE id = r at *
    have hr : (r != 0) = true := by simpa using he
    clear h hM
    go_enter Try.func13, Try.ntmps13
    go_wp2_with (go_at_call 35; ((with_reducible refine HF.out.mono ?_)); rintro e w1 ⟨rfl, rfl⟩)
    go_ret2
    exact ⟨rfl, HS.out _ (Turned.refl _ _)⟩

/-- The eldest of the first so many. -/
def EldAt (M : MbM) (k : Nat) (v : Int) : Prop := (v = -1 ∧ ∀ i, i < k → M.at i = 0) ∨ ∃ i, i < k ∧ v = ((i : Nat) : Int) ∧ 0 < M.at i ∧ ∀ j, j < k → 0 < M.at j → M.at i ≤ M.at j
theorem eld_end {v : Int} (hM : M.Ok K) (h : EldAt M 16 v) : (v = -1 ∧ M.eldV = 0 ∧ M.eldE = 150) ∨ (0 ≤ v ∧ v = ((M.eldV : Nat) : Int) ∧ M.eldE = 0) := by
  rcases h with ⟨rfl, h⟩ | ⟨i, hi, rfl, h1, h2⟩
  · refine .inl ⟨rfl, eld_no ?_⟩
    rw [List.eq_nil_iff_forall_not_mem]
    intro i hi
    obtain ⟨a, b⟩ := mem_memb.1 hi
    have := h i a; omega
  · obtain ⟨e1, e2⟩ := eld_is hM h1 (fun j hj => h2 j (at_lt hM hj) hj)
    exact .inr ⟨by omega, by rw [e1], e2⟩
set_option maxHeartbeats 2000000 in
theorem zmbeldest_any (h : ZmRd q M w) (hM : M.Ok K) : Calls Try.prog 19 #[.pointer (some ⟨q, 0, none⟩)] w fun e w' => e = .returned (.tuple #[.int .i64 ((M.eldV : Nat) : Int), .int .i64 M.eldE]) ∧ Still w w' := by
  have HRd := Lib.hid (fun V (hs : Still w V) => h.still hs)
  have HE0 := fun v (h : EldAt M 16 v) => eld_end hM h
  obtain ⟨ev, hev⟩ : ∃ ev, ev = M.eldV := ⟨_, rfl⟩
  obtain ⟨ee, hee⟩ : ∃ ee, ee = M.eldE := ⟨_, rfl⟩
  rw [← hev, ← hee] at HE0 ⊢
  have HE := Lib.hid HE0
  clear h hM hev hee HE0
  go_enter Try.func19, Try.ntmps19
  go_wp2_with fail
  go_loopw [4, 5] (fun c i wr => ∃ (k : Nat) (v : Int), k ≤ 16 ∧ i = .int .i64 k ∧ c = .int .i64 v ∧ EldAt M k v ∧ Still w wr) (fun _ i _ => 16 - (intOf i).toNat)
  case atStart => exact ⟨0, -1, Nat.zero_le _, rfl, rfl, .inl ⟨rfl, fun i hi => by omega⟩, Turned.refl _ _⟩
  case round =>
    obtain ⟨k, v, hk, rfl, rfl, hE, hst⟩ := hrel
    have HS := Lib.hid hst
    by_cases hlt : k < 16
    · have hrd := HRd.out wr hst
      have c0 := hrd.cell k hlt
      have hki : (k : Int) < 16 := by omega
      by_cases ha : 0 < M.at k
      · have hai : (0 : Int) < ((M.at k : Nat) : Int) := by omega
        rcases hE with ⟨rfl, hno⟩ | ⟨i, hi, rfl, hi1, hi2⟩
        · have HN := Lib.hid (show EldAt M (k + 1) ((k : Nat) : Int) from .inr ⟨k, by omega, rfl, ha, fun j hj hj0 => by
            rcases Nat.lt_succ_iff_lt_or_eq.1 hj with hj | rfl
            · have := hno j hj; omega
            · exact Nat.le_refl _⟩)
          generalize M.at k = a at *
          clear hrd hst hno
          go_wp2_with fail
          go_quiet (fail)
          go_wp2_with fail
          go_roundw
          case rel => exact ⟨k + 1, (k : Int), by omega, by go_num, rfl, HN.out, HS.out.drewN _⟩
          case measure => simp [intOf]; omega
        · have c1 := hrd.cell i (by omega)
          have hii : (i : Int) < 16 := by omega
          by_cases hlt2 : M.at k < M.at i
          · have HN := Lib.hid (show EldAt M (k + 1) ((k : Nat) : Int) from .inr ⟨k, by omega, rfl, ha, fun j hj hj0 => by
              rcases Nat.lt_succ_iff_lt_or_eq.1 hj with hj | rfl
              · have := hi2 j hj hj0; omega
              · exact Nat.le_refl _⟩)
            have hlti : ((M.at k : Nat) : Int) < ((M.at i : Nat) : Int) := by omega
            generalize M.at k = a at *
            generalize M.at i = b at *
            clear hrd hst hi2
            go_wp2_with fail
            go_quiet (fail)
            go_wp2_with fail
            go_roundw
            case rel => exact ⟨k + 1, (k : Int), by omega, by go_num, rfl, HN.out, HS.out.drewN _⟩
            case measure => simp [intOf]; omega
          · have HN := Lib.hid (show EldAt M (k + 1) ((i : Nat) : Int) from .inr ⟨i, by omega, rfl, hi1, fun j hj hj0 => by
              rcases Nat.lt_succ_iff_lt_or_eq.1 hj with hj | rfl
              · exact hi2 j hj hj0
              · omega⟩)
            have hlti : ¬ ((M.at k : Nat) : Int) < ((M.at i : Nat) : Int) := by omega
            generalize M.at k = a at *
            generalize M.at i = b at *
            clear hrd hst hi2
            go_wp2_with fail
            go_quiet (fail)
            go_wp2_with fail
            go_roundw
            case rel => exact ⟨k + 1, (i : Int), by omega, by go_num, rfl, HN.out, HS.out.drewN _⟩
            case measure => simp [intOf]; omega
      · have HN := Lib.hid (show EldAt M (k + 1) v from by
          rcases hE with ⟨rfl, hno⟩ | ⟨i, hi, rfl, hi1, hi2⟩
          · exact .inl ⟨rfl, fun i hi => by
              rcases Nat.lt_succ_iff_lt_or_eq.1 hi with hi | rfl
              · exact hno i hi
              · omega⟩
          · exact .inr ⟨i, by omega, rfl, hi1, fun j hj hj0 => by
              rcases Nat.lt_succ_iff_lt_or_eq.1 hj with hj | rfl
              · exact hi2 j hj hj0
              · omega⟩)
        have hai : ¬ (0 : Int) < ((M.at k : Nat) : Int) := by omega
        generalize M.at k = a at *
        clear hrd hst hE
        go_wp2_with fail
        go_quiet (fail)
        go_wp2_with fail
        go_roundw
        case rel => exact ⟨k + 1, v, by omega, by go_num, rfl, HN.out, HS.out.drewN _⟩
        case measure => simp [intOf]; omega
    · obtain rfl : k = 16 := by omega
      have hE' := HE.out _ hE
      clear hE hst HE
      rcases hE' with ⟨rfl, rfl, rfl⟩ | ⟨hv, rfl, rfl⟩
      · go_wp2_with fail
        go_ret2
        exact ⟨rfl, HS.out⟩
      · go_wp2_with fail
        go_ret2
        exact ⟨rfl, HS.out⟩
end
end Go.Proofs.Ytepdnclojjeepaa
