/- What Join and Leave of the program's list do; it keeps its words. No condition but that it is one. -/
import Derived.Test.YtepdnclojjeepaaMbApi
import Derived.Test.YtepdnclojjeepaaMbBelow
import Derived.Test.YtepdnclojjeepaaMbAll
import Derived.Test.YtepdnclojjeepaaMbEld
namespace Go.Proofs.Ytepdnclojjeepaa
open Go.RowKit
set_option linter.unusedVariables false
set_option linter.unusedSimpArgs false
set_option maxRecDepth 100000

section
variable {q g K : Nat} {M : MbM} {w w' V : World} {W : Nat → Prop}
/-- Both stores; between them the world may have drawn. -/
theorem mb_put {f : World → World} (hf : ∀ {S : Nat → Prop} {a x : World}, Turned S a x → Turned S a (f x)) (hfb : ∀ {x : World} {b : Nat} {xs : List Value} {e : TypeId}, Blk x b xs e → Blk (f x) b xs e)
    (h : (mbX q g M).at_ w W) (hs : Still w V) (hM : M.Ok K) (k v : Nat) (hk : k < 16) :
    (V.cell? ⟨q, 1, none⟩ = some (.int .i64 ((M.T : Nat) : Int)) ∧ V.frozen? ⟨q, 1, none⟩ = false ∧ (V.setCell ⟨q, 1, none⟩ (.int .i64 (((M.T : Nat) : Int) + 1))).cell? ⟨q, 1, none⟩ = some (.int .i64 (((M.T : Nat) : Int) + 1)) ∧
      (V.setCell ⟨q, 1, none⟩ (.int .i64 (((M.T : Nat) : Int) + 1))).cell? ⟨q, 0, none⟩ = some (.slice (some ⟨g, 0, none⟩) 16 16) ∧
      (∃ u, (V.setCell ⟨q, 1, none⟩ (.int .i64 (((M.T : Nat) : Int) + 1))).cell? ⟨g, k, none⟩ = some u) ∧ (V.setCell ⟨q, 1, none⟩ (.int .i64 (((M.T : Nat) : Int) + 1))).frozen? ⟨g, k, none⟩ = false) ∧
    ((f (V.setCell ⟨q, 1, none⟩ (.int .i64 (((M.T : Nat) : Int) + 1)))).setCell ⟨g, k, none⟩ (.int .i64 ((v : Nat) : Int))).cell? ⟨q, 1, none⟩ = some (.int .i64 (((M.T : Nat) : Int) + 1)) ∧
    ((f (V.setCell ⟨q, 1, none⟩ (.int .i64 (((M.T : Nat) : Int) + 1)))).setCell ⟨g, k, none⟩ (.int .i64 ((v : Nat) : Int))).cell? ⟨q, 0, none⟩ = some (.slice (some ⟨g, 0, none⟩) 16 16) ∧
    Hid (Goes (mbT q (M.put (k : Int) v)) W w ((f (V.setCell ⟨q, 1, none⟩ (.int .i64 (((M.T : Nat) : Int) + 1)))).setCell ⟨g, k, none⟩ (.int .i64 ((v : Nat) : Int)))) := by
  have h0 := (mbX q g M).keep h hs (fun _ _ h => h)
  obtain ⟨W1, W2, ⟨hb, hW1⟩, ⟨hc, hW2⟩, hd, hW⟩ := h0
  have hqg : g ≠ q := fun e => hd q ((hW1 q).2 rfl) ((hW2 q).2 e.symm)
  have h1 := hb.set 1 (.int .i64 (((M.T : Nat) : Int) + 1))
  have h1d := hfb h1
  have h2 := h1d.other (p := ⟨g, k, none⟩) hqg (.int .i64 ((v : Nat) : Int))
  have c1 := hc.other (p := ⟨q, 1, none⟩) (fun e => hqg e.symm) (.int .i64 (((M.T : Nat) : Int) + 1))
  have c1d := hfb c1
  have c2 := c1d.set k (.int .i64 ((v : Nat) : Int))
  rw [sVi_put] at c2
  refine ⟨⟨hb.cell rfl, hb.free _, h1.cell rfl, h1.cell rfl, ⟨_, c1.cell (sVi_get hM hk)⟩, c1.free _⟩, h2.cell rfl, h2.cell rfl, Lib.hid ?_⟩
  refine ⟨W, ⟨g, W1, W2, ⟨h2, hW1⟩, ⟨c2, hW2⟩, hd, hW⟩, ?_, fun _ h => .inl h⟩
  have t1 : Turned W w V := hs.mono (fun _ _ h => h.elim)
  exact ((hf (t1.setCell (p := ⟨q, 1, none⟩) (.inl ((hW q).2 (.inl ((hW1 q).2 rfl)))) _)).setCell (p := ⟨g, k, none⟩) (.inl ((hW g).2 (.inr ((hW2 g).2 rfl)))) _)

set_option maxHeartbeats 1000000 in
theorem mbjoin_any (h : (mbT q M).at_ w W) (hM : M.Ok K) (hK : K < 1000000) (id : Int) :
    Calls Try.prog 10 #[.pointer (some ⟨q, 0, none⟩), .int .i64 id] w fun e w' => e = .returned (.tuple #[.int .i64 ((M.joinV id : Nat) : Int), .int .i64 (M.joinE id)]) ∧ Goes (mbT q (M.join id)) W w w' := by
  have HS := Lib.hid (fun V (hs : Still w V) => Goes.still h hs)
  have hh := h
  obtain ⟨g, hg⟩ := hh
  have hrd := mbX_rd hM hg
  have HMd := Lib.hid (mbmade_any hrd.c0)
  have HHs := Lib.hid (mbhas_any hrd id)
  unfold MbM.joinV MbM.join
  by_cases hs : 0 ≤ id ∧ id < 16
  · obtain ⟨k, rfl⟩ : ∃ k : Nat, id = k := ⟨id.toNat, by omega⟩
    have hk : k < 16 := by omega
    have HSe := Lib.hid (mbses_yes k w hk)
    rw [joinE_nat hk]
    rw [findE_nat hk] at HHs
    have hki : (k : Int) < 16 := by omega
    obtain ⟨n, hn⟩ : ∃ n, n = M.memb.length := ⟨_, rfl⟩
    have HA := Lib.hid (mbbelow_any h hM 16 n (Nat.le_refl _) hn)
    rw [show ((16 : Nat) : Int) = 16 from rfl] at HA
    have hn8 : n ≤ 8 := by have := hM.full; omega
    by_cases ha : M.at k = 0
    · rw [if_pos ha]
      rw [if_pos ha, show decide ((150 : Int) = 0) = false from rfl] at HHs
      by_cases hf : 8 ≤ M.memb.length
      · rw [if_pos hf, if_neg (by omega), if_neg (by omega)]
        have hni : (8 : Int) ≤ (n : Int) := by omega
        clear hrd h hs hM hn ha hf hg
        go_enter Try.func10, Try.ntmps10
        go_wp2_with (first
          | (go_at_call 30; ((with_reducible refine HMd.out.mono ?_)); rintro e w1 ⟨rfl, rfl⟩)
          | (go_at_call 31; ((with_reducible refine HSe.out.mono ?_)); rintro e w1 ⟨rfl, rfl⟩)
          | (go_at_call 20; ((with_reducible refine HHs.out.mono ?_)); rintro e w1 ⟨rfl, rfl⟩)
          | (go_at_call 32; ((with_reducible refine HA.out.mono ?_)); rintro e w2 ⟨rfl, hs2⟩; have S2 := Lib.hid hs2; clear hs2))
        go_ret2
        exact ⟨rfl, HS.out _ S2.out⟩
      · rw [if_neg hf, if_pos rfl, if_pos rfl]
        have hni : ¬ (8 : Int) ≤ (n : Int) := by omega
        have hT : M.T < 1000000 := by have := hM.low; omega
        have HP := Lib.hid (fun V (hs : Still w V) => mb_put (f := World.drew) (fun h => h.drew) (fun h => h.drew) hg hs hM k (M.T + 1) hk)
        generalize M.T = T at *
        clear hrd h hs hM hn ha hf hK hg
        go_enter Try.func10, Try.ntmps10
        go_wp2_with (first
          | (go_at_call 30; ((with_reducible refine HMd.out.mono ?_)); rintro e w1 ⟨rfl, rfl⟩)
          | (go_at_call 31; ((with_reducible refine HSe.out.mono ?_)); rintro e w1 ⟨rfl, rfl⟩)
          | (go_at_call 20; ((with_reducible refine HHs.out.mono ?_)); rintro e w1 ⟨rfl, rfl⟩)
          | (go_at_call 32; ((with_reducible refine HA.out.mono ?_)); rintro e w2 ⟨rfl, hs2⟩; have S2 := Lib.hid hs2; obtain ⟨⟨p1, p2, p3, p3b, ⟨p40, p4⟩, p5⟩, p6, p6b, p7⟩ := HP.out w2 hs2; clear hs2))
        go_region_held3 (fun V => V.cell? ⟨q, 1, none⟩ = some (.int .i64 (((T : Nat) : Int) + 1)) ∧ V.cell? ⟨q, 0, none⟩ = some (.slice (some ⟨g, 0, none⟩) 16 16)) (first | assumption | exact ⟨by assumption, by assumption⟩ | go_keep) (fail)
        go_wp2_with fail
        go_ret2
        exact ⟨rfl, p7.out⟩
    · rw [if_neg ha, if_neg (by omega), if_neg (by omega)]
      rw [if_neg ha, show decide ((0 : Int) = 0) = true from rfl] at HHs
      clear hrd h hs hM hn hg
      go_enter Try.func10, Try.ntmps10
      go_wp2_with (first
        | (go_at_call 30; ((with_reducible refine HMd.out.mono ?_)); rintro e w1 ⟨rfl, rfl⟩)
        | (go_at_call 31; ((with_reducible refine HSe.out.mono ?_)); rintro e w1 ⟨rfl, rfl⟩)
        | (go_at_call 20; ((with_reducible refine HHs.out.mono ?_)); rintro e w1 ⟨rfl, rfl⟩))
      go_ret2
      exact ⟨rfl, HS.out _ (Turned.refl _ _)⟩
  · have HSe := Lib.hid (mbses_no id w hs)
    rw [joinE_no hs, if_neg (by omega), if_neg (by omega)]
    clear h hrd hM hs hg
    go_enter Try.func10, Try.ntmps10
    go_wp2_with (first
      | (go_at_call 30; ((with_reducible refine HMd.out.mono ?_)); rintro e w1 ⟨rfl, rfl⟩)
      | (go_at_call 31; ((with_reducible refine HSe.out.mono ?_)); rintro e w1 ⟨rfl, rfl⟩))
    go_ret2
    exact ⟨rfl, HS.out _ (Turned.refl _ _)⟩
theorem mbleave_any (h : (mbT q M).at_ w W) (hM : M.Ok K) (hK : K < 1000000) (id : Int) :
    Calls Try.prog 12 #[.pointer (some ⟨q, 0, none⟩), .int .i64 id] w fun e w' => e = .returned (.tuple #[.int .i64 ((M.leaveV id : Nat) : Int), .int .i64 (M.findE id)]) ∧ Goes (mbT q (M.leave id)) W w w' := by
  have HS := Lib.hid (fun V (hs : Still w V) => Goes.still h hs)
  have hh := h
  obtain ⟨g, hg⟩ := hh
  have HF := Lib.hid (mbref_any (mbX_rd hM hg) id)
  unfold MbM.leaveV MbM.leave
  by_cases he : M.findE id = 0
  · obtain ⟨hs, _⟩ := findE_ok he
    obtain ⟨k, rfl⟩ : ∃ k : Nat, id = k := ⟨id.toNat, by omega⟩
    have hk : k < 16 := by omega
    rw [if_pos he, if_pos he, he]
    rw [he] at HF
    have hki : (k : Int) < 16 := by omega
    have hT : M.T < 1000000 := by have := hM.low; omega
    obtain ⟨⟨p1, p2, p3, p3b, ⟨p40, p4⟩, p5⟩, p6, p6b, p7⟩ := mb_put (f := fun x => x) (fun h => h) (fun h => h) hg (Turned.refl _ _) hM k 0 hk
    replace p6 : ((w.setCell ⟨q, 1, none⟩ (.int .i64 (((M.T : Nat) : Int) + 1))).setCell ⟨g, k, none⟩ (.int .i64 0)).cell? ⟨q, 1, none⟩ = some (.int .i64 (((M.T : Nat) : Int) + 1)) := p6
    generalize M.T = T at *
    clear h hM hs he hK HS hg
    go_enter Try.func12, Try.ntmps12
    go_wp2_with (go_at_call 34; ((with_reducible refine HF.out.mono ?_)); rintro e w1 ⟨rfl, rfl⟩)
    go_ret2
    exact ⟨rfl, p7.out⟩
  · rw [if_neg he, if_neg he]
    generalize M.findE id = r at *
    have hr : (r != 0) = true := by simpa using he
    clear h hM hg
    go_enter Try.func12, Try.ntmps12
    go_wp2_with (go_at_call 34; ((with_reducible refine HF.out.mono ?_)); rintro e w1 ⟨rfl, rfl⟩)
    go_ret2
    exact ⟨rfl, HS.out _ (Turned.refl _ _)⟩
theorem mb_still {e : Ending} {r : Value} (h : e = .returned r ∧ w = w') : e = .returned r ∧ Still w w' := ⟨h.1, by rw [h.2]; exact Turned.refl _ _⟩
end
theorem member_api : MemberApi mbT where
  make_ := mbmake_any
  join := fun h hM hK x _ _ => mbjoin_any h hM hK x
  leave := fun h hM hK x _ _ => mbleave_any h hM hK x
  has := fun h hM hK x _ _ => by obtain ⟨g, hr⟩ := mbT_rd hM h; exact (mbhas_any hr x).mono fun e w' h => mb_still h
  since := fun h hM hK x _ _ => by obtain ⟨g, hr⟩ := mbT_rd hM h; exact (mbsince_any hr x).mono fun e w' h => mb_still h
  rank := fun h hM hK x _ _ => mbrank_any h hM x
  all_ := fun h hM hK n hn => mball_any h hM n hn
  time := fun h hM hK => by obtain ⟨g, hr⟩ := mbT_rd hM h; exact (mbtime_any hr).mono fun e w' h => mb_still h
  eldest := fun h hM hK => mbeldest_any h hM
end Go.Proofs.Ytepdnclojjeepaa
