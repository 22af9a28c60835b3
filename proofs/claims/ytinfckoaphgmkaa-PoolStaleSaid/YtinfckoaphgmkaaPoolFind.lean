/- What finds a handle's slot in the program's pool; and the calls that only tell: Count, Gen, Slots, Size. No condition but that the pool is one. -/
import Derived.Test.YtinfckoaphgmkaaPoolTaken
import Derived.Test.YtinfckoaphgmkaaPoolApi
namespace Go.Proofs.Ytinfckoaphgmkaa
open Go.RowKit
set_option linter.unusedVariables false
set_option linter.unusedSimpArgs false
set_option maxRecDepth 100000

def PM.cs (M : PM) : List Nat := M.sl.map (·.c)
theorem PIn.cnt {w : World} {W : Nat → Prop} {q : Nat} {L : PLay} {M : PM} (h : PIn w W q L M) (h0 : 0 < M.sl.length) : CntAt w q L.eb L.ec M.cs := by
  refine ⟨⟨_, _, _, h.hd.cell rfl, h0⟩, by rw [show M.cs.length = M.sl.length by simp [PM.cs]]; exact h.hd.cell rfl, fun k c hc => ?_, fun k hk => ?_⟩
  · simp only [PM.cs, List.getElem?_map, Option.map_eq_some_iff] at hc
    obtain ⟨s, hs, rfl⟩ := hc
    exact (h.slot hs).2.1
  · obtain ⟨s, hs⟩ := get_some (l := M.sl) (i := k) (by simpa [PM.cs] using hk)
    exact (h.slot hs).1

def PM.tkV (M : PM) (L : PLay) (k : Int) : Value := Go.Proofs.Ytinfckoaphgmkaa.tkV L.eb M.sl.length M.cs k

theorem made_any {w : World} {W : Nat → Prop} {q : Nat} {L : PLay} {M : PM} (H : PIn w W q L M) (h0 : 0 < M.sl.length) :
    Calls Try.prog 34 #[.pointer (some ⟨q, 0, none⟩)] w fun e w' => e = .returned (.bool true) ∧ w = w' :=
  (callsIn_wide (n := 1)).1 (made_in Fence.wide 1 q _ _ _ w h0 trivial rfl (H.hd.cell rfl))

theorem taken_any {w : World} {W : Nat → Prop} {q : Nat} {L : PLay} {M : PM} {N : Nat} (H : PIn w W q L M) (hM : M.Ok N) (k : Int) :
    Calls Try.prog 47 #[.pointer (some ⟨q, 0, none⟩), .int .i64 k] w fun e w' => e = .returned (M.tkV L k) ∧ Still w w' :=
  (callsIn_wide (n := 3)).1 ((taken_in Fence.wide 3 trivial trivial trivial trivial rfl (by omega) q L.eb L.ec M.sl.length M.cs (by simp [PM.cs]) hM.len k w (H.cnt hM.pos) (H.lt _ (H.fix _ (.inl rfl))) (H.lt _ (H.fix _ (.inr (.inr rfl))))).mono
    fun e w' ⟨h1, h2⟩ => ⟨h1, below_turned h2 (Nat.le_refl _)⟩)

theorem tkV_live {M : PM} {L : PLay} {k : Nat} {s : Slt} (hk : M.sl[k]? = some s) (hc : s.c ≠ 0) : M.tkV L (k : Int) = .pointer (some ⟨L.eb, k * 3, none⟩) := by
  unfold PM.tkV Go.Proofs.Ytinfckoaphgmkaa.tkV
  have := get_lt hk
  rw [if_pos ⟨by omega, by omega, by simp [PM.cs, hk, hc]⟩, Int.toNat_natCast]
theorem tkV_free {M : PM} {L : PLay} {k : Nat} {s : Slt} (hk : M.sl[k]? = some s) (hc : s.c = 0) : M.tkV L (k : Int) = .pointer none := by
  unfold PM.tkV Go.Proofs.Ytinfckoaphgmkaa.tkV
  rw [if_neg]
  rintro ⟨_, _, h⟩
  simp [PM.cs, hk, hc] at h
theorem tkV_none {M : PM} {L : PLay} {k : Int} (hk : ¬ (0 ≤ k ∧ k < M.sl.length)) : M.tkV L k = .pointer none := by
  unfold PM.tkV Go.Proofs.Ytinfckoaphgmkaa.tkV
  rw [if_neg]
  rintro ⟨h1, h2, _⟩
  exact hk ⟨h1, h2⟩

/-- A live handle's slot. -/
def PM.fdP (M : PM) (L : PLay) (h : Int) : Value := .pointer (if M.err h = 0 then some ⟨L.eb, hSlot h * 3, none⟩ else none)

theorem find_any {w : World} {W : Nat → Prop} {q : Nat} {L : PLay} {M : PM} {N : Nat} (H : PIn w W q L M) (hM : M.Ok N) (h : Int) :
    Calls Try.prog 41 #[.pointer (some ⟨q, 0, none⟩), .int .i64 h] w fun e w' => e = .returned (.tuple #[M.fdP L h, .int .i64 (M.err h)]) ∧ Still w w' := by
  obtain ⟨n, hn⟩ : ∃ n, n = M.sl.length := ⟨_, rfl⟩
  have HA := Lib.hid (made_any H hM.pos)
  have HV := Lib.hid (alive_any w (some ⟨L.gb, 0, none⟩) (M.sl.map fun s => (s.g : Int)) n n h (by simp [hn]) H.book)
  have c1 : w.cell? ⟨q, 1, none⟩ = some (.slice (some ⟨L.gb, 0, none⟩) n n) := hn ▸ H.hd.cell rfl
  have he := M.err_book h
  by_cases hb : bkE (M.sl.map fun s => (s.g : Int)) h = 0
  · have hs : ∃ s, M.sl[hSlot h]? = some s := by
      unfold bkE at hb
      split at hb
      · cases hb
      · cases hs : M.sl[hSlot h]? with
        | none => rw [List.getElem?_map, hs] at hb; cases hb
        | some s => exact ⟨s, rfl⟩
    obtain ⟨s, hs⟩ := hs
    have hst : M.slt h = s := by unfold PM.slt; rw [hs]; rfl
    unfold bkV bkS at HV
    rw [hb, if_pos rfl] at HV
    rw [hb, hst] at he
    have HT := Lib.hid (taken_any H hM (hSlot h : Nat))
    by_cases hz : s.c = 0
    · have HR := Lib.hid (show Value.tuple #[M.fdP L h, .int .i64 (M.err h)] = .tuple #[.pointer none, .int .i64 40] by
        have : M.err h = 40 := by rw [he]; simp [hz]
        simp [PM.fdP, this])
      rw [tkV_free hs hz] at HT
      generalize hSlot h = k at *
      rw [HR.out]
      clear he hst hs hb hn H hz HR
      go_enter Try.func41, Try.ntmps41
      go_wp2_with (first | (go_at_call 34; refine HA.out.mono ?_; rintro e w' ⟨rfl, rfl⟩) | (go_at_call 51; refine HV.out.mono ?_; rintro e w' ⟨rfl, rfl⟩) | (go_at_call 47; refine HT.out.mono ?_; rintro e w' ⟨rfl, hst⟩))
      go_ret2
      exact ⟨rfl, hst⟩
    · have HR := Lib.hid (show Value.tuple #[M.fdP L h, .int .i64 (M.err h)] = .tuple #[.pointer (some ⟨L.eb, hSlot h * 3, none⟩), .int .i64 0] by
        have : M.err h = 0 := by rw [he]; simp [hz]
        simp [PM.fdP, this])
      rw [tkV_live hs hz] at HT
      rw [HR.out]
      generalize hSlot h = k at *
      clear he hst hs hb hn H hz HR
      go_enter Try.func41, Try.ntmps41
      go_wp2_with (first | (go_at_call 34; refine HA.out.mono ?_; rintro e w' ⟨rfl, rfl⟩) | (go_at_call 51; refine HV.out.mono ?_; rintro e w' ⟨rfl, rfl⟩) | (go_at_call 47; refine HT.out.mono ?_; rintro e w' ⟨rfl, hst⟩))
      go_ret2
      exact ⟨rfl, hst⟩
  · unfold bkV bkS at HV
    rw [if_neg hb] at HV
    have hm : M.err h = bkE (M.sl.map fun s => (s.g : Int)) h := by rw [he, if_neg (fun q => hb q.1)]
    have HR := Lib.hid (show Value.tuple #[M.fdP L h, .int .i64 (M.err h)] = .tuple #[.pointer none, .int .i64 (bkE (M.sl.map fun s => (s.g : Int)) h)] by
      simp [PM.fdP, hm, hb])
    rw [HR.out]
    have hbb : (bkE (M.sl.map fun s => (s.g : Int)) h != 0) = true := by rw [bne_iff_ne]; exact hb
    generalize bkE (M.sl.map fun s => (s.g : Int)) h = x at *
    clear he hm hn H hb HR
    go_enter Try.func41, Try.ntmps41
    go_wp2_with (first | (go_at_call 34; refine HA.out.mono ?_; rintro e w' ⟨rfl, rfl⟩) | (go_at_call 51; refine HV.out.mono ?_; rintro e w' ⟨rfl, rfl⟩))
    go_ret2
    exact ⟨rfl, Turned.refl _ _⟩

theorem find_ok {w : World} {W : Nat → Prop} {q : Nat} {L : PLay} {M : PM} {N : Nat} (H : PIn w W q L M) (hM : M.Ok N) {h : Int} (he : M.err h = 0) :
    Calls Try.prog 41 #[.pointer (some ⟨q, 0, none⟩), .int .i64 h] w fun e w' => e = .returned (.tuple #[.pointer (some ⟨L.eb, hSlot h * 3, none⟩), .int .i64 0]) ∧ Still w w' := by
  have := find_any H hM h
  unfold PM.fdP at this
  rwa [if_pos he, he] at this
theorem find_no {w : World} {W : Nat → Prop} {q : Nat} {L : PLay} {M : PM} {N : Nat} (H : PIn w W q L M) (hM : M.Ok N) {h : Int} (he : M.err h ≠ 0) :
    Calls Try.prog 41 #[.pointer (some ⟨q, 0, none⟩), .int .i64 h] w fun e w' => e = .returned (.tuple #[.pointer none, .int .i64 (M.err h)]) ∧ Still w w' := by
  have := find_any H hM h
  unfold PM.fdP at this
  rwa [if_neg he] at this

theorem count_any {w : World} {W : Nat → Prop} {q : Nat} {M : PM} {N : Nat} (H0 : (pT q M).at_ w W) (hM : M.Ok N) (k : Int) :
    Calls Try.prog 30 #[.pointer (some ⟨q, 0, none⟩), .int .i64 k] w fun e w' => e = .returned (.int .i64 (cntOf M k)) ∧ Still w w' := by
  obtain ⟨L, H⟩ := H0
  have HT := Lib.hid (taken_any H hM k)
  by_cases hk : 0 ≤ k ∧ k < M.sl.length
  · obtain ⟨j, rfl⟩ : ∃ j : Nat, k = j := ⟨k.toNat, by omega⟩
    obtain ⟨s, hs⟩ := get_some (l := M.sl) (i := j) (by omega)
    have HR := Lib.hid (show cntOf M (j : Int) = (s.c : Int) by unfold cntOf; rw [if_pos hk, Int.toNat_natCast, hs]; rfl)
    rw [HR.out]
    by_cases hz : s.c = 0
    · rw [tkV_free hs hz] at HT
      rw [hz]
      clear HR hs hk H hz
      go_enter Try.func30, Try.ntmps30
      go_wp2_with (go_at_call 47; refine HT.out.mono ?_; rintro e w' ⟨rfl, hst⟩)
      go_ret
      exact ⟨rfl, hst⟩
    · rw [tkV_live hs hz] at HT
      have HC := Lib.hid (fun w' (hst : Still w w') => ((H.still hst).slot hs).2.1)
      generalize s.c = c at *
      clear HR hs hk H hz
      go_enter Try.func30, Try.ntmps30
      go_wp2_with (go_at_call 47; refine HT.out.mono ?_; rintro e w' ⟨rfl, hst⟩; have cc := HC.out w' hst)
      go_ret
      exact ⟨rfl, hst⟩
  · have HR := Lib.hid (show cntOf M k = 0 by unfold cntOf; rw [if_neg hk])
    rw [HR.out]
    rw [tkV_none hk] at HT
    clear HR hk H
    go_enter Try.func30, Try.ntmps30
    go_wp2_with (go_at_call 47; refine HT.out.mono ?_; rintro e w' ⟨rfl, hst⟩)
    go_ret
    exact ⟨rfl, hst⟩

theorem slots_any {w : World} {W : Nat → Prop} {q : Nat} {M : PM} {N : Nat} (H0 : (pT q M).at_ w W) (hM : M.Ok N) :
    Calls Try.prog 28 #[.pointer (some ⟨q, 0, none⟩)] w fun e w' => e = .returned (.int .i64 M.sl.length) ∧ w = w' := by
  obtain ⟨L, H⟩ := H0
  have HA := Lib.hid (made_any H hM.pos)
  obtain ⟨n, hn⟩ : ∃ n, n = M.sl.length := ⟨_, rfl⟩
  have c1 : w.cell? ⟨q, 1, none⟩ = some (.slice (some ⟨L.gb, 0, none⟩) n n) := hn ▸ H.hd.cell rfl
  rw [← hn]
  clear hn H
  go_enter Try.func28, Try.ntmps28
  go_wp2_with (go_at_call 34; refine HA.out.mono ?_; rintro e w' ⟨rfl, rfl⟩)
  go_ret
  exact ⟨rfl, rfl⟩
theorem size_any {w : World} {W : Nat → Prop} {q : Nat} {M : PM} {N : Nat} (H0 : (pT q M).at_ w W) (hM : M.Ok N) :
    Calls Try.prog 29 #[.pointer (some ⟨q, 0, none⟩)] w fun e w' => e = .returned (.int .i64 M.size) ∧ w = w' := by
  obtain ⟨L, H⟩ := H0
  have HA := Lib.hid (made_any H hM.pos)
  have c1 : w.cell? ⟨q, 0, none⟩ = some (.int .i64 M.size) := H.hd.cell rfl
  clear H
  go_enter Try.func29, Try.ntmps29
  go_wp2_with (go_at_call 34; refine HA.out.mono ?_; rintro e w' ⟨rfl, rfl⟩)
  go_ret
  exact ⟨rfl, rfl⟩

theorem gen_any {w : World} {W : Nat → Prop} {q : Nat} {M : PM} {N : Nat} (H0 : (pT q M).at_ w W) (hM : M.Ok N) (k : Int) :
    Calls Try.prog 31 #[.pointer (some ⟨q, 0, none⟩), .int .i64 k] w fun e w' => e = .returned (.int .i64 (genOf M k)) ∧ w = w' := by
  have HS := Lib.hid (slots_any H0 hM)
  obtain ⟨L, H⟩ := H0
  obtain ⟨n, hn⟩ : ∃ n, n = M.sl.length := ⟨_, rfl⟩
  have c1 : w.cell? ⟨q, 1, none⟩ = some (.slice (some ⟨L.gb, 0, none⟩) n n) := hn ▸ H.hd.cell rfl
  rw [← hn] at HS
  by_cases hk : 0 ≤ k ∧ k < M.sl.length
  · obtain ⟨j, rfl⟩ : ∃ j : Nat, k = j := ⟨k.toNat, by omega⟩
    obtain ⟨s, hs⟩ := get_some (l := M.sl) (i := j) (by omega)
    have HR := Lib.hid (show genOf M (j : Int) = (s.g : Int) by unfold genOf; rw [if_pos hk, Int.toNat_natCast, hs]; rfl)
    rw [HR.out]
    have cg := (H.slot hs).2.2.2
    generalize s.g = g at *
    have hj : j < n := by omega
    clear HR hs hk H hn
    go_enter Try.func31, Try.ntmps31
    go_wp2_with (go_at_call 28; refine HS.out.mono ?_; rintro e w' ⟨rfl, rfl⟩)
    all_goals first
      | (go_ret; exact ⟨rfl, rfl⟩)
      | (exfalso; omega)
  · have HR := Lib.hid (show genOf M k = 0 by unfold genOf; rw [if_neg hk])
    rw [HR.out]
    rw [← hn] at hk
    clear HR H hn
    go_enter Try.func31, Try.ntmps31
    rcases Int.lt_or_le k 0 with h0 | h0
    · clear hk
      go_wp2_with (go_at_call 28; refine HS.out.mono ?_; rintro e w' ⟨rfl, rfl⟩)
      go_ret
      exact ⟨rfl, rfl⟩
    · have h2 : (n : Int) ≤ k := by omega
      clear hk
      go_wp2_with (go_at_call 28; refine HS.out.mono ?_; rintro e w' ⟨rfl, rfl⟩)
      go_ret
      exact ⟨rfl, rfl⟩
end Go.Proofs.Ytinfckoaphgmkaa
