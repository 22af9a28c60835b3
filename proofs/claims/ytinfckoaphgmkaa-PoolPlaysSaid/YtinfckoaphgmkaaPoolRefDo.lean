/- What the calls of the document's pool do: live, Keep, Bytes, Fill. No condition. -/
import Derived.Test.YtinfckoaphgmkaaPoolRef
import Derived.Deep.RegionHeld3
import Derived.Deep.DeepCutAuto
import Derived.Deep.CutBlock
import Derived.Deep.RegionLaw
namespace Go.Proofs.Ytinfckoaphgmkaa
open Go.RowKit
set_option linter.unusedVariables false
set_option linter.unusedSimpArgs false
set_option maxRecDepth 100000

/-- A copy of one's own of numbers. -/
def IntsPost (w : World) (l : List Int) (n : Nat) (e : Ending) (w' : World) : Prop :=
  ∃ a c, e = .returned (.slice (some a) n c) ∧ w'.ownsRow w.heap.size 3 1 (.slice (some a) n c) n (ints l) ∧ Still w w'
theorem bints_any (w : World) (ao : Option Addr) (l : List Int) (n cap : Nat) (hn : n = l.length) (hA : NumsAt w ao l) (hmax : n ≤ 70368744177) (h0 : ao = none → cap = 0) :
    Calls Try.prog 39 #[.slice ao n cap] w (IntsPost w l n) := by
  obtain ⟨i0, hi, hz0, hz1, hz2⟩ := info_parts infoIntW
  cases ao with
  | none =>
    have hl : l = [] := by
      cases l with
      | nil => rfl
      | cons x r => obtain ⟨b, o, e, _⟩ := hA 0 x rfl; cases e
    obtain rfl := h0 rfl
    subst hl
    subst hn
    clear hA h0
    have HO := Lib.hid (World.ownsRow_made (e := 3) (size := 1) w #[] 0 (Nat.le_refl _) (by simp) (by simp))
    show Calls Try.prog 39 #[.slice none 0 0] w (IntsPost w [] 0)
    go_enter Try.func39, Try.ntmps39
    go_wp2_with (at_builtin; refine wpList_append_own_none rfl _ _ 31 rfl w.heap.size 3 i0 1 Try.underlying31 hi _ 0 [] rfl HO.out rfl ?_)
    go_ret
    exact ⟨_, _, rfl, HO.out, (Turned.refl _ _).alloc _⟩
  | some ad =>
    have HC := Lib.hid (show ∀ (j : Nat) (u : Value), (ints l)[j]? = some u → (w.alloc (.cells #[] 3)).cell? (ad.add j) = some u from fun j u hj => by
      simp only [ints, List.getElem?_map, Option.map_eq_some_iff] at hj
      obtain ⟨x, hx, rfl⟩ := hj
      obtain ⟨b, o, e, hc⟩ := (hA.still ((Turned.refl (fun _ => False) w).alloc (.cells #[] 3))) j x hx
      cases e
      rw [Addr.add_lit]
      exact hc)
    have H1 := Lib.hid (show ∀ u ∈ ints l, u.oneCell' = true from ow_ints (by simp [ints, isIntW]))
    have HL := Lib.hid (show (ints l).length = n * 1 by rw [ints_length, hn, Nat.mul_one])
    clear hA hn h0
    go_enter Try.func39, Try.ntmps39
    go_wp2_with (at_builtin; refine wpList_append_own_at _ rfl _ _ 31 rfl w.heap.size 3 i0 (.int .i64 0) 1 8 Try.underlying31 hi hz0 hz1 hz2 rfl (by decide) _ _ _ rfl (World.ownsRow_made w #[] 0 (Nat.le_refl _) (by simp) (by simp)) ad n cap (ints l) rfl HL.out HC.out H1.out (by unfold maxLen; omega) (by omega) (by simp) ?_; intro v' w1 hown hgrow hnil hat; obtain ⟨aa, cc, rfl⟩ := ow_slice hown)
    go_ret
    rw [Nat.zero_add] at hown
    obtain ⟨aa, rfl⟩ : ∃ x, aa = some x := by
      cases aa with
      | none => rcases hat with h | h <;> cases h
      | some x => exact ⟨x, rfl⟩
    exact ⟨aa, cc, rfl, hown, ((Turned.refl (fun _ => False) w).alloc _).grown hgrow (fun k e => .inr (by cases e; exact Nat.le_refl _))⟩

def PM.errS (M : PM) (h : Int) : Int := if M.err h = 0 then (hSlot h : Nat) else 0
def PM.liveV (M : PM) (h : Int) : Value := .tuple #[.int .i64 (M.errS h), .int .i64 (M.err h)]

theorem ZIn.book {w : World} {W : Nat → Prop} {q : Nat} {L : ZLay} {M : PM} (h : ZIn w W q L M) : NumsAt w (some ⟨L.gb, 0, none⟩) (M.sl.map fun s => (s.g : Int)) := by
  have := NumsAt.of_blk h.gg
  simpa [nums, Function.comp_def] using this

theorem ZIn.cell {w : World} {W : Nat → Prop} {q : Nat} {L : ZLay} {M : PM} (h : ZIn w W q L M) {k : Nat} {s : Slt} (hk : M.sl[k]? = some s) :
    w.cell? ⟨L.gb, k, none⟩ = some (.int .i64 s.g) ∧ w.cell? ⟨L.cb, k, none⟩ = some (.int .i64 s.c) ∧ w.frozen? ⟨L.gb, k, none⟩ = false ∧ w.frozen? ⟨L.cb, k, none⟩ = false :=
  ⟨h.gg.cell (ints_get (nums_get (by rw [List.getElem?_map, hk]; rfl))), h.cc.cell (ints_get (nums_get (by rw [List.getElem?_map, hk]; rfl))), h.gg.free _, h.cc.free _⟩

theorem zlive_any {w : World} {W : Nat → Prop} {q : Nat} {L : ZLay} {M : PM} (H : ZIn w W q L M) (h : Int) :
    Calls Try.prog 42 #[.pointer (some ⟨q, 0, none⟩), .int .i64 h] w fun e w' => e = .returned (M.liveV h) ∧ w = w' := by
  obtain ⟨n, hn⟩ : ∃ n, n = M.sl.length := ⟨_, rfl⟩
  have HV := Lib.hid (vlive_any w (some ⟨L.gb, 0, none⟩) (M.sl.map fun s => (s.g : Int)) n n h (by simp [hn]) H.book)
  have c0 : w.cell? ⟨q, 0, none⟩ = some (.slice (some ⟨L.gb, 0, none⟩) n n) := hn ▸ H.hd.cell rfl
  have c1 : w.cell? ⟨q, 1, none⟩ = some (.slice (some ⟨L.cb, 0, none⟩) n n) := hn ▸ H.hd.cell rfl
  have he := M.err_book h
  by_cases hb : bkE (M.sl.map fun s => (s.g : Int)) h = 0
  · -- the slot
    have hs : ∃ s, M.sl[hSlot h]? = some s := by
      unfold bkE at hb
      split at hb
      · cases hb
      · cases hs : M.sl[hSlot h]? with
        | none => rw [List.getElem?_map, hs] at hb; cases hb
        | some s => exact ⟨s, rfl⟩
    obtain ⟨s, hs⟩ := hs
    have hc := (H.cell hs).2.1
    have hkn : hSlot h < n := by rw [hn]; exact get_lt hs
    have hst : M.slt h = s := by unfold PM.slt; rw [hs]; rfl
    unfold bkV bkS at HV
    rw [hb, if_pos rfl] at HV
    rw [hb, hst] at he
    by_cases hz : s.c = 0
    · have HR := Lib.hid (show M.liveV h = .tuple #[.int .i64 0, .int .i64 40] by
        have : M.err h = 40 := by rw [he]; simp [hz]
        simp [PM.liveV, PM.errS, this])
      rw [hz] at hc
      generalize hSlot h = k at *
      clear he hst hs hb hn H
      go_enter Try.func42, Try.ntmps42
      go_wp2_with (go_at_call 52; refine HV.out.mono ?_; rintro e w' ⟨rfl, rfl⟩)
      go_ret2
      exact ⟨by rw [HR.out]; rfl, rfl⟩
    · have HR := Lib.hid (show M.liveV h = .tuple #[.int .i64 (hSlot h : Nat), .int .i64 0] by
        have : M.err h = 0 := by rw [he]; simp [hz]
        simp [PM.liveV, PM.errS, this])
      have hzz : ((s.c : Int) == 0) = false := by rw [beq_eq_false_iff_ne]; omega
      generalize hSlot h = k at *
      generalize s.c = c at *
      clear he hst hs hb hn H hz
      go_enter Try.func42, Try.ntmps42
      go_wp2_with (go_at_call 52; refine HV.out.mono ?_; rintro e w' ⟨rfl, rfl⟩)
      go_ret2
      exact ⟨by rw [HR.out]; rfl, rfl⟩
  · unfold bkV bkS at HV
    rw [if_neg hb] at HV
    have hm : M.err h = bkE (M.sl.map fun s => (s.g : Int)) h := by rw [he, if_neg (fun q => hb q.1)]
    have HR := Lib.hid (show M.liveV h = .tuple #[.int .i64 0, .int .i64 (bkE (M.sl.map fun s => (s.g : Int)) h)] by
      simp [PM.liveV, PM.errS, hm, hb])
    have hbb : (bkE (M.sl.map fun s => (s.g : Int)) h == 0) = false := by rw [beq_eq_false_iff_ne]; exact hb
    generalize bkE (M.sl.map fun s => (s.g : Int)) h = x at *
    clear he hm hn H hb
    go_enter Try.func42, Try.ntmps42
    go_wp2_with (go_at_call 52; refine HV.out.mono ?_; rintro e w' ⟨rfl, rfl⟩)
    go_ret2
    exact ⟨by rw [HR.out]; rfl, rfl⟩

/-- The two ways of a call that begins with live. -/
theorem zlive_no {w : World} {W : Nat → Prop} {q : Nat} {L : ZLay} {M : PM} (H : ZIn w W q L M) {h : Int} (he : M.err h ≠ 0) :
    Calls Try.prog 42 #[.pointer (some ⟨q, 0, none⟩), .int .i64 h] w fun e w' => e = .returned (.tuple #[.int .i64 0, .int .i64 (M.err h)]) ∧ w = w' := by
  have := zlive_any H h
  unfold PM.liveV PM.errS at this
  rwa [if_neg he] at this
theorem zlive_ok {w : World} {W : Nat → Prop} {q : Nat} {L : ZLay} {M : PM} (H : ZIn w W q L M) {h : Int} (he : M.err h = 0) :
    Calls Try.prog 42 #[.pointer (some ⟨q, 0, none⟩), .int .i64 h] w fun e w' => e = .returned (.tuple #[.int .i64 (hSlot h : Nat), .int .i64 0]) ∧ w = w' := by
  have := zlive_any H h
  unfold PM.liveV PM.errS at this
  rwa [if_pos he, he] at this

/-- What a call that is refused, or only reads, leaves. -/
theorem zT_same {w : World} {W : Nat → Prop} {q : Nat} {L : ZLay} {M : PM} (H : ZIn w W q L M) : Goes (zT q M) W w w := zT_goes H (Turned.refl _ _) (fun _ hk => .inl hk)

theorem zkeep_any {w : World} {W : Nat → Prop} {q : Nat} {M : PM} {N : Nat} (H0 : (zT q M).at_ w W) (hM : M.Ok N) (hN : N < 1099511627776) (h : Int) :
    Calls Try.prog 20 #[.pointer (some ⟨q, 0, none⟩), .int .i64 h] w fun e w' => e = .returned (.int .i64 (M.err h)) ∧ Goes (zT q (M.keepM h)) W w w' := by
  obtain ⟨L, H⟩ := H0
  obtain ⟨n, hn⟩ : ∃ n, n = M.sl.length := ⟨_, rfl⟩
  by_cases he : M.err h = 0
  · obtain ⟨h1, hk, hs, hg, hc⟩ := PM.live he
    have HV := Lib.hid (zlive_ok H he)
    obtain ⟨_, cc, _, fc⟩ := H.cell hs
    have c1 : w.cell? ⟨q, 1, none⟩ = some (.slice (some ⟨L.cb, 0, none⟩) n n) := hn ▸ H.hd.cell rfl
    have hlow := (hM.low _ _ hs).2
    have HG := Lib.hid (zT_goes (H.setC hs ((M.slt h).c + 1)) ((Turned.refl W w).setCell (p := ⟨L.cb, hSlot h, none⟩) (.inl (H.fix _ (.inr (.inr (.inl rfl))))) _) (fun k hk => .inl hk))
    have HK := Lib.hid (show M.keepM h = { M with sl := M.sl.set (hSlot h) { M.slt h with c := (M.slt h).c + 1 } } by unfold PM.keepM; rw [if_neg (by simp [he])])
    rw [← HK.out] at HG
    have hci : ((M.slt h).c : Int) < 1099511627776 := by omega
    have hc0 : (0 : Int) ≤ ((M.slt h).c : Int) := by omega
    clear hN
    have hkn : hSlot h < n := by omega
    have HX := Lib.hid (show ((((M.slt h).c + 1 : Nat) : Nat) : Int) = ((M.slt h).c : Int) + 1 by omega)
    rw [HX.out] at HG
    rw [he]
    generalize hSlot h = k at *
    clear HK HX h1 hs hg hc hlow hn H
    generalize ((M.slt h).c : Int) = c at *
    go_enter Try.func20, Try.ntmps20
    go_wp2_with (go_at_call 42; refine HV.out.mono ?_; rintro e w' ⟨rfl, rfl⟩)
    go_ret
    exact ⟨rfl, HG.out⟩
  · have HV := Lib.hid (zlive_no H he)
    have HG := Lib.hid (zT_same H)
    have hb : (M.err h != 0) = true := by rw [bne_iff_ne]; exact he
    rw [show M.keepM h = M by unfold PM.keepM; rw [if_pos he]]
    generalize M.err h = x at *
    clear H hn he
    go_enter Try.func20, Try.ntmps20
    go_wp2_with (go_at_call 42; refine HV.out.mono ?_; rintro e w' ⟨rfl, rfl⟩)
    go_ret
    exact ⟨rfl, HG.out⟩
end Go.Proofs.Ytinfckoaphgmkaa
