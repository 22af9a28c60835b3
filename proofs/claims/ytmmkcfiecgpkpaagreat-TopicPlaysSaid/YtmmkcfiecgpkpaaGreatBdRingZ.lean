/- Texts that lie next to one another, laid into one: each says what it holds. No condition but what each states. -/
import Derived.Test.YtmmkcfiecgpkpaaGreatBdThing
import Derived.Test.YtmmkcfiecgpkpaaGreatBdPlain
import Derived.Test.YtmmkcfiecgpkpaaGreatBdRead
import Derived.BigQuiet
import Derived.Deep.RegionHeld3
import Derived.Deep.DeepCutAuto
import Derived.Maps.AppendAt

/- Rows of one's own whose elements have several cells: their block, and a store into one of them. No condition. -/
namespace Go.Proofs.YtmmkcfiecgpkpaaGreat
open Go.RowKit
set_option linter.unusedVariables false

theorem owm_parts {w : World} {B : Nat} {m g n cc : Nat} {xs : List Value} {e : TypeId} (h : w.ownsRow B e m (.slice (some ⟨g, 0, none⟩) n cc) n xs) :
    ∃ r, Blk w g (xs ++ r) e ∧ xs.length = n * m ∧ (xs ++ r).length = cc * m ∧ n ≤ cc ∧ cc ≤ maxLen ∧ B ≤ g := by
  have hx : xs.length = n * m := h.1
  rcases h.2 with ⟨h', _⟩ | ⟨g', cap', cur, h', hB, hg, hnc, hcm, hcs, htake⟩
  · simp at h'
  · simp only [Value.slice.injEq, Option.some.injEq, Addr.mk.injEq, and_true, true_and] at h'
    obtain ⟨rfl, rfl⟩ := h'
    have e : xs ++ cur.toList.drop (n * m) = cur.toList := by rw [← htake]; exact List.take_append_drop _ _
    refine ⟨cur.toList.drop (n * m), by rw [e]; exact hg, hx, by rw [e]; simpa using hcs, hnc, hcm, hB⟩
theorem owm_of_parts {w : World} {B : Nat} {m g n cc : Nat} {xs r : List Value} {e : TypeId} (hb : Blk w g (xs ++ r) e) (hx : xs.length = n * m) (hl : (xs ++ r).length = cc * m) (hn : n ≤ cc) (hm : cc ≤ maxLen) (hB : B ≤ g) :
    w.ownsRow B e m (.slice (some ⟨g, 0, none⟩) n cc) n xs := by
  refine ⟨hx, .inr ⟨g, cc, (xs ++ r).toArray, rfl, hB, hb, hn, hm, by simpa using hl, ?_⟩⟩
  rw [← hx]; simp

/-- A cell of such a row. -/
theorem owm_cell {w : World} {B : Nat} {m g n cc : Nat} {xs : List Value} {e : TypeId} (h : w.ownsRow B e m (.slice (some ⟨g, 0, none⟩) n cc) n xs) {j : Nat} {v : Value} (hj : xs[j]? = some v) :
    w.cell? ⟨g, j, none⟩ = some v ∧ w.frozen? ⟨g, j, none⟩ = false := by
  obtain ⟨r, hb, _⟩ := owm_parts h
  exact ⟨hb.cell (by rw [List.getElem?_append_left (List.getElem?_eq_some_iff.1 hj).1]; exact hj), hb.free _⟩
/-- A store into it. -/
theorem owm_set {w : World} {B : Nat} {m g n cc : Nat} {xs : List Value} {e : TypeId} (h : w.ownsRow B e m (.slice (some ⟨g, 0, none⟩) n cc) n xs) {j : Nat} (hj : j < xs.length) (v : Value) :
    (w.setCell ⟨g, j, none⟩ v).ownsRow B e m (.slice (some ⟨g, 0, none⟩) n cc) n (xs.set j v) := by
  obtain ⟨r, hb, h1, h2, h3, h4, h5⟩ := owm_parts h
  have := hb.set j v
  rw [List.set_append_left _ _ hj] at this
  exact owm_of_parts this (by simpa using h1) (by simpa using h2) h3 h4 h5
/-- The address of a row that has elements. -/
theorem owm_addr {w : World} {B : Nat} {m n cc : Nat} {ao : Option Addr} {xs : List Value} {e : TypeId} (h : w.ownsRow B e m (.slice ao n cc) n xs) (h0 : 0 < n) : ∃ g, ao = some ⟨g, 0, none⟩ := by
  rcases h.2 with ⟨_, rfl⟩ | ⟨g, cap, cur, h', _⟩
  · omega
  · simp only [Value.slice.injEq] at h'
    exact ⟨g, h'.1⟩
theorem owm_addr' {w : World} {B : Nat} {e : TypeId} {m n cc : Nat} {a : Addr} {xs : List Value} (h : w.ownsRow B e m (.slice (some a) n cc) n xs) : ∃ g, a = ⟨g, 0, none⟩ := by
  rcases h.2 with ⟨h', _⟩ | ⟨g, cap, cur, h', _⟩
  · simp at h'
  · simp only [Value.slice.injEq, Option.some.injEq] at h'
    exact ⟨g, h'.1⟩
end Go.Proofs.YtmmkcfiecgpkpaaGreat

/- The document's ring, as it lies in memory. No condition. -/
namespace Go.Proofs.YtmmkcfiecgpkpaaGreat
open Go.RowKit
set_option linter.unusedVariables false
set_option maxRecDepth 100000

def encP (p : Plc) : List Value := [.int .i64 p.r, .bool p.d]
theorem encP_len (p : Plc) : (encP p).length = 2 := rfl
theorem encP_one (p : Plc) : ∀ u ∈ encP p, u.oneCell' = true := by intro u hu; simp [encP] at hu; rcases hu with rfl | rfl <;> rfl
theorem encP_ones (l : List Plc) : ∀ u ∈ rowOf encP l, u.oneCell' = true := by
  intro u hu
  unfold rowOf at hu
  obtain ⟨p, _, hp⟩ := List.mem_flatMap.1 hu
  exact encP_one p u hp
def polB (b : Bool) : Int := if b then 1 else 0

structure RIn (w : World) (W : Nat → Prop) (q : Nat) (la : Option Addr) (lc : Nat) (M : RM) : Prop where
  lt : ∀ k, W k → k < w.heap.size
  own : W q ∧ ∀ a, la = some a → W a.block ∧ a.block ≠ q
  hd : Blk w q [.int .i64 M.n, .int .i64 (polB M.ov), .int .i64 M.h, .slice la M.l.length lc] 111
  ls : w.ownsRow 0 108 2 (.slice la M.l.length lc) M.l.length (rowOf encP M.l)

theorem RIn.turned {w w' : World} {W S : Nat → Prop} {q lc : Nat} {la : Option Addr} {M : RM} (h : RIn w W q la lc M) (ht : Turned S w w') (hs : ∀ k, W k → ¬ S k) : RIn w' W q la lc M :=
  ⟨fun k hk => Nat.lt_of_lt_of_le (h.lt k hk) ht.size, h.own, h.hd.turned ht (hs _ h.own.1), ow_turned h.ls ht (fun b hb => by
    cases la with
    | none => cases hb
    | some a => have := (h.own.2 a rfl).1
                have e : a.block = b := by simpa [Value.ownBlock] using hb
                rw [← e]; exact hs _ this)⟩
theorem RIn.still {w w' : World} {W : Nat → Prop} {q lc : Nat} {la : Option Addr} {M : RM} (h : RIn w W q la lc M) (ht : Still w w') : RIn w' W q la lc M := h.turned ht (fun _ _ h => h)

/-- The document's ring as a thing. -/
def zrT (q : Nat) (M : RM) : Thing where
  at_ w W := ∃ la lc, RIn w W q la lc M
  lt := by rintro w W ⟨la, lc, h⟩ k hk; exact h.lt k hk
  keep := by rintro w w' W S ⟨la, lc, h⟩ ht hs; exact ⟨la, lc, h.turned ht hs⟩
theorem zrT_goes {q : Nat} {M : RM} {W W' : Nat → Prop} {w w' : World} {la : Option Addr} {lc : Nat} (h : RIn w' W' q la lc M) (ht : Turned W w w') (hW : ∀ k, W' k → W k ∨ w.heap.size ≤ k) : Goes (zrT q M) W w w' := ⟨W', ⟨la, lc, h⟩, ht, hW⟩
theorem zrT_still {q : Nat} {M : RM} {W : Nat → Prop} {w w' : World} {la : Option Addr} {lc : Nat} (h : RIn w W q la lc M) (ht : Still w w') : Goes (zrT q M) W w w' := Goes.still (Q := zrT q M) ⟨la, lc, h⟩ ht

theorem RIn.cells {w : World} {W : Nat → Prop} {q lc : Nat} {la : Option Addr} {M : RM} (h : RIn w W q la lc M) : w.cell? ⟨q, 0, none⟩ = some (.int .i64 M.n) ∧ w.cell? ⟨q, 1, none⟩ = some (.int .i64 (polB M.ov)) ∧ w.cell? ⟨q, 2, none⟩ = some (.int .i64 M.h) ∧ w.cell? ⟨q, 3, none⟩ = some (.slice la M.l.length lc) :=
  ⟨h.hd.cell rfl, h.hd.cell rfl, h.hd.cell rfl, h.hd.cell rfl⟩
theorem RIn.place {w : World} {W : Nat → Prop} {q lc : Nat} {la : Option Addr} {M : RM} (h : RIn w W q la lc M) {k : Nat} {p : Plc} (hk : M.l[k]? = some p) :
    ∃ g, la = some ⟨g, 0, none⟩ ∧ w.cell? ⟨g, k * 2, none⟩ = some (.int .i64 p.r) ∧ w.cell? ⟨g, k * 2 + 1, none⟩ = some (.bool p.d) ∧ w.frozen? ⟨g, k * 2 + 1, none⟩ = false ∧ g ≠ q ∧ W g := by
  have hl := (List.getElem?_eq_some_iff.1 hk).1
  obtain ⟨g, rfl⟩ := owm_addr h.ls (by omega)
  have e0 := rowOf_get encP_len hk (j := 0) (v := .int .i64 p.r) rfl
  have e1 := rowOf_get encP_len hk (j := 1) (v := .bool p.d) rfl
  rw [Nat.add_zero] at e0
  exact ⟨g, rfl, (owm_cell h.ls e0).1, (owm_cell h.ls e1).1, (owm_cell h.ls e1).2, (h.own.2 _ rfl).2, (h.own.2 _ rfl).1⟩

/-- A place is published. -/
theorem RIn.setD {w : World} {W : Nat → Prop} {q lc g : Nat} {M : RM} (h : RIn w W q (some ⟨g, 0, none⟩) lc M) {k : Nat} {p : Plc} (hk : M.l[k]? = some p) :
    RIn (w.setCell ⟨g, k * 2 + 1, none⟩ (.bool true)) W q (some ⟨g, 0, none⟩) lc { M with l := M.l.set k ⟨p.r, true⟩ } := by
  have hl := (List.getElem?_eq_some_iff.1 hk).1
  have hg := (h.own.2 _ rfl).2
  have hrow := rowOf_set encP_len hk (j := 1) (v := .bool true) (b := ⟨p.r, true⟩) (by omega) rfl
  refine ⟨fun i hi => by simp [World.setCell]; exact h.lt i hi, h.own, ?_, ?_⟩
  · have := h.hd.other (p := ⟨g, k * 2 + 1, none⟩) hg (.bool true)
    simpa using this
  · have := owm_set h.ls (j := k * 2 + 1) (by rw [rowOf_length encP_len]; omega) (.bool true)
    rw [hrow] at this
    simpa using this
end Go.Proofs.YtmmkcfiecgpkpaaGreat

/- What the calls of the document's ring do: Tail, find, Publish, Get. No condition but that the ring is one. -/
namespace Go.Proofs.YtmmkcfiecgpkpaaGreat
open Go.RowKit
set_option linter.unusedVariables false
set_option linter.unusedSimpArgs false
set_option maxRecDepth 100000

theorem zrtail_any {w : World} {W : Nat → Prop} {q lc : Nat} {la : Option Addr} {M : RM} {N : Nat} (H : RIn w W q la lc M) (hM : M.Ok N) (hN : N < 1000000) :
    Calls Tryz.prog 58 #[.pointer (some ⟨q, 0, none⟩)] w fun e w' => e = .returned (.int .i64 M.tail) ∧ Still w w' := by
  obtain ⟨_, _, c2, c3⟩ := H.cells
  have hl := hM.low
  obtain ⟨n, hn⟩ : ∃ n, n = M.l.length := ⟨_, rfl⟩
  have HR := Lib.hid (show ((M.tail : Nat) : Int) = (M.h : Int) + (n : Int) by unfold RM.tail; omega)
  unfold RM.tail at hl
  rw [← hn] at c3 hl
  have h1 : (M.h : Int) < 1000000 := by omega
  have h2 : (n : Int) < 1000000 := by omega
  have h3 : (0 : Int) ≤ (M.h : Int) := by omega
  rw [HR.out]
  generalize (M.h : Int) = h at *
  clear hl hn H hM hN
  go_enter Tryz.func58, Tryz.ntmps58
  go_wp2_with fail
  go_quiet (fail)
  go_wp2_with fail
  go_ret
  exact ⟨rfl, (Turned.refl _ _).drewN _⟩

def RM.findS (M : RM) (a : Int) : Int := if M.findE a = 0 then (M.cut a : Nat) else 0
theorem zrfind_any {w : World} {W : Nat → Prop} {q lc : Nat} {la : Option Addr} {M : RM} {N : Nat} (H : RIn w W q la lc M) (hM : M.Ok N) (hN : N < 1000000) (a : Int) :
    Calls Tryz.prog 54 #[.pointer (some ⟨q, 0, none⟩), .int .i64 a] w fun e w' => e = .returned (.tuple #[.int .i64 (M.findS a), .int .i64 (M.findE a)]) ∧ Still w w' := by
  obtain ⟨_, _, c2, _⟩ := H.cells
  have HT := Lib.hid (zrtail_any H hM hN)
  have hl := hM.low
  have ht : ((M.tail : Nat) : Int) < 1000000 := by omega
  have hht : (M.h : Int) ≤ (M.tail : Nat) := by unfold RM.tail; omega
  have hh0 : (0 : Int) ≤ (M.h : Int) := by omega
  have HC := Lib.hid (fun w' (hst : Still w w') => still_cell hst c2 rfl)
  by_cases h1 : a < 0
  · have HR := Lib.hid (show M.findS a = 0 ∧ M.findE a = 2 by
      have : M.findE a = 2 := by unfold RM.findE; rw [if_pos h1]
      exact ⟨by unfold RM.findS; rw [this]; rfl, this⟩)
    rw [HR.out.1, HR.out.2]
    clear HR H hM hl
    go_enter Tryz.func54, Tryz.ntmps54
    go_wp2_with fail
    go_ret2
    exact ⟨rfl, Turned.refl _ _⟩
  · by_cases h2 : a < (M.h : Int)
    · have HR := Lib.hid (show M.findS a = 0 ∧ M.findE a = 61 by
        have : M.findE a = 61 := by unfold RM.findE; rw [if_neg h1, if_pos h2]
        exact ⟨by unfold RM.findS; rw [this]; rfl, this⟩)
      rw [HR.out.1, HR.out.2]
      generalize (M.h : Int) = h at *
      clear HR H hM hl
      go_enter Tryz.func54, Tryz.ntmps54
      go_wp2_with fail
      go_ret2
      exact ⟨rfl, Turned.refl _ _⟩
    · by_cases h3 : (M.tail : Int) ≤ a
      · have HR := Lib.hid (show M.findS a = 0 ∧ M.findE a = 5 by
          have : M.findE a = 5 := by unfold RM.findE; rw [if_neg h1, if_neg h2, if_pos h3]
          exact ⟨by unfold RM.findS; rw [this]; rfl, this⟩)
        rw [HR.out.1, HR.out.2]
        generalize (M.h : Int) = h at *
        generalize ((M.tail : Nat) : Int) = t at *
        clear HR H hM hl
        go_enter Tryz.func54, Tryz.ntmps54
        go_wp2_with (go_at_call 58; refine HT.out.mono ?_; rintro e w' ⟨rfl, hst⟩)
        go_ret2
        exact ⟨rfl, hst⟩
      · have HR := Lib.hid (show M.findS a = a - (M.h : Int) ∧ M.findE a = 0 by
          have : M.findE a = 0 := by unfold RM.findE; rw [if_neg h1, if_neg h2, if_neg h3]
          exact ⟨by unfold RM.findS RM.cut; rw [if_pos this]; omega, this⟩)
        rw [HR.out.1, HR.out.2]
        have h0 : 0 ≤ a := by omega
        have h4 : (M.h : Int) ≤ a := by omega
        have h5 : a < (M.tail : Int) := by omega
        generalize (M.h : Int) = h at *
        generalize ((M.tail : Nat) : Int) = t at *
        clear HR H hM hl h1 h2 h3
        go_enter Tryz.func54, Tryz.ntmps54
        go_wp2_with (go_at_call 58; refine HT.out.mono ?_; rintro e w' ⟨rfl, hst⟩; have cc := HC.out w' hst)
        go_ret2
        exact ⟨rfl, hst⟩
theorem zrfind_ok {w : World} {W : Nat → Prop} {q lc : Nat} {la : Option Addr} {M : RM} {N : Nat} (H : RIn w W q la lc M) (hM : M.Ok N) (hN : N < 1000000) {a : Int} (he : M.findE a = 0) :
    Calls Tryz.prog 54 #[.pointer (some ⟨q, 0, none⟩), .int .i64 a] w fun e w' => e = .returned (.tuple #[.int .i64 (M.cut a : Nat), .int .i64 0]) ∧ Still w w' := by
  have := zrfind_any H hM hN a
  unfold RM.findS at this
  rwa [if_pos he, he] at this
theorem zrfind_no {w : World} {W : Nat → Prop} {q lc : Nat} {la : Option Addr} {M : RM} {N : Nat} (H : RIn w W q la lc M) (hM : M.Ok N) (hN : N < 1000000) {a : Int} (he : M.findE a ≠ 0) :
    Calls Tryz.prog 54 #[.pointer (some ⟨q, 0, none⟩), .int .i64 a] w fun e w' => e = .returned (.tuple #[.int .i64 0, .int .i64 (M.findE a)]) ∧ Still w w' := by
  have := zrfind_any H hM hN a
  unfold RM.findS at this
  rwa [if_neg he] at this

theorem zrpub_any {w : World} {W : Nat → Prop} {q : Nat} {M : RM} {N : Nat} (H0 : (zrT q M).at_ w W) (hM : M.Ok N) (hN : N < 1000000) (a : Int) :
    Calls Tryz.prog 25 #[.pointer (some ⟨q, 0, none⟩), .int .i64 a] w fun e w' => e = .returned (.int .i64 (M.pubE a)) ∧ Goes (zrT q (M.pubM a)) W w w' := by
  obtain ⟨la, lc, H⟩ := H0
  by_cases he : M.findE a = 0
  · obtain ⟨hk, ha, hp⟩ := RM.found he
    have HV := Lib.hid (zrfind_ok H hM hN he)
    obtain ⟨g, rfl, p0, p1, p2, hgq, hWg⟩ := H.place hp
    obtain ⟨n, hn⟩ : ∃ n, n = M.l.length := ⟨_, rfl⟩
    have HC := Lib.hid (fun w' (hst : Still w w') => (⟨hn ▸ (H.still hst).cells.2.2.2, still_cell hst p1 rfl⟩ : w'.cell? ⟨q, 3, none⟩ = some (.slice (some ⟨g, 0, none⟩) n lc) ∧ w'.cell? ⟨g, M.cut a * 2 + 1, none⟩ = some (.bool (M.pl a).d)))
    have HZ := Lib.hid (fun w' (hst : Still w w') => (by
      obtain ⟨g', e, _, _, z, _⟩ := (H.still hst).place hp
      cases e
      exact z : w'.frozen? ⟨g, M.cut a * 2 + 1, none⟩ = false))
    have hkn : M.cut a < n := by omega
    cases hd : (M.pl a).d with
    | true =>
      rw [hd] at HC
      have HR := Lib.hid (show M.pubE a = 6 by unfold RM.pubE; rw [if_neg (by simp [he]), if_pos hd])
      have HG := Lib.hid (fun w' (hst : Still w w') => zrT_still H hst)
      rw [HR.out, show M.pubM a = M by unfold RM.pubM; rw [if_pos (by rw [HR.out]; omega)]]
      generalize M.cut a = k at *
      clear HR H hM hp p0 p1 p2 hn he hd ha
      go_enter Tryz.func25, Tryz.ntmps25
      go_wp2_with (go_at_call 54; refine HV.out.mono ?_; rintro e w' ⟨rfl, hst⟩; obtain ⟨c3, cd⟩ := HC.out w' hst)
      go_ret
      exact ⟨rfl, HG.out w' hst⟩
    | false =>
      rw [hd] at HC
      have HR := Lib.hid (show M.pubE a = 0 by unfold RM.pubE; rw [if_neg (by simp [he]), if_neg (by simp [hd])])
      have HG := Lib.hid (fun w' (hst : Still w w') => show Goes (zrT q (M.pubM a)) W w (w'.setCell ⟨g, M.cut a * 2 + 1, none⟩ (.bool true)) by
        rw [show M.pubM a = { M with l := M.l.set (M.cut a) ⟨(M.pl a).r, true⟩ } by unfold RM.pubM; rw [if_neg (by rw [HR.out]; simp)]]
        exact zrT_goes ((H.still hst).setD hp) ((hst.mono (T := W) (fun _ _ h => h.elim)).setCell (p := ⟨g, _, none⟩) (.inl hWg) _) (fun k hk => .inl hk))
      rw [HR.out]
      generalize M.cut a = k at *
      generalize M.pubM a = M2 at *
      clear HR H hM hp p0 p1 p2 hn he hd ha
      go_enter Tryz.func25, Tryz.ntmps25
      go_wp2_with (go_at_call 54; refine HV.out.mono ?_; rintro e w' ⟨rfl, hst⟩; obtain ⟨c3, cd⟩ := HC.out w' hst; have fz := HZ.out w' hst)
      go_ret
      exact ⟨rfl, HG.out w' hst⟩
  · have HV := Lib.hid (zrfind_no H hM hN he)
    have hb : (M.findE a != 0) = true := by rw [bne_iff_ne]; exact he
    have HR := Lib.hid (show M.pubE a = M.findE a by unfold RM.pubE; rw [if_pos he])
    have HG := Lib.hid (fun w' (hst : Still w w') => zrT_still H hst)
    rw [show M.pubM a = M by unfold RM.pubM; rw [if_pos (by rw [HR.out]; exact he)], HR.out]
    generalize M.findE a = x at *
    clear HR H hM hN he
    go_enter Tryz.func25, Tryz.ntmps25
    go_wp2_with (go_at_call 54; refine HV.out.mono ?_; rintro e w' ⟨rfl, hst⟩)
    go_ret
    exact ⟨rfl, HG.out w' hst⟩

end Go.Proofs.YtmmkcfiecgpkpaaGreat

/- What Refs, Ready and Make of the document's ring do. No condition but that the ring is one. -/
namespace Go.Proofs.YtmmkcfiecgpkpaaGreat
open Go.RowKit
set_option linter.unusedVariables false
set_option linter.unusedSimpArgs false
set_option maxRecDepth 100000

/-- Numbers that are handed out: a slice of one's own. -/
def OutNums (w : World) (l : List Int) (n : Nat) (e : Ending) (w' : World) : Prop := ∃ a c, e = .returned (.slice a n c) ∧ w'.ownsRow w.heap.size 3 1 (.slice a n c) n (ints l) ∧ Still w w'

/-- What append of one number leaves of a row of one's own. -/
theorem ow_appended {w wr w6 : World} {ao : Option Addr} {k cc : Nat} {xs ys : List Value} {o : Obj} {v6 : Value} (hs : Still w wr) (h : wr.ownsRow w.heap.size 3 1 (.slice ao k cc) k xs) (hg : (wr.alloc o).grownBy w6 (Value.slice ao k cc).ownBlock) : Still w w6 := by
  refine (hs.alloc o).past ((Turned.refl (fun i => (Value.slice ao k cc).ownBlock = some i) _).grown hg (fun i e => .inl e)) (fun i hi => ?_)
  cases ao with
  | none => cases hi
  | some x => have := (ow_lt h x rfl).1
              have e : x.block = i := by simpa [Value.ownBlock] using hi
              exact .inr (by omega)

theorem RM.refs_get {M : RM} {k : Nat} {p : Plc} (h : M.l[k]? = some p) : M.refs.take (k + 1) = M.refs.take k ++ [p.r] := by
  unfold RM.refs
  rw [List.take_add_one, List.getElem?_map, h]
  rfl

set_option maxHeartbeats 1000000 in
theorem zrrefs_any {w : World} {W : Nat → Prop} {q : Nat} {M : RM} {N : Nat} (H0 : (zrT q M).at_ w W) (hM : M.Ok N) (n : Nat) (hn : n = M.l.length) :
    Calls Tryz.prog 60 #[.pointer (some ⟨q, 0, none⟩)] w (OutNums w M.refs n) := by
  obtain ⟨la, lc, H⟩ := H0
  obtain ⟨i0, hi, hz0, hz1, hz2⟩ := info_parts infoIntW
  have hmax : n ≤ 64 := by have := hM.len; have := hM.max; omega
  have c3 : w.cell? ⟨q, 3, none⟩ = some (.slice la n lc) := hn ▸ H.cells.2.2.2
  have HC := Lib.hid (fun w' (hst : Still w w') => (hn ▸ (H.still hst).cells.2.2.2 : w'.cell? ⟨q, 3, none⟩ = some (.slice la n lc)))
  have HP := Lib.hid (fun w' (hst : Still w w') (k : Nat) (hk : k < n) => show ∃ (g : Nat) (p : Plc), M.l[k]? = some p ∧ la = some ⟨g, 0, none⟩ ∧ w'.cell? ⟨g, k * 2, none⟩ = some (.int .i64 p.r) by
    obtain ⟨p, hp⟩ := get_some (l := M.l) (i := k) (by omega)
    obtain ⟨g, h1, h2, _⟩ := (H.still hst).place hp
    exact ⟨g, p, hp, h1, h2⟩)
  have HL := Lib.hid (show M.refs.take n = M.refs by rw [List.take_of_length_le]; simp [RM.refs, hn])
  have HW := Lib.hid (World.ownsRow_made (e := 3) (size := 1) w #[] 0 (Nat.le_refl _) (by simp) (by simp))
  clear H hM hn
  go_enter Tryz.func60, Tryz.ntmps60
  go_wp2
  go_loopw [3, 4] (fun o i wr => ∃ (k : Nat) (ao : Option Addr) (cc : Nat), k ≤ n ∧ i = .int .i64 k ∧ o = .slice ao k cc ∧ wr.ownsRow w.heap.size 3 1 (.slice ao k cc) k (ints (M.refs.take k)) ∧ Still w wr) (fun _ i _ => n - (intOf i).toNat)
  case atStart => exact ⟨0, _, 0, Nat.zero_le _, rfl, rfl, HW.out, (Turned.refl _ _).alloc _⟩
  case round =>
    obtain ⟨k, ao, cc, hk, rfl, rfl, hown, hst⟩ := hrel
    have cr := HC.out wr hst
    by_cases hlt : k < n
    · obtain ⟨g, p, hp, rfl, c0⟩ := HP.out wr hst k hlt
      have HO := Lib.hid hown
      have HS := Lib.hid hst
      have HPP := Lib.hid hp
      have hlo := hst.size
      clear hown hst hp HC HP c3
      go_wp2_with (at_builtin; refine wpList_append_own_at _ rfl _ _ 23 rfl w.heap.size 3 i0 (.int .i64 0) 1 8 Tryz.underlying23 hi hz0 hz1 hz2 rfl (by decide) (.slice ao k cc) k (ints (M.refs.take k)) rfl (ow_still HO.out ((Turned.refl _ _).alloc _)) ⟨wr.heap.size, 0, none⟩ 1 1 [.int .i64 p.r] rfl rfl (ow_cells wr _ _) (ow_ints rfl) (by unfold maxLen; omega) (by omega) (by simp; omega) ?_; intro v6 w6 hown6 hg6 _ hat6; obtain ⟨a6, c6, rfl⟩ := ow_slice hown6; have HS6 := Lib.hid (ow_appended (v6 := .bool true) (ys := []) HS.out HO.out hg6); have HO6 := Lib.hid hown6; clear hown6 hg6 hat6)
      go_roundw
      case rel => exact ⟨k + 1, a6, c6, by omega, by go_num, rfl, by rw [RM.refs_get HPP.out]; simpa [ints] using HO6.out, HS6.out⟩
      case measure => simp [intOf]; omega
    · obtain rfl : k = n := by omega
      have HO := Lib.hid hown
      have HS := Lib.hid hst
      clear hown hst HP
      go_wp2
      go_ret
      refine ⟨ao, cc, rfl, ?_, HS.out⟩
      have := HO.out
      rwa [HL.out] at this
end Go.Proofs.YtmmkcfiecgpkpaaGreat

/- What Ready and Make of the document's ring do. No condition but that the ring is one. -/
namespace Go.Proofs.YtmmkcfiecgpkpaaGreat
open Go.RowKit
set_option linter.unusedVariables false
set_option linter.unusedSimpArgs false
set_option maxRecDepth 100000

theorem tw_done {α : Type} (f : α → Bool) : ∀ (l : List α) (j : Nat) (x : α), j ≤ (l.takeWhile f).length → l[j]? = some x → f x = true → j < (l.takeWhile f).length
  | [], j, x, h, hx, _ => by simp at hx
  | a :: r, 0, x, h, hx, hf => by
    simp at hx; subst hx
    rw [List.takeWhile_cons_of_pos hf]; simp
  | a :: r, j + 1, x, h, hx, hf => by
    by_cases ha : f a = true
    · rw [List.takeWhile_cons_of_pos ha] at h ⊢
      simp only [List.length_cons] at h ⊢
      have := tw_done f r j x (by omega) (by simpa using hx) hf
      omega
    · rw [List.takeWhile_cons_of_neg ha] at h; simp at h
theorem tw_stop {α : Type} (f : α → Bool) : ∀ (l : List α) (j : Nat) (x : α), j ≤ (l.takeWhile f).length → l[j]? = some x → f x = false → j = (l.takeWhile f).length
  | [], j, x, h, hx, _ => by simp at hx
  | a :: r, 0, x, h, hx, hf => by
    simp at hx; subst hx
    rw [List.takeWhile_cons_of_neg (by simp [hf])]; simp
  | a :: r, j + 1, x, h, hx, hf => by
    by_cases ha : f a = true
    · rw [List.takeWhile_cons_of_pos ha] at h ⊢
      simp only [List.length_cons] at h ⊢
      have := tw_stop f r j x (by omega) (by simpa using hx) hf
      omega
    · rw [List.takeWhile_cons_of_neg ha] at h; simp at h
theorem tw_le {α : Type} (f : α → Bool) (l : List α) : (l.takeWhile f).length ≤ l.length := (List.takeWhile_sublist f).length_le

theorem zrtail_quiet {w : World} {W : Nat → Prop} {q lc : Nat} {la : Option Addr} {M : RM} {N : Nat} (H : RIn w W q la lc M) (hM : M.Ok N) (hN : N < 1000000) :
    Calls Tryz.prog 58 #[.pointer (some ⟨q, 0, none⟩)] w fun e w' => e = .returned (.int .i64 M.tail) ∧ ∃ m, w' = w.drewN m := by
  obtain ⟨_, _, c2, c3⟩ := H.cells
  have hl := hM.low
  obtain ⟨n, hn⟩ : ∃ n, n = M.l.length := ⟨_, rfl⟩
  have HR := Lib.hid (show ((M.tail : Nat) : Int) = (M.h : Int) + (n : Int) by unfold RM.tail; omega)
  unfold RM.tail at hl
  rw [← hn] at c3 hl
  have h1 : (M.h : Int) < 1000000 := by omega
  have h2 : (n : Int) < 1000000 := by omega
  have h3 : (0 : Int) ≤ (M.h : Int) := by omega
  rw [HR.out]
  generalize (M.h : Int) = h at *
  clear hl hn H hM hN
  go_enter Tryz.func58, Tryz.ntmps58
  go_wp2_with fail
  go_quiet (fail)
  go_wp2_with fail
  go_ret
  exact ⟨rfl, _, rfl⟩

/-- A new ring. -/
def RNew (RT : Nat → RM → Thing) (w : World) (n : Nat) (ov : Bool) (e : Ending) (w' : World) : Prop :=
  ∃ q, e = .returned (.tuple #[.pointer (some ⟨q, 0, none⟩), .int .i64 0]) ∧ ∃ W, (RT q (RM.new n ov)).at_ w' W ∧ Still w w' ∧ ∀ k, W k → w.heap.size ≤ k

theorem zrmake_no (n p : Int) (w : World) (h : ¬ (1 ≤ n ∧ n ≤ 64 ∧ (p = 0 ∨ p = 1))) :
    Calls Tryz.prog 65 #[.int .i64 n, .int .i64 p] w fun e w' => e = .returned (.tuple #[.pointer none, .int .i64 2]) ∧ Still w w' := by
  have h' : n < 1 ∨ 64 < n ∨ (p ≠ 0 ∧ p ≠ 1) := by omega
  clear h
  rcases h' with h | h | ⟨h, k⟩
  · go_enter Tryz.func65, Tryz.ntmps65
    go_wp2
    all_goals first | (exfalso; omega) | (go_ret2; exact ⟨rfl, Turned.refl _ _⟩)
  · have h1 : ¬ n < 1 := by omega
    go_enter Tryz.func65, Tryz.ntmps65
    go_wp2
    all_goals first | (exfalso; omega) | (go_ret2; exact ⟨rfl, Turned.refl _ _⟩)
  · have h1 : (p != 0) = true := by rw [bne_iff_ne]; exact h
    have h2 : (p != 1) = true := by rw [bne_iff_ne]; exact k
    clear h k
    go_enter Tryz.func65, Tryz.ntmps65
    go_wp2
    all_goals first | (exfalso; omega) | (go_ret2; exact ⟨rfl, Turned.refl _ _⟩)

theorem zrmake_ok (n : Nat) (ov : Bool) (w : World) (h1 : 1 ≤ n) (h2 : n ≤ 64) :
    Calls Tryz.prog 65 #[.int .i64 n, .int .i64 (polB ov)] w (RNew zrT w n ov) := by
  have HI := Lib.hid (show ∃ W, (zrT w.heap.size (RM.new n ov)).at_ (w.alloc (.cells #[.int .i64 (n : Nat), .int .i64 (polB ov), .int .i64 0, .slice none 0 0] 111)) W ∧ Still w (w.alloc (.cells #[.int .i64 (n : Nat), .int .i64 (polB ov), .int .i64 0, .slice none 0 0] 111)) ∧ ∀ k, W k → w.heap.size ≤ k from
    ⟨fun k => k = w.heap.size, ⟨none, 0, fun k hk => by rw [hk]; simp, ⟨rfl, fun a ha => by cases ha⟩, Blk.new w [.int .i64 (n : Nat), .int .i64 (polB ov), .int .i64 0, .slice none 0 0] 111, ⟨rfl, .inl ⟨rfl, rfl⟩⟩⟩, (Turned.refl _ _).alloc _, fun k hk => by omega⟩)
  have hn1 : (1 : Int) ≤ (n : Int) := by omega
  have hn2 : (n : Int) ≤ 64 := by omega
  cases ov
  · go_enter Tryz.func65, Tryz.ntmps65
    simp only [show polB false = 0 from rfl] at HI ⊢
    go_wp2
    go_ret2
    exact ⟨_, rfl, HI.out⟩
  · go_enter Tryz.func65, Tryz.ntmps65
    simp only [show polB true = 1 from rfl] at HI ⊢
    go_wp2
    go_ret2
    exact ⟨_, rfl, HI.out⟩
end Go.Proofs.YtmmkcfiecgpkpaaGreat

/- What Claim of the document's ring does. No condition but that the ring is one. -/
namespace Go.Proofs.YtmmkcfiecgpkpaaGreat
open Go.RowKit
set_option linter.unusedVariables false
set_option linter.unusedSimpArgs false
set_option maxRecDepth 100000

theorem infoPlc : (Tryz.prog.info? 108).map (fun i => (i.zero, i.size, i.bytes)) = some (some (.agg #[.int .i64 0, .bool false]), 2, 16) := by kernel_rfl

/-- The window is another row. -/
theorem RIn.row {w w6 : World} {W : Nat → Prop} {q lc : Nat} {la : Option Addr} {M : RM} (H : RIn w W q la lc M) (hT : Turned (fun k => (Value.slice la M.l.length lc).ownBlock = some k) w w6) {l' : List Plc} {m c6 : Nat} {a6 : Option Addr} (hm : m = l'.length)
    (hown : w6.ownsRow 0 108 2 (.slice a6 m c6) m (rowOf encP l')) (hat : (Value.slice a6 m c6).ownBlock = (Value.slice la M.l.length lc).ownBlock ∨ ∃ j, w.heap.size ≤ j ∧ (Value.slice a6 m c6).ownBlock = some j) :
    RIn (w6.setCell ⟨q, 3, none⟩ (.slice a6 m c6)) (fun k => W k ∨ (Value.slice a6 m c6).ownBlock = some k) q a6 c6 { M with l := l' } ∧ (∀ k, (W k ∨ (Value.slice a6 m c6).ownBlock = some k) → W k ∨ w.heap.size ≤ k) ∧ Blk w6 q [.int .i64 M.n, .int .i64 (polB M.ov), .int .i64 M.h, .slice la M.l.length lc] 111 := by
  subst hm
  have hlq := H.lt q H.own.1
  have hnq : ¬ (Value.slice la M.l.length lc).ownBlock = some q := by
    cases la with
    | none => intro h; cases h
    | some a => intro h; exact (H.own.2 a rfl).2 (by simpa [Value.ownBlock] using h)
  have hx : ∀ x, a6 = some x → (W x.block ∨ w.heap.size ≤ x.block) ∧ x.block ≠ q := by
    rintro x rfl
    rcases hat with e | ⟨j, hj, e⟩
    · cases la with
      | none => cases e
      | some a =>
        have : x.block = a.block := by simpa [Value.ownBlock] using e
        rw [this]
        exact ⟨.inl (H.own.2 a rfl).1, (H.own.2 a rfl).2⟩
    · have : x.block = j := by simpa [Value.ownBlock] using e
      exact ⟨.inr (by omega), by omega⟩
  have hq6 := H.hd.turned hT hnq
  have htq : Turned (· = q) w6 (w6.setCell ⟨q, 3, none⟩ (.slice a6 l'.length c6)) := turned_set (Turned.refl _ _) _ _
  refine ⟨⟨fun k hk => ?_, ⟨.inl H.own.1, fun x hx' => ⟨.inr (by rw [hx']; rfl), (hx x hx').2⟩⟩, hq6.set 3 _, ow_turned hown htq (fun b hb e => ?_)⟩, fun k hk => ?_, hq6⟩
  · simp only [World.setCell]
    have hsz : (w6.setCell ⟨q, 3, none⟩ (.slice a6 l'.length c6)).heap.size = w6.heap.size := by simp [World.setCell]
    show k < (w6.setCell ⟨q, 3, none⟩ (.slice a6 l'.length c6)).heap.size
    rw [hsz]
    rcases hk with hk | hk
    · exact Nat.lt_of_lt_of_le (H.lt k hk) hT.size
    · cases a6 with
      | none => cases hk
      | some x => have := (ow_lt hown x rfl).2; simp only [Value.ownBlock, Option.some.injEq] at hk; omega
  · cases a6 with
    | none => cases hb
    | some x => exact (hx x rfl).2 (by simpa [Value.ownBlock, e] using hb)
  · rcases hk with hk | hk
    · exact .inl hk
    · cases a6 with
      | none => cases hk
      | some x =>
        have e : x.block = k := by simpa [Value.ownBlock] using hk
        rw [← e]; exact (hx x rfl).1
/-- The head is another. -/
theorem RIn.setH {w : World} {W : Nat → Prop} {q lc : Nat} {la : Option Addr} {M : RM} (H : RIn w W q la lc M) (h' : Nat) : RIn (w.setCell ⟨q, 2, none⟩ (.int .i64 (h' : Nat))) W q la lc { M with h := h' } := by
  have htq : Turned (· = q) w (w.setCell ⟨q, 2, none⟩ (.int .i64 (h' : Nat))) := turned_set (Turned.refl _ _) _ _
  refine ⟨fun k hk => by simp [World.setCell]; exact H.lt k hk, H.own, H.hd.set 2 _, ow_turned H.ls htq (fun b hb e => ?_)⟩
  cases la with
  | none => cases hb
  | some x => exact (H.own.2 x rfl).2 (by simpa [Value.ownBlock, e] using hb)

/-- What the call leaves of one more place. -/
theorem RIn.push {w w3 w6 : World} {W W3 : Nat → Prop} {q lc : Nat} {la : Option Addr} {M : RM} (H : RIn w3 W3 q la lc M) (hT3 : Turned W w w3) (hW3 : ∀ k, W3 k → W k ∨ w.heap.size ≤ k) {o : Obj} {x : Int} {n c6 : Nat} {a6 : Option Addr} (hn : n = M.l.length)
    (hown : w6.ownsRow 0 108 2 (.slice a6 (n + 1) c6) (n + 1) (rowOf encP M.l ++ [.int .i64 x, .bool false])) (hg : (w3.alloc o).grownBy w6 (Value.slice la n lc).ownBlock)
    (hat : (Value.slice a6 (n + 1) c6).ownBlock = (Value.slice la n lc).ownBlock ∨ (Value.slice a6 (n + 1) c6).ownBlock = some (w3.alloc o).heap.size) :
    Goes (zrT q { M with l := M.l ++ [⟨x, false⟩] }) W w (w6.setCell ⟨q, 3, none⟩ (.slice a6 (n + 1) c6)) ∧ Blk w6 q [.int .i64 M.n, .int .i64 (polB M.ov), .int .i64 M.h, .slice la M.l.length lc] 111 := by
  subst hn
  have hT : Turned (fun k => (Value.slice la M.l.length lc).ownBlock = some k) w3 w6 := ((Turned.refl _ w3).alloc o).grown hg (fun i e => .inl e)
  obtain ⟨h1, h2, h3⟩ := H.row hT (l' := M.l ++ [⟨x, false⟩]) (m := M.l.length + 1) (by simp) (by rw [rowOf_append]; exact hown) (hat.elim .inl (fun h => .inr ⟨_, by simp, h⟩))
  have hown3 : ∀ k, (Value.slice la M.l.length lc).ownBlock = some k → W3 k := by
    intro k hk
    cases la with
    | none => cases hk
    | some a => have e : a.block = k := by simpa [Value.ownBlock] using hk
                rw [← e]; exact (H.own.2 a rfl).1
  refine ⟨zrT_goes h1 ((hT3.past hT (fun k hk => hW3 k (hown3 k hk))).setCell (p := ⟨q, 3, none⟩) (hW3 q H.own.1) _) (fun k hk => ?_), h3⟩
  rcases h2 k hk with h | h
  · exact hW3 k h
  · exact .inr (Nat.le_trans hT3.size h)

/-- The eldest place goes. -/
theorem RIn.shift {w w6 : World} {W : Nat → Prop} {q lc : Nat} {la : Option Addr} {M : RM} (H : RIn w W q la lc M) (h6 : Still w w6) {m c6 : Nat} {a6 : Option Addr} (hm : m = (M.l.drop 1).length)
    (hown : w6.ownsRow w.heap.size 108 2 (.slice a6 m c6) m (rowOf encP (M.l.drop 1))) :
    (∃ W5, RIn ((w6.setCell ⟨q, 3, none⟩ (.slice a6 m c6)).setCell ⟨q, 2, none⟩ (.int .i64 ((M.h : Int) + 1))) W5 q a6 c6 { M with h := M.h + 1, l := M.l.drop 1 } ∧ (∀ k, W5 k → W k ∨ w.heap.size ≤ k) ∧ Turned W w ((w6.setCell ⟨q, 3, none⟩ (.slice a6 m c6)).setCell ⟨q, 2, none⟩ (.int .i64 ((M.h : Int) + 1)))) ∧
      Blk w6 q [.int .i64 M.n, .int .i64 (polB M.ov), .int .i64 M.h, .slice la M.l.length lc] 111 := by
  have H6 := H.still h6
  have hat : a6 = none ∨ ∃ j, w.heap.size ≤ j ∧ (Value.slice a6 m c6).ownBlock = some j := by
    cases a6 with
    | none => exact .inl rfl
    | some x => exact .inr ⟨x.block, (ow_lt hown x rfl).1, rfl⟩
  have hlq := H.lt q H.own.1
  have htq : Turned (· = q) w6 (w6.setCell ⟨q, 3, none⟩ (.slice a6 m c6)) := turned_set (Turned.refl _ _) _ _
  have hx : ∀ x, a6 = some x → w.heap.size ≤ x.block := by rintro x rfl; exact (ow_lt hown x rfl).1
  have R : RIn (w6.setCell ⟨q, 3, none⟩ (.slice a6 m c6)) (fun k => W k ∨ (Value.slice a6 m c6).ownBlock = some k) q a6 c6 { M with l := M.l.drop 1 } := by
    refine ⟨fun k hk => ?_, ⟨.inl H.own.1, fun x hx' => ⟨.inr (by rw [hx']; rfl), by have := hx x hx'; omega⟩⟩, by rw [← hm]; exact H6.hd.set 3 _, ?_⟩
    · have hsz : (w6.setCell ⟨q, 3, none⟩ (.slice a6 m c6)).heap.size = w6.heap.size := by simp [World.setCell]
      rw [hsz]
      rcases hk with hk | hk
      · exact H6.lt k hk
      · cases a6 with
        | none => cases hk
        | some x => have := (ow_lt hown x rfl).2; simp only [Value.ownBlock, Option.some.injEq] at hk; omega
    · rw [← hm]
      exact ow_base (ow_turned hown htq (fun b hb e => by
        cases a6 with
        | none => cases hb
        | some x => have := hx x rfl
                    have e' : x.block = b := by simpa [Value.ownBlock] using hb
                    omega)) (Nat.zero_le _)
  have R2 := R.setH (M.h + 1)
  rw [show ((M.h + 1 : Nat) : Int) = (M.h : Int) + 1 by omega] at R2
  refine ⟨⟨_, R2, fun k hk => ?_, ((h6.mono (fun _ _ h => h.elim)).setCell (p := ⟨q, 3, none⟩) (.inl H.own.1) _).setCell (p := ⟨q, 2, none⟩) (.inl H.own.1) _⟩, H6.hd⟩
  rcases hk with hk | hk
  · exact .inl hk
  · cases a6 with
    | none => cases hk
    | some x => have := hx x rfl
                have e' : x.block = k := by simpa [Value.ownBlock] using hk
                exact .inr (by omega)

set_option maxHeartbeats 2000000 in
theorem zrclaim_any {w : World} {W : Nat → Prop} {q : Nat} {M : RM} {N : Nat} (H0 : (zrT q M).at_ w W) (hM : M.Ok N) (hN : N < 1000000) (x : Int) :
    Calls Tryz.prog 78 #[.pointer (some ⟨q, 0, none⟩), .int .i64 x] w fun e w' => e = .returned (.tuple #[.int .i64 (M.claimA x), .int .i64 (M.claimW x), .int .i64 (M.claimE x)]) ∧ Goes (zrT q (M.claimM x)) W w w' := by
  obtain ⟨la, lc, H⟩ := H0
  have hl := hM.low
  by_cases hx : x < 1
  · have HR := Lib.hid (show M.claimE x = 2 by unfold RM.claimE; rw [if_pos hx])
    have HG := Lib.hid (zrT_still H (Turned.refl _ _))
    rw [show M.claimM x = M by unfold RM.claimM; rw [if_pos (by rw [HR.out]; simp)], show M.claimA x = 0 by unfold RM.claimA; rw [if_pos (by rw [HR.out]; simp)], show M.claimW x = 0 by unfold RM.claimW; rw [if_pos (by rw [HR.out]; simp)], HR.out]
    clear H hM HR hl
    go_enter Tryz.func78, Tryz.ntmps78
    go_wp2_with fail
    go_ret3
    exact ⟨rfl, HG.out⟩
  · have hx1 : 1 ≤ x := by omega
    obtain ⟨n, hn⟩ : ∃ n, n = M.l.length := ⟨_, rfl⟩
    have HT := Lib.hid (fun V (hV : Still w V) => zrtail_any (H.still hV) hM hN)
    have HC := Lib.hid (fun V (hV : Still w V) => (hn ▸ (H.still hV).cells : V.cell? ⟨q, 0, none⟩ = some (.int .i64 M.n) ∧ V.cell? ⟨q, 1, none⟩ = some (.int .i64 (polB M.ov)) ∧ V.cell? ⟨q, 2, none⟩ = some (.int .i64 M.h) ∧ V.cell? ⟨q, 3, none⟩ = some (.slice la n lc)))
    have ht6 : ((M.tail : Nat) : Int) < 1000000 := by omega
    have ht40 : ¬ (1099511627776 ≤ M.tail) := by omega
    obtain ⟨tl, htl⟩ : ∃ tl : Int, tl = ((M.tail : Nat) : Int) := ⟨_, rfl⟩
    rw [← htl] at HT ht6
    by_cases hf : M.l.length = M.n
    · have hpos : 1 ≤ n := by have := hM.pos; omega
      obtain ⟨p0, hp0⟩ := get_some (l := M.l) (i := 0) (by omega)
      have hhd : M.hdp = p0 := by unfold RM.hdp; rw [hp0]; rfl
      obtain ⟨g, hla, e0, e1, _, hgq, hWg⟩ := H.place hp0
      subst hla
      rw [Nat.zero_mul] at e0
      rw [Nat.zero_mul, Nat.zero_add] at e1
      have HE := Lib.hid (fun V (hV : Still w V) => (⟨still_cell hV e0 rfl, still_cell hV e1 rfl⟩ : V.cell? ⟨g, 0, none⟩ = some (.int .i64 p0.r) ∧ V.cell? ⟨g, 1, none⟩ = some (.bool p0.d)))
      have heq : ((n : Int) == (M.n : Int)) = true := by rw [beq_iff_eq]; omega
      by_cases hno : M.ov = false ∨ M.hdp.d = false
      · have HR := Lib.hid (show M.claimE x = 60 by unfold RM.claimE; rw [if_neg hx, if_neg ht40, if_pos ⟨hf, hno⟩])
        have HG := Lib.hid (fun V (hV : Still w V) => zrT_still H hV)
        rw [show M.claimM x = M by unfold RM.claimM; rw [if_pos (by rw [HR.out]; simp)], show M.claimA x = 0 by unfold RM.claimA; rw [if_pos (by rw [HR.out]; simp)], show M.claimW x = 0 by unfold RM.claimW; rw [if_pos (by rw [HR.out]; simp)], HR.out]
        rw [hhd] at hno
        clear hf hn htl HR ht40 hl hM H hx e0 e1 hp0 hhd
        cases hov : M.ov with
        | false =>
          rw [hov, show polB false = 0 from rfl] at HC
          clear hno hov
          go_enter Tryz.func78, Tryz.ntmps78
          go_wp2_with (go_at_call 58; refine (HT.out _ (Turned.refl _ _)).mono ?_; rintro e w1 ⟨rfl, hst1⟩; obtain ⟨c0, c1, c2, c3⟩ := HC.out w1 hst1)
          go_quiet (fail)
          go_wp2_with fail
          go_ret3
          exact ⟨rfl, HG.out _ (hst1.drewN nq)⟩
        | true =>
          rw [hov, show polB true = 1 from rfl] at HC
          have hd0 : p0.d = false := by rcases hno with h | h; exact absurd (hov.symm.trans h) (by simp); exact h
          rw [hd0] at HE
          clear hno hov hd0
          go_enter Tryz.func78, Tryz.ntmps78
          go_wp2_with (go_at_call 58; refine (HT.out _ (Turned.refl _ _)).mono ?_; rintro e w1 ⟨rfl, hst1⟩; obtain ⟨c0, c1, c2, c3⟩ := HC.out w1 hst1; obtain ⟨f0, f1⟩ := HE.out w1 hst1)
          go_quiet (fail)
          go_wp2_with fail
          go_ret3
          exact ⟨rfl, HG.out _ (hst1.drewN nq)⟩
      · have hov : M.ov = true := by cases h : M.ov; exact absurd (.inl h) hno; rfl
        have hd0 : p0.d = true := by rw [← hhd]; cases h : M.hdp.d; exact absurd (.inr h) hno; rfl
        have HR := Lib.hid (show M.claimE x = 0 by unfold RM.claimE; rw [if_neg hx, if_neg ht40, if_neg (fun h => hno h.2)])
        have HMM := Lib.hid (show M.claimM x = { M with h := M.h + 1, l := M.l.drop 1 ++ [⟨x, false⟩] } by unfold RM.claimM; rw [if_neg (by rw [HR.out]; simp), if_pos hf])
        rw [HMM.out, show M.claimA x = tl by unfold RM.claimA; rw [if_neg (by rw [HR.out]; simp), htl], show M.claimW x = p0.r by unfold RM.claimW; rw [if_neg (by rw [HR.out]; simp), if_pos hf, hhd], HR.out]
        rw [hov, show polB true = 1 from rfl] at HC
        rw [hd0] at HE
        obtain ⟨m, hm⟩ : ∃ m, n = m + 1 := ⟨n - 1, by omega⟩
        subst hm
        have hml : m = (M.l.drop 1).length := by rw [List.length_drop]; omega
        have HSH := Lib.hid (fun (V w6 : World) (hV : Still w V) (a6 : Option Addr) (c6 : Nat) (h6 : Still V w6) => (H.still hV).shift h6 (a6 := a6) (c6 := c6) hml)
        have hlcn : m + 1 ≤ lc := by have := (ow_le H.ls).1; omega
        obtain ⟨ad, had, hnews⟩ : ∃ ad : Addr, (if lc = 1 then some (⟨g, 0, none⟩ : Addr) else some ⟨g, 2, none⟩) = some ad ∧ ∀ (V : World), Still w V → ∀ (j : Nat) (u : Value), (rowOf encP (M.l.drop 1))[j]? = some u → V.cell? (ad.add j) = some u := by
          by_cases h1 : lc = 1
          · refine ⟨⟨g, 0, none⟩, by rw [if_pos h1], fun V _ j u hu => ?_⟩
            have : M.l.drop 1 = [] := List.eq_nil_of_length_eq_zero (by omega)
            rw [this] at hu; simp [rowOf] at hu
          · refine ⟨⟨g, 2, none⟩, by rw [if_neg h1], fun V hV j u hu => ?_⟩
            rw [Addr.add_lit]
            refine (owm_cell (H.still hV).ls (j := 2 + j) ?_).1
            have hcons : M.l = p0 :: M.l.drop 1 := by
              cases hl2 : M.l with
              | nil => rw [hl2] at hp0; cases hp0
              | cons c r => rw [hl2] at hp0; cases hp0; rfl
            rw [hcons, rowOf_cons, List.getElem?_append_right (by rw [encP_len]; omega), encP_len, show 2 + j - 2 = j by omega]
            exact hu
        have HN := Lib.hid hnews
        have hM1 : ({ M with h := M.h + 1, l := M.l.drop 1 } : RM).Ok N := ⟨hM.pos, hM.max, by show (M.l.drop 1).length ≤ M.n; rw [List.length_drop]; have := hM.len; omega, by unfold RM.tail at hl ⊢; rw [List.length_drop]; dsimp only; omega⟩
        have ht1 : ({ M with h := M.h + 1, l := M.l.drop 1 } : RM).tail = M.tail := by unfold RM.tail; rw [List.length_drop]; dsimp only; omega
        have HT2 := Lib.hid (fun (V : World) (W5 : Nat → Prop) (a6 : Option Addr) (c6 : Nat) (hR : RIn V W5 q a6 c6 { M with h := M.h + 1, l := M.l.drop 1 }) => (by
          have := zrtail_any hR hM1 hN
          rw [ht1, ← htl] at this
          exact this : Calls Tryz.prog 58 #[.pointer (some ⟨q, 0, none⟩)] V fun e w' => e = .returned (.int .i64 tl) ∧ Still V w'))
        have HP := Lib.hid (fun (w3 w6 : World) (W5 : Nat → Prop) (a5 : Option Addr) (c5 : Nat) (hR : RIn w3 W5 q a5 c5 { M with h := M.h + 1, l := M.l.drop 1 }) (hT3 : Turned W w w3) (hW : ∀ k, W5 k → W k ∨ w.heap.size ≤ k) (a6 : Option Addr) (c6 : Nat) => hR.push (w := w) (W := W) (o := .cells #[.int .i64 x, .bool false] 108) (w6 := w6) (x := x) (a6 := a6) (c6 := c6) hT3 hW hml)
        have hHI : (M.h : Int) < 1000000 := by unfold RM.tail at htl; omega
        have hH0 : (0 : Int) ≤ (M.h : Int) := by omega
        have hmmax : m ≤ 64 := by have := hM.len; have := hM.max; omega
        have hlo0 : ∀ V, Still w V → w.heap.size ≤ V.heap.size := fun V h => h.size
        have HLO := Lib.hid hlo0
        obtain ⟨i0, hi, hz0, hz1, hz2⟩ := info_parts infoPlc
        have H1 := Lib.hid (encP_ones (M.l.drop 1))
        have HLn := Lib.hid (show (rowOf encP (M.l.drop 1)).length = m * 2 by rw [rowOf_length encP_len, ← hml])
        generalize (M.h : Int) = hh at *
        have HML := Lib.hid hml
        clear hf hn htl HMM HR ht40 hl hM H hx e0 e1 hp0 hhd hno hov hd0 hnews hM1 ht1 hlo0 hml
        go_enter Tryz.func78, Tryz.ntmps78
        go_wp2_with (go_at_call 58; refine (HT.out _ (Turned.refl _ _)).mono ?_; rintro e w1 ⟨rfl, hst1⟩; obtain ⟨c0, c1, c2, c3⟩ := HC.out w1 hst1; obtain ⟨f0, f1⟩ := HE.out w1 hst1)
        go_quiet (fail)
        go_upto_region 10 with fail
        have hV := hst1.drewN nq
        obtain ⟨V, hVe⟩ : ∃ V, w1.drewN nq = V := ⟨_, rfl⟩
        rw [hVe] at hV ⊢
        obtain ⟨c0, c1, c2, c3⟩ := HC.out V hV
        have hqV : q < V.heap.size := cell_lt c3
        have HV := Lib.hid hV
        have hloV := HLO.out V hV
        have HOe := Lib.hid (World.ownsRow_made (base := V.heap.size) (e := 108) (size := 2) V #[] 0 (Nat.le_refl _) (by simp) (by simp))
        clear hVe hst1 hV f0 f1 HE HC HT
        have HVl := Lib.hid hloV
        clear hloV
        go_upto_region 12 with (at_builtin; refine wpList_append_own_at _ rfl (.tmp 47) (.tmp 52) 109 rfl V.heap.size 108 i0 _ 2 16 Tryz.underlying109 hi hz0 hz1 hz2 rfl (by decide) (.slice (some ⟨V.heap.size, 0, none⟩) 0 0) 0 [] rfl HOe.out ad m _ (rowOf encP (M.l.drop 1)) rfl HLn.out (HN.out _ (HV.out.alloc _)) H1.out (by unfold maxLen; omega) (by omega) (by simp) ?_; intro v6 w6 hown6 hg6 _ hat6; obtain ⟨a6, c6, rfl⟩ := ow_slice hown6; rw [Nat.zero_add, List.nil_append] at hown6; have HS6 := Lib.hid (show Still V w6 from ((Turned.refl (fun _ => False) V).alloc (.cells #[] 108)).grown hg6 (fun i e => .inr (by cases e; exact Nat.le_refl _))); obtain ⟨⟨W5, R5, hW5, hT5⟩, hq6⟩ := HSH.out V w6 HV.out a6 c6 HS6.out hown6; have HR5 := Lib.hid R5; have HW5 := Lib.hid hW5; have HT5 := Lib.hid hT5; have y2 := hq6.cell (o := 2) rfl; have y3 := hq6.cell (o := 3) rfl; have z2 := hq6.free 2; have z3 := hq6.free 3; clear hown6 hg6 hat6 R5 hW5 hT5 hq6)
        obtain ⟨w5, hw5⟩ : ∃ w5, (w6.setCell ⟨q, 3, none⟩ (.slice a6 m c6)).setCell ⟨q, 2, none⟩ (.int .i64 (hh + 1)) = w5 := ⟨_, rfl⟩
        rw [hw5] at HR5 HT5 ⊢
        clear hw5 y2 y3 z2 z3 c0 c1 c2 c3 had HSH HOe HN H1 HLn
        go_upto_region 13 with (go_at_call 58; refine (HT2.out _ _ _ _ HR5.out).mono ?_; rintro e w7 ⟨rfl, hst7⟩)
        have HR7 := Lib.hid (HR5.out.still hst7)
        have HTW := Lib.hid ((HV.out.mono (T := W) (fun _ _ h => h.elim)).trans (HT5.out.trans (hst7.mono (T := W) (fun _ _ h => h.elim))))
        have HWW := Lib.hid (fun k (hk : W5 k) => show W k ∨ w.heap.size ≤ k from (HW5.out k hk).elim .inl (fun h => .inr (Nat.le_trans HVl.out h)))
        have HO7 := Lib.hid (show w7.ownsRow 0 108 2 (.slice a6 m c6) m (rowOf encP (M.l.drop 1)) by have := HR7.out.ls; rwa [show ({ M with h := M.h + 1, l := M.l.drop 1 } : RM).l.length = m from HML.out.symm] at this)
        have d3 : w7.cell? ⟨q, 3, none⟩ = some (.slice a6 m c6) := by have := HR7.out.cells.2.2.2; rwa [show ({ M with h := M.h + 1, l := M.l.drop 1 } : RM).l.length = m from HML.out.symm] at this
        have hq7 : q < w7.heap.size := cell_lt d3
        clear hst7 HT2 HR5 HT5 HW5 HV HVl
        go_wp2_with (at_builtin; refine wpList_append_own_at _ rfl (.tmp 69) (.tmp 72) 109 rfl 0 108 i0 _ 2 16 Tryz.underlying109 hi hz0 hz1 hz2 rfl (by decide) (.slice a6 m c6) m (rowOf encP (M.l.drop 1)) rfl (ow_still HO7.out ((Turned.refl _ _).alloc _)) ⟨w7.heap.size, 0, none⟩ 1 1 [.int .i64 x, .bool false] rfl rfl (ow_cells w7 _ _) (by intro u hu; simp at hu; rcases hu with rfl | rfl <;> rfl) (by unfold maxLen; omega) (by omega) (Nat.zero_le _) ?_; intro v8 w8 hown8 hg8 _ hat8; obtain ⟨a8, c8, rfl⟩ := ow_slice hown8; obtain ⟨hP8, hq8⟩ := HP.out w7 w8 W5 a6 c6 HR7.out HTW.out HWW.out a8 c8 hown8 hg8 hat8; have HP8 := Lib.hid hP8; have y3 := hq8.cell (o := 3) rfl; have y4 := hq8.free 3; clear hown8 hg8 hat8 hP8 hq8)
        go_ret3
        exact ⟨rfl, HP8.out⟩
    · have HR := Lib.hid (show M.claimE x = 0 by unfold RM.claimE; rw [if_neg hx, if_neg ht40, if_neg (fun h => hf h.1)])
      have HMM := Lib.hid (show M.claimM x = { M with l := M.l ++ [⟨x, false⟩] } by unfold RM.claimM; rw [if_neg (by rw [HR.out]; simp), if_neg hf])
      have HP := Lib.hid (fun (w3 w6 : World) (h3 : Still w w3) (a6 : Option Addr) (c6 : Nat) => (H.still h3).push (w := w) (W := W) (o := .cells #[.int .i64 x, .bool false] 108) (w6 := w6) (x := x) (a6 := a6) (c6 := c6) (h3.mono (fun _ _ h => h.elim)) (fun k hk => .inl hk) hn)
      rw [HMM.out, show M.claimA x = tl by unfold RM.claimA; rw [if_neg (by rw [HR.out]; simp), htl], show M.claimW x = 0 by unfold RM.claimW; rw [if_neg (by rw [HR.out]; simp), if_neg hf], HR.out]
      have HO := Lib.hid (show w.ownsRow 0 108 2 (.slice la n lc) n (rowOf encP M.l) by rw [hn]; exact H.ls)
      have hne : ((n : Int) == (M.n : Int)) = false := by rw [beq_eq_false_iff_ne]; omega
      have hnmax : n ≤ 64 := by have := hM.len; have := hM.max; omega
      obtain ⟨i0, hi, hz0, hz1, hz2⟩ := info_parts infoPlc
      clear hf hn htl HMM HR ht40 hl hM H hx
      go_enter Tryz.func78, Tryz.ntmps78
      go_wp2_with (go_at_call 58; refine (HT.out _ (Turned.refl _ _)).mono ?_; rintro e w1 ⟨rfl, hst1⟩; obtain ⟨c0, c1, c2, c3⟩ := HC.out w1 hst1)
      go_quiet (fail)
      have hst2 := hst1.drewN nq
      go_upto_region 13 with (go_at_call 58; refine (HT.out _ hst2).mono ?_; rintro e w2 ⟨rfl, hst3⟩)
      have hst4 := hst2.trans hst3
      obtain ⟨d0, d1, d2, d3⟩ := HC.out w2 hst4
      have HS4 := Lib.hid hst4
      have HO2 := Lib.hid (ow_still HO.out hst4)
      have hql : q < w2.heap.size := cell_lt d3
      clear hst4 hst3 hst2 hst1 c0 c1 c2 c3 d0 d1 d2 HC HT HO
      go_wp2_with (at_builtin; refine wpList_append_own_at _ rfl (.tmp 69) (.tmp 72) 109 rfl 0 108 i0 _ 2 16 Tryz.underlying109 hi hz0 hz1 hz2 rfl (by decide) (.slice la n lc) n (rowOf encP M.l) rfl (ow_still HO2.out ((Turned.refl _ _).alloc _)) ⟨w2.heap.size, 0, none⟩ 1 1 [.int .i64 x, .bool false] rfl rfl (ow_cells w2 _ _) (by intro u hu; simp at hu; rcases hu with rfl | rfl <;> rfl) (by unfold maxLen; omega) (by omega) (Nat.zero_le _) ?_; intro v6 w6 hown6 hg6 _ hat6; obtain ⟨a6, c6, rfl⟩ := ow_slice hown6; obtain ⟨hP6, hq6⟩ := HP.out w2 w6 HS4.out a6 c6 hown6 hg6 hat6; have HP6 := Lib.hid hP6; have y3 := hq6.cell (o := 3) rfl; have y4 := hq6.free 3; clear hown6 hg6 hat6 hP6 hq6)
      go_ret3
      exact ⟨rfl, HP6.out⟩
end Go.Proofs.YtmmkcfiecgpkpaaGreat

/- What Trim of the document's ring does. No condition but that the ring is one. -/
namespace Go.Proofs.YtmmkcfiecgpkpaaGreat
open Go.RowKit
set_option linter.unusedVariables false
set_option linter.unusedSimpArgs false
set_option maxRecDepth 100000

/-- What Trim hands out, and what it leaves: the ring and the references that went, apart. -/
def TrimSep (RT : Nat → RM → Thing) (w : World) (W : Nat → Prop) (q : Nat) (M : RM) (tt : Int) (e : Ending) (w' : World) : Prop :=
  ∃ a c, e = .returned (.tuple #[.slice a (M.trimL tt).length c, .int .i64 (M.trimE tt)]) ∧ Goes ((RT q (M.trimM tt)).sep (ownT 3 1 a (M.trimL tt).length c (ints (M.trimL tt)))) W w w'

theorem trim_same {w w' : World} {W : Nat → Prop} {q lc : Nat} {la : Option Addr} {M : RM} (H : RIn w W q la lc M) (hst : Still w w') {tt er : Int} (he : M.trimE tt = er) (h0 : er ≠ 0) : TrimSep zrT w W q M tt (.returned (.tuple #[.slice none 0 0, .int .i64 er])) w' := by
  have hl : M.trimL tt = [] := by unfold RM.trimL; rw [if_pos (by rw [he]; exact h0)]
  have hm : M.trimM tt = M := by unfold RM.trimM; rw [if_pos (by rw [he]; exact h0)]
  unfold TrimSep
  rw [hl, hm, he]
  refine ⟨none, 0, rfl, ⟨W, ⟨W, fun _ => False, ⟨la, lc, H.still hst⟩, ⟨⟨rfl, .inl ⟨rfl, rfl⟩⟩, fun k => ⟨fun h => h.elim, fun h => by cases h⟩⟩, fun _ _ h => h, fun k => by simp⟩, hst.mono (fun _ _ h => h.elim), fun k hk => .inl hk⟩⟩

theorem all_take_step {l : List Plc} {k : Nat} {p : Plc} (h : l[k]? = some p) (ha : (l.take k).all (·.d) = true) (hd : p.d = true) : (l.take (k + 1)).all (·.d) = true := by
  rw [List.take_add_one, h]
  simp [List.all_append, ha, hd]
theorem all_take_no {l : List Plc} {k c : Nat} {p : Plc} (h : l[k]? = some p) (hk : k < c) (hd : p.d = false) : ¬ (l.take c).all (·.d) = true := by
  intro ha
  rw [List.all_eq_true] at ha
  have hm : p ∈ l.take c := List.mem_of_getElem? (i := k) (by rw [List.getElem?_take, if_pos hk]; exact h)
  have := ha p hm
  rw [hd] at this
  cases this

/-- So many of the eldest places go. -/
theorem RIn.cutN {w w6 : World} {W : Nat → Prop} {q lc : Nat} {la : Option Addr} {M : RM} (H : RIn w W q la lc M) (h6 : Still w w6) {c m c6 : Nat} {a6 : Option Addr} (hm : m = (M.l.drop c).length)
    (hown : w6.ownsRow w.heap.size 108 2 (.slice a6 m c6) m (rowOf encP (M.l.drop c))) :
    (RIn ((w6.setCell ⟨q, 3, none⟩ (.slice a6 m c6)).setCell ⟨q, 2, none⟩ (.int .i64 ((M.h : Int) + (c : Int)))) (fun k => W k ∨ (Value.slice a6 m c6).ownBlock = some k) q a6 c6 { M with h := M.h + c, l := M.l.drop c } ∧ (∀ k, (Value.slice a6 m c6).ownBlock = some k → w.heap.size ≤ k)) ∧
      Blk w6 q [.int .i64 M.n, .int .i64 (polB M.ov), .int .i64 M.h, .slice la M.l.length lc] 111 := by
  have H6 := H.still h6
  have hlq := H.lt q H.own.1
  have htq : Turned (· = q) w6 (w6.setCell ⟨q, 3, none⟩ (.slice a6 m c6)) := turned_set (Turned.refl _ _) _ _
  have hx : ∀ x, a6 = some x → w.heap.size ≤ x.block := by rintro x rfl; exact (ow_lt hown x rfl).1
  have R : RIn (w6.setCell ⟨q, 3, none⟩ (.slice a6 m c6)) (fun k => W k ∨ (Value.slice a6 m c6).ownBlock = some k) q a6 c6 { M with l := M.l.drop c } := by
    refine ⟨fun k hk => ?_, ⟨.inl H.own.1, fun x hx' => ⟨.inr (by rw [hx']; rfl), by have := hx x hx'; omega⟩⟩, by rw [← hm]; exact H6.hd.set 3 _, ?_⟩
    · have hsz : (w6.setCell ⟨q, 3, none⟩ (.slice a6 m c6)).heap.size = w6.heap.size := by simp [World.setCell]
      rw [hsz]
      rcases hk with hk | hk
      · exact H6.lt k hk
      · cases a6 with
        | none => cases hk
        | some x => have := (ow_lt hown x rfl).2; simp only [Value.ownBlock, Option.some.injEq] at hk; omega
    · rw [← hm]
      exact ow_base (ow_turned hown htq (fun b hb e => by
        cases a6 with
        | none => cases hb
        | some x => have := hx x rfl
                    have e' : x.block = b := by simpa [Value.ownBlock] using hb
                    omega)) (Nat.zero_le _)
  have R2 := R.setH (M.h + c)
  rw [show ((M.h + c : Nat) : Int) = (M.h : Int) + (c : Int) by omega] at R2
  refine ⟨⟨R2, fun k hk => ?_⟩, H6.hd⟩
  cases a6 with
  | none => cases hk
  | some x => have := hx x rfl
              have e' : x.block = k := by simpa [Value.ownBlock] using hk
              omega

theorem trim_done {w V w6 : World} {W : Nat → Prop} {q lc : Nat} {la : Option Addr} {M : RM} (H : RIn w W q la lc M) (hV : Still w V) {ao : Option Addr} {c cc : Nat} (hcn : c ≤ M.l.length) (hout : V.ownsRow w.heap.size 3 1 (.slice ao c cc) c (ints ((M.l.take c).map (·.r)))) (h6 : Still V w6) {m c6 : Nat} {a6 : Option Addr} (hm : m = (M.l.drop c).length)
    (hown : w6.ownsRow V.heap.size 108 2 (.slice a6 m c6) m (rowOf encP (M.l.drop c))) {tt : Int} (he : M.trimE tt = 0 ∧ M.trimL tt = (M.l.take c).map (·.r) ∧ M.trimM tt = { M with h := M.h + c, l := M.l.drop c }) :
    TrimSep zrT w W q M tt (.returned (.tuple #[.slice ao c cc, .int .i64 0])) ((w6.setCell ⟨q, 3, none⟩ (.slice a6 m c6)).setCell ⟨q, 2, none⟩ (.int .i64 ((M.h : Int) + (c : Int)))) ∧ Blk w6 q [.int .i64 M.n, .int .i64 (polB M.ov), .int .i64 M.h, .slice la M.l.length lc] 111 := by
  obtain ⟨⟨R, hlo⟩, hb⟩ := (H.still hV).cutN h6 hm hown
  obtain ⟨e1, e2, e3⟩ := he
  have hlen : ((M.l.take c).map (·.r)).length = c := by rw [List.length_map, List.length_take]; omega
  have hq := H.lt q H.own.1
  have hob : ∀ k, (Value.slice ao c cc).ownBlock = some k → w.heap.size ≤ k ∧ k < V.heap.size := by
    intro k hk
    cases ao with
    | none => cases hk
    | some x => have := ow_lt hout x rfl
                have e' : x.block = k := by simpa [Value.ownBlock] using hk
                omega
  have ht : Turned (· = q) w6 ((w6.setCell ⟨q, 3, none⟩ (.slice a6 m c6)).setCell ⟨q, 2, none⟩ (.int .i64 ((M.h : Int) + (c : Int)))) := turned_set (turned_set (Turned.refl _ _) _ _) _ _
  refine ⟨?_, hb⟩
  unfold TrimSep
  rw [e1, e2, e3, hlen]
  refine ⟨ao, cc, rfl, ⟨fun k => (W k ∨ (Value.slice a6 m c6).ownBlock = some k) ∨ (Value.slice ao c cc).ownBlock = some k, ⟨_, _, ⟨a6, c6, R⟩, ⟨ow_base (ow_turned (ow_still hout h6) ht (fun b hb e => by have := hob b hb; omega)) (Nat.zero_le _), fun k => Iff.rfl⟩, fun k hk hk2 => ?_, fun k => Iff.rfl⟩, ?_, fun k hk => ?_⟩⟩
  · have h2 := hob k hk2
    rcases hk with hk | hk
    · have := H.lt k hk; omega
    · have := hlo k hk; omega
  · exact ((hV.trans h6).mono (fun _ _ h => h.elim)).trans (ht.mono (fun i _ e => by subst e; exact H.own.1))
  · rcases hk with (hk | hk) | hk
    · exact .inl hk
    · exact .inr (Nat.le_trans hV.size (hlo k hk))
    · exact .inr (hob k hk).1

set_option maxHeartbeats 4000000 in
theorem zrtrim_sep {w : World} {W : Nat → Prop} {q : Nat} {M : RM} {N : Nat} (H0 : (zrT q M).at_ w W) (hM : M.Ok N) (hN : N < 1000000) (tt : Int) :
    Calls Tryz.prog 75 #[.pointer (some ⟨q, 0, none⟩), .int .i64 tt] w (TrimSep zrT w W q M tt) := by
  obtain ⟨la, lc, H⟩ := H0
  have hl := hM.low
  by_cases hx : tt < 0
  · have HP := Lib.hid (fun w' (hst : Still w w') => trim_same H hst (tt := tt) (er := 2) (by unfold RM.trimE; rw [if_pos (.inl hx)]) (by omega))
    clear H hM hl
    go_enter Tryz.func75, Tryz.ntmps75
    go_wp2_with fail
    go_ret2
    exact HP.out _ (Turned.refl _ _)
  · obtain ⟨n, hn⟩ : ∃ n, n = M.l.length := ⟨_, rfl⟩
    have HT := Lib.hid (fun V (hV : Still w V) => zrtail_any (H.still hV) hM hN)
    obtain ⟨tl, htl⟩ : ∃ tl : Int, tl = ((M.tail : Nat) : Int) := ⟨_, rfl⟩
    rw [← htl] at HT
    have hto0 : 0 ≤ tt := by omega
    by_cases hb : tl < tt
    · have HP := Lib.hid (fun w' (hst : Still w w') => trim_same H hst (tt := tt) (er := 2) (by unfold RM.trimE; rw [if_pos (.inr (by omega))]) (by omega))
      clear H hM hl hn htl hx
      go_enter Tryz.func75, Tryz.ntmps75
      go_wp2_with (go_at_call 58; refine (HT.out _ (Turned.refl _ _)).mono ?_; rintro e w1 ⟨rfl, hst1⟩)
      go_ret2
      exact HP.out _ hst1
    · have hble : tt ≤ tl := by omega
      obtain ⟨i0, hi, hz0, hz1, hz2⟩ := info_parts infoIntW
      obtain ⟨c, hc⟩ : ∃ c, c = M.cut tt := ⟨_, rfl⟩
      have hcn : c ≤ n := by rw [hc, hn]; unfold RM.cut; unfold RM.tail at htl; omega
      have hct : tt ≤ (M.h : Int) + (c : Int) ∧ (0 < c → tt = (M.h : Int) + (c : Int)) := by rw [hc]; unfold RM.cut; omega
      have hnmax : n ≤ 64 := by have := hM.len; have := hM.max; omega
      have hHI : (M.h : Int) < 1000000 ∧ (0 : Int) ≤ (M.h : Int) := by unfold RM.tail at hl; omega
      obtain ⟨hHI, hH0⟩ := hHI
      have HC := Lib.hid (fun V (hV : Still w V) => (hn ▸ ⟨(H.still hV).cells.2.2.1, (H.still hV).cells.2.2.2⟩ : V.cell? ⟨q, 2, none⟩ = some (.int .i64 M.h) ∧ V.cell? ⟨q, 3, none⟩ = some (.slice la n lc)))
      have HPl := Lib.hid (fun V (hV : Still w V) (k : Nat) (hk : k < n) => show ∃ (g : Nat) (p : Plc), M.l[k]? = some p ∧ la = some ⟨g, 0, none⟩ ∧ V.cell? ⟨g, k * 2, none⟩ = some (.int .i64 p.r) ∧ V.cell? ⟨g, k * 2 + 1, none⟩ = some (.bool p.d) by
        obtain ⟨p, hp⟩ := get_some (l := M.l) (i := k) (by omega)
        obtain ⟨g, h1, h2, h3, _⟩ := (H.still hV).place hp
        exact ⟨g, p, hp, h1, h2, h3⟩)
      have HNo := Lib.hid (fun w' (hst : Still w w') (k : Nat) (p : Plc) (hk : k < c) (hp : M.l[k]? = some p) (hd : p.d = false) => trim_same H hst (tt := tt) (er := 8) (by
        unfold RM.trimE
        rw [if_neg (by omega), ← hc, if_neg (all_take_no hp hk hd)]) (by omega))
      have HEN := Lib.hid (show (M.l.take c).all (·.d) = true → M.trimE tt = 0 ∧ M.trimL tt = (M.l.take c).map (·.r) ∧ M.trimM tt = { M with h := M.h + c, l := M.l.drop c } from fun ha => by
        have h0 : M.trimE tt = 0 := by unfold RM.trimE; rw [if_neg (by omega), ← hc, if_pos ha]
        refine ⟨h0, ?_, ?_⟩
        · unfold RM.trimL; rw [if_neg (by rw [h0]; simp), ← hc]
        · unfold RM.trimM; rw [if_neg (by rw [h0]; simp), ← hc])
      have HH := Lib.hid H
      have HW := Lib.hid (fun V : World => World.ownsRow_made (e := 3) (size := 1) V #[] 0 (Nat.le_refl _) (by simp) (by simp))
      obtain ⟨hh, hhe⟩ : ∃ hh : Int, hh = (M.h : Int) := ⟨_, rfl⟩
      rw [← hhe] at hct HC hHI hH0
      have HHE := Lib.hid hhe
      have HN := Lib.hid hn
      have hnb : ¬ tt < 0 := by omega
      clear hx hb H hM hl htl hc hn hhe
      go_enter Tryz.func75, Tryz.ntmps75
      go_wp2_with (go_at_call 58; refine (HT.out _ (Turned.refl _ _)).mono ?_; rintro e w1 ⟨rfl, hst1⟩)
      have HS1 := Lib.hid hst1
      have HO0 := Lib.hid (ow_base (HW.out w1) hst1.size)
      clear HW hst1 HT
      go_loopw [6, 7] (fun o i wr => ∃ (k : Nat) (ao : Option Addr) (cc : Nat), k ≤ c ∧ i = .int .i64 k ∧ o = .slice ao k cc ∧ wr.ownsRow w.heap.size 3 1 (.slice ao k cc) k (ints ((M.l.take k).map (·.r))) ∧ (M.l.take k).all (·.d) = true ∧ Still w wr) (fun _ i _ => c - (intOf i).toNat)
      case atStart => exact ⟨0, _, 0, Nat.zero_le _, rfl, rfl, HO0.out, rfl, HS1.out.alloc _⟩
      case round =>
        clear HO0 HS1
        obtain ⟨k, ao, cc, hk, rfl, rfl, hown, hall, hst⟩ := hrel
        obtain ⟨r2, r3⟩ := HC.out wr hst
        have HO := Lib.hid hown
        have HS := Lib.hid hst
        have HA := Lib.hid hall
        have hlo := hst.size
        by_cases hlt : k < c
        · obtain ⟨g, p, hp, rfl, d0, d1⟩ := HPl.out wr hst k (by omega)
          have hcond : hh + (k : Int) < tt := by omega
          have hkn : k < n := by omega
          have HPP := Lib.hid hp
          clear hown hst hall hp HPl HEN HH HC
          cases hd : p.d with
          | false =>
            rw [hd] at d1
            have HE := Lib.hid (HNo.out wr HS.out k p hlt HPP.out hd)
            clear hd HNo hct
            go_wp2_with fail
            go_ret2
            exact HE.out
          | true =>
            rw [hd] at d1
            have HD := Lib.hid hd
            clear hd HNo hct
            go_wp2_with (at_builtin; refine wpList_append_own_at _ rfl _ _ 23 rfl w.heap.size 3 i0 (.int .i64 0) 1 8 Tryz.underlying23 hi hz0 hz1 hz2 rfl (by decide) (.slice ao k cc) k (ints ((M.l.take k).map (·.r))) rfl (ow_still HO.out ((Turned.refl _ _).alloc _)) ⟨wr.heap.size, 0, none⟩ 1 1 [.int .i64 p.r] rfl rfl (ow_cells wr _ _) (ow_ints rfl) (by unfold maxLen; omega) (by omega) (by simp; omega) ?_; intro v6 w6 hown6 hg6 _ hat6; obtain ⟨a6, c6, rfl⟩ := ow_slice hown6; have HS6 := Lib.hid (ow_appended (v6 := .bool true) (ys := []) HS.out HO.out hg6); have HO6 := Lib.hid hown6; clear hown6 hg6 hat6)
            go_roundw
            case rel => exact ⟨k + 1, a6, c6, by omega, by go_num, rfl, by have := RM.refs_get HPP.out; unfold RM.refs at this; rw [List.map_take, this]; simpa [ints, List.map_take] using HO6.out, all_take_step HPP.out HA.out HD.out, HS6.out⟩
            case measure => simp [intOf]; omega
        · obtain rfl : k = c := by omega
          have hcond : ¬ hh + (k : Int) < tt := by omega
          have HEE := Lib.hid (HEN.out hall)
          clear hown hst hall HPl HEN HNo hlt hct
          have hcn2 : k ≤ n := hcn
          obtain ⟨m, hm⟩ : ∃ m, n - k = m := ⟨_, rfl⟩
          have hml : m = (M.l.drop k).length := by rw [List.length_drop, ← HN.out]; omega
          have hnlc : n ≤ lc ∧ (la = none → n = 0 ∧ lc = 0) := by have := ow_le HH.out.ls; rw [← HN.out] at this; exact ⟨this.1, this.2.2⟩
          obtain ⟨hnlc, hnone⟩ := hnlc
          have HDn := Lib.hid (fun (w6 : World) (a6 : Option Addr) (c6 : Nat) (h6 : Still wr w6) => trim_done HH.out HS.out (ao := ao) (cc := cc) (by rw [← HN.out]; exact hcn2) HO.out h6 (m := m) (a6 := a6) (c6 := c6) hml)
          rw [← HHE.out] at HDn
          have HEw := Lib.hid (World.ownsRow_made (base := wr.heap.size) (e := 108) (size := 2) wr #[] 0 (Nat.le_refl _) (by simp) (by simp))
          have hqr : q < wr.heap.size := cell_lt r3
          obtain ⟨j0, ji, jz0, jz1, jz2⟩ := info_parts infoPlc
          have H1 := Lib.hid (encP_ones (M.l.drop k))
          have HLn := Lib.hid (show (rowOf encP (M.l.drop k)).length = m * 2 by rw [rowOf_length encP_len, ← hml])
          have hk0 : (k : Int) ≤ (n : Int) := by omega
          cases la with
          | none =>
            obtain ⟨rfl, rfl⟩ := hnone rfl
            obtain rfl : k = 0 := by omega
            obtain rfl : m = 0 := by omega
            have hd0 : M.l.drop 0 = [] := List.eq_nil_of_length_eq_zero hml.symm
            have HF := Lib.hid (HDn.out (wr.alloc (.cells #[] 108)) (some ⟨wr.heap.size, 0, none⟩) 0 ((Turned.refl _ _).alloc _) (by rw [hd0]; exact HEw.out) HEE.out)
            have HFC := Lib.hid (show Blk (wr.alloc (.cells #[] 108)) q [.int .i64 M.n, .int .i64 (polB M.ov), .int .i64 hh, .slice none M.l.length 0] 111 from HF.out.2)
            obtain ⟨y2, y3, z2, z3⟩ : (wr.alloc (.cells #[] 108)).cell? ⟨q, 2, none⟩ = some (.int .i64 hh) ∧ (wr.alloc (.cells #[] 108)).cell? ⟨q, 3, none⟩ = some (.slice none 0 0) ∧ (wr.alloc (.cells #[] 108)).frozen? ⟨q, 2, none⟩ = false ∧ (wr.alloc (.cells #[] 108)).frozen? ⟨q, 3, none⟩ = false :=
              ⟨HFC.out.cell rfl, by have := HFC.out.cell (o := 3) rfl; rwa [← HN.out] at this, HFC.out.free 2, HFC.out.free 3⟩
            have hff := HF.out.1
            rw [World.setCell_alloc_past (hn := hqr), World.setCell_alloc_past (hn := by simpa [World.setCell] using hqr)] at hff
            rw [show hh + ((0 : Nat) : Int) = hh by omega] at hff
            have HFF := Lib.hid hff
            have q2 := (HH.out.still HS.out).hd.free 2
            have q3 := (HH.out.still HS.out).hd.free 3
            clear hml HC HA hcn hcn2 HN hd0 HF HFC HDn hff y2 y3 z2 z3
            go_wp2_with (at_builtin; refine wpList_append_own_none rfl (.tmp 48) (.tmp 55) 109 rfl wr.heap.size 108 j0 2 Tryz.underlying109 ji _ 0 [] rfl HEw.out rfl ?_)
            go_ret2
            exact HFF.out
          | some a =>
            obtain ⟨g, rfl⟩ := owm_addr' HH.out.ls
            obtain ⟨ad, had, hnews⟩ : ∃ ad : Addr, (if lc = k then some (⟨g, 0, none⟩ : Addr) else some ⟨g, k * 2, none⟩) = some ad ∧ ∀ (V : World), Still w V → ∀ (j : Nat) (u : Value), (rowOf encP (M.l.drop k))[j]? = some u → V.cell? (ad.add j) = some u := by
              by_cases h1 : lc = k
              · refine ⟨⟨g, 0, none⟩, by rw [if_pos h1], fun V _ j u hu => ?_⟩
                have : M.l.drop k = [] := List.eq_nil_of_length_eq_zero (by omega)
                rw [this] at hu; simp [rowOf] at hu
              · refine ⟨⟨g, k * 2, none⟩, by rw [if_neg h1], fun V hV j u hu => ?_⟩
                rw [Addr.add_lit]
                refine (owm_cell (HH.out.still hV).ls (j := k * 2 + j) ?_).1
                have hsp : M.l = M.l.take k ++ M.l.drop k := (List.take_append_drop _ _).symm
                have hlt : (rowOf encP (M.l.take k)).length = k * 2 := by rw [rowOf_length encP_len, List.length_take, ← HN.out, Nat.min_eq_left hcn2]
                rw [hsp, rowOf_append, List.getElem?_append_right (by omega), hlt, show k * 2 + j - k * 2 = j by omega]
                exact hu
            have HN2 := Lib.hid (hnews wr HS.out)
            have HNW := Lib.hid (fun j u hu => hnews (wr.alloc (.cells #[] 108)) (HS.out.alloc _) j u hu)
            clear hnews hml HC HA hnone hcn hcn2 HN
            go_upto_region 11 with (at_builtin; refine wpList_append_own_at _ rfl (.tmp 48) (.tmp 55) 109 rfl wr.heap.size 108 j0 _ 2 16 Tryz.underlying109 ji jz0 jz1 jz2 rfl (by decide) (.slice (some ⟨wr.heap.size, 0, none⟩) 0 0) 0 [] rfl HEw.out ad m _ (rowOf encP (M.l.drop k)) rfl HLn.out HNW.out H1.out (by unfold maxLen; omega) (by omega) (by simp) ?_; intro v6 w6 hown6 hg6 _ hat6; obtain ⟨a6, c6, rfl⟩ := ow_slice hown6; rw [Nat.zero_add, List.nil_append] at hown6; have HS6 := Lib.hid (show Still wr w6 from ((Turned.refl (fun _ => False) wr).alloc (.cells #[] 108)).grown hg6 (fun i e => .inr (by cases e; exact Nat.le_refl _))); obtain ⟨hP6, hq6⟩ := HDn.out w6 a6 c6 HS6.out hown6 HEE.out; have HP6 := Lib.hid hP6; have y2 := hq6.cell (o := 2) rfl; have y3 := hq6.cell (o := 3) rfl; have z2 := hq6.free 2; have z3 := hq6.free 3; clear hown6 hg6 hat6 hP6 hq6)
            go_wp2_with fail
            go_ret2
            exact HP6.out

/-- What Trim hands out, and what it leaves: the ring, and the references that went, which can be read as long as the ring stays. -/
def TrimPost (RT : Nat → RM → Thing) (w : World) (W : Nat → Prop) (q : Nat) (M : RM) (tt : Int) (e : Ending) (w' : World) : Prop :=
  ∃ a c, e = .returned (.tuple #[.slice a (M.trimL tt).length c, .int .i64 (M.trimE tt)]) ∧ Goes (numsT (RT q (M.trimM tt)) a (M.trimL tt)) W w w'

theorem zrtrim_any {w : World} {W : Nat → Prop} {q : Nat} {M : RM} {N : Nat} (H0 : (zrT q M).at_ w W) (hM : M.Ok N) (hN : N < 1000000) (tt : Int) :
    Calls Tryz.prog 75 #[.pointer (some ⟨q, 0, none⟩), .int .i64 tt] w (TrimPost zrT w W q M tt) :=
  (zrtrim_sep H0 hM hN tt).mono fun e w' ⟨a, c, he, hg⟩ => ⟨a, c, he, goes_nums hg⟩
end Go.Proofs.YtmmkcfiecgpkpaaGreat
