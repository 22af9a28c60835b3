/- The iterator of package share goes through the owners that are the first to tell of their places. No condition. -/
import Derived.RangeFuncNested
import Derived.RangeFuncBound
import Derived.RangeFuncCalls
import Derived.RangeFuncLeaves
import Derived.RangeFuncBox
import Derived.Shelf.Abstract
import Derived.OwnWalkIn
import Derived.TacticsInMore
import Derived.LoopNIn
import Derived.LoopIn
import Derived.Test.YtlnbgfglpdkifaaShFirst
import Derived.Test.YtlnbgfglpdkifaaPlMap
import Derived.Test.YtlnbgfglpdkifaaReadT
import Derived.Test.YtlnbgfglpdkifaaIterX
import Derived.Test.YtlnbgfglpdkifaaRegRound
import Derived.Deep.RegionHeld3
namespace Go.Proofs.Ytlnbgfglpdkifaa
open Go.RowKit Go.Shelf
attribute [local go_sem] Oper.semAt_some
set_option linter.unusedVariables false
set_option linter.unusedSimpArgs false
set_option maxRecDepth 100000

/-- Owners that can be read. -/
def readO (ao : Option Addr) (l : List Own) : Thing where
  at_ w W := OwAt w ao l ∧ ∀ k, W k ↔ l ≠ [] ∧ ∃ x, ao = some x ∧ x.block = k
  lt := by
    rintro w W ⟨h, hW⟩ k hk
    obtain ⟨hl, x, hx, rfl⟩ := (hW k).1 hk
    cases l with
    | nil => exact absurd rfl hl
    | cons y l =>
      obtain ⟨b, o, e, hc⟩ := h 0 y rfl
      rw [hx] at e
      obtain rfl := Option.some.inj e
      exact cell_lt (hc 0 _ rfl)
  keep := by
    rintro w w' W S ⟨h, hW⟩ ht hs
    refine ⟨fun i x hx => ?_, hW⟩
    obtain ⟨b, o, rfl, hc⟩ := h i x hx
    refine ⟨b, o, rfl, fun j v hv => ?_⟩
    have hl : l ≠ [] := fun e => by rw [e] at hx; cases hx
    rw [ht.cell (p := ⟨b, o + (i * 3 + j), none⟩) (cell_lt (hc j v hv)) (hs b ((hW b).2 ⟨hl, _, rfl, rfl⟩))]
    exact hc j v hv

/-- A map as a thing. -/
def mapT {κ : Type} [DecidableEq κ] (kv : κ → Value) (b : Nat) (f : κ → Option Int) : Thing where
  at_ w W := MapF kv w b f ∧ ∀ k, W k ↔ k = b
  lt := by
    rintro w W ⟨h, hW⟩ k hk
    obtain rfl := (hW k).1 hk
    exact h.lt
  keep := by
    rintro w w' W S ⟨h, hW⟩ ht hs
    exact ⟨h.keep ht (hs b ((hW b).2 rfl)), hW⟩

theorem shcount_any (ao : Option Addr) (n c : Nat) (w : World) : Calls Try.prog 25 #[.slice ao n c] w fun e w' => e = .returned (.func (.func 31) #[] #[.pointer (some ⟨w.heap.size, 0, none⟩)]) ∧
    w' = w.alloc (.cells #[.slice ao n c] 24) := by
  go_enter Try.func25, Try.ntmps25
  go_wp2
  go_ret
  exact ⟨rfl, rfl⟩

abbrev encO16 (x : Own) : Array Value := #[.agg #[.int .i64 x.1.1, .int .i64 x.1.2, .int .i64 x.2]]
/-- What the iterator reads: the owners, and the box that holds where they lie. -/
abbrev evO (B : Nat) (ao : Option Addr) (n c : Nat) (l : List Own) : Thing := (blkT B [.slice ao n c] 24).with_ (readO ao l)
theorem evO_new {ao : Option Addr} {n c : Nat} {l : List Own} {w : World} (h : OwAt w ao l) : (evO w.heap.size ao n c l).at_ (w.alloc (.cells #[.slice ao n c] 24)) (fun k => k = w.heap.size ∨ (l ≠ [] ∧ ∃ x, ao = some x ∧ x.block = k)) :=
  with_at (W1 := (· = w.heap.size)) ⟨Blk.new w [.slice ao n c] 24, fun _ => Iff.rfl⟩ ((readO ao l).keep (W := fun k => l ≠ [] ∧ ∃ x, ao = some x ∧ x.block = k) ⟨h, fun _ => Iff.rfl⟩ ((Turned.refl _ _).alloc _) (fun _ _ h => h))
theorem own_lt {w : World} {ao : Option Addr} {l : List Own} (h : OwAt w ao l) {k : Nat} (hk : l ≠ [] ∧ ∃ x, ao = some x ∧ x.block = k) : k < w.heap.size :=
  (readO ao l).lt (W := fun k => l ≠ [] ∧ ∃ x, ao = some x ∧ x.block = k) ⟨h, fun _ => Iff.rfl⟩ k hk

set_option maxHeartbeats 4000000 in
theorem shcount_it (ao : Option Addr) (n c : Nat) (os : List Own) (hn : n = os.length) (hn1 : n ≤ 1000) (B : Nat) :
    IterS 31 #[.pointer (some ⟨B, 0, none⟩)] encO16 (frs os) (evO B ao n c os) := by
  intro y J Jx W Q S hR h0 hd hY
  have HX := Lib.hid (fun V (h : ∃ Q', Since Q W Q' V) => show V.cell? ⟨B, 0, none⟩ = some (.slice ao n c) ∧ OwAt V ao os from by
    obtain ⟨Q', hs⟩ := h
    obtain ⟨U1, U2, ⟨u1, _⟩, ⟨u2, _⟩, _⟩ := (hs.stays (A := evO B ao n c os) hR hd).1
    exact ⟨u1.cell rfl, u2⟩)
  have HY := Lib.hid (fun k z W1 Q1 (hz : (frs os)[k]? = some z) (h1 : (J k).at_ W1 Q1) (h2 : Since Q W Q1 W1) => YieldAt.any 8 (hY k z W1 Q1 hz h1 h2))
  have HN := Lib.hid hn
  have HLt := Lib.hid ((J 0).lt h0)
  have hmk := MapF.made (kv := plV) W
  obtain ⟨mb, hmb⟩ : ∃ mb, mb = W.heap.size := ⟨_, rfl⟩
  have HM0 := Lib.hid (show MapF plV (W.alloc (.map #[] 0)) mb (tmsP (((os.take 0)).map (·.1))) from by rw [hmb]; exact hmk.congr (fun _ => rfl))
  have H0 := Lib.hid (show (J (frs (os.take 0)).length).at_ (W.alloc (.map #[] 0)) Q ∧ Since Q W Q (W.alloc (.map #[] 0)) ∧ ¬ Q mb from
    ⟨(J 0).keep h0 ((Turned.refl _ W).alloc _) (fun _ _ h => h), ⟨((Turned.refl _ W).alloc _), fun _ h => .inl h⟩, fun h => by have := HLt.out _ h; omega⟩)
  have HAll := Lib.hid (show os.take n = os from by rw [hn, List.take_length])
  have HMB := Lib.hid (show W.heap.size ≤ mb from by omega)
  have hmm : (Instr.makeMap 56 none).run Try.prog W = .ok (.map (some mb)) (W.alloc (.map #[] 0)) := by rw [hmb]; exact run_makeMap 56 W
  obtain ⟨e1, _⟩ := HX.out _ ⟨Q, H0.out.2.1⟩
  have hro : Fence.wide.round = none := rfl
  clear hR h0 hd hY hn hmk
  refine (callsIn_wide (n := 9)).1 (callsIn_of_wp Try.func31 rfl trivial ?_ rfl)
  simp only [Try.ntmps31, List.size_toArray, List.length_cons, List.length_nil, Nat.reduceAdd, Nat.reduceSub, Array.replicate_succ, Array.replicate_zero, List.push_toArray, List.append_toArray, List.nil_append, List.cons_append]
  clear hmb
  gi_wp2
  clear hmm
  gi_loopw [9] (fun i wr => ∃ (k : Nat) (Q' : Nat → Prop), k ≤ n ∧ i = .int .i64 k ∧ (J (frs (os.take k)).length).at_ wr Q' ∧ Since Q W Q' wr ∧ ¬ Q' mb ∧ MapF plV wr mb (tmsP ((os.take k).map (·.1)))) (fun i _ => n - (intOf i).toNat)
  case atStart => exact ⟨0, Q, Nat.zero_le _, rfl, H0.out.1, H0.out.2.1, H0.out.2.2, HM0.out⟩
  case round =>
    clear e1
    obtain ⟨k, Q', hk, rfl, hJk, hsi, hqm, hmp⟩ := hrel
    by_cases hlt : k < n
    · obtain ⟨⟨⟨p1, p2⟩, x⟩, hx⟩ := get_some (l := os) (i := k) (by rw [← HN.out]; exact hlt)
      obtain ⟨b, o, rfl, hc⟩ := (HX.out wr ⟨Q', hsi⟩).2 k _ hx
      have c0 : wr.cell? ⟨b, o + k * 3, none⟩ = some (.int .i64 p1) := hc 0 _ rfl
      have c1 : wr.cell? ⟨b, o + k * 3 + 1, none⟩ = some (.int .i64 p2) := by rw [Nat.add_assoc]; exact hc 1 _ rfl
      have c2 : wr.cell? ⟨b, o + k * 3 + 2, none⟩ = some (.int .i64 x) := by rw [Nat.add_assoc]; exact hc 2 _ rfl
      have hki : (k : Int) < (n : Int) := by omega
      obtain ⟨m, hm⟩ : ∃ m, m = timP ((os.take k).map (·.1)) (p1, p2) := ⟨_, rfl⟩
      have hm1 : m ≤ 1000 := by
        rw [hm]
        refine Nat.le_trans (timP_le _ _) ?_
        rw [List.length_map, List.length_take]; omega
      have hz0 : mb < wr.heap.size := hmp.lt
      obtain ⟨U, hU⟩ : ∃ U, U = (wr.alloc (.cells #[.int .i64 p1, .int .i64 p2, .int .i64 x] 34)).drew := ⟨_, rfl⟩
      have hsU : Still wr U := by rw [hU]; exact ((Turned.refl _ _).alloc _).drew
      have hb0 : Blk U wr.heap.size [.int .i64 p1, .int .i64 p2, .int .i64 x] 34 := by rw [hU]; exact (Blk.new wr _ _).turned (S := fun _ => False) ((Turned.refl _ _).drew) (fun h => h)
      have hmU := hmp.keep hsU (fun h => h)
      have hwr : IntKind.i64.wrap (((m : Nat) : Int) + 1) = ((m : Nat) : Int) + 1 := by simp [IntKind.wrap, IntKind.signed, IntKind.bits]; omega
      obtain ⟨U1, U2, st, hE, hm2, ht2, hS, hm3, ht3⟩ := MapF.entry keysPl hmU (p1, p2) (((m : Nat) : Int) + 1)
      rw [tmsP_get, ← hm] at hE hm2
      have hL0 := MapF.look keysPl hmU (p1, p2) false
      have hL1 := MapF.look keysPl hm2 (p1, p2) false
      have hL2 := MapF.look keysPl hm3 (p1, p2) false
      rw [tmsP_get, ← hm] at hL0
      simp only [if_true, Option.getD_some, plV] at hE hL0 hL1 hL2
      rw [if_neg Bool.false_ne_true] at hL0 hL1 hL2
      have hb1 := hb0.turned ht2 (by omega)
      have hb2 := hb1.turned ht3 (by omega)
      have c10 := hb1.cell (o := 0) rfl
      have c11 := hb1.cell (o := 1) rfl
      have c20 := hb2.cell (o := 0) rfl
      have c21 := hb2.cell (o := 1) rfl
      have c22 := hb2.cell (o := 2) rfl
      have HM3 := Lib.hid (show MapF plV U2 mb (tmsP ((os.take (k + 1)).map (·.1))) from by
        have e : (os.take (k + 1)).map (·.1) = (os.take k).map (·.1) ++ [(p1, p2)] := by rw [List.take_add_one, hx]; simp
        rw [e]
        exact hm3.congr (fun c => by rw [← tmsP_snoc, ← hm]))
      have HT := Lib.hid (show Turned (· = mb) wr U2 from (hsU.mono (fun _ _ h => h.elim)).trans (ht2.trans ht3))
      have HJ2 := Lib.hid (show (J (frs (os.take k)).length).at_ U2 Q' ∧ Since Q W Q' U2 from by
        have hT := HT.out
        refine ⟨(J _).keep hJk hT (fun j hj e => hqm (e ▸ hj)), ⟨hsi.turn.past hT (fun i e => .inr (by rw [e]; exact HMB.out)), hsi.grow⟩⟩)
      have HSt := Lib.hid (frs_step hx)
      have HG := Lib.hid (fun h => frs_get hx h)
      rw [← hm] at HSt HG
      have HQ := Lib.hid hqm
      have HU2 := Lib.hid (show mb < U2.heap.size from hm3.lt)
      rw [hU] at hE hL0
      clear hx hc hm hJk hsi hqm hmp hmU hm2 hm3 ht2 ht3 hb0 hb1 hb2 hsU hU
      gi_wp2
      refine wpIn_wide.2 ?_
      go_region
      clear hE hS hL0 hL1 c10 c11
      by_cases h0 : m = 0
      · subst h0
        have hg := HG.out rfl
        have hst := HSt.out
        rw [if_pos rfl] at hst
        have HNk := Lib.hid (show (frs (os.take (k + 1))).length = (frs (os.take k)).length + 1 from by rw [hst, List.length_append]; rfl)
        have HLt2 := Lib.hid (show (frs (os.take k)).length < (frs os).length from (List.getElem?_eq_some_iff.1 hg).1)
        obtain ⟨fn6, tm6, as6, bd6, hyy, hRo⟩ := HY.out _ _ U2 Q' hg HJ2.out.1 HJ2.out.2
        have HRo := Lib.hid hRo
        dsimp only [encO16] at hyy
        clear hRo hg hst HSt HG
        gi_wp2
        refine (RoundIn.any _ HRo.out).mono ?_
        rintro e W3 (⟨rfl, Q3, hJ3, hT3, hG3⟩ | ⟨rfl, hg3⟩)
        · have HM4 := Lib.hid (HM3.out.keep hT3 HQ.out)
          gi_wp2
          go_roundw
          case rel => exact ⟨k + 1, Q3, by omega, by go_num, by rw [HNk.out]; exact hJ3, HJ2.out.2.trans ⟨hT3, hG3⟩, fun h => by
            rcases hG3 _ h with h1 | h1
            · exact HQ.out h1
            · have := HU2.out; omega, HM4.out⟩
          case measure => simp [intOf]; omega
        · have HEnd := Lib.hid (show ∃ k, k < (frs os).length ∧ Goes (Jx k) Q W W3 from by
            refine ⟨_, HLt2.out, ?_⟩
            obtain ⟨Q3, h1, h2⟩ := hg3.since
            exact (HJ2.out.2.trans h2).goes h1)
          clear hg3
          gi_wp2
          refine bodyPost_ret (results_none rfl _ _ _) rfl ?_
          exact ⟨⟨_, rfl⟩, .inr HEnd.out⟩
      · have hm1' : ((((m : Nat) : Int) + 1) == 1) = false := by rw [beq_eq_false_iff_ne]; omega
        have hst := HSt.out
        rw [if_neg h0, List.append_nil] at hst
        have HNk := Lib.hid hst
        clear hst HSt HG
        gi_wp2
        refine ⟨fun f h => (by cases h), ?_⟩
        gi_wp2
        go_roundw
        case rel => exact ⟨k + 1, Q', by omega, by go_num, by rw [HNk.out]; exact HJ2.out.1, HJ2.out.2, HQ.out, HM3.out⟩
        case measure => simp [intOf]; omega
    · obtain rfl : k = n := by omega
      have HEnd := Lib.hid (show Goes (J (frs os).length) Q W wr from by
        have := hsi.goes hJk
        rwa [HAll.out] at this)
      clear hJk hsi hqm hmp
      gi_wp2
      go_end0
      exact ⟨⟨_, rfl⟩, .inl HEnd.out⟩
end Go.Proofs.Ytlnbgfglpdkifaa
