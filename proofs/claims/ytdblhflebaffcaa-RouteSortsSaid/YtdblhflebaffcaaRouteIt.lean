/- The iterator of package route goes through the keys' places, each with its part. No condition but that the keys and their parts may be. -/
import Derived.RangeFuncNested
import Derived.RangeFuncBound
import Derived.RangeFuncCalls
import Derived.RangeFuncLeaves
import Derived.RangeFuncBox
import Derived.Maps.AppendAt
import Derived.Shelf.Abstract
import Derived.OwnWalkIn
import Derived.TacticsInMore
import Derived.LoopNIn
import Derived.LoopIn
import Derived.Test.YtdblhflebaffcaaRouteChk
import Derived.Test.YtdblhflebaffcaaIter
namespace Go.Proofs.Ytdblhflebaffcaa
open Go.RowKit Go.Shelf
attribute [local go_sem] Oper.semAt_some
set_option linter.unusedVariables false
set_option linter.unusedSimpArgs false
set_option maxRecDepth 100000

/-- All that was there in a world, as long as none of it turns. -/
def lowT (w0 : World) : Thing where
  at_ w W := Still w0 w ∧ ∀ k, W k ↔ k < w0.heap.size
  lt := by rintro w W ⟨h, hW⟩ k hk; exact Nat.lt_of_lt_of_le ((hW k).1 hk) h.size
  keep := by
    rintro w w' W S ⟨h, hW⟩ ht hs
    exact ⟨⟨ht.os.trans h.os, ht.tape.trans h.tape, ht.output.trans h.output, Nat.le_trans h.size ht.size, fun k hk _ => (ht.block k (Nat.lt_of_lt_of_le hk h.size) (hs k ((hW k).2 hk))).trans (h.block k hk (fun h => h))⟩, hW⟩

/-- The keys' places, each with its part. -/
def rtL (p : Nat) (K : List (List UInt8)) : List (Nat × Nat) := K.mapIdx fun i k => (i, pt p k)
theorem rtL_length (p : Nat) (K : List (List UInt8)) : (rtL p K).length = K.length := by simp [rtL]
theorem rtL_get {p : Nat} {K : List (List UInt8)} {i : Nat} {k : List UInt8} (h : K[i]? = some k) : (rtL p K)[i]? = some (i, pt p k) := by simp [rtL, h]
abbrev encP (x : Nat × Nat) : Array Value := #[.int .i64 (x.1 : Int), .int .i64 (x.2 : Int)]

theorem routed_any (p : Int) (a : Option Addr) (n c : Nat) (w : World) : Calls Try.prog 21 #[.int .i64 p, .slice a n c] w fun e w' => e = .returned (.func (.func 29) #[] #[.pointer (some ⟨w.heap.size + 1, 0, none⟩), .pointer (some ⟨w.heap.size, 0, none⟩)]) ∧
    w' = (w.alloc (.cells #[.int .i64 p] 3)).alloc (.cells #[.slice a n c] 22) := by
  go_enter Try.func21, Try.ntmps21
  go_wp2
  go_ret
  exact ⟨rfl, rfl⟩

/-- What the iterator reads: the keys, and the boxes that hold them and the number of parts. -/
def rtR (w0 : World) (Bk Bp : Nat) (a : Option Addr) (n c p : Nat) : Thing := (lowT w0).sep ((blkT Bk [.slice a n c] 22).sep (blkT Bp [.int .i64 (p : Int)] 3))

set_option maxHeartbeats 2000000 in
theorem routed_it {ks : List (Sl UInt8)} {w0 : World} {a : Option Addr} {n c p : Nat} (hK : KysAt w0 a ks) (hn : n = ks.length) (hmax : n ≤ 300) (hp1 : 1 ≤ p) (hp8 : p ≤ 8) (hs : ∀ k ∈ ks, k.xs.length ≤ 100) (Bk Bp : Nat) :
    IterT 29 #[.pointer (some ⟨Bk, 0, none⟩), .pointer (some ⟨Bp, 0, none⟩)] encP (rtL p (kxs ks)) (rtR w0 Bk Bp a n c p) := by
  intro l J W Q S hR h0 hd hY
  obtain ⟨S1, S2, ⟨hw, hS1⟩, ⟨S3, S4, ⟨hbk, hS3⟩, ⟨hbp, hS4⟩, _, hS34⟩, _, hS⟩ := hR
  have HW := Lib.hid (fun V (h : ∃ Q', Since Q W Q' V) => show Still w0 V ∧ V.cell? ⟨Bk, 0, none⟩ = some (.slice a n c) ∧ V.cell? ⟨Bp, 0, none⟩ = some (.int .i64 (p : Int)) from by
    obtain ⟨Q', hs⟩ := h
    have h1 := (hs.stays (A := lowT w0) ⟨hw, hS1⟩ (fun k hk h1 => hd k hk ((hS k).2 (.inl h1)))).1
    have h2 := (hs.stays (A := blkT Bk [.slice a n c] 22) ⟨hbk, hS3⟩ (fun k hk h1 => hd k hk ((hS k).2 (.inr ((hS34 k).2 (.inl h1)))))).1
    have h3 := (hs.stays (A := blkT Bp [.int .i64 (p : Int)] 3) ⟨hbp, hS4⟩ (fun k hk h1 => hd k hk ((hS k).2 (.inr ((hS34 k).2 (.inr h1)))))).1
    exact ⟨h1.1, h2.1.cell rfl, h3.1.cell rfl⟩)
  have HYd := Lib.hid (fun k x W1 Q1 (hx : (rtL p (kxs ks))[k]? = some x) (h1 : (J k).at_ W1 Q1) (h2 : Since Q W Q1 W1) => YieldAt.any 8 (hY k x W1 Q1 hx h1 h2))
  have HK := Lib.hid hK
  have HN := Lib.hid hn
  have HS := Lib.hid hs
  have HL := Lib.hid (show (rtL p (kxs ks)).length = n from by rw [rtL_length, List.length_map, hn])
  obtain ⟨_, e1, _⟩ := HW.out W ⟨Q, Since.refl _ _⟩
  refine (callsIn_wide (n := 9)).1 (callsIn_of_wp Try.func29 rfl trivial ?_ rfl)
  simp only [Try.ntmps29, List.size_toArray, List.length_cons, List.length_nil, Nat.reduceAdd, Nat.reduceSub, Array.replicate_succ, Array.replicate_zero, List.push_toArray, List.append_toArray, List.nil_append, List.cons_append]
  clear hw hS1 hbk hS3 hbp hS4 hS34 hS hd hY hK hn hs
  have hf1 : Fence.wide.fn 25 := trivial
  gi_wp2
  gi_loopw [10] (fun i wr => ∃ (k : Nat) (Q' : Nat → Prop), k ≤ n ∧ i = .int .i64 k ∧ (J k).at_ wr Q' ∧ Since Q W Q' wr) (fun i _ => n - (intOf i).toNat)
  case atStart => exact ⟨0, Q, Nat.zero_le _, rfl, h0, Since.refl _ _⟩
  case round =>
    clear h0 e1
    obtain ⟨k, Q', hk, rfl, hJk, hsi⟩ := hrel
    by_cases hlt : k < n
    · obtain ⟨y, hy⟩ := get_some (l := ks) (i := k) (by rw [← HN.out]; exact hlt)
      obtain ⟨hst, e1, e2⟩ := HW.out wr ⟨Q', hsi⟩
      obtain ⟨b, o, e3, hc, hyb, hyw, hyl⟩ := (HK.out.still hst).get hy
      have hyx := HS.out y (List.mem_of_getElem? hy)
      have hget := rtL_get (p := p) (K := kxs ks) (i := k) (k := y.xs) (by rw [List.getElem?_map, hy]; rfl)
      obtain ⟨fn, tmps, assign, body, hyy, hRo⟩ := HYd.out k _ wr Q' hget hJk hsi
      have HRo := Lib.hid hRo
      have HSi := Lib.hid hsi
      obtain ⟨ya, yl, yc, yx⟩ := y
      dsimp only at hc hyb hyw hyl hyx
      have HP := Lib.hid (part_any (p : Int) wr ya yx yc (by omega) hyb (by omega))
      rw [← hyl] at HP
      have HV := Lib.hid (show partV (p : Int) yx = .tuple #[.int .i64 ((pt p yx : Nat) : Int), .int .i64 0] by
        unfold partV partOf partErr pt
        rw [if_neg (by omega), if_neg (by omega), Int.toNat_natCast])
      rw [HV.out] at HP
      dsimp only [encP] at hyy
      subst e3
      clear hy hst hyb hyw hyl hyx hget hRo hsi hJk HV
      generalize pt p yx = q at *
      gi_wp2_with (gi_at_call 25; ((with_reducible refine (callsIn_wide.2 HP.out).mono ?_)); rintro e w6 ⟨rfl, hw6⟩; rw [← hw6]; clear hw6)
      refine (RoundIn.any _ HRo.out).mono ?_
      rintro e W3 ⟨rfl, Q3, hJ3, hT3, hG3⟩
      gi_wp2
      go_roundw
      case rel => exact ⟨k + 1, Q3, by omega, by go_num, hJ3, HSi.out.trans ⟨hT3, hG3⟩⟩
      case measure => simp [intOf]; omega
    · obtain rfl : k = n := by omega
      have HEnd := Lib.hid (show Goes (J (rtL p (kxs ks)).length) Q W wr from by rw [HL.out]; exact hsi.goes hJk)
      clear hJk hsi
      gi_wp2
      go_end0
      exact ⟨⟨_, rfl⟩, HEnd.out⟩
end Go.Proofs.Ytdblhflebaffcaa
