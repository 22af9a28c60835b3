import Derived.Test.YtpmkokckjieidaaGreatDoorTrie
import Derived.Test.YtpmkokckjieidaaGreatDoorFilterCov
import Derived.Test.YtpmkokckjieidaaGreatDoorRowM
import Derived.Test.YtpmkokckjieidaaGreatDoorThing
import Derived.Test.YtpmkokckjieidaaGreatDoorStepApp
import Derived.Deep.RegionLaw
import Derived.BigRegion
import Derived.Test.YtpmkokckjieidaaGreatDoorTextMore

/- The document's tree, as it lies in memory; find and number. No condition but that the tree is one. -/
namespace Go.Proofs.YtpmkokckjieidaaGreatDoor
open Go.RowKit
set_option linter.unusedVariables false
set_option linter.unusedSimpArgs false
set_option maxRecDepth 100000

def encPr (p : Pr) : List Value := [tx p.1, .int .i64 (p.2 : Int)]
theorem encPr_len (p : Pr) : (encPr p).length = 2 := rfl
theorem encPr_ones (l : List Pr) : ∀ u ∈ rowOf encPr l, u.oneCell' = true := by
  intro u hu
  unfold rowOf at hu
  obtain ⟨p, _, hp⟩ := List.mem_flatMap.1 hu
  simp [encPr] at hp
  rcases hp with rfl | rfl <;> rfl

structure TIn (w : World) (W : Nat → Prop) (q : Nat) (la : Option Addr) (lc : Nat) (L : List Pr) : Prop where
  lt : ∀ k, W k → k < w.heap.size
  own : W q ∧ ∀ a, la = some a → W a.block ∧ a.block ≠ q
  hd : Blk w q [.slice la L.length lc] 42
  ls : w.ownsRow 0 66 2 (.slice la L.length lc) L.length (rowOf encPr L)

theorem TIn.turned {w w' : World} {W S : Nat → Prop} {q lc : Nat} {la : Option Addr} {L : List Pr} (h : TIn w W q la lc L) (ht : Turned S w w') (hs : ∀ k, W k → ¬ S k) : TIn w' W q la lc L :=
  ⟨fun k hk => Nat.lt_of_lt_of_le (h.lt k hk) ht.size, h.own, h.hd.turned ht (hs _ h.own.1), ow_turned h.ls ht (fun b hb => by
    cases la with
    | none => cases hb
    | some a => have := (h.own.2 a rfl).1
                have e : a.block = b := by simpa [Value.ownBlock] using hb
                rw [← e]; exact hs _ this)⟩
theorem TIn.still {w w' : World} {W : Nat → Prop} {q lc : Nat} {la : Option Addr} {L : List Pr} (h : TIn w W q la lc L) (ht : Still w w') : TIn w' W q la lc L := h.turned ht (fun _ _ h => h)

/-- The document's tree as a thing. -/
def zgT (q : Nat) (L : List Pr) : Thing where
  at_ w W := ∃ la lc, TIn w W q la lc L
  lt := by rintro w W ⟨la, lc, h⟩ k hk; exact h.lt k hk
  keep := by rintro w w' W S ⟨la, lc, h⟩ ht hs; exact ⟨la, lc, h.turned ht hs⟩
theorem zgT_goes {q : Nat} {L : List Pr} {W W' : Nat → Prop} {w w' : World} {la : Option Addr} {lc : Nat} (h : TIn w' W' q la lc L) (ht : Turned W w w') (hW : ∀ k, W' k → W k ∨ w.heap.size ≤ k) : Goes (zgT q L) W w w' := ⟨W', ⟨la, lc, h⟩, ht, hW⟩
theorem zgT_still {q : Nat} {L : List Pr} {W : Nat → Prop} {w w' : World} {la : Option Addr} {lc : Nat} (h : TIn w W q la lc L) (ht : Still w w') : Goes (zgT q L) W w w' := Goes.still (Q := zgT q L) ⟨la, lc, h⟩ ht
theorem TIn.cell {w : World} {W : Nat → Prop} {q lc : Nat} {la : Option Addr} {L : List Pr} (h : TIn w W q la lc L) : w.cell? ⟨q, 0, none⟩ = some (.slice la L.length lc) := h.hd.cell rfl
theorem TIn.place {w : World} {W : Nat → Prop} {q lc : Nat} {la : Option Addr} {L : List Pr} (h : TIn w W q la lc L) {k : Nat} {p : Pr} (hk : L[k]? = some p) :
    ∃ g, la = some ⟨g, 0, none⟩ ∧ w.cell? ⟨g, k * 2, none⟩ = some (tx p.1) ∧ w.cell? ⟨g, k * 2 + 1, none⟩ = some (.int .i64 (p.2 : Int)) := by
  have hl := (List.getElem?_eq_some_iff.1 hk).1
  obtain ⟨g, rfl⟩ := owm_addr h.ls (by omega)
  have e0 := rowOf_get encPr_len hk (j := 0) (v := tx p.1) rfl
  have e1 := rowOf_get encPr_len hk (j := 1) (v := .int .i64 (p.2 : Int)) rfl
  rw [Nat.add_zero] at e0
  exact ⟨g, rfl, (owm_cell h.ls e0).1, (owm_cell h.ls e1).1⟩

theorem ztnumber_any (n : Int) (w : World) : Calls Tryz.prog 40 #[.int .i64 n] w fun e w' => e = .returned (.bool (decide (0 ≤ n ∧ n < 256))) ∧ w' = w := by
  by_cases h1 : 0 ≤ n
  · by_cases h2 : n < 256
    · rw [decide_eq_true ⟨h1, h2⟩]
      go_enter Tryz.func40, Tryz.ntmps40
      go_wp2_with fail
      go_ret
      exact ⟨rfl, rfl⟩
    · rw [decide_eq_false (fun h => h2 h.2)]
      go_enter Tryz.func40, Tryz.ntmps40
      go_wp2_with fail
      go_ret
      exact ⟨by first | rfl | (simp; done) | (simp; omega), rfl⟩
  · rw [decide_eq_false (fun h => h1 h.1)]
    go_enter Tryz.func40, Tryz.ntmps40
    go_wp2_with fail
    go_ret
    exact ⟨by first | rfl | (simp; done) | (simp; omega), rfl⟩

/-- Where a pair is. -/
def FdAt (L : List Pr) (f : Txt) (n r : Int) : Prop := (r = -1 ∧ hasP L f n = false) ∨ ∃ k : Nat, r = k ∧ L[k]? = some (f, n.toNat) ∧ hasP L f n = true ∧ 0 ≤ n ∧ ∀ j, j < k → L[j]? ≠ some (f, n.toNat)

set_option maxHeartbeats 1000000 in
theorem ztfind_any {w : World} {W : Nat → Prop} {q : Nat} {L : List Pr} (H0 : (zgT q L).at_ w W) (hlen : L.length ≤ 256) (f : Txt) (n : Int) :
    Calls Tryz.prog 41 #[.pointer (some ⟨q, 0, none⟩), tx f, .int .i64 n] w fun e w' => (∃ r, e = .returned (.int .i64 r) ∧ FdAt L f n r) ∧ w' = w := by
  obtain ⟨la, lc, H⟩ := H0
  obtain ⟨m, hm⟩ : ∃ m, m = L.length := ⟨_, rfl⟩
  have c0 : w.cell? ⟨q, 0, none⟩ = some (.slice la m lc) := hm ▸ H.cell
  have hmm : m ≤ 256 := by omega
  have HP := Lib.hid (fun k (hk : k < m) => show ∃ g p, L[k]? = some p ∧ la = some ⟨g, 0, none⟩ ∧ w.cell? ⟨g, k * 2, none⟩ = some (tx p.1) ∧ w.cell? ⟨g, k * 2 + 1, none⟩ = some (.int .i64 (p.2 : Int)) from by
    obtain ⟨p, hp⟩ := get_some (l := L) (i := k) (by omega)
    obtain ⟨g, h1, h2, h3⟩ := H.place hp
    exact ⟨g, p, hp, h1, h2, h3⟩)
  have HM := Lib.hid hm
  unfold tx
  clear H hm hlen
  go_enter Tryz.func41, Tryz.ntmps41
  go_wp2_with fail
  go_loopw [7] (fun i wr => ∃ k : Nat, k ≤ m ∧ i = .int .i64 k ∧ (∀ j p, j < k → L[j]? = some p → ¬ (p.1 = f ∧ (p.2 : Int) = n)) ∧ wr = w) (fun i _ => m - (intOf i).toNat)
  case atStart => exact ⟨0, Nat.zero_le _, rfl, fun j p h => absurd h (Nat.not_lt_zero _), rfl⟩
  case round =>
    obtain ⟨k, hk, rfl, hno, rfl⟩ := hrel
    have HNo := Lib.hid hno
    clear hno
    by_cases hlt : k < m
    · obtain ⟨g, ⟨p1, p2⟩, hp, rfl, d0, d1⟩ := HP.out k hlt
      have HPp := Lib.hid hp
      unfold tx at d0
      dsimp only at d0 d1
      have HN2 := Lib.hid (fun (h : ¬ (p1 = f ∧ (p2 : Int) = n)) => show ∀ j p, j < k + 1 → L[j]? = some p → ¬ (p.1 = f ∧ (p.2 : Int) = n) from by
        intro j p hj hjp
        rcases Nat.lt_succ_iff_lt_or_eq.1 hj with h' | h'
        · exact HNo.out j p h' hjp
        · subst h'; rw [HPp.out] at hjp; cases hjp; exact h)
      clear hp HP
      by_cases h1 : p1 = f
      · subst h1
        by_cases h2 : (p2 : Int) = n
        · have HE := Lib.hid (show FdAt L p1 n (k : Int) from .inr ⟨k, rfl, by rw [HPp.out, ← h2, Int.toNat_natCast], decide_eq_true ⟨by omega, by rw [← h2, Int.toNat_natCast]; exact List.mem_of_getElem? HPp.out⟩, by omega, fun j hj e => HNo.out j _ hj e ⟨rfl, by show ((n.toNat : Nat) : Int) = n; omega⟩⟩)
          subst h2
          go_wp2_with fail
          go_ret
          exact ⟨⟨_, rfl, HE.out⟩, rfl⟩
        · have HN3 := Lib.hid (HN2.out (fun h => h2 h.2))
          have hb : ((p2 : Int) == n) = false := by simpa using h2
          go_wp2_with fail
          go_roundw
          case rel => exact ⟨k + 1, by omega, by go_num, HN3.out, by trivial⟩
          case measure => simp [intOf]; omega
      · have HN3 := Lib.hid (HN2.out (fun h => h1 h.1))
        have hb : (p1 == f) = false := by simpa using h1
        clear h1
        go_wp2_with fail
        go_roundw
        case rel => exact ⟨k + 1, by omega, by go_num, HN3.out, by trivial⟩
        case measure => simp [intOf]; omega
    · obtain rfl : k = m := by omega
      have HE := Lib.hid (show FdAt L f n (-1) from .inl ⟨rfl, decide_eq_false (fun ⟨h1, h2⟩ => by
        obtain ⟨i, hi⟩ := List.getElem?_of_mem h2
        exact HNo.out i _ (by rw [HM.out]; exact get_lt hi) hi ⟨rfl, by show ((n.toNat : Nat) : Int) = n; omega⟩)⟩)
      clear HP
      go_wp2_with fail
      go_ret
      exact ⟨⟨_, rfl, HE.out⟩, rfl⟩
end Go.Proofs.YtpmkokckjieidaaGreatDoor

/- What Make and Put of the document's tree do. No condition but that the tree is one. -/
namespace Go.Proofs.YtpmkokckjieidaaGreatDoor
open Go.RowKit
set_option linter.unusedVariables false
set_option linter.unusedSimpArgs false
set_option maxRecDepth 100000

theorem infoPr : (Tryz.prog.info? 66).map (fun i => (i.zero, i.size, i.bytes)) = some (some (.agg #[.string ⟨#[]⟩, .int .i64 0]), 2, 24) := by kernel_rfl

/-- The pairs are another row. -/
theorem TIn.row {w w6 : World} {W : Nat → Prop} {q lc : Nat} {la : Option Addr} {L : List Pr} (H : TIn w W q la lc L) (hT : Turned (fun k => (Value.slice la L.length lc).ownBlock = some k) w w6) {L' : List Pr} {m c6 : Nat} {a6 : Option Addr} (hm : m = L'.length)
    (hown : w6.ownsRow 0 66 2 (.slice a6 m c6) m (rowOf encPr L')) (hat : ∀ x, a6 = some x → (∃ a, la = some a ∧ a.block = x.block) ∨ w.heap.size ≤ x.block) :
    Goes (zgT q L') W w (w6.setCell ⟨q, 0, none⟩ (.slice a6 m c6)) ∧ Blk w6 q [.slice la L.length lc] 42 := by
  subst hm
  have hlq := H.lt q H.own.1
  have hnq : ¬ (Value.slice la L.length lc).ownBlock = some q := by
    cases la with
    | none => intro h; cases h
    | some a => intro h; exact (H.own.2 a rfl).2 (by simpa [Value.ownBlock] using h)
  have hx : ∀ x, a6 = some x → (W x.block ∨ w.heap.size ≤ x.block) ∧ x.block ≠ q := by
    intro x e
    rcases hat x e with ⟨a, rfl, h⟩ | h
    · rw [← h]; exact ⟨.inl (H.own.2 a rfl).1, (H.own.2 a rfl).2⟩
    · exact ⟨.inr h, by omega⟩
  have hq6 := H.hd.turned hT hnq
  have htq : Turned (· = q) w6 (w6.setCell ⟨q, 0, none⟩ (.slice a6 L'.length c6)) := turned_set (Turned.refl _ _) _ _
  have hsz : (w6.setCell ⟨q, 0, none⟩ (.slice a6 L'.length c6)).heap.size = w6.heap.size := by simp [World.setCell]
  have R : TIn (w6.setCell ⟨q, 0, none⟩ (.slice a6 L'.length c6)) (fun k => W k ∨ (Value.slice a6 L'.length c6).ownBlock = some k) q a6 c6 L' := by
    refine ⟨fun k hk => ?_, ⟨.inl H.own.1, fun x hx' => ⟨.inr (by rw [hx']; rfl), (hx x hx').2⟩⟩, hq6.set 0 _, ow_turned hown htq (fun b hb e => ?_)⟩
    · rw [hsz]
      rcases hk with hk | hk
      · exact Nat.lt_of_lt_of_le (H.lt k hk) hT.size
      · cases a6 with
        | none => cases hk
        | some x => have := (ow_lt hown x rfl).2; simp only [Value.ownBlock, Option.some.injEq] at hk; omega
    · cases a6 with
      | none => cases hb
      | some x => exact (hx x rfl).2 (by simpa [Value.ownBlock, e] using hb)
  have hown3 : ∀ k, (Value.slice la L.length lc).ownBlock = some k → W k := by
    intro k hk
    cases la with
    | none => cases hk
    | some a => have e : a.block = k := by simpa [Value.ownBlock] using hk
                rw [← e]; exact (H.own.2 a rfl).1
  refine ⟨zgT_goes R ((hT.mono (fun k _ h => hown3 k h)).setCell (p := ⟨q, 0, none⟩) (.inl H.own.1) _) (fun k hk => ?_), hq6⟩
  rcases hk with hk | hk
  · exact .inl hk
  · cases a6 with
    | none => cases hk
    | some x =>
      have e : x.block = k := by simpa [Value.ownBlock] using hk
      rw [← e]; exact (hx x rfl).1

/-- A new tree. -/
def TNew (TT : Nat → List Pr → Thing) (w : World) (e : Ending) (w' : World) : Prop :=
  ∃ q, e = .returned (.pointer (some ⟨q, 0, none⟩)) ∧ ∃ W, (TT q []).at_ w' W ∧ Still w w' ∧ ∀ k, W k → w.heap.size ≤ k
theorem ztmake_any (w : World) : Calls Tryz.prog 10 #[] w (TNew zgT w) := by
  have HI := Lib.hid (show ∃ W, (zgT w.heap.size []).at_ (w.alloc (.cells #[.slice none 0 0] 42)) W ∧ Still w (w.alloc (.cells #[.slice none 0 0] 42)) ∧ ∀ k, W k → w.heap.size ≤ k from
    ⟨fun k => k = w.heap.size, ⟨none, 0, fun k hk => by rw [hk]; simp, ⟨rfl, fun a ha => by cases ha⟩, Blk.new w [.slice none 0 0] 42, ⟨rfl, .inl ⟨rfl, rfl⟩⟩⟩, (Turned.refl _ _).alloc _, fun k hk => by omega⟩)
  go_enter Tryz.func10, Tryz.ntmps10
  go_wp2_with fail
  go_ret
  exact ⟨_, rfl, HI.out⟩

set_option maxHeartbeats 2000000 in
theorem ztput_any {w : World} {W : Nat → Prop} {q : Nat} {L : List Pr} (H0 : (zgT q L).at_ w W) (hL : TOk L) (f : Txt) (n : Int) (hf : f.length ≤ 300) :
    Calls Tryz.prog 14 #[.pointer (some ⟨q, 0, none⟩), tx f, .int .i64 n] w fun e w' => e = .returned (.int .i64 (ptE L f n)) ∧ Goes (zgT q (putL L f n)) W w w' := by
  have HC := Lib.hid (fun V => zfcheck_any f V (by omega))
  have HN := Lib.hid (fun V => show Calls Tryz.prog 40 #[.int .i64 n] V fun e w' => e = .returned (.bool (decide (0 ≤ n ∧ n < 256))) ∧ V = w' from (ztnumber_any n V).mono fun e w' ⟨h1, h2⟩ => ⟨h1, h2.symm⟩)
  have HF := Lib.hid (fun V (h : Still w V) => show Calls Tryz.prog 41 #[.pointer (some ⟨q, 0, none⟩), tx f, .int .i64 n] V fun e w' => (∃ r, e = .returned (.int .i64 r) ∧ FdAt L f n r) ∧ V = w' from (ztfind_any ((zgT q L).keep H0 h (fun _ _ h => h)) hL.len f n).mono fun e w' ⟨h1, h2⟩ => ⟨h1, h2.symm⟩)
  obtain ⟨la, lc, H⟩ := H0
  obtain ⟨m, hm⟩ : ∃ m, m = L.length := ⟨_, rfl⟩
  have HCl := Lib.hid (fun V (h : Still w V) => show V.cell? ⟨q, 0, none⟩ = some (.slice la m lc) from hm ▸ (H.still h).cell)
  have HSt := Lib.hid (fun V (h : Still w V) => zgT_still H h)
  have hlen := hL.len
  have hm256 : m ≤ 256 := by omega
  unfold tx at HC HF ⊢
  rcases ptE_cases L f n with ⟨e0, e1⟩ | ⟨e0, e1, e2⟩ | ⟨e0, e1, e2, e3, e4⟩ | ⟨e0, e1, e2, e3, e4, e5⟩ | ⟨e0, e1, e2, e3, e4, e5⟩
  · rw [show putL L f n = L from if_neg (by omega), e0]
    rw [e1] at HC
    clear e0 e1 HCl HF HN hm hlen H hL
    go_enter Tryz.func14, Tryz.ntmps14
    go_wp2_with (go_at_call 39; ((with_reducible refine (HC.out _).mono ?_)); rintro e w1 ⟨rfl, h1⟩)
    go_ret
    exact ⟨rfl, HSt.out _ h1⟩
  · rw [show putL L f n = L from if_neg (by omega), e0]
    rw [e1] at HC
    rw [decide_eq_false (by omega)] at HN
    clear e0 e1 e2 HCl HF hm hlen H hL
    go_enter Tryz.func14, Tryz.ntmps14
    go_wp2_with (first
      | (go_at_call 39; ((with_reducible refine (HC.out _).mono ?_)); rintro e w1 ⟨rfl, h1⟩)
      | (go_at_call 40; ((with_reducible refine (HN.out _).mono ?_)); rintro e w2 ⟨rfl, rfl⟩))
    go_ret
    exact ⟨rfl, HSt.out _ h1⟩
  · rw [show putL L f n = L from if_neg (by omega), e0]
    rw [e1] at HC
    rw [decide_eq_true ⟨e2, e3⟩] at HN
    have HFd := Lib.hid (fun r (h : FdAt L f n r) => show 0 ≤ r from by
      rcases h with ⟨_, h⟩ | ⟨k, rfl, _⟩
      · rw [e4] at h; cases h
      · omega)
    clear e0 e1 e2 e3 e4 HCl hm hlen H hL
    go_enter Tryz.func14, Tryz.ntmps14
    go_wp2_with (first
      | (go_at_call 39; ((with_reducible refine (HC.out _).mono ?_)); rintro e w1 ⟨rfl, h1⟩)
      | (go_at_call 40; ((with_reducible refine (HN.out _).mono ?_)); rintro e w2 ⟨rfl, rfl⟩)
      | (go_at_call 41; ((with_reducible refine (HF.out _ h1).mono ?_)); rintro e w3 ⟨⟨r, rfl, hr⟩, rfl⟩; have hr0 := HFd.out r hr; clear hr))
    go_ret
    exact ⟨rfl, HSt.out _ h1⟩
  · rw [show putL L f n = L from if_neg (by omega), e0]
    rw [e1] at HC
    rw [decide_eq_true ⟨e2, e3⟩] at HN
    have HFd := Lib.hid (fun r (h : FdAt L f n r) => show r = -1 from by
      rcases h with ⟨h, _⟩ | ⟨k, _, _, h, _⟩
      · exact h
      · rw [e4] at h; cases h)
    have hmi : (256 : Int) ≤ (m : Int) := by omega
    clear e0 e1 e2 e3 e4 e5 hm hlen H hL
    go_enter Tryz.func14, Tryz.ntmps14
    go_wp2_with (first
      | (go_at_call 39; ((with_reducible refine (HC.out _).mono ?_)); rintro e w1 ⟨rfl, h1⟩)
      | (go_at_call 40; ((with_reducible refine (HN.out _).mono ?_)); rintro e w2 ⟨rfl, rfl⟩)
      | (go_at_call 41; ((with_reducible refine (HF.out _ h1).mono ?_)); rintro e w3 ⟨⟨r, rfl, hr⟩, rfl⟩; obtain rfl := HFd.out r hr; clear hr; have c1 := HCl.out _ h1))
    go_ret
    exact ⟨rfl, HSt.out _ h1⟩
  · rw [show putL L f n = L ++ [(f, n.toNat)] from if_pos e0, e0]
    rw [e1] at HC
    rw [decide_eq_true ⟨e2, e3⟩] at HN
    have HFd := Lib.hid (fun r (h : FdAt L f n r) => show r = -1 from by
      rcases h with ⟨h, _⟩ | ⟨k, _, _, h, _⟩
      · exact h
      · rw [e4] at h; cases h)
    have hmi : ¬ (256 : Int) ≤ (m : Int) := by omega
    have hn' : ((n.toNat : Nat) : Int) = n := by omega
    obtain ⟨i0, hi, hz0, hz1, hz2⟩ := info_parts infoPr
    have HO := Lib.hid (show w.ownsRow 0 66 2 (.slice la m lc) m (rowOf encPr L) by rw [hm]; exact H.ls)
    have HP := Lib.hid (fun (w3 w6 : World) (h3 : Still w w3) (a6 : Option Addr) (c6 : Nat) (o : Obj) (hown : w6.ownsRow 0 66 2 (.slice a6 (m + 1) c6) (m + 1) (rowOf encPr L ++ [.string ⟨f.toArray⟩, .int .i64 n])) (hg : (w3.alloc o).grownBy w6 (Value.slice la m lc).ownBlock)
        (hat : (Value.slice a6 (m + 1) c6).ownBlock = (Value.slice la m lc).ownBlock ∨ (Value.slice a6 (m + 1) c6).ownBlock = some (w3.alloc o).heap.size) => show Goes (zgT q (L ++ [(f, n.toNat)])) W w (w6.setCell ⟨q, 0, none⟩ (.slice a6 (m + 1) c6)) ∧ Blk w6 q [.slice la m lc] 42 from by
      have hT : Turned (fun k => (Value.slice la L.length lc).ownBlock = some k) w w6 := by
        rw [← hm]; exact ((h3.mono (fun _ _ h => h.elim)).alloc o).grown hg (fun i e => .inl e)
      have := H.row hT (L' := L ++ [(f, n.toNat)]) (m := m + 1) (a6 := a6) (c6 := c6) (by simp [hm]) (by rw [rowOf_append]; simpa [rowOf, encPr, tx, hn'] using hown) (fun x e => by
        subst e
        rcases hat with h | h
        · cases la with
          | none => cases h
          | some a => exact .inl ⟨a, rfl, by simpa [Value.ownBlock] using h.symm⟩
        · right
          have : x.block = (w3.alloc o).heap.size := by simpa [Value.ownBlock] using h
          have := h3.size
          simp at *; omega)
      rwa [← hm] at this)
    clear e0 e1 e2 e3 e4 e5 hm hlen H hL hn'
    go_enter Tryz.func14, Tryz.ntmps14
    go_wp2_with (first
      | (go_at_call 39; ((with_reducible refine (HC.out _).mono ?_)); rintro e w1 ⟨rfl, h1⟩)
      | (go_at_call 40; ((with_reducible refine (HN.out _).mono ?_)); rintro e w2 ⟨rfl, rfl⟩)
      | (go_at_call 41; ((with_reducible refine (HF.out _ h1).mono ?_)); rintro e w3 ⟨⟨r, rfl, hr⟩, rfl⟩; obtain rfl := HFd.out r hr; clear hr; have c1 := HCl.out _ h1)
      | (at_builtin; refine wpList_append_own_at _ rfl (.tmp 31) (.tmp 35) 40 rfl 0 66 i0 _ 2 24 Tryz.underlying40 hi hz0 hz1 hz2 rfl (by decide) (.slice la m lc) m (rowOf encPr L) rfl (ow_still HO.out (h1.alloc _)) ⟨w1.heap.size, 0, none⟩ 1 1 [.string ⟨f.toArray⟩, .int .i64 n] rfl rfl (ow_cells w1 _ _) (by intro u hu; simp at hu; rcases hu with rfl | rfl <;> rfl) (by unfold maxLen; omega) (by omega) (Nat.zero_le _) ?_; intro v6 w6 hown6 hg6 _ hat6; obtain ⟨a6, c6, rfl⟩ := ow_slice hown6; obtain ⟨hP6, hq6⟩ := HP.out w1 w6 h1 a6 c6 _ hown6 hg6 hat6; have HP6 := Lib.hid hP6; have y3 := hq6.cell (o := 0) rfl; have y4 := hq6.free 0; clear hown6 hg6 hat6 hP6 hq6))
    go_ret
    exact ⟨rfl, HP6.out⟩
end Go.Proofs.YtpmkokckjieidaaGreatDoor

/- What Of and Drop of the document's tree do. No condition but that the tree is one. -/
namespace Go.Proofs.YtpmkokckjieidaaGreatDoor
open Go.RowKit
set_option linter.unusedVariables false
set_option linter.unusedSimpArgs false
set_option maxRecDepth 100000

def ni (l : List Nat) : List Int := l.map fun n : Nat => (n : Int)
theorem ni_append (a b : List Nat) : ni (a ++ b) = ni a ++ ni b := by simp [ni]
theorem ni_length (l : List Nat) : (ni l).length = l.length := by simp [ni]
theorem range_step {p : Nat → Bool} (k : Nat) : (List.range (k + 1)).filter p = (List.range k).filter p ++ if p k = true then [k] else [] := by
  rw [List.range_succ, List.filter_append]
  congr 1
  by_cases h : p k = true <;> simp [h]
theorem range_len (p : Nat → Bool) (k : Nat) : ((List.range k).filter p).length ≤ k := by
  have := List.length_filter_le p (List.range k)
  rwa [List.length_range] at this

/-- What append leaves of a row of one's own, of whatever width. -/
theorem owm_put {w wr w6 : World} {e : TypeId} {m : Nat} {ao : Option Addr} {k cc : Nat} {xs : List Value} {o : Obj} (hs : Still w wr) (h : wr.ownsRow w.heap.size e m (.slice ao k cc) k xs) (hg : (wr.alloc o).grownBy w6 (Value.slice ao k cc).ownBlock) : Still w w6 := by
  refine (hs.alloc o).past ((Turned.refl (fun i => (Value.slice ao k cc).ownBlock = some i) _).grown hg (fun i e => .inl e)) (fun i hi => ?_)
  cases ao with
  | none => cases hi
  | some x => have := (ow_lt h x rfl).1
              have e : x.block = i := by simpa [Value.ownBlock] using hi
              exact .inr (by omega)

/-- Numbers that are handed out, beside an error. -/
def NumE (w : World) (l : List Int) (n : Nat) (er : Int) (e : Ending) (w' : World) : Prop := ∃ a c, e = .returned (.tuple #[.slice a n c, .int .i64 er]) ∧ w'.ownsRow w.heap.size 3 1 (.slice a n c) n (ints l) ∧ Still w w'

set_option maxHeartbeats 2000000 in
theorem ztof_any {w : World} {W : Nat → Prop} {q : Nat} {L : List Pr} (H0 : (zgT q L).at_ w W) (hL : TOk L) (f : Txt) (hf : f.length ≤ 300) :
    Calls Tryz.prog 20 #[.pointer (some ⟨q, 0, none⟩), tx f] w (NumE w (ni (ofL L f)) (ofL L f).length (fcE f)) := by
  have HC := Lib.hid (fun V => zfcheck_any f V (by omega))
  have HF := Lib.hid (fun V (h : Still w V) (n : Int) => show Calls Tryz.prog 41 #[.pointer (some ⟨q, 0, none⟩), tx f, .int .i64 n] V fun e w' => (∃ r, e = .returned (.int .i64 r) ∧ FdAt L f n r) ∧ V = w' from (ztfind_any ((zgT q L).keep H0 h (fun _ _ h => h)) hL.len f n).mono fun e w' ⟨h1, h2⟩ => ⟨h1, h2.symm⟩)
  unfold tx at HC HF ⊢
  clear H0
  rcases fcE_or f with h0 | h0
  · have eL : ofL L f = (List.range 256).filter fun n : Nat => hasP L f (n : Int) := if_pos h0
    rw [h0] at HC ⊢
    obtain ⟨i0, hi, hz0, hz1, hz2⟩ := info_parts infoIntW
    obtain ⟨p, hp⟩ : ∃ p : Nat → Bool, p = fun n : Nat => hasP L f (n : Int) := ⟨_, rfl⟩
    rw [← hp] at eL
    have HP := Lib.hid (fun (k : Nat) (r : Int) (h : FdAt L f (k : Int) r) => show (p k = true ∧ 0 ≤ r) ∨ (p k = false ∧ r = -1) from by
      rw [hp]
      rcases h with ⟨h1, h2⟩ | ⟨j, h1, _, h2, _⟩
      · exact .inr ⟨h2, h1⟩
      · exact .inl ⟨h2, by omega⟩)
    have HS := Lib.hid (fun k => range_step (p := p) k)
    have HLn := Lib.hid (fun k => range_len p k)
    have HE := Lib.hid (show ∀ (n : Nat) a c (V' : World), n = ((List.range 256).filter p).length → V'.ownsRow w.heap.size 3 1 (.slice a n c) n (ints (ni ((List.range 256).filter p))) → Still w V' → NumE w (ni (ofL L f)) (ofL L f).length 0 (.returned (.tuple #[.slice a n c, .int .i64 0])) V' from fun n a c V' h1 h2 h3 => by
      rw [eL, ← h1]; exact ⟨a, c, rfl, h2, h3⟩)
    clear h0 eL hp hL
    go_enter Tryz.func20, Tryz.ntmps20
    go_wp2_with (go_at_call 39; ((with_reducible refine (HC.out _).mono ?_)); rintro e w1 ⟨rfl, h1⟩)
    have HW := Lib.hid (World.ownsRow_made (e := 3) (size := 1) w1 #[] 0 (Nat.le_refl _) (by simp) (by simp))
    go_loopw [7, 8] (fun o i wr => ∃ (k m : Nat) (ao : Option Addr) (cc : Nat), k ≤ 256 ∧ i = .int .i64 k ∧ m = ((List.range k).filter p).length ∧ o = .slice ao m cc ∧ wr.ownsRow w.heap.size 3 1 (.slice ao m cc) m (ints (ni ((List.range k).filter p))) ∧ Still w wr) (fun _ i _ => 256 - (intOf i).toNat)
    case atStart => exact ⟨0, 0, _, 0, Nat.zero_le _, rfl, by simp, rfl, ow_base (by simpa [ni, ints] using HW.out) h1.size, h1.alloc _⟩
    case round =>
      obtain ⟨k, m, ao, cc, hk, rfl, hml, rfl, hown, hst⟩ := hrel
      have HO := Lib.hid hown
      have HSt := Lib.hid hst
      have HM := Lib.hid hml
      have hlo := hst.size
      have hmk : m ≤ k := by rw [hml]; exact HLn.out k
      clear hown hml h1
      by_cases hlt : k < 256
      · have hlt' : (k : Int) < 256 := by omega
        have HFk := Lib.hid (HF.out wr hst (k : Int))
        have hPk := HP.out k
        have hSk := HS.out k
        generalize p k = b at *
        have HPk := Lib.hid hPk
        clear hst HF HP HS hPk HC
        cases b with
        | true =>
          rw [if_pos rfl] at hSk
          have HSk := Lib.hid hSk
          clear hSk
          go_wp2_with (first
            | (go_at_call 41; ((with_reducible refine HFk.out.mono ?_)); rintro e w3 ⟨⟨r, rfl, hr⟩, rfl⟩; have hr0 := ((HPk.out r hr).resolve_right (fun h => by cases h.1)).2; clear hr)
            | (at_builtin; refine wpList_append_own_at _ rfl (.tmp 24) (.tmp 26) 35 rfl w.heap.size 3 i0 (.int .i64 0) 1 8 Tryz.underlying35 hi hz0 hz1 hz2 rfl (by decide) (.slice ao m cc) m (ints (ni ((List.range k).filter p))) rfl (ow_still HO.out ((Turned.refl _ _).alloc _)) ⟨wr.heap.size, 0, none⟩ 1 1 [.int .i64 (k : Int)] rfl rfl (ow_cells wr _ _) (ow_ints rfl) (by unfold maxLen; omega) (by omega) (by simp; omega) ?_; intro v6 w6 hown6 hg6 _ hat6; obtain ⟨a6, c6, rfl⟩ := ow_slice hown6; have HS6 := Lib.hid (ow_put HSt.out HO.out hg6); have HO6 := Lib.hid hown6; clear hown6 hg6 hat6))
          go_roundw
          case rel => exact ⟨k + 1, m + 1, a6, c6, by omega, by go_num, by rw [HSk.out, List.length_append, ← HM.out]; rfl, rfl, by rw [HSk.out, ni_append]; simpa [ints, ni] using HO6.out, HS6.out⟩
          case measure => simp [intOf]; omega
        | false =>
          rw [if_neg (by simp), List.append_nil] at hSk
          have HSk := Lib.hid hSk
          clear hSk
          go_wp2_with (go_at_call 41; ((with_reducible refine HFk.out.mono ?_)); rintro e w3 ⟨⟨r, rfl, hr⟩, rfl⟩; obtain rfl := ((HPk.out r hr).resolve_left (fun h => by cases h.1)).2; clear hr)
          go_roundw
          case rel => exact ⟨k + 1, m, ao, cc, by omega, by go_num, by rw [HSk.out]; exact HM.out, rfl, by rw [HSk.out]; exact HO.out, HSt.out⟩
          case measure => simp [intOf]; omega
      · obtain rfl : k = 256 := by omega
        clear hst HF HP HS HC
        go_wp2_with fail
        go_ret2
        exact HE.out _ _ _ _ HM.out HO.out HSt.out
  · have eL : ofL L f = [] := if_neg (by omega)
    rw [eL, h0]
    rw [h0] at HC
    clear h0 eL HF hL
    go_enter Tryz.func20, Tryz.ntmps20
    go_wp2_with (go_at_call 39; ((with_reducible refine (HC.out _).mono ?_)); rintro e w1 ⟨rfl, h1⟩)
    go_ret2
    exact ⟨none, 0, rfl, World.ownsRow_nil _ _ _ _, h1⟩

theorem dropL_step {L : List Pr} {k : Nat} {p : Pr} (h : L[k]? = some p) (n : Int) : dropL (L.take (k + 1)) n = dropL (L.take k) n ++ if (p.2 : Int) = n then [] else [p] := by
  unfold dropL
  rw [List.take_add_one, h, List.filter_append]
  congr 1
  by_cases e : (p.2 : Int) = n <;> simp [e]

set_option maxHeartbeats 2000000 in
theorem ztdrop_any {w : World} {W : Nat → Prop} {q : Nat} {L : List Pr} (H0 : (zgT q L).at_ w W) (hL : TOk L) (n : Int) :
    Calls Tryz.prog 18 #[.pointer (some ⟨q, 0, none⟩), .int .i64 n] w fun e w' => e = .returned (.int .i64 (dropN L n : Nat)) ∧ Goes (zgT q (dropL L n)) W w w' := by
  obtain ⟨la, lc, H⟩ := H0
  obtain ⟨m, hm⟩ : ∃ m, m = L.length := ⟨_, rfl⟩
  have c0 : w.cell? ⟨q, 0, none⟩ = some (.slice la m lc) := hm ▸ H.cell
  have hlen := hL.len
  have hm256 : m ≤ 256 := by omega
  have HCl := Lib.hid (fun V (h : Still w V) => show V.cell? ⟨q, 0, none⟩ = some (.slice la m lc) from hm ▸ (H.still h).cell)
  have HP := Lib.hid (fun V (hst : Still w V) k (hk : k < m) => show ∃ g p, L[k]? = some p ∧ la = some ⟨g, 0, none⟩ ∧ V.cell? ⟨g, k * 2, none⟩ = some (tx p.1) ∧ V.cell? ⟨g, k * 2 + 1, none⟩ = some (.int .i64 (p.2 : Int)) from by
    obtain ⟨p, hp⟩ := get_some (l := L) (i := k) (by omega)
    obtain ⟨g, h1, h2, h3⟩ := (H.still hst).place hp
    exact ⟨g, p, hp, h1, h2, h3⟩)
  obtain ⟨i0, hi, hz0, hz1, hz2⟩ := info_parts infoPr
  have HEnd := Lib.hid (fun (w6 : World) (h6 : Still w w6) (j c6 : Nat) (a6 : Option Addr) (hj : j = (dropL L n).length) (hown : w6.ownsRow w.heap.size 66 2 (.slice a6 j c6) j (rowOf encPr (dropL L n))) => show (Goes (zgT q (dropL L n)) W w (w6.setCell ⟨q, 0, none⟩ (.slice a6 j c6)) ∧ Blk w6 q [.slice la m lc] 42) ∧ (m : Int) - (j : Int) = (dropN L n : Nat) ∧ j ≤ m from by
    refine ⟨?_, ?_, ?_⟩
    · have := H.row (h6.mono (fun _ _ h => h.elim)) (L' := dropL L n) (a6 := a6) (c6 := c6) hj (ow_base hown (Nat.zero_le _)) (fun x e => by subst e; exact .inr (ow_lt hown x rfl).1)
      rwa [← hm] at this
    · unfold dropN; have := dropL_len L n; omega
    · have := dropL_len L n; omega)
  have HL := Lib.hid (show L.take m = L from List.take_of_length_le (by omega))
  have HDl := Lib.hid (fun k => show (dropL (L.take k) n).length ≤ k from by have := dropL_len (L.take k) n; rw [List.length_take] at this; omega)
  have HW := Lib.hid (World.ownsRow_made (e := 66) (size := 2) w #[] 0 (Nat.le_refl _) (by simp) (by simp))
  clear H hm hlen hL
  go_enter Tryz.func18, Tryz.ntmps18
  go_wp2_with fail
  go_loopw [5, 6] (fun o i wr => ∃ (k j : Nat) (ao : Option Addr) (cc : Nat), k ≤ m ∧ i = .int .i64 k ∧ j = (dropL (L.take k) n).length ∧ o = .slice ao j cc ∧ wr.ownsRow w.heap.size 66 2 (.slice ao j cc) j (rowOf encPr (dropL (L.take k) n)) ∧ Still w wr) (fun _ i _ => m - (intOf i).toNat)
  case atStart => exact ⟨0, 0, _, 0, Nat.zero_le _, rfl, by simp [dropL], rfl, by simpa [dropL, rowOf] using HW.out, (Turned.refl _ _).alloc _⟩
  case round =>
    clear c0
    obtain ⟨k, j, ao, cc, hk, rfl, hjl, rfl, hown, hst⟩ := hrel
    have c0 := HCl.out wr hst
    have HO := Lib.hid hown
    have HSt := Lib.hid hst
    have HJ := Lib.hid hjl
    have hlo := hst.size
    have hjk : j ≤ k := by rw [hjl]; exact HDl.out k
    clear hown hjl
    by_cases hlt : k < m
    · obtain ⟨g, ⟨p1, p2⟩, hp, rfl, d0, d1⟩ := HP.out wr hst k hlt
      have hstep := dropL_step hp n
      have HLat := Lib.hid (fun V (h : Still w V) => show V.cell? ⟨g, k * 2, none⟩ = some (tx p1) ∧ V.cell? ⟨g, k * 2 + 1, none⟩ = some (.int .i64 (p2 : Int)) from by
        obtain ⟨g', p', hp', e, h1, h2⟩ := HP.out V h k hlt
        rw [hp] at hp'; cases hp'; cases e; exact ⟨h1, h2⟩)
      dsimp only at d0 d1 hstep
      unfold tx at d0
      clear hp hst HP HEnd
      by_cases hpn : (p2 : Int) = n
      · rw [if_pos hpn, List.append_nil] at hstep
        have HSt2 := Lib.hid hstep
        clear hstep
        subst hpn
        go_wp2_with fail
        go_roundw
        case rel => exact ⟨k + 1, j, ao, cc, by omega, by go_num, by rw [HSt2.out]; exact HJ.out, rfl, by rw [HSt2.out]; exact HO.out, HSt.out⟩
        case measure => simp [intOf]; omega
      · rw [if_neg hpn] at hstep
        have HSt2 := Lib.hid hstep
        have hb : ((p2 : Int) == n) = false := by simpa using hpn
        clear hstep
        go_wp2_with (at_builtin; refine wpList_append_own_at _ rfl (.tmp 28) (.tmp 36) 40 rfl w.heap.size 66 i0 _ 2 24 Tryz.underlying40 hi hz0 hz1 hz2 rfl (by decide) (.slice ao j cc) j (rowOf encPr (dropL (L.take k) n)) rfl (ow_still HO.out ((Turned.refl _ _).alloc _)) ⟨wr.heap.size, 0, none⟩ 1 1 [.string ⟨p1.toArray⟩, .int .i64 (p2 : Int)] rfl rfl (ow_cells wr _ _) (by intro u hu; simp at hu; rcases hu with rfl | rfl <;> rfl) (by unfold maxLen; omega) (by omega) (by simp; omega) ?_; intro v6 w6 hown6 hg6 _ hat6; obtain ⟨a6, c6, rfl⟩ := ow_slice hown6; have HS6 := Lib.hid (owm_put HSt.out HO.out hg6); have HO6 := Lib.hid hown6; clear hown6 hg6 hat6)
        go_roundw
        case rel => exact ⟨k + 1, j + 1, a6, c6, by omega, by go_num, by rw [HSt2.out, List.length_append, ← HJ.out]; rfl, rfl, by rw [HSt2.out, rowOf_append]; simpa [rowOf, encPr, tx] using HO6.out, HS6.out⟩
        case measure => simp [intOf]; omega
    · obtain rfl : k = m := by omega
      have hown := HO.out
      have hj2 := HJ.out
      rw [HL.out] at hown hj2
      obtain ⟨⟨h1, h2⟩, h3, h4⟩ := HEnd.out wr hst j cc ao hj2 hown
      have HG := Lib.hid h1
      have y1 := h2.cell (o := 0) rfl
      have y2 := h2.free 0
      have HN := Lib.hid h3
      clear hown hj2 h1 h2 h3 HP HEnd hst
      go_wp2_with fail
      go_ret
      exact ⟨by rw [← HN.out]; first | rfl | (simp [IntKind.wrap, IntKind.signed, IntKind.bits]; omega), HG.out⟩
end Go.Proofs.YtpmkokckjieidaaGreatDoor

/- What Take of the document's tree does. No condition but that the tree is one. -/
namespace Go.Proofs.YtpmkokckjieidaaGreatDoor
open Go.RowKit
set_option linter.unusedVariables false
set_option linter.unusedSimpArgs false
set_option maxRecDepth 100000

theorem erase_at {α : Type} [BEq α] [LawfulBEq α] {p : α} : ∀ {L : List α} {k : Nat}, L[k]? = some p → (∀ j, j < k → L[j]? ≠ some p) → L.erase p = L.take k ++ L.drop (k + 1)
  | [], k, h, _ => by simp at h
  | x :: L, 0, h, _ => by simp at h; subst h; simp
  | x :: L, k + 1, h, hn => by
    have hx : x ≠ p := fun e => hn 0 (Nat.succ_pos _) (by rw [e]; rfl)
    have hb : (x == p) = false := by simpa using hx
    rw [List.erase_cons, hb]
    simp only [Bool.false_eq_true, if_false, List.take_succ_cons, List.drop_succ_cons, List.cons_append]
    rw [erase_at (by rw [List.getElem?_cons_succ] at h; exact h) (fun j hj => by have := hn (j + 1) (by omega); rwa [List.getElem?_cons_succ] at this)]
theorem row_front {L : List Pr} {k : Nat} {j : Nat} {u : Value} (h : (rowOf encPr (L.take k))[j]? = some u) : (rowOf encPr L)[j]? = some u := by
  have e : rowOf encPr L = rowOf encPr (L.take k) ++ rowOf encPr (L.drop k) := by rw [← rowOf_append, List.take_append_drop]
  rw [e, List.getElem?_append_left (get_lt h)]; exact h
theorem row_back {L : List Pr} {k : Nat} (hk : k ≤ L.length) {j : Nat} {u : Value} (h : (rowOf encPr (L.drop k))[j]? = some u) : (rowOf encPr L)[k * 2 + j]? = some u := by
  have e : rowOf encPr L = rowOf encPr (L.take k) ++ rowOf encPr (L.drop k) := by rw [← rowOf_append, List.take_append_drop]
  have hl : (rowOf encPr (L.take k)).length = k * 2 := by rw [rowOf_length encPr_len, List.length_take]; omega
  rw [e, List.getElem?_append_right (by rw [hl]; omega), hl, Nat.add_sub_cancel_left]; exact h

set_option maxHeartbeats 4000000 in
theorem zttake_any {w : World} {W : Nat → Prop} {q : Nat} {L : List Pr} (H0 : (zgT q L).at_ w W) (hL : TOk L) (f : Txt) (n : Int) (hf : f.length ≤ 300) :
    Calls Tryz.prog 16 #[.pointer (some ⟨q, 0, none⟩), tx f, .int .i64 n] w fun e w' => e = .returned (.int .i64 (tkE L f n)) ∧ Goes (zgT q (takeL L f n)) W w w' := by
  have HC := Lib.hid (fun V => zfcheck_any f V (by omega))
  have HN := Lib.hid (fun V => show Calls Tryz.prog 40 #[.int .i64 n] V fun e w' => e = .returned (.bool (decide (0 ≤ n ∧ n < 256))) ∧ V = w' from (ztnumber_any n V).mono fun e w' ⟨h1, h2⟩ => ⟨h1, h2.symm⟩)
  have HF := Lib.hid (fun V (h : Still w V) => show Calls Tryz.prog 41 #[.pointer (some ⟨q, 0, none⟩), tx f, .int .i64 n] V fun e w' => (∃ r, e = .returned (.int .i64 r) ∧ FdAt L f n r) ∧ V = w' from (ztfind_any ((zgT q L).keep H0 h (fun _ _ h => h)) hL.len f n).mono fun e w' ⟨h1, h2⟩ => ⟨h1, h2.symm⟩)
  obtain ⟨la, lc, H⟩ := H0
  obtain ⟨m, hm⟩ : ∃ m, m = L.length := ⟨_, rfl⟩
  have HCl := Lib.hid (fun V (h : Still w V) => show V.cell? ⟨q, 0, none⟩ = some (.slice la m lc) from hm ▸ (H.still h).cell)
  have HSt := Lib.hid (fun V (h : Still w V) => zgT_still H h)
  have hlen := hL.len
  have hm256 : m ≤ 256 := by omega
  unfold tx at HC HF ⊢
  rcases tkE_cases L f n with ⟨e0, e1⟩ | ⟨e0, e1, e2⟩ | ⟨e0, e1, e2, e3, e4⟩ | ⟨e0, e1, e2, e3, e4⟩
  · rw [show takeL L f n = L from if_neg (by omega), e0]
    rw [e1] at HC
    clear e0 e1 HCl HF HN hm hlen H hL
    go_enter Tryz.func16, Tryz.ntmps16
    go_wp2_with (go_at_call 39; ((with_reducible refine (HC.out _).mono ?_)); rintro e w1 ⟨rfl, h1⟩)
    go_ret
    exact ⟨rfl, HSt.out _ h1⟩
  · rw [show takeL L f n = L from if_neg (by omega), e0]
    rw [e1] at HC
    rw [decide_eq_false (by omega)] at HN
    clear e0 e1 e2 HCl HF hm hlen H hL
    go_enter Tryz.func16, Tryz.ntmps16
    go_wp2_with (first
      | (go_at_call 39; ((with_reducible refine (HC.out _).mono ?_)); rintro e w1 ⟨rfl, h1⟩)
      | (go_at_call 40; ((with_reducible refine (HN.out _).mono ?_)); rintro e w2 ⟨rfl, rfl⟩))
    go_ret
    exact ⟨rfl, HSt.out _ h1⟩
  · rw [show takeL L f n = L from if_neg (by omega), e0]
    rw [e1] at HC
    rw [decide_eq_true ⟨e2, e3⟩] at HN
    have HFd := Lib.hid (fun r (h : FdAt L f n r) => show r = -1 from by
      rcases h with ⟨h, _⟩ | ⟨k, _, _, h, _⟩
      · exact h
      · rw [e4] at h; cases h)
    clear e0 e1 e2 e3 e4 hm hlen H hL HCl
    go_enter Tryz.func16, Tryz.ntmps16
    go_wp2_with (first
      | (go_at_call 39; ((with_reducible refine (HC.out _).mono ?_)); rintro e w1 ⟨rfl, h1⟩)
      | (go_at_call 40; ((with_reducible refine (HN.out _).mono ?_)); rintro e w2 ⟨rfl, rfl⟩)
      | (go_at_call 41; ((with_reducible refine (HF.out _ h1).mono ?_)); rintro e w3 ⟨⟨r, rfl, hr⟩, rfl⟩; obtain rfl := HFd.out r hr; clear hr))
    go_ret
    exact ⟨rfl, HSt.out _ h1⟩
  · rw [show takeL L f n = L.erase (f, n.toNat) from if_pos e0, e0]
    rw [e1] at HC
    rw [decide_eq_true ⟨e2, e3⟩] at HN
    have HFd := Lib.hid (fun r (h : FdAt L f n r) => show ∃ k : Nat, r = k ∧ k < m ∧ L.erase (f, n.toNat) = L.take k ++ L.drop (k + 1) from by
      rcases h with ⟨_, h⟩ | ⟨k, h1, h2, _, _, h3⟩
      · rw [e4] at h; cases h
      · exact ⟨k, h1, by rw [hm]; exact get_lt h2, erase_at h2 h3⟩)
    obtain ⟨i0, hi, hz0, hz1, hz2⟩ := info_parts infoPr
    have hmpos : 0 < m := by
      have : (f, n.toNat) ∈ L := (of_decide_eq_true e4).2
      have := List.length_pos_of_mem this
      omega
    have hls := H.ls
    obtain ⟨g, rfl⟩ := owm_addr hls (by omega)
    have hlc := (ow_le hls).1
    rw [← hm] at hlc
    have HRow := Lib.hid (fun V (h : Still w V) (j : Nat) (u : Value) (hj : (rowOf encPr L)[j]? = some u) => show V.cell? ⟨g, j, none⟩ = some u from (owm_cell (H.still h).ls hj).1)
    have HEnd := Lib.hid (fun (w6 : World) (h6 : Still w w6) (L' : List Pr) (j c6 : Nat) (a6 : Option Addr) (hj : j = L'.length) (hown : w6.ownsRow w.heap.size 66 2 (.slice a6 j c6) j (rowOf encPr L')) => show (Goes (zgT q L') W w (w6.setCell ⟨q, 0, none⟩ (.slice a6 j c6)) ∧ Blk w6 q [.slice (some ⟨g, 0, none⟩) m lc] 42) from by
      have := H.row (h6.mono (fun _ _ h => h.elim)) (L' := L') (a6 := a6) (c6 := c6) hj (ow_base hown (Nat.zero_le _)) (fun x e => by subst e; exact .inr (ow_lt hown x rfl).1)
      rwa [← hm] at this)
    have HL := Lib.hid hm
    have HO1 := Lib.hid (encPr_ones)
    clear e0 e1 e2 e3 e4 hm hlen H hL hls
    go_enter Tryz.func16, Tryz.ntmps16
    go_upto_region 9 with (first
      | (go_at_call 39; ((with_reducible refine (HC.out _).mono ?_)); rintro e w1 ⟨rfl, h1⟩)
      | (go_at_call 40; ((with_reducible refine (HN.out _).mono ?_)); rintro e w2 ⟨rfl, rfl⟩)
      | (go_at_call 41; ((with_reducible refine (HF.out _ h1).mono ?_)); rintro e w3 ⟨⟨r, rfl, hr⟩, rfl⟩; obtain ⟨k, rfl, hkm, hk⟩ := HFd.out r hr; clear hr))
    have HK := Lib.hid hk
    have HF1 := Lib.hid (fun V (h : Still w V) (j : Nat) (u : Value) (hj : (rowOf encPr (L.take k))[j]? = some u) => show V.cell? ((⟨g, 0, none⟩ : Addr).add j) = some u from by
      rw [Addr.add_lit, Nat.zero_add]; exact HRow.out V h j u (row_front hj))
    have HF2 := Lib.hid (fun V (h : Still w V) (j : Nat) (u : Value) (hj : (rowOf encPr (L.drop (k + 1)))[j]? = some u) => show V.cell? ((⟨g, (k + 1) * 2, none⟩ : Addr).add j) = some u from by
      rw [Addr.add_lit]; exact HRow.out V h _ u (row_back (by rw [← HL.out]; exact hkm) hj))
    have HL1 := Lib.hid (show (rowOf encPr (L.take k)).length = k * 2 by rw [rowOf_length encPr_len, List.length_take]; have := HL.out; omega)
    have HL2 := Lib.hid (show (rowOf encPr (L.drop (k + 1))).length = (m - (k + 1)) * 2 by rw [rowOf_length encPr_len, List.length_drop, ← HL.out])
    have HLL := Lib.hid (show (L.take k ++ L.drop (k + 1)).length = k + (m - (k + 1)) by rw [List.length_append, List.length_take, List.length_drop]; have := HL.out; omega)
    have hS1 := h1
    have c1 := HCl.out w1 h1
    have hkm' : (k : Int) + 1 ≤ (m : Int) := by omega
    have hk0 : (k : Int) ≤ (m : Int) := by omega
    have hkl : (k : Int) ≤ (lc : Int) := by omega
    have hwr : IntKind.i64.wrap ((k : Int) + 1) = (k : Int) + 1 := by simp [IntKind.wrap, IntKind.signed, IntKind.bits]; omega
    have htn : ((k : Int) + 1).toNat = k + 1 := by omega
    have hk1 : (0 : Int) ≤ (k : Int) + 1 := by omega
    have HS1 := Lib.hid h1
    have hd1 : (w1.alloc (.cells #[] 66)).drew.cell? ⟨q, 0, none⟩ = some (.slice (some ⟨g, 0, none⟩) m lc) := HCl.out _ (h1.alloc _).drew
    have HTwo := Lib.hid (fun (w6 w7 : World) (a6 : Option Addr) (c6 : Nat) (h : w6.ownsRow w1.heap.size 66 2 (.slice a6 k c6) k (rowOf encPr (L.take k))) (hs : Still w1 w6) (hg : w6.grownBy w7 (Value.slice a6 k c6).ownBlock) => show Still w1 w7 from by
      refine hs.grown hg (fun i e => .inr ?_)
      cases a6 with
      | none => cases e
      | some x => have := (ow_lt h x rfl).1; have e' : x.block = i := by simpa [Value.ownBlock] using e
                  omega)
    by_cases hcap : lc = k + 1
    · subst hcap
      obtain rfl : m = k + 1 := by omega
      have hkk : (k : Int) ≤ (k : Int) + 1 := by omega
      have HLL := Lib.hid (show (L.take k).length = k + 0 by rw [List.length_take]; have := HL.out; omega)
      have HKK := Lib.hid (show L.take k ++ L.drop (k + 1) = L.take k by rw [List.drop_of_length_le (by rw [← HL.out]; exact Nat.le_refl _), List.append_nil])
      clear hk HF HC HN HFd
      go_region_law (first
        | (refine step_app_own rfl (.tmp 24) (.tmp 30) 40 rfl w1.heap.size 66 i0 _ 2 24 Tryz.underlying40 hi hz0 hz1 hz2 rfl (by decide) _ 0 [] rfl (ow_still (World.ownsRow_made w1 #[] 0 (Nat.le_refl _) (by simp) (by simp)) (Turned.refl _ _).drew) ⟨g, 0, none⟩ k (k + 1) (rowOf encPr (L.take k)) rfl HL1.out (HF1.out _ (HS1.out.alloc _).drew) (HO1.out _) (by unfold maxLen; omega) (by omega) (by simp) ?_; intro v6 w6 hown6 hg6 hat6; obtain ⟨a6, c6, rfl⟩ := ow_slice hown6; rw [Nat.zero_add, List.nil_append] at hown6; have HO6 := Lib.hid hown6; have HS6 := Lib.hid (show Still w1 w6 from (((Turned.refl (fun _ => False) w1).alloc (.cells #[] 66)).drew.grown hg6 (fun i e => .inr (by cases e; exact Nat.le_refl _)))); have c6' := HCl.out w6 (HS1.out.trans HS6.out); clear hown6 hg6 hat6)
        | (refine step_app_own rfl (.tmp 31) (.tmp 38) 40 rfl w1.heap.size 66 i0 _ 2 24 Tryz.underlying40 hi hz0 hz1 hz2 rfl (by decide) _ k (rowOf encPr (L.take k)) rfl HO6.out ⟨g, 0, none⟩ 0 0 [] rfl rfl (fun j u h => by simp at h) (fun u h => by simp at h) (by unfold maxLen; omega) (by omega) (by have := HS6.out.size; omega) ?_; intro v7 w7 hown7 hg7 hat7; obtain ⟨a7, c7, rfl⟩ := ow_slice hown7; rw [List.append_nil] at hown7; have HS7 := Lib.hid (HTwo.out _ _ _ _ HO6.out HS6.out hg7); obtain ⟨hG7, hB7⟩ := HEnd.out w7 (HS1.out.trans HS7.out) _ _ c7 a7 HLL.out.symm (ow_base hown7 HS1.out.size); have HG7 := Lib.hid hG7; have y1 := hB7.cell (o := 0) rfl; have y2 := hB7.free 0; clear hown7 hg7 hat7 hG7 hB7))
      all_goals (go_wp2_with fail)
      all_goals (go_ret; exact ⟨rfl, by rw [HK.out, HKK.out]; exact HG7.out⟩)
    · have hne : ¬ lc = k + 1 := hcap
      clear hk HF HC HN HFd
      go_region_law (first
        | (refine step_app_own rfl (.tmp 24) (.tmp 30) 40 rfl w1.heap.size 66 i0 _ 2 24 Tryz.underlying40 hi hz0 hz1 hz2 rfl (by decide) _ 0 [] rfl (ow_still (World.ownsRow_made w1 #[] 0 (Nat.le_refl _) (by simp) (by simp)) (Turned.refl _ _).drew) ⟨g, 0, none⟩ k lc (rowOf encPr (L.take k)) rfl HL1.out (HF1.out _ (HS1.out.alloc _).drew) (HO1.out _) (by unfold maxLen; omega) (by omega) (by simp) ?_; intro v6 w6 hown6 hg6 hat6; obtain ⟨a6, c6, rfl⟩ := ow_slice hown6; rw [Nat.zero_add, List.nil_append] at hown6; have HO6 := Lib.hid hown6; have HS6 := Lib.hid (show Still w1 w6 from (((Turned.refl (fun _ => False) w1).alloc (.cells #[] 66)).drew.grown hg6 (fun i e => .inr (by cases e; exact Nat.le_refl _)))); have c6' := HCl.out w6 (HS1.out.trans HS6.out); clear hown6 hg6 hat6)
        | (refine step_app_own rfl (.tmp 31) (.tmp 38) 40 rfl w1.heap.size 66 i0 _ 2 24 Tryz.underlying40 hi hz0 hz1 hz2 rfl (by decide) _ k (rowOf encPr (L.take k)) rfl HO6.out ⟨g, (k + 1) * 2, none⟩ (m - (k + 1)) (lc - (k + 1)) (rowOf encPr (L.drop (k + 1))) rfl HL2.out (HF2.out _ (HS1.out.trans HS6.out)) (HO1.out _) (by unfold maxLen; omega) (by omega) (by have := HS6.out.size; omega) ?_; intro v7 w7 hown7 hg7 hat7; obtain ⟨a7, c7, rfl⟩ := ow_slice hown7; rw [← rowOf_append] at hown7; have HS7 := Lib.hid (HTwo.out _ _ _ _ HO6.out HS6.out hg7); obtain ⟨hG7, hB7⟩ := HEnd.out w7 (HS1.out.trans HS7.out) _ _ c7 a7 HLL.out.symm (ow_base hown7 HS1.out.size); have HG7 := Lib.hid hG7; have y1 := hB7.cell (o := 0) rfl; have y2 := hB7.free 0; clear hown7 hg7 hat7 hG7 hB7))
      all_goals (go_wp2_with fail)
      all_goals (go_ret; exact ⟨rfl, by rw [HK.out]; exact HG7.out⟩)
end Go.Proofs.YtpmkokckjieidaaGreatDoor

/- What Match of the document's tree does. No condition but that the tree is one. -/
namespace Go.Proofs.YtpmkokckjieidaaGreatDoor
open Go.RowKit
set_option linter.unusedVariables false
set_option linter.unusedSimpArgs false
set_option maxRecDepth 100000

def encBo (b : Bool) : List Value := [.bool b]
def bo (l : List Bool) : List Value := l.map fun b => .bool b
theorem bo_length (l : List Bool) : (bo l).length = l.length := by simp [bo]
theorem bo_get {l : List Bool} {i : Nat} {b : Bool} (h : l[i]? = some b) : (bo l)[i]? = some (.bool b) := by simp [bo, h]
theorem bo_set (l : List Bool) (i : Nat) (b : Bool) : bo (l.set i b) = (bo l).set i (.bool b) := by simp [bo, List.map_set]
theorem row_bo (l : List Bool) : rowOf encBo l = bo l := by
  induction l with
  | nil => rfl
  | cons a l ih => rw [rowOf_cons, ih]; rfl
theorem made_bo (k : Nat) : madeCells #[.bool false] k = (bo (List.replicate k false)).toArray := by
  have := made_row (enc := encBo) (false : Bool) (z := #[.bool false]) rfl (m := 1) (fun _ => rfl) (by omega) k
  rw [Nat.mul_one] at this
  rw [this, row_bo]
/-- Which numbers are hit. -/
def hitsL (L : List Pr) (s : Txt) : List Bool := (List.range 256).map fun n => hitB L s n
theorem hitsL_length (L : List Pr) (s : Txt) : (hitsL L s).length = 256 := by unfold hitsL; rw [List.length_map, List.length_range]
theorem hitsL_get (L : List Pr) (s : Txt) {n : Nat} (h : n < 256) : (hitsL L s)[n]? = some (hitB L s n) := by
  unfold hitsL
  rw [List.getElem?_map, List.getElem?_range h]; rfl
theorem hitsL_nil (s : Txt) : hitsL [] s = List.replicate 256 false := by
  refine List.ext_getElem? (fun i => ?_)
  rcases Nat.lt_or_ge i 256 with h | h
  · rw [hitsL_get _ _ h, List.getElem?_replicate, if_pos h]; rfl
  · rw [List.getElem?_eq_none (by rw [hitsL_length]; exact h), List.getElem?_eq_none (by rw [List.length_replicate]; exact h)]
theorem hitB_step {L : List Pr} {k : Nat} {p : Pr} (h : L[k]? = some p) (s : Txt) (n : Nat) : hitB (L.take (k + 1)) s n = (hitB (L.take k) s n || (decide (p.2 = n) && isB p.1 s)) := by
  unfold hitB
  rw [List.take_add_one, h, List.any_append]
  simp
theorem hitsL_no {L : List Pr} {k : Nat} {p : Pr} (h : L[k]? = some p) {s : Txt} (hb : isB p.1 s = false) : hitsL (L.take (k + 1)) s = hitsL (L.take k) s := by
  unfold hitsL
  refine List.map_congr_left (fun n _ => ?_)
  rw [hitB_step h, hb]; simp
theorem hitsL_yes {L : List Pr} {k : Nat} {p : Pr} (h : L[k]? = some p) {s : Txt} (hb : isB p.1 s = true) : hitsL (L.take (k + 1)) s = (hitsL (L.take k) s).set p.2 true := by
  refine List.ext_getElem? (fun i => ?_)
  rcases Nat.lt_or_ge i 256 with hi | hi
  · rw [hitsL_get _ _ hi, hitB_step h, hb, List.getElem?_set]
    by_cases e : p.2 = i
    · rw [if_pos e, if_pos (by rw [hitsL_length, e]; exact hi)]; simp [e]
    · rw [if_neg e, hitsL_get _ _ hi]; simp [e]
  · rw [List.getElem?_eq_none (by rw [hitsL_length]; exact hi), List.getElem?_eq_none (by rw [List.length_set, hitsL_length]; exact hi)]
theorem infoBo : (Tryz.prog.info? 4).map (fun i => (i.zero, i.size, i.bytes)) = some (some (.bool false), 1, 1) := by kernel_rfl

set_option maxHeartbeats 4000000 in
theorem ztmatch_any {w : World} {W : Nat → Prop} {q : Nat} {L : List Pr} (H0 : (zgT q L).at_ w W) (hL : TOk L) (s : Txt) (hs : s.length ≤ 300) :
    Calls Tryz.prog 23 #[.pointer (some ⟨q, 0, none⟩), tx s] w (NumE w (ni (mtL L s)) (mtL L s).length (nmE s)) := by
  have HC := Lib.hid (fun V => zncheck_any s V (by omega))
  obtain ⟨la, lc, H⟩ := H0
  obtain ⟨m, hm⟩ : ∃ m, m = L.length := ⟨_, rfl⟩
  have hlen := hL.len
  have hm256 : m ≤ 256 := by omega
  have HCl := Lib.hid (fun V (h : Still w V) => show V.cell? ⟨q, 0, none⟩ = some (.slice la m lc) from hm ▸ (H.still h).cell)
  rcases nmE_or s with h0 | h0
  · have eL : mtL L s = (List.range 256).filter fun n => hitB L s n := if_pos h0
    have hsne := (nmE_iff.1 h0).1
    rw [h0] at HC ⊢
    have HP := Lib.hid (fun V (hst : Still w V) k (hk : k < m) => show ∃ g p, L[k]? = some p ∧ la = some ⟨g, 0, none⟩ ∧ V.cell? ⟨g, k * 2, none⟩ = some (tx p.1) ∧ V.cell? ⟨g, k * 2 + 1, none⟩ = some (.int .i64 (p.2 : Int)) ∧ p.2 < 256 ∧ ∀ U, Calls Tryz.prog 52 #[tx p.1, tx s] U fun e w' => e = .returned (.bool (isB p.1 s)) ∧ Still U w' from by
      obtain ⟨p, hp⟩ := get_some (l := L) (i := k) (by omega)
      obtain ⟨g, h1, h2, h3⟩ := (H.still hst).place hp
      obtain ⟨h4, h5⟩ := hL.ok p (List.mem_of_getElem? hp)
      exact ⟨g, p, hp, h1, h2, h3, h5, fun U => zfis_any p.1 s U (fcE_iff.1 h4).1 hsne (by have := (fcE_iff.1 h4).2.1; omega) hs⟩)
    obtain ⟨i0, hi, hz0, hz1, hz2⟩ := info_parts infoIntW
    obtain ⟨j0, ji, jz0, jz1, jz2⟩ := info_parts infoBo
    have HL := Lib.hid (show L.take m = L from List.take_of_length_le (by omega))
    have HS := Lib.hid (fun k => range_step (p := fun n => hitB L s n) k)
    have HLn := Lib.hid (fun k => range_len (fun n => hitB L s n) k)
    have HE := Lib.hid (show ∀ (n : Nat) a c (V' : World), n = ((List.range 256).filter fun n => hitB L s n).length → V'.ownsRow w.heap.size 3 1 (.slice a n c) n (ints (ni ((List.range 256).filter fun n => hitB L s n))) → Still w V' → NumE w (ni (mtL L s)) (mtL L s).length 0 (.returned (.tuple #[.slice a n c, .int .i64 0])) V' from fun n a c V' h1 h2 h3 => by
      rw [eL, ← h1]; exact ⟨a, c, rfl, h2, h3⟩)
    have hmk := fun W : World => run_make (P := Tryz.prog) W 77 4 j0 _ Tryz.underlying77 ji jz0 .i64 .i64 (256 : Int) (256 : Int) (by omega) (Int.le_refl _) (by rw [jz2]; omega) (by omega)
    simp only [jz1, show ((256 : Int)).toNat = 256 from rfl, Nat.mul_one, show Value.cells (.bool false) = #[.bool false] from rfl, made_bo] at hmk
    have HNil := Lib.hid (hitsL_nil s)
    rw [← HNil.out] at hmk
    unfold tx at HC HP ⊢
    clear h0 eL hsne hm hlen hL H
    go_enter Tryz.func23, Tryz.ntmps23
    go_wp2_with (go_at_call 31; ((with_reducible refine (HC.out _).mono ?_)); rintro e w1 ⟨rfl, h1⟩)
    have hb0 := Blk.new w1 (bo (hitsL [] s)) 4
    have hst0 : Still w (w1.alloc (.cells (bo (hitsL [] s)).toArray 4)) := h1.alloc _
    have hg1 := h1.size
    obtain ⟨g0, hg0⟩ : ∃ g0, g0 = w1.heap.size := ⟨_, rfl⟩
    rw [← hg0] at hb0 hg1 ⊢
    obtain ⟨W0, hW0⟩ : ∃ W0, W0 = w1.alloc (.cells (bo (hitsL [] s)).toArray 4) := ⟨_, rfl⟩
    rw [← hW0] at hb0 hst0 ⊢
    have HB0 := Lib.hid hb0
    clear hmk h1 hg0 hW0 hb0 hz0 hz1 hz2 jz0 jz1 jz2 ji hi HNil HC
    obtain ⟨i0, hi, hz0, hz1, hz2⟩ := info_parts infoIntW
    go_loopw [8] (fun i wr => ∃ k : Nat, k ≤ m ∧ i = .int .i64 k ∧ Blk wr g0 (bo (hitsL (L.take k) s)) 4 ∧ Still w wr) (fun i _ => m - (intOf i).toNat)
    case atStart => exact ⟨0, Nat.zero_le _, rfl, HB0.out, hst0⟩
    case round =>
      clear hst0 HB0
      obtain ⟨k, hk, rfl, hblk, hst⟩ := hrel
      have c0 := HCl.out wr hst
      have HBk := Lib.hid hblk
      have HSt := Lib.hid hst
      clear hblk
      by_cases hlt : k < m
      · obtain ⟨g, ⟨p1, p2⟩, hp, rfl, d0, d1, hp2, hIs⟩ := HP.out wr hst k hlt
        dsimp only at d0 d1 hp2 hIs
        have HIs := Lib.hid hIs
        have HLat := Lib.hid (fun V (h : Still wr V) => show V.cell? ⟨q, 0, none⟩ = some (.slice (some ⟨g, 0, none⟩) m lc) ∧ V.cell? ⟨g, k * 2 + 1, none⟩ = some (.int .i64 (p2 : Int)) from ⟨HCl.out V (hst.trans h), still_cell h d1 rfl⟩)
        have HHit := Lib.hid (fun V (h : Still wr V) => show Blk V g0 (bo (hitsL (L.take k) s)) 4 from HBk.out.turned h (fun h => h))
        have hp2' : (p2 : Int) < 256 := by omega
        have HCell := Lib.hid (fun V (h : Blk V g0 (bo (hitsL (L.take k) s)) 4) => show V.cell? ⟨g0, p2, none⟩ = some (.bool (hitB (L.take k) s p2)) ∧ V.frozen? ⟨g0, p2, none⟩ = false from ⟨h.cell (bo_get (hitsL_get _ _ hp2)), h.free _⟩)
        cases hb : isB p1 s with
        | true =>
          have HY := Lib.hid (hitsL_yes hp hb)
          rw [hb] at HIs
          clear hp hIs hst HP hb
          go_wp2_with (go_at_call 52; ((with_reducible refine (HIs.out _).mono ?_)); rintro e w5 ⟨rfl, h5⟩; obtain ⟨c5, c6⟩ := HLat.out w5 h5; have hb5 := HHit.out w5 h5; obtain ⟨c7, c8⟩ := HCell.out w5 hb5; have HB5 := Lib.hid hb5; clear hb5)
          go_roundw
          case rel => exact ⟨k + 1, by omega, by go_num, by rw [HY.out, bo_set]; exact HB5.out.set p2 _, (HSt.out.trans h5).setCell (.inr hg1) _⟩
          case measure => simp [intOf]; omega
        | false =>
          have HY := Lib.hid (hitsL_no hp hb)
          rw [hb] at HIs
          clear hp hIs hst HP hb HCell
          go_wp2_with (go_at_call 52; ((with_reducible refine (HIs.out _).mono ?_)); rintro e w5 ⟨rfl, h5⟩; have hb5 := HHit.out w5 h5; have HB5 := Lib.hid hb5; clear hb5)
          go_roundw
          case rel => exact ⟨k + 1, by omega, by go_num, by rw [HY.out]; exact HB5.out, HSt.out.trans h5⟩
          case measure => simp [intOf]; omega
      · obtain rfl : k = m := by omega
        have hbl := HBk.out
        rw [HL.out] at hbl
        have HBl := Lib.hid hbl
        have hglt : g0 < wr.heap.size := hbl.lt
        have HW := Lib.hid (World.ownsRow_made (e := 3) (size := 1) wr #[] 0 (Nat.le_refl _) (by simp) (by simp))
        clear hbl HBk hst HP c0
        have c0 := HCl.out wr HSt.out
        clear HCl
        obtain ⟨V2, hV2⟩ : ∃ V2, V2 = wr := ⟨_, rfl⟩
        rw [← hV2] at HBl hglt HW HSt c0 ⊢
        clear hV2
        go_wp2_with fail
        go_loopw [9, 10] (fun o i wr => ∃ (j n : Nat) (ao : Option Addr) (cc : Nat), j ≤ 256 ∧ i = .int .i64 j ∧ n = ((List.range j).filter fun n => hitB L s n).length ∧ o = .slice ao n cc ∧ wr.ownsRow V2.heap.size 3 1 (.slice ao n cc) n (ints (ni ((List.range j).filter fun n => hitB L s n))) ∧ Still V2 wr) (fun _ i _ => 256 - (intOf i).toNat)
        case atStart => exact ⟨0, 0, _, 0, Nat.zero_le _, rfl, by simp, rfl, by simpa [ni, ints] using HW.out, (Turned.refl _ _).alloc _⟩
        case round =>
          clear c0 HW
          obtain ⟨j, n, ao, cc, hj, rfl, hnl, rfl, hown, hst⟩ := hrel
          have HO := Lib.hid hown
          have HS2 := Lib.hid hst
          have HN := Lib.hid hnl
          have hlo := hst.size
          have hnj : n ≤ j := by rw [hnl]; exact HLn.out j
          clear hown hnl
          by_cases hlt2 : j < 256
          · have hlt' : (j : Int) < 256 := by omega
            have d5 : wr.cell? ⟨g0, j, none⟩ = some (.bool (hitB L s j)) := (HBl.out.turned hst (fun h => h)).cell (bo_get (hitsL_get _ _ hlt2))
            have hSj := HS.out j
            generalize hitB L s j = b at *
            clear hst HBl HS
            cases b with
            | true =>
              rw [if_pos rfl] at hSj
              have HSj := Lib.hid hSj
              clear hSj
              go_wp2_with (at_builtin; refine wpList_append_own_at _ rfl (.tmp 57) (.tmp 59) 35 rfl V2.heap.size 3 i0 (.int .i64 0) 1 8 Tryz.underlying35 hi hz0 hz1 hz2 rfl (by decide) (.slice ao n cc) n (ints (ni ((List.range j).filter fun n => hitB L s n))) rfl (ow_still HO.out ((Turned.refl _ _).alloc _)) ⟨wr.heap.size, 0, none⟩ 1 1 [.int .i64 (j : Int)] rfl rfl (ow_cells wr _ _) (ow_ints rfl) (by unfold maxLen; omega) (by omega) (by simp; omega) ?_; intro v6 w6 hown6 hg6 _ hat6; obtain ⟨a6, c6, rfl⟩ := ow_slice hown6; have HS6 := Lib.hid (ow_put HS2.out HO.out hg6); have HO6 := Lib.hid hown6; clear hown6 hg6 hat6)
              go_roundw
              case rel => exact ⟨j + 1, n + 1, a6, c6, by omega, by go_num, by rw [HSj.out, List.length_append, ← HN.out]; rfl, rfl, by rw [HSj.out, ni_append]; simpa [ints, ni] using HO6.out, HS6.out⟩
              case measure => simp [intOf]; omega
            | false =>
              rw [if_neg (by simp), List.append_nil] at hSj
              have HSj := Lib.hid hSj
              clear hSj
              go_wp2_with fail
              go_roundw
              case rel => exact ⟨j + 1, n, ao, cc, by omega, by go_num, by rw [HSj.out]; exact HN.out, rfl, by rw [HSj.out]; exact HO.out, HS2.out⟩
              case measure => simp [intOf]; omega
          · obtain rfl : j = 256 := by omega
            clear hst HBl HS
            go_wp2_with fail
            go_ret2
            exact HE.out _ _ _ _ HN.out (ow_base HO.out HSt.out.size) (HSt.out.trans HS2.out)
  · have eL : mtL L s = [] := if_neg (by omega)
    rw [eL, h0]
    rw [h0] at HC
    unfold tx at HC ⊢
    clear h0 eL HCl hL H hm hlen
    go_enter Tryz.func23, Tryz.ntmps23
    go_wp2_with (go_at_call 31; ((with_reducible refine (HC.out _).mono ?_)); rintro e w1 ⟨rfl, h1⟩)
    go_ret2
    exact ⟨none, 0, rfl, World.ownsRow_nil _ _ _ _, h1⟩
end Go.Proofs.YtpmkokckjieidaaGreatDoor

/- What add and Filters of the document's tree do. No condition but that the tree is one. -/
namespace Go.Proofs.YtpmkokckjieidaaGreatDoor
open Go.RowKit
set_option linter.unusedVariables false
set_option linter.unusedSimpArgs false
set_option maxRecDepth 100000

/-- Behind those ahead of it, if it isn't there. -/
theorem addT_at {l : List Txt} {s : Txt} : ∀ {k : Nat}, (∀ j x, j < k → l[j]? = some x → Op.bytesLess x s = true) → k ≤ l.length → (∀ x, l[k]? = some x → Op.bytesLess x s = false) → addT l s = if l[k]? = some s then l else l.take k ++ s :: l.drop k := by
  induction l with
  | nil => intro k _ hk _; simp at hk; subst hk; rfl
  | cons y l ih =>
    intro k h1 hk h2
    cases k with
    | zero =>
      have := h2 y rfl
      unfold addT
      rw [if_neg (by rw [this]; simp)]
      by_cases e : y = s
      · subst e; simp
      · rw [if_neg e, if_neg (by simpa using e)]; simp
    | succ k =>
      have h0 := h1 0 y (Nat.succ_pos _) rfl
      have := ih (k := k) (fun j x hj hx => h1 (j + 1) x (by omega) (by rw [List.getElem?_cons_succ]; exact hx)) (by simp at hk; omega) (fun x hx => h2 x (by rw [List.getElem?_cons_succ]; exact hx))
      unfold addT
      rw [if_pos h0, this, List.getElem?_cons_succ]
      split <;> simp
theorem addT_len (l : List Txt) (s : Txt) : (addT l s).length ≤ l.length + 1 := by
  induction l with
  | nil => simp [addT]
  | cons y l ih =>
    unfold addT
    split
    · simp; omega
    · split <;> simp

/-- A slice of texts that nobody writes. -/
def RoTexts (w : World) (l : List Txt) (n : Nat) (e : Ending) (w' : World) : Prop := ∃ g o c, e = .returned (.slice (some ⟨g, o, none⟩) n c) ∧ TextsAt w' (some ⟨g, o, none⟩) l ∧ n ≤ c ∧ Still w w'

set_option maxHeartbeats 4000000 in
theorem ztadd_any (l : List Txt) (s : Txt) (w : World) (g o n cc : Nat) (hn : n = l.length) (hA : TextsAt w (some ⟨g, o, none⟩) l) (hle : n ≤ cc) (hmax : n ≤ 1000) :
    Calls Tryz.prog 71 #[.slice (some ⟨g, o, none⟩) n cc, tx s] w (RoTexts w (addT l s) (addT l s).length) := by
  have HN := Lib.hid hn
  have HA := Lib.hid hA
  obtain ⟨i0, hi, hz0, hz1, hz2⟩ := info_parts infoStr
  have hmm : (n : Int) ≤ 1000 := by omega
  have hnc : (n : Int) ≤ (cc : Int) := by omega
  have HSame := Lib.hid (fun (e : addT l s = l) => show RoTexts w (addT l s) (addT l s).length (.returned (.slice (some ⟨g, o, none⟩) n cc)) w from by
    rw [e, ← hn]; exact ⟨g, o, cc, rfl, hA, hle, Turned.refl _ _⟩)
  have HNew := Lib.hid (fun (k : Nat) (w7 : World) (a7 : Option Addr) (j c7 : Nat) (e : addT l s = l.take k ++ s :: l.drop k) (hj : j = (l.take k ++ s :: l.drop k).length) (hst : Still w w7) (hown : w7.ownsRow w.heap.size 9 1 (.slice a7 j c7) j (txs (l.take k ++ s :: l.drop k))) => show RoTexts w (addT l s) (addT l s).length (.returned (.slice a7 j c7)) w7 from by
    rw [e, ← hj]
    obtain ⟨g7, _, e7, _⟩ := ow_blk hown (by rw [hj, List.length_append, List.length_cons]; omega)
    subst e7
    exact ⟨g7, 0, c7, rfl, TextsAt.of_own hown hj, (ow_le hown).1, hst⟩)
  unfold tx
  clear hA hn
  go_enter Tryz.func71, Tryz.ntmps71
  go_wp2_with fail
  go_loopw [5] (fun i wr => ∃ k : Nat, k ≤ n ∧ i = .int .i64 k ∧ (∀ j x, j < k → l[j]? = some x → Op.bytesLess x s = true) ∧ wr = w) (fun i _ => n - (intOf i).toNat)
  case atStart => exact ⟨0, Nat.zero_le _, rfl, fun j x h => absurd h (Nat.not_lt_zero _), rfl⟩
  case round =>
    obtain ⟨k, hk, rfl, hlo, rfl⟩ := hrel
    have HLo := Lib.hid hlo
    clear hlo
    by_cases hlt : k < n ∧ ∃ x, l[k]? = some x ∧ Op.bytesLess x s = true
    · obtain ⟨hkn, x, hx, hxs⟩ := hlt
      obtain ⟨g', o', e, hc⟩ := HA.out k x hx
      cases e
      unfold tx at hc
      have HX := Lib.hid hx
      clear hx
      go_wp2_with fail
      go_roundw
      case rel =>
        refine ⟨k + 1, by omega, by go_num, fun j y hj hy => ?_, by trivial⟩
        rcases Nat.lt_succ_iff_lt_or_eq.1 hj with h | h
        · exact HLo.out j y h hy
        · subst h; rw [HX.out] at hy; cases hy; exact hxs
      case measure => simp [intOf]; omega
    · have hno : ∀ x, l[k]? = some x → Op.bytesLess x s = false := fun x hx => by
        cases hb : Op.bytesLess x s with
        | false => rfl
        | true => exact absurd ⟨by rw [HN.out]; exact get_lt hx, x, hx, hb⟩ hlt
      have hadd := addT_at HLo.out (by rw [← HN.out]; exact hk) hno
      have HNo := Lib.hid hno
      clear hno hlt
      have hsp : (k < n ∧ l[k]? = some s ∧ addT l s = l) ∨ (addT l s = l.take k ++ s :: l.drop k ∧ ((∃ x, k < n ∧ l[k]? = some x ∧ x ≠ s) ∨ k = n)) := by
        by_cases e : l[k]? = some s
        · exact .inl ⟨by rw [HN.out]; exact get_lt e, e, by rw [hadd, if_pos e]⟩
        · refine .inr ⟨by rw [hadd, if_neg e], ?_⟩
          rcases Nat.lt_or_ge k n with h | h
          · obtain ⟨x, hx⟩ := get_some (l := l) (i := k) (by rw [← HN.out]; exact h)
            exact .inl ⟨x, h, hx, fun h' => e (by rw [hx, h'])⟩
          · exact .inr (by omega)
      clear hadd
      rcases hsp with ⟨hkn, hx, he⟩ | ⟨he, hsp⟩
      · obtain ⟨g', o', e, hc⟩ := HA.out k s hx
        cases e
        unfold tx at hc
        have hbs := HNo.out s hx
        have HE := Lib.hid (HSame.out he)
        clear hx he HA HNew HSame
        go_wp2_with fail
        go_ret
        exact HE.out
      · have HE := Lib.hid he
        have hF1 := fun V (h : Still wr V) (j : Nat) (u : Value) (hj : (txs (l.take k))[j]? = some u) => show V.cell? ((⟨g, o, none⟩ : Addr).add j) = some u from by
          simp only [txs, List.getElem?_map, Option.map_eq_some_iff] at hj
          obtain ⟨x, hx, rfl⟩ := hj
          obtain ⟨b', o', e, hc⟩ := ((HA.out.still h).take k) j x hx
          cases e
          rw [Addr.add_lit]; exact hc
        have hF1' := Lib.hid hF1
        have hF2 := Lib.hid (fun V (h : Still wr V) (j : Nat) (u : Value) (hj : (txs (l.drop k))[j]? = some u) => show V.cell? ((⟨g, o + k, none⟩ : Addr).add j) = some u from by
          simp only [txs, List.getElem?_map, Option.map_eq_some_iff, List.getElem?_drop] at hj
          obtain ⟨x, hx, rfl⟩ := hj
          obtain ⟨b', o', e, hc⟩ := (HA.out.still h) (k + j) x hx
          cases e
          rw [Addr.add_lit, Nat.add_assoc]; exact hc)
        have HL1 := Lib.hid (show (txs (l.take k)).length = k * 1 by rw [txs_length, List.length_take]; have := HN.out; omega)
        have HL2 := Lib.hid (show (txs (l.drop k)).length = (n - k) * 1 by rw [txs_length, List.length_drop]; have := HN.out; omega)
        have HLL := Lib.hid (show (l.take k ++ s :: l.drop k).length = k + 1 + (n - k) by rw [List.length_append, List.length_cons, List.length_take, List.length_drop]; have := HN.out; omega)
        have HEnd := Lib.hid (HNew.out k)
        have HT := Lib.hid (fun l => txs_one l)
        have hkn : (k : Int) ≤ (n : Int) := by omega
        have hkc : (k : Int) ≤ (cc : Int) := by omega
        have HWA := Lib.hid (show (wr.alloc (.cells #[] 9)).drew.ownsRow wr.heap.size 9 1 (.slice (some ⟨wr.heap.size, 0, none⟩) 0 0) 0 [] from ow_still (World.ownsRow_made wr #[] 0 (Nat.le_refl _) (by simp) (by simp)) (Turned.refl _ _).drew)
        have hbs : ∀ x, l[k]? = some x → Op.bytesLess x s = false := HNo.out
        have HSA := Lib.hid (show Still wr (wr.alloc (.cells #[] 9)).drew from ((Turned.refl _ _).alloc _).drew)
        have HSB := Lib.hid (show Still wr ((wr.alloc (.cells #[] 9)).alloc (.cells #[tx s] 9)).drew from (((Turned.refl _ _).alloc _).alloc _).drew)
        have HSC := Lib.hid (show Still wr ((wr.alloc (.cells #[tx s] 9)).alloc (.cells #[] 9)).drew from (((Turned.refl _ _).alloc _).alloc _).drew)
        have HWB := Lib.hid (show ((wr.alloc (.cells #[] 9)).alloc (.cells #[tx s] 9)).drew.ownsRow wr.heap.size 9 1 (.slice (some ⟨wr.heap.size, 0, none⟩) 0 0) 0 [] from ow_still (World.ownsRow_made (e := 9) (size := 1) (base := wr.heap.size) wr #[] 0 (Nat.le_refl _) (by simp) (by simp)) ((Turned.refl (fun _ => False) _).alloc _).drew)
        have HWC := Lib.hid (show ((wr.alloc (.cells #[tx s] 9)).alloc (.cells #[] 9)).drew.ownsRow wr.heap.size 9 1 (.slice (some ⟨wr.heap.size + 1, 0, none⟩) 0 0) 0 [] from by
          have := ow_still (World.ownsRow_made (e := 9) (size := 1) (base := wr.heap.size) (wr.alloc (.cells #[tx s] 9)) #[] 0 (by simp) (by simp) (by simp)) (Turned.refl (fun _ => False) _).drew
          simpa using this)
        have HBB := Lib.hid (show Blk ((wr.alloc (.cells #[] 9)).alloc (.cells #[tx s] 9)).drew (wr.heap.size + 1) [tx s] 9 from (Blk.newAt _ [tx s] _ (by simp) rfl).drew)
        have HBC := Lib.hid (show Blk ((wr.alloc (.cells #[tx s] 9)).alloc (.cells #[] 9)).drew wr.heap.size [tx s] 9 from ((Blk.new wr [tx s] _).alloc _).drew)
        have HCs := Lib.hid (fun (W : World) (b : Nat) (h : Blk W b [tx s] 9) => show ∀ (j : Nat) (u : Value), [tx s][j]? = some u → W.cell? ((⟨b, 0, none⟩ : Addr).add j) = some u from fun j u hj => by rw [Addr.add_lit, Nat.zero_add]; exact h.cell hj)
        have HTwo := Lib.hid (fun (w6 w7 : World) (a6 : Option Addr) (m c6 : Nat) (xs : List Value) (h : w6.ownsRow wr.heap.size 9 1 (.slice a6 m c6) m xs) (hs : Still wr w6) (hg : w6.grownBy w7 (Value.slice a6 m c6).ownBlock) => show Still wr w7 from by
          refine hs.grown hg (fun i e => .inr ?_)
          cases a6 with
          | none => cases e
          | some x => have := (ow_lt h x rfl).1; have e' : x.block = i := by simpa [Value.ownBlock] using e
                      omega)
        unfold tx at HSB HSC HWB HWC HBB HBC HCs
        rcases hsp with ⟨x, hkn', hx, hne⟩ | hkn'
        · obtain ⟨g', o', e, hc⟩ := HA.out k x hx
          cases e
          unfold tx at hc
          have hxs := hbs x hx
          have hb : (x == s) = false := by simpa using hne
          clear hx he hF1 hbs HNo HLo hne HNew HSame HA
          go_upto_region 6 with fail
          have hcap : ¬ cc = k := by omega
          have hne : ¬ cc = k := hcap
          go_region_law (first
            | (refine step_app_own rfl (.tmp 33) (.tmp 36) 23 rfl wr.heap.size 9 i0 _ 1 16 Tryz.underlying23 hi hz0 hz1 hz2 rfl (by decide) (.slice (some ⟨wr.heap.size, 0, none⟩) 0 0) 0 [] rfl HWA.out ⟨g, o, none⟩ k cc (txs (l.take k)) rfl HL1.out (hF1'.out _ HSA.out) (HT.out _) (by unfold maxLen; omega) (by omega) HSA.out.size ?_; intro v6 w6 hown6 hg6 hat6; obtain ⟨a6, c6, rfl⟩ := ow_slice hown6; rw [Nat.zero_add, List.nil_append] at hown6; have HO6 := Lib.hid hown6; have HS6 := Lib.hid (HSA.out.grown hg6 (fun i e => .inr (by simp [Value.ownBlock] at e; omega))); clear hown6 hg6 hat6)
            | (refine step_app_own rfl (.tmp 33) (.tmp 36) 23 rfl wr.heap.size 9 i0 _ 1 16 Tryz.underlying23 hi hz0 hz1 hz2 rfl (by decide) (.slice (some ⟨wr.heap.size, 0, none⟩) 0 0) 0 [] rfl HWB.out ⟨g, o, none⟩ k cc (txs (l.take k)) rfl HL1.out (hF1'.out _ HSB.out) (HT.out _) (by unfold maxLen; omega) (by omega) HSB.out.size ?_; intro v6 w6 hown6 hg6 hat6; obtain ⟨a6, c6, rfl⟩ := ow_slice hown6; rw [Nat.zero_add, List.nil_append] at hown6; have HO6 := Lib.hid hown6; have HXs := Lib.hid (HBB.out.turned ((Turned.refl (fun i => some wr.heap.size = some i) _).grown hg6 (fun i e => .inl e)) (by simp)); have HS6 := Lib.hid (HSB.out.grown hg6 (fun i e => .inr (by simp [Value.ownBlock] at e; omega))); clear hown6 hg6 hat6)
            | (refine step_app_own rfl (.tmp 33) (.tmp 36) 23 rfl wr.heap.size 9 i0 _ 1 16 Tryz.underlying23 hi hz0 hz1 hz2 rfl (by decide) (.slice (some ⟨(wr.heap.size + 1), 0, none⟩) 0 0) 0 [] rfl HWC.out ⟨g, o, none⟩ k cc (txs (l.take k)) rfl HL1.out (hF1'.out _ HSC.out) (HT.out _) (by unfold maxLen; omega) (by omega) HSC.out.size ?_; intro v6 w6 hown6 hg6 hat6; obtain ⟨a6, c6, rfl⟩ := ow_slice hown6; rw [Nat.zero_add, List.nil_append] at hown6; have HO6 := Lib.hid hown6; have HXs := Lib.hid (HBC.out.turned ((Turned.refl (fun i => some (wr.heap.size + 1) = some i) _).grown hg6 (fun i e => .inl e)) (by simp)); have HS6 := Lib.hid (HSC.out.grown hg6 (fun i e => .inr (by simp [Value.ownBlock] at e; omega))); clear hown6 hg6 hat6)
            | (refine step_app_own rfl (.tmp 37) (.tmp 39) 23 rfl wr.heap.size 9 i0 _ 1 16 Tryz.underlying23 hi hz0 hz1 hz2 rfl (by decide) (.slice a6 k c6) k (txs (l.take k)) rfl (ow_still HO6.out ((Turned.refl _ _).alloc _)) ⟨w6.heap.size, 0, none⟩ 1 1 [tx s] rfl rfl (ow_cells w6 _ _) (fun u hu => by simp at hu; subst hu; rfl) (by unfold maxLen; omega) (by omega) (HS6.out.alloc _).size ?_; intro v7 w7 hown7 hg7 hat7; obtain ⟨a7, c7, rfl⟩ := ow_slice hown7; have HO7 := Lib.hid hown7; have HS7 := Lib.hid (HTwo.out _ _ _ _ _ _ (ow_still HO6.out ((Turned.refl _ _).alloc _)) (HS6.out.alloc _) hg7); clear hown7 hg7 hat7)
            | (refine step_app_own rfl (.tmp 37) (.tmp 39) 23 rfl wr.heap.size 9 i0 _ 1 16 Tryz.underlying23 hi hz0 hz1 hz2 rfl (by decide) (.slice a6 k c6) k (txs (l.take k)) rfl HO6.out ⟨(wr.heap.size + 1), 0, none⟩ 1 1 [tx s] rfl rfl (HCs.out _ _ HXs.out) (fun u hu => by simp at hu; subst hu; rfl) (by unfold maxLen; omega) (by omega) HS6.out.size ?_; intro v7 w7 hown7 hg7 hat7; obtain ⟨a7, c7, rfl⟩ := ow_slice hown7; have HO7 := Lib.hid hown7; have HS7 := Lib.hid (HTwo.out _ _ _ _ _ _ HO6.out HS6.out hg7); clear hown7 hg7 hat7)
            | (refine step_app_own rfl (.tmp 37) (.tmp 39) 23 rfl wr.heap.size 9 i0 _ 1 16 Tryz.underlying23 hi hz0 hz1 hz2 rfl (by decide) (.slice a6 k c6) k (txs (l.take k)) rfl HO6.out ⟨wr.heap.size, 0, none⟩ 1 1 [tx s] rfl rfl (HCs.out _ _ HXs.out) (fun u hu => by simp at hu; subst hu; rfl) (by unfold maxLen; omega) (by omega) HS6.out.size ?_; intro v7 w7 hown7 hg7 hat7; obtain ⟨a7, c7, rfl⟩ := ow_slice hown7; have HO7 := Lib.hid hown7; have HS7 := Lib.hid (HTwo.out _ _ _ _ _ _ HO6.out HS6.out hg7); clear hown7 hg7 hat7)
            | (((with_reducible apply step_app_own (s := .tmp 40) (x := .tmp 43) (t := 23) (base := wr.heap.size) (e := 9) (i := i0) (size := 1) (bytes := 16) (v := (.slice a7 (k + 1) c7)) (n := k + 1) (xs := txs (l.take k) ++ [tx s]) (ad := ⟨g, o + k, none⟩) (m := (n - k)) (c := (cc - k)) (news := (txs (l.drop k))))); (case hg => rfl); (case hop => rfl); (case ht => exact Tryz.underlying23); (case hi => exact hi); (case hz => exact hz0); (case hsize => exact hz1); (case hby => exact hz2); (case hzs => rfl); (case hsz => decide); (case hs => rfl); (case hown => exact HO7.out); (case hx => rfl); (case hl => exact HL2.out); (case hnews => exact (hF2.out _ HS7.out)); (case h1 => exact (HT.out _)); (case h63 => (unfold maxLen; omega)); (case hbytes => omega); (case hbase => exact HS7.out.size); (intro v8 w8 hown8 hg8 hat8; obtain ⟨a8, c8, rfl⟩ := ow_slice hown8; rw [List.append_assoc] at hown8; have HO8 := Lib.hid hown8; have HS8 := Lib.hid (HTwo.out _ _ _ _ _ _ HO7.out HS7.out hg8); clear hown8 hg8 hat8)))
          all_goals (go_wp2_with fail)
          all_goals (go_ret; exact HEnd.out _ _ _ _ HE.out HLL.out.symm HS8.out (by simpa [txs] using HO8.out))
        · subst hkn'
          clear he hF1 hbs HNo HLo HNew HSame HA
          go_upto_region 6 with fail
          by_cases hcap : cc = k
          · subst hcap
            have HLL := Lib.hid (show (l.take cc ++ s :: l.drop cc).length = cc + 1 + 0 by rw [HLL.out]; omega)
            have HD := Lib.hid (show l.drop cc = [] from List.drop_of_length_le (by rw [← HN.out]; exact Nat.le_refl _))
            go_region_law (first
              | (refine step_app_own rfl (.tmp 33) (.tmp 36) 23 rfl wr.heap.size 9 i0 _ 1 16 Tryz.underlying23 hi hz0 hz1 hz2 rfl (by decide) (.slice (some ⟨wr.heap.size, 0, none⟩) 0 0) 0 [] rfl HWA.out ⟨g, o, none⟩ cc cc (txs (l.take cc)) rfl HL1.out (hF1'.out _ HSA.out) (HT.out _) (by unfold maxLen; omega) (by omega) HSA.out.size ?_; intro v6 w6 hown6 hg6 hat6; obtain ⟨a6, c6, rfl⟩ := ow_slice hown6; rw [Nat.zero_add, List.nil_append] at hown6; have HO6 := Lib.hid hown6; have HS6 := Lib.hid (HSA.out.grown hg6 (fun i e => .inr (by simp [Value.ownBlock] at e; omega))); clear hown6 hg6 hat6)
              | (refine step_app_own rfl (.tmp 33) (.tmp 36) 23 rfl wr.heap.size 9 i0 _ 1 16 Tryz.underlying23 hi hz0 hz1 hz2 rfl (by decide) (.slice (some ⟨wr.heap.size, 0, none⟩) 0 0) 0 [] rfl HWB.out ⟨g, o, none⟩ cc cc (txs (l.take cc)) rfl HL1.out (hF1'.out _ HSB.out) (HT.out _) (by unfold maxLen; omega) (by omega) HSB.out.size ?_; intro v6 w6 hown6 hg6 hat6; obtain ⟨a6, c6, rfl⟩ := ow_slice hown6; rw [Nat.zero_add, List.nil_append] at hown6; have HO6 := Lib.hid hown6; have HXs := Lib.hid (HBB.out.turned ((Turned.refl (fun i => some wr.heap.size = some i) _).grown hg6 (fun i e => .inl e)) (by simp)); have HS6 := Lib.hid (HSB.out.grown hg6 (fun i e => .inr (by simp [Value.ownBlock] at e; omega))); clear hown6 hg6 hat6)
              | (refine step_app_own rfl (.tmp 33) (.tmp 36) 23 rfl wr.heap.size 9 i0 _ 1 16 Tryz.underlying23 hi hz0 hz1 hz2 rfl (by decide) (.slice (some ⟨(wr.heap.size + 1), 0, none⟩) 0 0) 0 [] rfl HWC.out ⟨g, o, none⟩ cc cc (txs (l.take cc)) rfl HL1.out (hF1'.out _ HSC.out) (HT.out _) (by unfold maxLen; omega) (by omega) HSC.out.size ?_; intro v6 w6 hown6 hg6 hat6; obtain ⟨a6, c6, rfl⟩ := ow_slice hown6; rw [Nat.zero_add, List.nil_append] at hown6; have HO6 := Lib.hid hown6; have HXs := Lib.hid (HBC.out.turned ((Turned.refl (fun i => some (wr.heap.size + 1) = some i) _).grown hg6 (fun i e => .inl e)) (by simp)); have HS6 := Lib.hid (HSC.out.grown hg6 (fun i e => .inr (by simp [Value.ownBlock] at e; omega))); clear hown6 hg6 hat6)
              | (refine step_app_own rfl (.tmp 37) (.tmp 39) 23 rfl wr.heap.size 9 i0 _ 1 16 Tryz.underlying23 hi hz0 hz1 hz2 rfl (by decide) (.slice a6 cc c6) cc (txs (l.take cc)) rfl (ow_still HO6.out ((Turned.refl _ _).alloc _)) ⟨w6.heap.size, 0, none⟩ 1 1 [tx s] rfl rfl (ow_cells w6 _ _) (fun u hu => by simp at hu; subst hu; rfl) (by unfold maxLen; omega) (by omega) (HS6.out.alloc _).size ?_; intro v7 w7 hown7 hg7 hat7; obtain ⟨a7, c7, rfl⟩ := ow_slice hown7; have HO7 := Lib.hid hown7; have HS7 := Lib.hid (HTwo.out _ _ _ _ _ _ (ow_still HO6.out ((Turned.refl _ _).alloc _)) (HS6.out.alloc _) hg7); clear hown7 hg7 hat7)
              | (refine step_app_own rfl (.tmp 37) (.tmp 39) 23 rfl wr.heap.size 9 i0 _ 1 16 Tryz.underlying23 hi hz0 hz1 hz2 rfl (by decide) (.slice a6 cc c6) cc (txs (l.take cc)) rfl HO6.out ⟨(wr.heap.size + 1), 0, none⟩ 1 1 [tx s] rfl rfl (HCs.out _ _ HXs.out) (fun u hu => by simp at hu; subst hu; rfl) (by unfold maxLen; omega) (by omega) HS6.out.size ?_; intro v7 w7 hown7 hg7 hat7; obtain ⟨a7, c7, rfl⟩ := ow_slice hown7; have HO7 := Lib.hid hown7; have HS7 := Lib.hid (HTwo.out _ _ _ _ _ _ HO6.out HS6.out hg7); clear hown7 hg7 hat7)
              | (refine step_app_own rfl (.tmp 37) (.tmp 39) 23 rfl wr.heap.size 9 i0 _ 1 16 Tryz.underlying23 hi hz0 hz1 hz2 rfl (by decide) (.slice a6 cc c6) cc (txs (l.take cc)) rfl HO6.out ⟨wr.heap.size, 0, none⟩ 1 1 [tx s] rfl rfl (HCs.out _ _ HXs.out) (fun u hu => by simp at hu; subst hu; rfl) (by unfold maxLen; omega) (by omega) HS6.out.size ?_; intro v7 w7 hown7 hg7 hat7; obtain ⟨a7, c7, rfl⟩ := ow_slice hown7; have HO7 := Lib.hid hown7; have HS7 := Lib.hid (HTwo.out _ _ _ _ _ _ HO6.out HS6.out hg7); clear hown7 hg7 hat7)
              | (((with_reducible apply step_app_own (s := .tmp 40) (x := .tmp 43) (t := 23) (base := wr.heap.size) (e := 9) (i := i0) (size := 1) (bytes := 16) (v := (.slice a7 (cc + 1) c7)) (n := cc + 1) (xs := txs (l.take cc) ++ [tx s]) (ad := ⟨g, o, none⟩) (m := 0) (c := 0) (news := []))); (case hg => rfl); (case hop => rfl); (case ht => exact Tryz.underlying23); (case hi => exact hi); (case hz => exact hz0); (case hsize => exact hz1); (case hby => exact hz2); (case hzs => rfl); (case hsz => decide); (case hs => rfl); (case hown => exact HO7.out); (case hx => rfl); (case hl => exact rfl); (case hnews => exact (fun j u h => by simp at h)); (case h1 => exact (fun u h => by simp at h)); (case h63 => (unfold maxLen; omega)); (case hbytes => omega); (case hbase => exact HS7.out.size); (intro v8 w8 hown8 hg8 hat8; obtain ⟨a8, c8, rfl⟩ := ow_slice hown8; rw [List.append_nil] at hown8; have HO8 := Lib.hid hown8; have HS8 := Lib.hid (HTwo.out _ _ _ _ _ _ HO7.out HS7.out hg8); clear hown8 hg8 hat8)))
            all_goals (go_wp2_with fail)
            all_goals (go_ret; exact HEnd.out _ _ _ _ HE.out HLL.out.symm HS8.out (by rw [HD.out]; simpa [txs] using HO8.out))
          · have hne : ¬ cc = k := hcap
            have HLL := Lib.hid (show (l.take k ++ s :: l.drop k).length = k + 1 + 0 by rw [HLL.out]; omega)
            have HD := Lib.hid (show l.drop k = [] from List.drop_of_length_le (by rw [← HN.out]; exact Nat.le_refl _))
            go_region_law (first
              | (refine step_app_own rfl (.tmp 33) (.tmp 36) 23 rfl wr.heap.size 9 i0 _ 1 16 Tryz.underlying23 hi hz0 hz1 hz2 rfl (by decide) (.slice (some ⟨wr.heap.size, 0, none⟩) 0 0) 0 [] rfl HWA.out ⟨g, o, none⟩ k cc (txs (l.take k)) rfl HL1.out (hF1'.out _ HSA.out) (HT.out _) (by unfold maxLen; omega) (by omega) HSA.out.size ?_; intro v6 w6 hown6 hg6 hat6; obtain ⟨a6, c6, rfl⟩ := ow_slice hown6; rw [Nat.zero_add, List.nil_append] at hown6; have HO6 := Lib.hid hown6; have HS6 := Lib.hid (HSA.out.grown hg6 (fun i e => .inr (by simp [Value.ownBlock] at e; omega))); clear hown6 hg6 hat6)
              | (refine step_app_own rfl (.tmp 33) (.tmp 36) 23 rfl wr.heap.size 9 i0 _ 1 16 Tryz.underlying23 hi hz0 hz1 hz2 rfl (by decide) (.slice (some ⟨wr.heap.size, 0, none⟩) 0 0) 0 [] rfl HWB.out ⟨g, o, none⟩ k cc (txs (l.take k)) rfl HL1.out (hF1'.out _ HSB.out) (HT.out _) (by unfold maxLen; omega) (by omega) HSB.out.size ?_; intro v6 w6 hown6 hg6 hat6; obtain ⟨a6, c6, rfl⟩ := ow_slice hown6; rw [Nat.zero_add, List.nil_append] at hown6; have HO6 := Lib.hid hown6; have HXs := Lib.hid (HBB.out.turned ((Turned.refl (fun i => some wr.heap.size = some i) _).grown hg6 (fun i e => .inl e)) (by simp)); have HS6 := Lib.hid (HSB.out.grown hg6 (fun i e => .inr (by simp [Value.ownBlock] at e; omega))); clear hown6 hg6 hat6)
              | (refine step_app_own rfl (.tmp 33) (.tmp 36) 23 rfl wr.heap.size 9 i0 _ 1 16 Tryz.underlying23 hi hz0 hz1 hz2 rfl (by decide) (.slice (some ⟨(wr.heap.size + 1), 0, none⟩) 0 0) 0 [] rfl HWC.out ⟨g, o, none⟩ k cc (txs (l.take k)) rfl HL1.out (hF1'.out _ HSC.out) (HT.out _) (by unfold maxLen; omega) (by omega) HSC.out.size ?_; intro v6 w6 hown6 hg6 hat6; obtain ⟨a6, c6, rfl⟩ := ow_slice hown6; rw [Nat.zero_add, List.nil_append] at hown6; have HO6 := Lib.hid hown6; have HXs := Lib.hid (HBC.out.turned ((Turned.refl (fun i => some (wr.heap.size + 1) = some i) _).grown hg6 (fun i e => .inl e)) (by simp)); have HS6 := Lib.hid (HSC.out.grown hg6 (fun i e => .inr (by simp [Value.ownBlock] at e; omega))); clear hown6 hg6 hat6)
              | (refine step_app_own rfl (.tmp 37) (.tmp 39) 23 rfl wr.heap.size 9 i0 _ 1 16 Tryz.underlying23 hi hz0 hz1 hz2 rfl (by decide) (.slice a6 k c6) k (txs (l.take k)) rfl (ow_still HO6.out ((Turned.refl _ _).alloc _)) ⟨w6.heap.size, 0, none⟩ 1 1 [tx s] rfl rfl (ow_cells w6 _ _) (fun u hu => by simp at hu; subst hu; rfl) (by unfold maxLen; omega) (by omega) (HS6.out.alloc _).size ?_; intro v7 w7 hown7 hg7 hat7; obtain ⟨a7, c7, rfl⟩ := ow_slice hown7; have HO7 := Lib.hid hown7; have HS7 := Lib.hid (HTwo.out _ _ _ _ _ _ (ow_still HO6.out ((Turned.refl _ _).alloc _)) (HS6.out.alloc _) hg7); clear hown7 hg7 hat7)
              | (refine step_app_own rfl (.tmp 37) (.tmp 39) 23 rfl wr.heap.size 9 i0 _ 1 16 Tryz.underlying23 hi hz0 hz1 hz2 rfl (by decide) (.slice a6 k c6) k (txs (l.take k)) rfl HO6.out ⟨(wr.heap.size + 1), 0, none⟩ 1 1 [tx s] rfl rfl (HCs.out _ _ HXs.out) (fun u hu => by simp at hu; subst hu; rfl) (by unfold maxLen; omega) (by omega) HS6.out.size ?_; intro v7 w7 hown7 hg7 hat7; obtain ⟨a7, c7, rfl⟩ := ow_slice hown7; have HO7 := Lib.hid hown7; have HS7 := Lib.hid (HTwo.out _ _ _ _ _ _ HO6.out HS6.out hg7); clear hown7 hg7 hat7)
              | (refine step_app_own rfl (.tmp 37) (.tmp 39) 23 rfl wr.heap.size 9 i0 _ 1 16 Tryz.underlying23 hi hz0 hz1 hz2 rfl (by decide) (.slice a6 k c6) k (txs (l.take k)) rfl HO6.out ⟨wr.heap.size, 0, none⟩ 1 1 [tx s] rfl rfl (HCs.out _ _ HXs.out) (fun u hu => by simp at hu; subst hu; rfl) (by unfold maxLen; omega) (by omega) HS6.out.size ?_; intro v7 w7 hown7 hg7 hat7; obtain ⟨a7, c7, rfl⟩ := ow_slice hown7; have HO7 := Lib.hid hown7; have HS7 := Lib.hid (HTwo.out _ _ _ _ _ _ HO6.out HS6.out hg7); clear hown7 hg7 hat7)
              | (((with_reducible apply step_app_own (s := .tmp 40) (x := .tmp 43) (t := 23) (base := wr.heap.size) (e := 9) (i := i0) (size := 1) (bytes := 16) (v := (.slice a7 (k + 1) c7)) (n := k + 1) (xs := txs (l.take k) ++ [tx s]) (ad := ⟨g, o + k, none⟩) (m := 0) (c := (cc - k)) (news := []))); (case hg => rfl); (case hop => rfl); (case ht => exact Tryz.underlying23); (case hi => exact hi); (case hz => exact hz0); (case hsize => exact hz1); (case hby => exact hz2); (case hzs => rfl); (case hsz => decide); (case hs => rfl); (case hown => exact HO7.out); (case hx => rfl); (case hl => exact rfl); (case hnews => exact (fun j u h => by simp at h)); (case h1 => exact (fun u h => by simp at h)); (case h63 => (unfold maxLen; omega)); (case hbytes => omega); (case hbase => exact HS7.out.size); (intro v8 w8 hown8 hg8 hat8; obtain ⟨a8, c8, rfl⟩ := ow_slice hown8; rw [List.append_nil] at hown8; have HO8 := Lib.hid hown8; have HS8 := Lib.hid (HTwo.out _ _ _ _ _ _ HO7.out HS7.out hg8); clear hown8 hg8 hat8)))
            all_goals (go_wp2_with fail)
            all_goals (go_ret; exact HEnd.out _ _ _ _ HE.out HLL.out.symm HS8.out (by rw [HD.out]; simpa [txs] using HO8.out))
end Go.Proofs.YtpmkokckjieidaaGreatDoor

/- What Filters of the document's tree does. No condition but that the tree is one. -/
namespace Go.Proofs.YtpmkokckjieidaaGreatDoor
open Go.RowKit
set_option linter.unusedVariables false
set_option linter.unusedSimpArgs false
set_option maxRecDepth 100000

theorem flL_step {L : List Pr} {k : Nat} {p : Pr} (h : L[k]? = some p) : flL (L.take (k + 1)) = addT (flL (L.take k)) p.1 := by
  unfold flL
  rw [List.take_add_one, h, List.foldl_append]; rfl
theorem flL_len (L : List Pr) : (flL L).length ≤ L.length := by
  suffices h : ∀ (L : List Pr) (out : List Txt), (L.foldl (fun out p => addT out p.1) out).length ≤ out.length + L.length by
    have := h L []; simpa [flL] using this
  intro L
  induction L with
  | nil => intro out; simp
  | cons p L ih =>
    intro out
    have h1 := ih (addT out p.1)
    have h2 := addT_len out p.1
    simp only [List.foldl_cons, List.length_cons]
    omega
theorem flL_len_take (L : List Pr) (k : Nat) : (flL (L.take k)).length ≤ k := by
  have := flL_len (L.take k)
  rw [List.length_take] at this; omega

set_option maxHeartbeats 1000000 in
theorem ztfilters_any {w : World} {W : Nat → Prop} {q : Nat} {L : List Pr} (H0 : (zgT q L).at_ w W) (hlen : L.length ≤ 256) :
    Calls Tryz.prog 53 #[.pointer (some ⟨q, 0, none⟩)] w (RoTexts w (flL L) (flL L).length) := by
  obtain ⟨la, lc, H⟩ := H0
  obtain ⟨m, hm⟩ : ∃ m, m = L.length := ⟨_, rfl⟩
  have hmm : m ≤ 256 := by omega
  have HCl := Lib.hid (fun V (h : Still w V) => show V.cell? ⟨q, 0, none⟩ = some (.slice la m lc) from hm ▸ (H.still h).cell)
  have c0 := HCl.out w (Turned.refl _ _)
  have HP := Lib.hid (fun V (hst : Still w V) k (hk : k < m) => show ∃ g p, L[k]? = some p ∧ la = some ⟨g, 0, none⟩ ∧ V.cell? ⟨g, k * 2, none⟩ = some (tx p.1) from by
    obtain ⟨p, hp⟩ := get_some (l := L) (i := k) (by omega)
    obtain ⟨g, h1, h2, h3⟩ := (H.still hst).place hp
    exact ⟨g, p, hp, h1, h2⟩)
  have HL := Lib.hid (show L.take m = L from List.take_of_length_le (by omega))
  have HLn := Lib.hid (fun k => flL_len_take L k)
  have HE := Lib.hid (fun (V : World) (g o n c : Nat) (h1 : n = (flL L).length) (h2 : TextsAt V (some ⟨g, o, none⟩) (flL L)) (h3 : n ≤ c) (h4 : Still w V) => show RoTexts w (flL L) (flL L).length (.returned (.slice (some ⟨g, o, none⟩) n c)) V from by
    rw [← h1]; exact ⟨g, o, c, rfl, h2, h3, h4⟩)
  clear H hm hlen
  go_enter Tryz.func53, Tryz.ntmps53
  go_wp2_with fail
  clear c0
  go_loopw [3, 4] (fun out i wr => ∃ (k n g o c : Nat), k ≤ m ∧ i = .int .i64 k ∧ n = (flL (L.take k)).length ∧ out = .slice (some ⟨g, o, none⟩) n c ∧ n ≤ c ∧ TextsAt wr (some ⟨g, o, none⟩) (flL (L.take k)) ∧ Still w wr) (fun _ i _ => m - (intOf i).toNat)
  case atStart => exact ⟨0, 0, w.heap.size, 0, 0, Nat.zero_le _, rfl, by simp [flL], rfl, Nat.le_refl _, by simpa [flL] using TextsAt.nil _ _, (Turned.refl _ _).alloc _⟩
  case round =>
    obtain ⟨k, n, g, o, c, hk, rfl, hn, rfl, hnc, hA, hst⟩ := hrel
    have c0 := HCl.out wr hst
    have HN := Lib.hid hn
    have HA := Lib.hid hA
    have HSt := Lib.hid hst
    have hnk : n ≤ k := by rw [hn]; exact HLn.out k
    clear hn hA HCl
    by_cases hlt : k < m
    · obtain ⟨b, ⟨p1, p2⟩, hp, rfl, d0⟩ := HP.out wr hst k hlt
      have hstep := flL_step hp
      dsimp only at d0 hstep
      have HSt2 := Lib.hid hstep
      have HC := Lib.hid (ztadd_any (flL (L.take k)) p1 wr g o n c HN.out HA.out hnc (by omega))
      unfold tx at d0 HC
      clear hp hstep HP hst HE HL
      go_wp2_with (go_at_call 71; ((with_reducible refine HC.out.mono ?_)); rintro e w3 ⟨g3, o3, c3, rfl, h1, h2, h3⟩)
      go_roundw
      case rel => exact ⟨k + 1, _, g3, o3, c3, by omega, by go_num, by rw [HSt2.out], rfl, h2, by rw [HSt2.out]; exact h1, HSt.out.trans h3⟩
      case measure => simp [intOf]; omega
    · obtain rfl : k = m := by omega
      clear HP hst
      go_wp2_with fail
      go_ret
      exact HE.out _ _ _ _ _ (by rw [HN.out, HL.out]) (by rw [← HL.out]; exact HA.out) hnc HSt.out
end Go.Proofs.YtpmkokckjieidaaGreatDoor

/- What Nodes of the document's tree does. No condition but that the tree is one. -/
namespace Go.Proofs.YtpmkokckjieidaaGreatDoor
open Go.RowKit
set_option linter.unusedVariables false
set_option linter.unusedSimpArgs false
set_option maxRecDepth 100000

theorem addT_mem {l : List Txt} {s x : Txt} (h : x ∈ addT l s) : x ∈ l ∨ x = s := by
  induction l with
  | nil => simp [addT] at h; exact .inr h
  | cons y l ih =>
    unfold addT at h
    split at h
    · rcases List.mem_cons.1 h with h | h
      · exact .inl (by simp [h])
      · rcases ih h with h | h
        · exact .inl (by simp [h])
        · exact .inr h
    · split at h
      · exact .inl h
      · rcases List.mem_cons.1 h with h | h
        · exact .inr h
        · exact .inl h
theorem flL_mem {L : List Pr} {x : Txt} (h : x ∈ flL L) : ∃ p ∈ L, p.1 = x := by
  suffices hs : ∀ (L : List Pr) (out : List Txt), x ∈ L.foldl (fun out p => addT out p.1) out → x ∈ out ∨ ∃ p ∈ L, p.1 = x by
    rcases hs L [] h with h | h
    · cases h
    · exact h
  intro L
  induction L with
  | nil => intro out h; exact .inl h
  | cons p L ih =>
    intro out h
    rcases ih _ h with h | ⟨q, hq, e⟩
    · rcases addT_mem h with h | h
      · exact .inl h
      · exact .inr ⟨p, by simp, h.symm⟩
    · exact .inr ⟨q, by simp [hq], e⟩
theorem flL_ok {L : List Pr} (hL : TOk L) {x : Txt} (h : x ∈ flL L) : fcE x = 0 := by
  obtain ⟨p, hp, rfl⟩ := flL_mem h
  exact (hL.ok p hp).1

/-- New beginnings of so many levels; nodes of so many filters. -/
def newTo (all : List Txt) (i : Nat) (s : Txt) (k : Nat) : Nat := ((List.range k).filter fun k => !metB all i (frontT s (k + 1))).length
def ndTo (all : List Txt) (i : Nat) : Nat := 1 + ((List.range i).map fun i => newN all i (all[i]?.getD [])).sum
theorem newTo_step (all : List Txt) (i : Nat) (s : Txt) (k : Nat) : newTo all i s (k + 1) = newTo all i s k + if metB all i (frontT s (k + 1)) = true then 0 else 1 := by
  unfold newTo
  rw [range_step, List.length_append]
  cases metB all i (frontT s (k + 1)) <;> simp
theorem newTo_le (all : List Txt) (i : Nat) (s : Txt) (k : Nat) : newTo all i s k ≤ k := range_len _ k
theorem ndTo_step {all : List Txt} {i : Nat} {x : Txt} (h : all[i]? = some x) : ndTo all (i + 1) = ndTo all i + newTo all i x (spl x).length := by
  unfold ndTo
  have e : all[i]?.getD [] = x := by rw [h]; rfl
  rw [List.range_succ, List.map_append, List.sum_append]
  simp only [List.map_cons, List.map_nil, List.sum_cons, List.sum_nil, e, newN, newTo]; omega
theorem ndTo_le {all : List Txt} (hs : ∀ x ∈ all, (spl x).length ≤ 8) : ∀ {i : Nat}, i ≤ all.length → ndTo all i ≤ 1 + 8 * i
  | 0, _ => by simp [ndTo]
  | i + 1, hi => by
    obtain ⟨x, hx⟩ := get_some (l := all) (i := i) (by omega)
    rw [ndTo_step hx]
    have h1 := ndTo_le hs (i := i) (by omega)
    have h2 := newTo_le all i x (spl x).length
    have h3 := hs x (List.mem_of_getElem? hx)
    omega
theorem metB_step {all : List Txt} {j : Nat} {t : Txt} (h : all[j]? = some t) (fr : Txt) : metB all (j + 1) fr = (metB all j fr || decide ((t ++ [47]).take fr.length = fr)) := by
  unfold metB
  rw [List.take_add_one, h, List.any_append]
  simp
theorem metB_mono {all : List Txt} {j i : Nat} (hji : j ≤ i) {fr : Txt} (h : metB all j fr = true) : metB all i fr = true := by
  unfold metB at *
  rw [List.any_eq_true] at *
  obtain ⟨t, ht, h⟩ := h
  refine ⟨t, ?_, h⟩
  have : all.take j = (all.take i).take j := by rw [List.take_take, Nat.min_eq_left hji]
  rw [this] at ht
  exact List.mem_of_mem_take ht
theorem frontT_step {s : Txt} {k : Nat} {y : Txt} (h : (spl s)[k]? = some y) : frontT s (k + 1) = frontT s k ++ (y ++ [47]) := by
  unfold frontT
  rw [List.take_add_one, h, List.flatMap_append]
  simp
theorem jn_flat : ∀ ls : List Txt, ls ≠ [] → ls.flatMap (fun x => x ++ [47]) = jn ls ++ [47]
  | [], h => absurd rfl h
  | [x], _ => by simp [jn]
  | x :: y :: r, _ => by
    have := jn_flat (y :: r) (by simp)
    rw [List.flatMap_cons, this]; simp [jn]
theorem frontT_len (s : Txt) (k : Nat) : (frontT s k).length ≤ s.length + 1 := by
  have h1 := jn_flat (spl s) (spl_ne s)
  rw [jn_spl] at h1
  have h2 : (spl s).flatMap (fun x => x ++ [47]) = frontT s k ++ ((spl s).drop k).flatMap (fun x => x ++ [47]) := by
    unfold frontT
    rw [← List.flatMap_append, List.take_append_drop]
  rw [h1] at h2
  have := congrArg List.length h2
  simp at this; omega

set_option maxHeartbeats 2000000 in
theorem ztnodes_any {w : World} {W : Nat → Prop} {q : Nat} {L : List Pr} (H0 : (zgT q L).at_ w W) (hL : TOk L) :
    Calls Tryz.prog 54 #[.pointer (some ⟨q, 0, none⟩)] w fun e w' => e = .returned (.int .i64 (ndL L : Nat)) ∧ Still w w' := by
  have HF := Lib.hid (ztfilters_any H0 hL.len)
  have hlen := Nat.le_trans (flL_len L) hL.len
  obtain ⟨F, hF⟩ : ∃ F, F = flL L := ⟨_, rfl⟩
  have hok : ∀ x ∈ F, fcE x = 0 := fun x hx => flL_ok hL (by rw [← hF]; exact hx)
  rw [show ndL L = ndTo F F.length by rw [hF]; rfl]
  rw [← hF] at HF hlen
  clear hF H0 hL
  obtain ⟨n, hn⟩ : ∃ n, n = F.length := ⟨_, rfl⟩
  rw [← hn] at HF hlen ⊢
  have hsz : ∀ x ∈ F, x.length ≤ 64 := fun x hx => (fcE_iff.1 (hok x hx)).2.1
  have hlv : ∀ x ∈ F, (spl x).length ≤ 8 := fun x hx => (fcE_iff.1 (hok x hx)).2.2.2.1
  have HNd := Lib.hid (fun i (h : i ≤ n) => ndTo_le hlv (i := i) (by omega))
  have HX := Lib.hid (fun i (h : i < n) => show ∃ x, F[i]? = some x ∧ x.length ≤ 64 ∧ (spl x).length ≤ 8 from by
    obtain ⟨x, hx⟩ := get_some (l := F) (i := i) (by omega)
    exact ⟨x, hx, hsz x (List.mem_of_getElem? hx), hlv x (List.mem_of_getElem? hx)⟩)
  clear hok hsz hlv hn
  go_enter Tryz.func54, Tryz.ntmps54
  go_wp2_with (go_at_call 53; ((with_reducible refine HF.out.mono ?_)); rintro e V ⟨g, o, c, rfl, hA, hnc, hst⟩)
  have HA := Lib.hid hA
  clear hA HF
  go_loopw [3, 5] (fun cn i wr => ∃ k d : Nat, k ≤ n ∧ i = .int .i64 k ∧ cn = .int .i64 d ∧ d = ndTo F k ∧ Still V wr) (fun _ i _ => n - (intOf i).toNat)
  case atStart => exact ⟨0, 1, Nat.zero_le _, rfl, rfl, by simp [ndTo], Turned.refl _ _⟩
  case round =>
    obtain ⟨k, d, hk, rfl, rfl, hd, hst2⟩ := hrel
    have HD := Lib.hid hd
    have hd1 : d ≤ 1 + 8 * k := by rw [hd]; exact HNd.out k hk
    have HS2 := Lib.hid hst2
    have HS1 := Lib.hid hst
    clear hd
    by_cases hlt : k < n
    · obtain ⟨x, hx, hx64, hx8⟩ := HX.out k hlt
      have HAr := Lib.hid (HA.out.still hst2)
      obtain ⟨g', o', e', c0⟩ := HAr.out k x hx
      cases e'
      obtain ⟨m, hm⟩ : ∃ m, m = (spl x).length := ⟨_, rfl⟩
      have HNs := Lib.hid (ndTo_step hx)
      rw [← hm] at HNs
      have HSp := Lib.hid (bsplit_any x wr m hm (by omega))
      have HM := Lib.hid hm
      have hm8 : m ≤ 8 := by omega
      unfold tx at c0 HSp
      clear hx hm hst hst2 HAr
      go_wp2_with (go_at_call 57; ((with_reducible refine HSp.out.mono ?_)); rintro e V2 ⟨a2, c2, rfl, hO, h2⟩)
      have HSV := Lib.hid (HS2.out.trans h2)
      have HT2 := Lib.hid (TextsAt.of_own hO HM.out)
      have hmc : m ≤ c2 := (ow_le hO).1
      clear HSp hO h2 c0
      go_loopw [3, 7, 8] (fun cn fr jv wr2 => ∃ (j d2 : Nat) (f : Txt), j ≤ m ∧ jv = .int .i64 j ∧ cn = .int .i64 d2 ∧ d2 = d + newTo F k x j ∧ fr = tx f ∧ f = frontT x j ∧ wr2 = V2) (fun _ _ jv _ => m - (intOf jv).toNat)
      case atStart => exact ⟨0, d, [], Nat.zero_le _, rfl, rfl, by simp [newTo], rfl, rfl, rfl⟩
      case round =>
        obtain ⟨j, d2, f, hj, rfl, rfl, hd2, rfl, hf, rfl⟩ := hrel
        have HD2 := Lib.hid hd2
        have hd3 : d2 ≤ d + j := by have := newTo_le F k x j; omega
        have HFr := Lib.hid hf
        clear hd2 hf
        by_cases hjm : j < m
        · obtain ⟨y, hy⟩ := get_some (l := spl x) (i := j) (by rw [← HM.out]; exact hjm)
          obtain ⟨g2, o2, e2, c1⟩ := HT2.out j y hy
          subst e2
          have HF2 := Lib.hid (frontT_step hy)
          have HLen := Lib.hid (frontT_len x (j + 1))
          have HSt := Lib.hid (newTo_step F k x j)
          obtain ⟨fr, hfr⟩ : ∃ fr, fr = frontT x (j + 1) := ⟨_, rfl⟩
          have HFe := Lib.hid hfr
          have hby : ((⟨f.toArray⟩ : ByteArray) ++ ((⟨y.toArray⟩ : ByteArray) ++ ⟨#[47]⟩)) = ⟨fr.toArray⟩ := by
            rw [hfr, HF2.out, HFr.out]
            simp [ByteArray.mk_append_mk]
          have hfy : f.length + y.length ≤ 64 := by
            have := HLen.out; rw [HF2.out, ← HFr.out] at this; simp at this; omega
          have hfl : fr.length ≤ 65 := by rw [hfr]; have := HLen.out; omega
          rw [← hfr] at HSt
          have HB := Lib.hid (fun jj (h : jj < k) => show ∃ t : Txt, t.length ≤ 64 ∧ wr.cell? ⟨g, o + jj, none⟩ = some (.string ⟨t.toArray⟩) ∧ Calls Tryz.prog 72 #[.string ((⟨t.toArray⟩ : ByteArray) ++ ⟨#[47]⟩), .string ⟨fr.toArray⟩] wr (fun e w' => e = .returned (.bool (decide ((t ++ [47]).take fr.length = fr))) ∧ w' = wr) ∧ metB F (jj + 1) fr = (metB F jj fr || decide ((t ++ [47]).take fr.length = fr)) from by
            obtain ⟨t, ht, ht64, _⟩ := HX.out jj (by omega)
            obtain ⟨g', o', e', c0⟩ := (HA.out.still HSV.out) jj t ht
            cases e'
            refine ⟨t, ht64, c0, ?_, metB_step ht fr⟩
            have := begins_any (t ++ [47]) fr wr (by rw [List.length_append]; simp; omega) (by omega)
            have e2 : (⟨t.toArray⟩ : ByteArray) ++ ⟨#[47]⟩ = ⟨(t ++ [47]).toArray⟩ := by simp [ByteArray.mk_append_mk]
            rw [e2]; exact this)
          have HMono := Lib.hid (fun jj (h : jj ≤ k) (hb : metB F jj fr = true) => metB_mono h hb)
          have hjm' : (j : Int) < (m : Int) := by omega
          unfold tx at c1 ⊢
          clear hy hfr HLen HF2 HA HX HNd HT2 HM
          go_wp2_with fail
          clear hby
          go_loopw [9, 10] (fun mt jv wr3 => ∃ (jj : Nat) (b : Bool), jj ≤ k ∧ jv = .int .i64 jj ∧ mt = .bool b ∧ b = metB F jj fr ∧ wr3 = wr) (fun _ jv _ => k - (intOf jv).toNat)
          case atStart => exact ⟨0, false, Nat.zero_le _, rfl, rfl, by simp [metB], rfl⟩
          case round =>
            obtain ⟨jj, b, hjj, rfl, rfl, hb, rfl⟩ := hrel
            have HBm := Lib.hid hb
            clear hb
            cases b with
            | true =>
              have HSt2 := Lib.hid (show newTo F k x (j + 1) = newTo F k x j by rw [HSt.out, if_pos (HMono.out jj hjj HBm.out.symm)]; rfl)
              clear HB
              by_cases hjk : jj < k
              all_goals (go_wp2_with fail)
              all_goals go_roundw
              case rel => exact ⟨j + 1, d2, fr, by omega, by go_num, rfl, by rw [HSt2.out]; exact HD2.out, rfl, HFe.out, by trivial⟩
              case measure => simp [intOf]; omega
              case rel => exact ⟨j + 1, d2, fr, by omega, by go_num, rfl, by rw [HSt2.out]; exact HD2.out, rfl, HFe.out, by trivial⟩
              case measure => simp [intOf]; omega
            | false =>
              by_cases hjk : jj < k
              · obtain ⟨t, htl, ct, hcall, hms⟩ := HB.out jj hjk
                have HCall := Lib.hid hcall
                have HMs := Lib.hid hms
                clear hcall hms HB
                go_wp2_with (go_at_call 72; ((with_reducible refine HCall.out.mono ?_)); rintro e w4 ⟨rfl, rfl⟩)
                go_roundw
                case rel => exact ⟨jj + 1, _, by omega, by go_num, rfl, by rw [HMs.out, ← HBm.out, Bool.false_or], by trivial⟩
                case measure => simp [intOf]; omega
              · obtain rfl : jj = k := by omega
                have HSt2 := Lib.hid (show newTo F jj x (j + 1) = newTo F jj x j + 1 by rw [HSt.out, if_neg (by rw [← HBm.out]; simp)])
                clear HB
                go_wp2_with fail
                go_roundw
                case rel => exact ⟨j + 1, d2 + 1, fr, by omega, by go_num, by go_num, by rw [HSt2.out]; have := HD2.out; omega, rfl, HFe.out, by trivial⟩
                case measure => simp [intOf]; omega
        · obtain rfl : j = m := by omega
          have HDe := Lib.hid (show d2 = ndTo F (k + 1) by rw [HNs.out, HD2.out, HD.out])
          have hlt' : (k : Int) < (n : Int) := by omega
          clear HNs
          go_wp2_with fail
          go_roundw
          case rel => exact ⟨k + 1, d2, by omega, by go_num, rfl, HDe.out, HSV.out⟩
          case measure => simp [intOf]; omega
    · obtain rfl : k = n := by omega
      clear HX
      go_wp2_with fail
      go_ret
      exact ⟨by rw [← HD.out]; rfl, HS1.out.trans HS2.out⟩
end Go.Proofs.YtpmkokckjieidaaGreatDoor
