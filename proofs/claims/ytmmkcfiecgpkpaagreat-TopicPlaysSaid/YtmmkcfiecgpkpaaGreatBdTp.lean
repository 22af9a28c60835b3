/- Texts that lie next to one another, laid into one: each says what it holds. No condition but what each states. -/
import Derived.Test.YtmmkcfiecgpkpaaGreatBdTpM
import Derived.Test.YtmmkcfiecgpkpaaGreatBdRingZ
import Derived.Test.YtmmkcfiecgpkpaaGreatBdName
import Derived.Test.YtmmkcfiecgpkpaaGreatBxRouteChk
import Derived.RangeFuncNested
import Derived.RangeFuncBound
import Derived.RangeFuncCalls
import Derived.RangeFuncLeaves
import Derived.RangeFuncBox
import Derived.Maps.AppendAt
import Derived.Shelf.Abstract
import Derived.OwnWalkIn
import Derived.TacticsInMore
import Derived.LoopNIn
import Derived.LoopIn
import Derived.Test.YtmmkcfiecgpkpaaGreatBdIter
import Derived.Maps.OwnIn
import Derived.Test.YtmmkcfiecgpkpaaGreatBdPart
import Derived.Test.YtmmkcfiecgpkpaaGreatBdPool

/- The program's set of topics, as it lies in memory: what holds a pool and topics, each with a name and a row of partitions. What can be read of it; what its plain readers answer. No condition but that it is one. -/
namespace Go.Proofs.YtmmkcfiecgpkpaaGreat
open Go.RowKit
set_option linter.unusedVariables false
set_option linter.unusedSimpArgs false
set_option maxRecDepth 100000

/-- A topic as it lies: its name, the block of its partitions, and where these lie. -/
abbrev TpZ := Txt × Nat × List Nat
def encTp (z : TpZ) : List Value := [tx z.1, .slice (some ⟨z.2.1, 0, none⟩) z.2.2.length z.2.2.length]
theorem encTp_len (z : TpZ) : (encTp z).length = 2 := rfl
def prtsV (xs : List Nat) : List Value := xs.map fun x => .pointer (some ⟨x, 0, none⟩)
theorem prtsV_get {xs : List Nat} {j x : Nat} (h : xs[j]? = some x) : (prtsV xs)[j]? = some (.pointer (some ⟨x, 0, none⟩)) := by unfold prtsV; rw [List.getElem?_map, h]; rfl
abbrev zonesT (Z : List TpZ) : Thing := allT (fun z : TpZ => blkT z.2.1 (prtsV z.2.2) 47) Z
abbrev tzT (s q : Nat) (a : Option Addr) (c : Nat) (Z : List TpZ) : Thing :=
  (blkT s [.pointer (some ⟨q, 0, none⟩), .slice a Z.length c] 74).sep ((ownT 89 2 a Z.length c (rowOf encTp Z)).sep (zonesT Z))
/-- What holds a set. -/
def tpHT (s q : Nat) (nms : List Txt) (L : List (List Nat)) : Thing where
  at_ w W := ∃ a c Z, Z.map (·.1) = nms ∧ Z.map (·.2.2) = L ∧ (tzT s q a c Z).at_ w W
  lt := by rintro w W ⟨a, c, Z, _, _, h⟩; exact Thing.lt _ h
  keep := by rintro w w' W S ⟨a, c, Z, e1, e2, h⟩ ht hs; exact ⟨a, c, Z, e1, e2, Thing.keep _ h ht hs⟩

theorem all_get {α : Type} {F : α → Thing} {l : List α} {i : Nat} {x : α} {w : World} {W : Nat → Prop} (hi : l[i]? = some x) (h : (allT F l).at_ w W) : ∃ V, (F x).at_ w V ∧ ∀ k, V k → W k := by
  obtain ⟨W1, W2, h1, _, _, hW⟩ := all_pick hi h
  exact ⟨W1, h1, fun k hk => (hW k).2 (.inl hk)⟩

/-- What can be read of a set. -/
structure HRd (s q : Nat) (a : Option Addr) (c : Nat) (Z : List TpZ) (w : World) : Prop where
  c0 : w.cell? ⟨s, 0, none⟩ = some (.pointer (some ⟨q, 0, none⟩))
  c1 : w.cell? ⟨s, 1, none⟩ = some (.slice a Z.length c)
  row : ∀ (i : Nat) (z : TpZ), Z[i]? = some z → ∃ g, a = some ⟨g, 0, none⟩ ∧ w.cell? ⟨g, i * 2, none⟩ = some (tx z.1) ∧ w.cell? ⟨g, i * 2 + 1, none⟩ = some (.slice (some ⟨z.2.1, 0, none⟩) z.2.2.length z.2.2.length)
  prt : ∀ (i : Nat) (z : TpZ) (j x : Nat), Z[i]? = some z → z.2.2[j]? = some x → w.cell? ⟨z.2.1, j, none⟩ = some (.pointer (some ⟨x, 0, none⟩))
theorem HRd.still {s q : Nat} {a : Option Addr} {c : Nat} {Z : List TpZ} {w w' : World} (h : HRd s q a c Z w) (ht : Still w w') : HRd s q a c Z w' :=
  ⟨still_cell ht h.c0 rfl, still_cell ht h.c1 rfl, fun i z hz => by
    obtain ⟨g, e, h1, h2⟩ := h.row i z hz
    exact ⟨g, e, still_cell ht h1 rfl, still_cell ht h2 rfl⟩, fun i z j x hz hx => still_cell ht (h.prt i z j x hz hx) rfl⟩
theorem tzT_rd {s q : Nat} {a : Option Addr} {c : Nat} {Z : List TpZ} {w : World} {W : Nat → Prop} (h : (tzT s q a c Z).at_ w W) : HRd s q a c Z w := by
  obtain ⟨W1, W2, ⟨h1, _⟩, ⟨W3, W4, ⟨h3, _⟩, h4, _⟩, _⟩ := h
  refine ⟨h1.cell rfl, h1.cell rfl, fun i z hz => ?_, fun i z j x hz hx => ?_⟩
  · have hlt := (List.getElem?_eq_some_iff.1 hz).1
    obtain ⟨g, rfl⟩ := owm_addr h3 (by omega)
    exact ⟨g, rfl, (owm_cell h3 (rowOf_get encTp_len hz (j := 0) rfl)).1, (owm_cell h3 (rowOf_get encTp_len hz (j := 1) rfl)).1⟩
  · obtain ⟨V, ⟨h5, _⟩, _⟩ := all_get hz h4
    exact h5.cell (prtsV_get hx)
theorem tpHT_rd {s q : Nat} {nms : List Txt} {L : List (List Nat)} {w : World} {W : Nat → Prop} (h : (tpHT s q nms L).at_ w W) : ∃ a c Z, Z.map (·.1) = nms ∧ Z.map (·.2.2) = L ∧ HRd s q a c Z w := by
  obtain ⟨a, c, Z, e1, e2, h⟩ := h
  exact ⟨a, c, Z, e1, e2, tzT_rd h⟩

/-- The topic of a number; one without a name, if there is none. -/
def atV (Z : List TpZ) (t : Int) : Value := if 0 ≤ t then (match Z[t.toNat]? with
  | some z => .agg #[tx z.1, .slice (some ⟨z.2.1, 0, none⟩) z.2.2.length z.2.2.length]
  | none => .agg #[.string ⟨#[]⟩, .slice none 0 0]) else .agg #[.string ⟨#[]⟩, .slice none 0 0]
theorem atV_some {Z : List TpZ} {i : Nat} {z : TpZ} (h : Z[i]? = some z) : atV Z (i : Nat) = .agg #[tx z.1, .slice (some ⟨z.2.1, 0, none⟩) z.2.2.length z.2.2.length] := by
  unfold atV
  rw [if_pos (by omega), Int.toNat_natCast, h]
theorem atV_none {Z : List TpZ} {t : Int} (h : t < 0 ∨ (Z.length : Int) ≤ t) : atV Z t = .agg #[.string ⟨#[]⟩, .slice none 0 0] := by
  unfold atV
  by_cases h0 : 0 ≤ t
  · rw [if_pos h0, show Z[t.toNat]? = none from List.getElem?_eq_none_iff.2 (by omega)]
  · rw [if_neg h0]

section
variable {s q : Nat} {a : Option Addr} {c : Nat} {Z : List TpZ} {w : World}
theorem tpmade_any (h : HRd s q a c Z w) : Calls Tryz.prog 50 #[.pointer (some ⟨s, 0, none⟩)] w fun e w' => e = .returned (.bool true) ∧ w = w' := by
  have c0 := h.c0
  clear h
  go_enter Tryz.func50, Tryz.ntmps50
  go_wp2
  go_ret
  exact ⟨rfl, rfl⟩
theorem tptopics_any (h : HRd s q a c Z w) : Calls Tryz.prog 33 #[.pointer (some ⟨s, 0, none⟩)] w fun e w' => e = .returned (.int .i64 Z.length) ∧ w = w' := by
  have HM := Lib.hid (tpmade_any h)
  have c1 := h.c1
  generalize Z.length = n at *
  clear h
  go_enter Tryz.func33, Tryz.ntmps33
  go_wp2_with (go_at_call 50; ((with_reducible refine HM.out.mono ?_)); rintro e w' ⟨rfl, rfl⟩)
  go_ret
  exact ⟨rfl, rfl⟩
theorem tppool_any (h : HRd s q a c Z w) : Calls Tryz.prog 35 #[.pointer (some ⟨s, 0, none⟩)] w fun e w' => e = .returned (.pointer (some ⟨q, 0, none⟩)) ∧ w = w' := by
  have HM := Lib.hid (tpmade_any h)
  have c0 := h.c0
  clear h
  go_enter Tryz.func35, Tryz.ntmps35
  go_wp2_with (go_at_call 50; ((with_reducible refine HM.out.mono ?_)); rintro e w' ⟨rfl, rfl⟩)
  go_ret
  exact ⟨rfl, rfl⟩
theorem tprefuse_any (h : HRd s q a c Z w) (l : Txt) (hl : l.length ≤ 300) : Calls Tryz.prog 38 #[.pointer (some ⟨s, 0, none⟩), tx l] w fun e w' => e = .returned (.int .i64 (nmE l)) ∧ Still w w' := by
  have HM := Lib.hid (tpmade_any h)
  have HC := Lib.hid (chk_any l w (by omega))
  generalize nmE l = ne at *
  unfold tx at *
  clear h hl
  go_enter Tryz.func38, Tryz.ntmps38
  go_wp2_with (first
    | (go_at_call 50; ((with_reducible refine HM.out.mono ?_)); rintro e w' ⟨rfl, rfl⟩)
    | (go_at_call 62; ((with_reducible refine HC.out.mono ?_)); rintro e w1 ⟨rfl, hs⟩; have H1 := Lib.hid hs; clear hs))
  go_ret
  exact ⟨rfl, H1.out⟩
end
end Go.Proofs.YtmmkcfiecgpkpaaGreat

/- What the readers of the program's set of topics answer: a topic by its number, its name, a name's number. No condition but that the set is one. -/
namespace Go.Proofs.YtmmkcfiecgpkpaaGreat
open Go.RowKit
set_option linter.unusedVariables false
set_option linter.unusedSimpArgs false
set_option maxRecDepth 100000

@[go_sem] theorem topic_field0 (x y : Value) (w : World) : (Instr.field 89 (.agg #[x, y]) 0).run Tryz.prog w = .ok x w := by
  have u3 := Tryz.underlying9
  have a3 := Tryz.isAgg9
  have z3 := Tryz.sizeOf9
  unfold Instr.field
  simp only [Sem.run_bind, run_underlying Tryz.underlying89, Result.andThen_ok]
  go_simp
  rw [show (asAgg (Value.agg #[x, y])).run Tryz.prog w = .ok #[x, y] w from rfl]
  rfl
@[go_sem] theorem topic_field1 (x y : Value) (w : World) : (Instr.field 89 (.agg #[x, y]) 1).run Tryz.prog w = .ok y w := by
  have u3 := Tryz.underlying85
  have a3 := Tryz.isAgg85
  have z3 := Tryz.sizeOf85
  unfold Instr.field
  simp only [Sem.run_bind, run_underlying Tryz.underlying89, Result.andThen_ok]
  go_simp
  rw [show (asAgg (Value.agg #[x, y])).run Tryz.prog w = .ok #[x, y] w from rfl]
  rfl

section
variable {s q : Nat} {a : Option Addr} {c : Nat} {Z : List TpZ} {w : World}

theorem tpat_some (h : HRd s q a c Z w) {i : Nat} {z : TpZ} (hz : Z[i]? = some z) (hn : Z.length ≤ 16) :
    Calls Tryz.prog 46 #[.pointer (some ⟨s, 0, none⟩), .int .i64 (i : Nat)] w fun e w' => e = .returned (.agg #[tx z.1, .slice (some ⟨z.2.1, 0, none⟩) z.2.2.length z.2.2.length]) ∧ Still w w' := by
  have hlt := (List.getElem?_eq_some_iff.1 hz).1
  have hw1 : Still w (w.alloc (.cells #[.string ⟨#[]⟩, .slice none 0 0] 89)) := (Turned.refl _ _).alloc _
  have HT := Lib.hid (tptopics_any (h.still hw1))
  obtain ⟨g, rfl, hr1, hr2⟩ := h.row i z hz
  have c1 := (h.still hw1).c1
  have c2 := still_cell hw1 hr1 rfl
  have c3 := still_cell hw1 hr2 rfl
  have hb := Blk.new w [.string ⟨#[]⟩, .slice none 0 0] 89
  have b1 := hb.cell (o := 0) rfl
  have b2 := hb.cell (o := 1) rfl
  have b3 := hb.free 0
  have b4 := hb.free 1
  obtain ⟨zn, zb, zx⟩ := z
  dsimp only at *
  generalize Z.length = n at *
  generalize zx.length = m at *
  have hi0 : ¬ ((i : Int) < 0) := by omega
  have hin : (i : Int) < (n : Int) := by omega
  have hin2 : i < n := hlt
  unfold tx at *
  clear h hz hr1 hr2 hw1 hb
  go_enter Tryz.func46, Tryz.ntmps46
  go_wp2_with (go_at_call 33; ((with_reducible refine HT.out.mono ?_)); rintro e w2 ⟨rfl, rfl⟩)
  exact bodyPost_ret (v := .agg #[.string ⟨zn.toArray⟩, .slice (some ⟨zb, 0, none⟩) m m]) (by simp [results, Tryz.results46, go_sem]) rfl ⟨rfl, (Turned.refl _ _).alloc _⟩

theorem tpat_none (h : HRd s q a c Z w) {t : Int} (ht : t < 0 ∨ (Z.length : Int) ≤ t) :
    Calls Tryz.prog 46 #[.pointer (some ⟨s, 0, none⟩), .int .i64 t] w fun e w' => e = .returned (.agg #[.string ⟨#[]⟩, .slice none 0 0]) ∧ Still w w' := by
  have hw1 : Still w (w.alloc (.cells #[.string ⟨#[]⟩, .slice none 0 0] 89)) := (Turned.refl _ _).alloc _
  have HT := Lib.hid (tptopics_any (h.still hw1))
  have hb := Blk.new w [.string ⟨#[]⟩, .slice none 0 0] 89
  have b1 := hb.cell (o := 0) rfl
  have b2 := hb.cell (o := 1) rfl
  have b3 := hb.free 0
  have b4 := hb.free 1
  generalize Z.length = n at *
  clear h hw1 hb
  by_cases h0 : t < 0
  · clear ht
    go_enter Tryz.func46, Tryz.ntmps46
    go_wp2_with fail
    exact bodyPost_ret (v := .agg #[.string ⟨#[]⟩, .slice none 0 0]) (by simp [results, Tryz.results46, go_sem]) rfl ⟨rfl, (Turned.refl _ _).alloc _⟩
  · have h1 : (n : Int) ≤ t := by omega
    clear ht
    go_enter Tryz.func46, Tryz.ntmps46
    go_wp2_with (go_at_call 33; ((with_reducible refine HT.out.mono ?_)); rintro e w2 ⟨rfl, rfl⟩)
    exact bodyPost_ret (v := .agg #[.string ⟨#[]⟩, .slice none 0 0]) (by simp [results, Tryz.results46, go_sem]) rfl ⟨rfl, (Turned.refl _ _).alloc _⟩

/-- The partitions' part of a topic's answer. -/
def partsV (Z : List TpZ) (t : Int) : Value := if 0 ≤ t then (match Z[t.toNat]? with
  | some z => .slice (some ⟨z.2.1, 0, none⟩) z.2.2.length z.2.2.length
  | none => .slice none 0 0) else .slice none 0 0
def nameV (Z : List TpZ) (t : Int) : Txt := if 0 ≤ t then ((Z[t.toNat]?).map (·.1)).getD [] else []
theorem tpat_any (h : HRd s q a c Z w) (hn : Z.length ≤ 16) (t : Int) :
    Calls Tryz.prog 46 #[.pointer (some ⟨s, 0, none⟩), .int .i64 t] w fun e w' => e = .returned (.agg #[tx (nameV Z t), partsV Z t]) ∧ Still w w' := by
  unfold nameV partsV
  by_cases h0 : 0 ≤ t
  · rw [if_pos h0, if_pos h0]
    cases hz : Z[t.toNat]? with
    | none => exact tpat_none h (.inr (by have := List.getElem?_eq_none_iff.1 hz; omega))
    | some z =>
      have := tpat_some h hz hn
      rwa [show ((t.toNat : Nat) : Int) = t by omega] at this
  · rw [if_neg h0, if_neg h0]
    exact tpat_none h (.inl (by omega))

theorem tpname_any (h : HRd s q a c Z w) (hn : Z.length ≤ 16) (t : Int) : Calls Tryz.prog 30 #[.pointer (some ⟨s, 0, none⟩), .int .i64 t] w fun e w' => e = .returned (tx (nameV Z t)) ∧ Still w w' := by
  have HA := Lib.hid (tpat_any h hn t)
  generalize nameV Z t = nm at *
  generalize partsV Z t = ps at *
  unfold tx at *
  clear h hn
  go_enter Tryz.func30, Tryz.ntmps30
  go_wp2_with (go_at_call 46; ((with_reducible refine HA.out.mono ?_)); rintro e w1 ⟨rfl, hs⟩; have H1 := Lib.hid hs; clear hs)
  go_ret
  exact ⟨rfl, H1.out⟩

/-- Is a topic the one of that name? -/
theorem tpfind1_any (B : Nat) (l : Txt) (nm : Txt) (ps : Value) (hc : w.cell? ⟨B, 0, none⟩ = some (tx l)) :
    Calls Tryz.prog 44 #[.agg #[tx nm, ps], .pointer (some ⟨B, 0, none⟩)] w fun e w' => e = .returned (.bool (nm == l)) ∧ Still w w' := by
  have hc2 : (w.alloc (.cells #[tx nm, ps] 89)).cell? ⟨B, 0, none⟩ = some (tx l) := still_cell ((Turned.refl _ _).alloc _) hc rfl
  have hb := Blk.new w [tx nm, ps] 89
  have b1 := hb.cell (o := 0) rfl
  unfold tx at *
  clear hb hc
  go_enter Tryz.func44, Tryz.ntmps44
  go_wp2_with fail
  go_ret
  exact ⟨rfl, (Turned.refl _ _).alloc _⟩

/-- What IndexFunc of the topics answers: the first one of that name. -/
theorem tpidx_any (hn : Z.length ≤ 16) (hrd : HRd s q a c Z w) (B : Nat) (l : Txt) (hc : w.cell? ⟨B, 0, none⟩ = some (tx l)) :
    Calls Tryz.prog 43 #[.slice a Z.length c, .func (.func 44) #[] #[.pointer (some ⟨B, 0, none⟩)]] w fun e w' => e = .returned (.int .i64 (if Z.findIdx (fun z => z.1 == l) < Z.length then ((Z.findIdx (fun z => z.1 == l) : Nat) : Int) else -1)) ∧ Still w w' := by
  obtain ⟨n, hnl⟩ : ∃ n, n = Z.length := ⟨_, rfl⟩
  have HF := Lib.hid (fun V (hs : Still w V) (z : TpZ) => tpfind1_any (w := V) B l z.1 (.slice (some ⟨z.2.1, 0, none⟩) z.2.2.length z.2.2.length) (still_cell hs hc rfl))
  have HRow := Lib.hid (fun V (hs : Still w V) (i : Nat) (z : TpZ) (hz : Z[i]? = some z) => (hrd.still hs).row i z hz)
  have HN := Lib.hid hnl
  have HA := Lib.hid (fun (k : Nat) (h : k < Z.length) (h1 : ∀ (j : Nat) (z : TpZ), j < k → Z[j]? = some z → (z.1 == l) = false) (z : TpZ) (hz : Z[k]? = some z) (he : (z.1 == l) = true) =>
    show (if Z.findIdx (fun z => z.1 == l) < Z.length then ((Z.findIdx (fun z => z.1 == l) : Nat) : Int) else -1) = (k : Nat) from by
      have hg : Z[k] = z := by have := List.getElem?_eq_getElem h; rw [hz] at this; exact (Option.some.inj this).symm
      have : Z.findIdx (fun z => z.1 == l) = k := by
        rw [List.findIdx_eq h]
        refine ⟨by simp only [hg]; exact he, fun j hj => ?_⟩
        have := h1 j Z[j] hj (List.getElem?_eq_getElem (by omega))
        simpa using this
      rw [this, if_pos h])
  have HB := Lib.hid (fun (h1 : ∀ (j : Nat) (z : TpZ), j < Z.length → Z[j]? = some z → (z.1 == l) = false) =>
    show (if Z.findIdx (fun z => z.1 == l) < Z.length then ((Z.findIdx (fun z => z.1 == l) : Nat) : Int) else -1) = -1 from by
      rw [if_neg]
      intro h
      have := List.findIdx_getElem (w := h)
      have := h1 _ _ h (List.getElem?_eq_getElem h)
      simp_all)
  have hn16 : n ≤ 16 := by omega
  generalize (if Z.findIdx (fun z => z.1 == l) < Z.length then ((Z.findIdx (fun z => z.1 == l) : Nat) : Int) else -1) = ans at *
  rw [← hnl]
  rw [← hnl] at HA HB
  clear hnl hn hrd hc
  go_enter Tryz.func43, Tryz.ntmps43
  go_wp2_with fail
  go_loopw [8] (fun i wr => ∃ k : Nat, k ≤ n ∧ i = .int .i64 k ∧ (∀ (j : Nat) (z : TpZ), j < k → Z[j]? = some z → (z.1 == l) = false) ∧ Still w wr) (fun i _ => n - (intOf i).toNat)
  case atStart => exact ⟨0, Nat.zero_le _, rfl, fun j z hj => absurd hj (Nat.not_lt_zero _), Turned.refl _ _⟩
  case round =>
    obtain ⟨k, hk, rfl, hno, hst⟩ := hrel
    have HNo := Lib.hid hno
    have HSt := Lib.hid hst
    by_cases hlt : k < n
    · obtain ⟨z, hz⟩ := get_some (l := Z) (i := k) (by rw [← HN.out]; exact hlt)
      obtain ⟨g, rfl, r1, r2⟩ := HRow.out wr hst k z hz
      have HC := Lib.hid (HF.out wr hst z)
      have HZ := Lib.hid hz
      have hki : (k : Int) < (n : Int) := by omega
      have HA1 := Lib.hid (HA.out k hlt hno z hz)
      have HNx := Lib.hid (fun (he : (z.1 == l) = false) => show ∀ (j : Nat) (y : TpZ), j < k + 1 → Z[j]? = some y → (y.1 == l) = false from fun j y hj hy => by
        rcases Nat.lt_succ_iff_lt_or_eq.1 hj with hj | rfl
        · exact hno j y hj hy
        · rw [hz] at hy
          obtain rfl := Option.some.inj hy
          exact he)
      obtain ⟨zn, zb, zx⟩ := z
      dsimp only at r1 r2 HC HA1 HNx
      unfold tx at r1 HC
      generalize zx.length = m at *
      clear hno hst hz
      cases he : (zn == l) with
      | true =>
        rw [he] at HC
        have HAns := Lib.hid (HA1.out he)
        clear he HA1 HNx
        go_wp2_with fail
        refine HC.out.mono ?_
        rintro e w1 ⟨rfl, hs⟩
        have H1 := Lib.hid hs
        clear hs
        go_wp2_with fail
        go_ret
        exact ⟨by rw [HAns.out]; rfl, HSt.out.trans H1.out⟩
      | false =>
        rw [he] at HC
        have HNx1 := Lib.hid (HNx.out he)
        clear he HA1 HNx
        go_wp2_with fail
        refine HC.out.mono ?_
        rintro e w1 ⟨rfl, hs⟩
        have H1 := Lib.hid hs
        clear hs
        go_wp2_with fail
        go_roundw
        case rel => exact ⟨k + 1, by omega, by go_num, HNx1.out, HSt.out.trans H1.out⟩
        case measure => simp [intOf]; omega
    · obtain rfl : k = n := by omega
      have HAns := Lib.hid (HB.out hno)
      clear hno hst hlt
      go_wp2_with fail
      go_ret
      exact ⟨by rw [HAns.out]; rfl, HSt.out⟩
end
end Go.Proofs.YtmmkcfiecgpkpaaGreat

/- What the program's set of topics answers of a name: its number, and the place where a key of it goes. No condition but that the set is one. -/
namespace Go.Proofs.YtmmkcfiecgpkpaaGreat
open Go.RowKit
set_option linter.unusedVariables false
set_option linter.unusedSimpArgs false
set_option maxRecDepth 100000

theorem fd_of {Z : List TpZ} {T : List TpM} (h : Z.map (·.1) = T.map (·.nm)) (l : Txt) : Z.findIdx (fun z => z.1 == l) = fdN T l ∧ Z.length = T.length := by
  constructor
  · have e1 : Z.findIdx (fun z => z.1 == l) = (Z.map (·.1)).findIdx (fun x => x == l) := by rw [List.findIdx_map]; rfl
    have e2 : fdN T l = (T.map (·.nm)).findIdx (fun x => x == l) := by unfold fdN; rw [List.findIdx_map]; rfl
    rw [e1, e2, h]
  · have := congrArg List.length h
    simpa using this

section
variable {s q : Nat} {a : Option Addr} {c : Nat} {Z : List TpZ} {w : World} {T : List TpM}

set_option maxHeartbeats 1000000 in
theorem tpfind_any (h : HRd s q a c Z w) (he : Z.map (·.1) = T.map (·.nm)) (hn : T.length ≤ 16) (l : Txt) (hl : l.length ≤ 300) :
    Calls Tryz.prog 15 #[.pointer (some ⟨s, 0, none⟩), tx l] w fun e w' => e = .returned (.tuple #[.int .i64 (findN T l), .int .i64 (findE T l)]) ∧ Still w w' := by
  obtain ⟨e1, e2⟩ := fd_of he l
  have hw1 : Still w (w.alloc (.cells #[tx l] 9)) := (Turned.refl _ _).alloc _
  have hb := Blk.new w [tx l] 9
  have HC := Lib.hid (fun V (hs : Still (w.alloc (.cells #[tx l] 9)) V) => show V.cell? ⟨w.heap.size, 0, none⟩ = some (tx l) ∧ V.cell? ⟨s, 1, none⟩ = some (.slice a Z.length c) from
    ⟨still_cell hs (hb.cell rfl) rfl, (h.still (hw1.trans hs)).c1⟩)
  have HR := Lib.hid (tprefuse_any (h.still hw1) l hl)
  have HI := Lib.hid (fun V (hs : Still (w.alloc (.cells #[tx l] 9)) V) => tpidx_any (by omega) (h.still (hw1.trans hs)) w.heap.size l (HC.out V hs).1)
  obtain ⟨f0, _⟩ := HC.out _ (Turned.refl _ _)
  have HW1 := Lib.hid hw1
  rw [e1, e2] at HI
  rw [e2] at HC
  unfold findN findE
  generalize fdN T l = d at *
  generalize T.length = n at *
  rcases nmE_or l with h0 | h0
  · rw [h0] at HR ⊢
    by_cases hd : d < n
    · rw [if_pos hd] at HI
      have hdi : ¬ ((d : Int) < 0) := by omega
      have HV := Lib.hid (show (if (if (0 : Int) ≠ 0 then (80 : Int) else if d < n then 0 else 5) ≠ 0 then (0 : Int) else (d : Nat)) = (d : Nat) ∧ (if (0 : Int) ≠ 0 then (80 : Int) else if d < n then 0 else 5) = 0 from by simp [hd])
      rw [HV.out.1, HV.out.2]
      unfold tx at *
      clear h he hb hw1 h0 e1 e2
      go_enter Tryz.func15, Tryz.ntmps15
      go_wp2_with (first
        | (go_at_call 38; ((with_reducible refine HR.out.mono ?_)); rintro e w1 ⟨rfl, hs⟩; obtain ⟨f1, f2⟩ := HC.out w1 hs; have H1 := Lib.hid hs; clear hs)
        | (go_at_call 43; ((with_reducible refine (HI.out _ H1.out).mono ?_)); rintro e w2 ⟨rfl, hs⟩; have H2 := Lib.hid (HW1.out.trans (H1.out.trans hs)); clear hs))
      go_ret2
      exact ⟨rfl, H2.out⟩
    · rw [if_neg hd] at HI
      have HV := Lib.hid (show (if (if (0 : Int) ≠ 0 then (80 : Int) else if d < n then 0 else 5) ≠ 0 then (0 : Int) else (d : Nat)) = 0 ∧ (if (0 : Int) ≠ 0 then (80 : Int) else if d < n then 0 else 5) = 5 from by simp [hd])
      rw [HV.out.1, HV.out.2]
      unfold tx at *
      clear h he hb hw1 h0 e1 e2
      go_enter Tryz.func15, Tryz.ntmps15
      go_wp2_with (first
        | (go_at_call 38; ((with_reducible refine HR.out.mono ?_)); rintro e w1 ⟨rfl, hs⟩; obtain ⟨f1, f2⟩ := HC.out w1 hs; have H1 := Lib.hid hs; clear hs)
        | (go_at_call 43; ((with_reducible refine (HI.out _ H1.out).mono ?_)); rintro e w2 ⟨rfl, hs⟩; have H2 := Lib.hid (HW1.out.trans (H1.out.trans hs)); clear hs))
      go_ret2
      exact ⟨rfl, H2.out⟩
  · rw [h0] at HR ⊢
    have HV := Lib.hid (show (if (if (80 : Int) ≠ 0 then (80 : Int) else if d < n then 0 else 5) ≠ 0 then (0 : Int) else (d : Nat)) = 0 ∧ (if (80 : Int) ≠ 0 then (80 : Int) else if d < n then 0 else 5) = 80 from by simp)
    rw [HV.out.1, HV.out.2]
    unfold tx at *
    clear h he hb hw1 h0 e1 e2
    go_enter Tryz.func15, Tryz.ntmps15
    go_wp2_with (go_at_call 38; ((with_reducible refine HR.out.mono ?_)); rintro e w1 ⟨rfl, hs⟩; have H1 := Lib.hid (HW1.out.trans hs); clear hs)
    go_ret2
    exact ⟨rfl, H1.out⟩

/-- The box of a place that is answered. -/
theorem plbx {V : World} (h : Still (w.alloc (.cells #[.int .i64 0, .int .i64 0] 25)) V) :
    (V.cell? ⟨w.heap.size, 0, none⟩ = some (.int .i64 0) ∧ V.cell? ⟨w.heap.size, 1, none⟩ = some (.int .i64 0) ∧ V.frozen? ⟨w.heap.size, 0, none⟩ = false ∧ V.frozen? ⟨w.heap.size, 1, none⟩ = false) ∧
    ∀ x y : Int, (V.setCell ⟨w.heap.size, 0, none⟩ (.int .i64 x)).cell? ⟨w.heap.size, 0, none⟩ = some (.int .i64 x) ∧ ((V.setCell ⟨w.heap.size, 0, none⟩ (.int .i64 x)).setCell ⟨w.heap.size, 1, none⟩ (.int .i64 y)).cell? ⟨w.heap.size, 1, none⟩ = some (.int .i64 y) ∧ Still w ((V.setCell ⟨w.heap.size, 0, none⟩ (.int .i64 x)).setCell ⟨w.heap.size, 1, none⟩ (.int .i64 y)) := by
  have hw1 : Still w (w.alloc (.cells #[.int .i64 0, .int .i64 0] 25)) := (Turned.refl _ _).alloc _
  have hb : Blk V w.heap.size [.int .i64 0, .int .i64 0] 25 := (Blk.new w [.int .i64 0, .int .i64 0] 25).turned h (fun h => h)
  exact ⟨⟨hb.cell rfl, hb.cell rfl, hb.free _, hb.free _⟩, fun x y => ⟨(hb.set 0 _).cell (o := 0) rfl, ((hb.set 0 _).set 1 _).cell (o := 1) rfl, ((hw1.trans h).setCell (.inr (Nat.le_refl _)) _).setCell (.inr (Nat.le_refl _)) _⟩⟩

theorem findE_or (T : List TpM) (l : Txt) : findE T l = 0 ∨ findE T l = 80 ∨ findE T l = 5 := by
  unfold findE
  split
  · simp
  · split <;> simp
theorem findE_ok {T : List TpM} {l : Txt} (h : findE T l = 0) : findN T l = (fdN T l : Nat) ∧ fdN T l < T.length := by
  refine ⟨by unfold findN; rw [if_neg (by simp [h])], ?_⟩
  unfold findE at h
  split at h
  · simp at h
  · split at h
    · assumption
    · simp at h
theorem nps_of {L : List (List Nat)} (h1 : Z.map (·.2.2) = L) (hf : Fits L T) {i : Nat} {z : TpZ} (hz : Z[i]? = some z) : nps T i = z.2.2.length := by
  have e1 : (L.map (·.length))[i]? = some z.2.2.length := by rw [← h1, List.getElem?_map, List.getElem?_map, hz]; rfl
  rw [show L.map (·.length) = T.map (·.ps.length) from hf, List.getElem?_map] at e1
  unfold nps
  cases hx : T[i]? with
  | none => rw [hx] at e1; cases e1
  | some x => rw [hx] at e1; simpa using e1

set_option maxHeartbeats 2000000 in
theorem tproute_any {L : List (List Nat)} (h : HRd s q a c Z w) (he : Z.map (·.1) = T.map (·.nm)) (h1 : Z.map (·.2.2) = L) (hf : Fits L T) (hn : T.length ≤ 16) (hp : ∀ t ∈ T, 1 ≤ t.ps.length ∧ t.ps.length ≤ 8) (l : Txt) (hl : l.length ≤ 300)
    (k : List UInt8) (ao : Option Addr) (m cap : Nat) (hm : m = k.length) (hA : BytesAt w ao k) (hW : SlW ao m cap) (hmx : m ≤ 100) :
    Calls Tryz.prog 17 #[.pointer (some ⟨s, 0, none⟩), tx l, .slice ao m cap] w fun e w' => e = .returned (.tuple #[plcA (routT T l k) (routP T l k), .int .i64 (routE T l k)]) ∧ Still w w' := by
  obtain ⟨e1, e2⟩ := fd_of he l
  have hw1 : Still w (w.alloc (.cells #[.int .i64 0, .int .i64 0] 25)) := (Turned.refl _ _).alloc _
  have HF := Lib.hid (tpfind_any (h.still hw1) he hn l hl)
  have HB := Lib.hid (fun V hs => plbx (w := w) (V := V) hs)
  unfold routT routP routE
  by_cases h0 : findE T l = 0
  · obtain ⟨f1, f2⟩ := findE_ok h0
    rw [f1, h0] at HF
    obtain ⟨z, hz⟩ := get_some (l := Z) (i := fdN T l) (by omega)
    have hnp := nps_of h1 hf hz
    obtain ⟨x, hx⟩ := get_some (l := T) (i := fdN T l) f2
    have hx8 := hp x (List.mem_of_getElem? hx)
    have hnx : nps T (fdN T l) = x.ps.length := by unfold nps; rw [hx]; rfl
    rw [hnp] at hnx ⊢
    have HA := Lib.hid (fun V (hs : Still (w.alloc (.cells #[.int .i64 0, .int .i64 0] 25)) V) => tpat_some (h.still (hw1.trans hs)) hz (by omega))
    have HO := Lib.hid (fun V (hs : Still (w.alloc (.cells #[.int .i64 0, .int .i64 0] 25)) V) => rof_any (z.2.2.length : Nat) k V ao m cap hm (hA.still (hw1.trans hs)) hW ⟨by omega, by omega⟩ hmx)
    obtain ⟨zn, zb, zx⟩ := z
    dsimp only at HA HO hnx ⊢
    have hd16 : fdN T l < 16 := by omega
    have hy8 : 1 ≤ zx.length ∧ zx.length ≤ 8 := by omega
    clear hnx hx8
    rcases rtE_or (zx.length : Nat) k with r0 | r0 | r0
    all_goals (
      rw [r0] at HO ⊢
      simp only [h0, ne_eq, not_true_eq_false, if_false, if_true, Int.reduceEq, not_false_eq_true]
      generalize rtP (zx.length : Nat) k = p at *
      generalize zx.length = y at *
      generalize fdN T l = d at *
      unfold tx at *
      clear h he h1 hf hp hm hA hW e1 e2 h0 f1 f2 hz hnp hx r0 hw1
      go_enter Tryz.func17, Tryz.ntmps17
      go_wp2_with (first
        | (go_at_call 15; ((with_reducible refine HF.out.mono ?_)); rintro e w1 ⟨rfl, hs⟩; have H1 := Lib.hid hs; clear hs)
        | (go_at_call 46; ((with_reducible refine (HA.out _ H1.out).mono ?_)); rintro e w2 ⟨rfl, hs⟩; have H2 := Lib.hid (H1.out.trans hs); clear hs)
        | (go_at_call 45; ((with_reducible refine (HO.out _ H2.out).mono ?_)); rintro e w3 ⟨rfl, hs⟩; have H3 := Lib.hid (H2.out.trans hs); obtain ⟨⟨b1, b2, b3, b4⟩, _⟩ := HB.out w3 (H2.out.trans hs); clear hs))
      obtain ⟨_, b5⟩ := HB.out w3 H3.out
      first
        | (obtain ⟨d1, d2, d3⟩ := b5 0 0
           exact bodyPost_ret (by simp [results, Tryz.results17, go_sem, d1, d2]) rfl ⟨rfl, d3⟩)
        | (obtain ⟨d1, d2, d3⟩ := b5 (d : Nat) p
           exact bodyPost_ret (v := .tuple #[.agg #[.int .i64 (d : Nat), .int .i64 p], .int .i64 0]) (by simp [results, Tryz.results17, go_sem, d1, d2]) rfl ⟨rfl, d3⟩))
  · have fN : findN T l = 0 := by unfold findN; rw [if_pos h0]
    rw [fN] at HF
    have h2 := findE_or T l
    rw [if_pos h0, if_pos h0, if_pos h0]
    generalize findE T l = er at *
    unfold tx at *
    clear h he h1 hf hp hm hA hW e1 e2 fN hw1
    rcases h2 with rfl | rfl | rfl
    · exact absurd rfl h0
    all_goals (
      go_enter Tryz.func17, Tryz.ntmps17
      go_wp2_with (go_at_call 15; ((with_reducible refine HF.out.mono ?_)); rintro e w1 ⟨rfl, hs⟩; have H1 := Lib.hid hs; obtain ⟨⟨b1, b2, b3, b4⟩, _⟩ := HB.out w1 hs; clear hs)
      obtain ⟨_, b5⟩ := HB.out w1 H1.out
      obtain ⟨d1, d2, d3⟩ := b5 0 0
      exact bodyPost_ret (by simp [results, Tryz.results17, go_sem, d1, d2]) rfl ⟨rfl, d3⟩)
end
end Go.Proofs.YtmmkcfiecgpkpaaGreat

/- The iterator of the program's set goes through the partitions of the topics that it is given, each with its place. No condition but that the set is one. -/
namespace Go.Proofs.YtmmkcfiecgpkpaaGreat
open Go.RowKit Go.Shelf
attribute [local go_sem] Oper.semAt_some
set_option linter.unusedVariables false
set_option linter.unusedSimpArgs false
set_option maxRecDepth 100000

/-- Two things that can be read, apart or not. -/
def Thing.with_ (A B : Thing) : Thing where
  at_ w W := ∃ W1 W2, A.at_ w W1 ∧ B.at_ w W2 ∧ ∀ k, W k ↔ W1 k ∨ W2 k
  lt := by
    rintro w W ⟨W1, W2, h1, h2, hW⟩ k hk
    rcases (hW k).1 hk with h | h
    · exact A.lt h1 k h
    · exact B.lt h2 k h
  keep := by
    rintro w w' W S ⟨W1, W2, h1, h2, hW⟩ ht hs
    exact ⟨W1, W2, A.keep h1 ht (fun k hk => hs k ((hW k).2 (.inl hk))), B.keep h2 ht (fun k hk => hs k ((hW k).2 (.inr hk))), hW⟩
theorem with_at {A B : Thing} {w : World} {W1 W2 : Nat → Prop} (h1 : A.at_ w W1) (h2 : B.at_ w W2) : (A.with_ B).at_ w (fun k => W1 k ∨ W2 k) := ⟨W1, W2, h1, h2, fun _ => Iff.rfl⟩
/-- Numbers that can be read. -/
def readT (ao : Option Addr) (l : List Int) : Thing where
  at_ w W := NumsAt w ao l ∧ ∀ k, W k ↔ l ≠ [] ∧ ∃ x, ao = some x ∧ x.block = k
  lt := by
    rintro w W ⟨h, hW⟩ k hk
    obtain ⟨hl, x, hx, rfl⟩ := (hW k).1 hk
    cases l with
    | nil => exact absurd rfl hl
    | cons y l =>
      obtain ⟨b, o, e, hc⟩ := h 0 y rfl
      rw [hx] at e
      obtain rfl := Option.some.inj e
      exact cell_lt hc
  keep := by
    rintro w w' W S ⟨h, hW⟩ ht hs
    refine ⟨?_, hW⟩
    by_cases hl : l = []
    · subst hl; exact NumsAt.nil _ _
    · exact h.turned ht (fun a ha => hs _ ((hW _).2 ⟨hl, a, ha, rfl⟩))

theorem nums_lt {w : World} {ao : Option Addr} {l : List Int} (h : NumsAt w ao l) {k : Nat} (hk : l ≠ [] ∧ ∃ x, ao = some x ∧ x.block = k) : k < w.heap.size :=
  (readT ao l).lt (W := fun k => l ≠ [] ∧ ∃ x, ao = some x ∧ x.block = k) ⟨h, fun _ => Iff.rfl⟩ k hk

/-- Where the partitions of a topic lie; of some topics, each with its place. -/
def partsOf (Z : List TpZ) (t : Int) : List Nat := if 0 ≤ t then ((Z[t.toNat]?).map (·.2.2)).getD [] else []
def plT (Z : List TpZ) (t : Int) : List (Int × Nat × Nat) := (partsOf Z t).mapIdx fun i x => (t, i, x)
def plE (Z : List TpZ) (l : List Int) : List (Int × Nat × Nat) := l.flatMap (plT Z)
abbrev encPl (z : Int × Nat × Nat) : Array Value := #[plcA z.1 (z.2.1 : Nat), .pointer (some ⟨z.2.2, 0, none⟩)]
def offE (Z : List TpZ) (l : List Int) (k : Nat) : Nat := (plE Z (l.take k)).length
theorem plT_len (Z : List TpZ) (t : Int) : (plT Z t).length = (partsOf Z t).length := by simp [plT]
theorem offE_zero (Z : List TpZ) (l : List Int) : offE Z l 0 = 0 := rfl
theorem offE_step {Z : List TpZ} {l : List Int} {k : Nat} {t : Int} (h : l[k]? = some t) : offE Z l (k + 1) = offE Z l k + (partsOf Z t).length := by
  unfold offE plE
  rw [take_step h, List.flatMap_append, List.length_append, List.flatMap_cons, List.flatMap_nil, List.append_nil, plT_len]
theorem offE_all (Z : List TpZ) (l : List Int) : offE Z l l.length = (plE Z l).length := by unfold offE; rw [List.take_length]
theorem plE_get {Z : List TpZ} {l : List Int} {k i x : Nat} {t : Int} (h : l[k]? = some t) (hi : (partsOf Z t)[i]? = some x) : (plE Z l)[offE Z l k + i]? = some (t, i, x) := by
  have e : l = l.take k ++ t :: l.drop (k + 1) := by
    have hk := (List.getElem?_eq_some_iff.1 h).1
    have h2 : l[k] = t := (List.getElem?_eq_some_iff.1 h).2
    rw [← h2, ← List.drop_eq_getElem_cons hk, List.take_append_drop]
  have e2 : plE Z l = plE Z (l.take k) ++ (plT Z t ++ plE Z (l.drop (k + 1))) := by
    have e3 : plE Z l = plE Z (l.take k ++ t :: l.drop (k + 1)) := congrArg (plE Z) e
    rw [e3]
    unfold plE
    rw [List.flatMap_append, List.flatMap_cons]
  unfold offE
  rw [e2, List.getElem?_append_right (Nat.le_add_right _ _), Nat.add_sub_cancel_left, List.getElem?_append_left (by rw [plT_len]; exact (List.getElem?_eq_some_iff.1 hi).1)]
  unfold plT
  rw [List.getElem?_mapIdx, hi]; rfl
theorem plE_lt {Z : List TpZ} {l : List Int} {k i x : Nat} {t : Int} (h : l[k]? = some t) (hi : (partsOf Z t)[i]? = some x) : offE Z l k + i < (plE Z l).length := (List.getElem?_eq_some_iff.1 (plE_get h hi)).1

theorem parts_sl {s q : Nat} {a : Option Addr} {c : Nat} (Z : List TpZ) (t : Int) : ∃ pa cc, partsV Z t = .slice pa (partsOf Z t).length cc ∧ ∀ V, HRd s q a c Z V → ∀ i x, (partsOf Z t)[i]? = some x → ∃ b, pa = some ⟨b, 0, none⟩ ∧ V.cell? ⟨b, i, none⟩ = some (.pointer (some ⟨x, 0, none⟩)) := by
  unfold partsV partsOf
  by_cases h0 : 0 ≤ t
  · rw [if_pos h0, if_pos h0]
    cases hz : Z[t.toNat]? with
    | none => exact ⟨none, 0, rfl, fun V _ i x hx => by simp at hx⟩
    | some z => exact ⟨some ⟨z.2.1, 0, none⟩, z.2.2.length, rfl, fun V hV i x hx => ⟨z.2.1, rfl, hV.prt _ z i x hz hx⟩⟩
  · rw [if_neg h0, if_neg h0]
    exact ⟨none, 0, rfl, fun V _ i x hx => by simp at hx⟩

theorem tpprts_any (p : Option Addr) (ao : Option Addr) (n cap : Nat) (w : World) : Calls Tryz.prog 51 #[.pointer p, .slice ao n cap] w fun e w' => e = .returned (.func (.func 79) #[] #[.pointer (some ⟨w.heap.size + 1, 0, none⟩), .pointer (some ⟨w.heap.size, 0, none⟩)]) ∧
    w' = (w.alloc (.cells #[.pointer p] 26)).alloc (.cells #[.slice ao n cap] 23) := by
  go_enter Tryz.func51, Tryz.ntmps51
  go_wp2
  go_ret
  exact ⟨by first | rfl | simp, rfl⟩

/-- What the iterator reads: the set, the numbers, and the boxes of both. -/
abbrev evP (Bs Bt s q : Nat) (a : Option Addr) (c : Nat) (Z : List TpZ) (ao : Option Addr) (n cap : Nat) (l : List Int) : Thing :=
  (blkT Bs [.pointer (some ⟨s, 0, none⟩)] 26).with_ ((blkT Bt [.slice ao n cap] 23).with_ ((tzT s q a c Z).with_ (readT ao l)))
theorem evP_new {s q : Nat} {a : Option Addr} {c : Nat} {Z : List TpZ} {ao : Option Addr} {n cap : Nat} {l : List Int} {w : World} {W : Nat → Prop} (h : (tzT s q a c Z).at_ w W) (hA : NumsAt w ao l) :
    ∃ S, (evP w.heap.size (w.heap.size + 1) s q a c Z ao n cap l).at_ ((w.alloc (.cells #[.pointer (some ⟨s, 0, none⟩)] 26)).alloc (.cells #[.slice ao n cap] 23)) S ∧ ∀ k, S k → k = w.heap.size ∨ k = w.heap.size + 1 ∨ W k ∨ (l ≠ [] ∧ ∃ x, ao = some x ∧ x.block = k) := by
  have ht : Still w ((w.alloc (.cells #[.pointer (some ⟨s, 0, none⟩)] 26)).alloc (.cells #[.slice ao n cap] 23)) := ((Turned.refl _ _).alloc _).alloc _
  have hr : (readT ao l).at_ w (fun k => l ≠ [] ∧ ∃ x, ao = some x ∧ x.block = k) := ⟨hA, fun _ => Iff.rfl⟩
  have b1 : Blk ((w.alloc (.cells #[.pointer (some ⟨s, 0, none⟩)] 26)).alloc (.cells #[.slice ao n cap] 23)) w.heap.size [.pointer (some ⟨s, 0, none⟩)] 26 := (Blk.new w [.pointer (some ⟨s, 0, none⟩)] 26).alloc _
  have b2 : Blk ((w.alloc (.cells #[.pointer (some ⟨s, 0, none⟩)] 26)).alloc (.cells #[.slice ao n cap] 23)) (w.heap.size + 1) [.slice ao n cap] 23 := by
    have := Blk.new (w.alloc (.cells #[.pointer (some ⟨s, 0, none⟩)] 26)) [.slice ao n cap] 23
    rwa [World.size_alloc] at this
  refine ⟨_, with_at (W1 := (· = w.heap.size)) ⟨b1, fun _ => Iff.rfl⟩ (with_at (W1 := (· = w.heap.size + 1)) ⟨b2, fun _ => Iff.rfl⟩ (with_at ((tzT s q a c Z).keep h ht (fun _ _ h => h)) ((readT ao l).keep hr ht (fun _ _ h => h)))), fun k hk => ?_⟩
  exact hk

set_option maxHeartbeats 4000000 in
theorem tpprts_it {s q : Nat} {a : Option Addr} {c : Nat} {Z : List TpZ} (hZ : Z.length ≤ 16) (hz8 : ∀ z ∈ Z, z.2.2.length ≤ 8) (ao : Option Addr) (n cap : Nat) (l : List Int) (hn : n = l.length) (hn100 : n ≤ 100) (Bs Bt : Nat) :
    IterS 79 #[.pointer (some ⟨Bt, 0, none⟩), .pointer (some ⟨Bs, 0, none⟩)] encPl (plE Z l) (evP Bs Bt s q a c Z ao n cap l) := by
  intro y J Jx W Q S hR h0 hd hY
  have HX := Lib.hid (fun V (h : ∃ Q', Since Q W Q' V) => show V.cell? ⟨Bs, 0, none⟩ = some (.pointer (some ⟨s, 0, none⟩)) ∧ V.cell? ⟨Bt, 0, none⟩ = some (.slice ao n cap) ∧ HRd s q a c Z V ∧ NumsAt V ao l from by
    obtain ⟨Q', hs⟩ := h
    obtain ⟨U1, U2, ⟨u1, _⟩, ⟨U3, U4, ⟨u3, _⟩, ⟨U5, U6, u5, ⟨u6, _⟩, _⟩, _⟩, _⟩ := (hs.stays (A := evP Bs Bt s q a c Z ao n cap l) hR hd).1
    exact ⟨u1.cell rfl, u3.cell rfl, tzT_rd u5, u6⟩)
  have HY := Lib.hid (fun k z W1 Q1 (hz : (plE Z l)[k]? = some z) (h1 : (J k).at_ W1 Q1) (h2 : Since Q W Q1 W1) => YieldAt.any 8 (hY k z W1 Q1 hz h1 h2))
  have HPs := Lib.hid (fun t => parts_sl (s := s) (q := q) (a := a) (c := c) Z t)
  have HP8 := Lib.hid (fun t => show (partsOf Z t).length ≤ 8 from by
    unfold partsOf
    split
    · cases hz : Z[t.toNat]? with
      | none => simp
      | some z => exact hz8 z (List.mem_of_getElem? hz)
    · simp)
  have HAt := Lib.hid (fun V (h : ∃ Q', Since Q W Q' V) t => tpat_any (HX.out V h).2.2.1 hZ t)
  have H0 := Lib.hid h0
  have HN := Lib.hid hn
  have HAll := Lib.hid (show offE Z l n = (plE Z l).length from by rw [hn]; exact offE_all Z l)
  obtain ⟨e1, e2, _, _⟩ := HX.out W ⟨Q, Since.refl _ _⟩
  have hro : Fence.wide.round = none := rfl
  have hf1 : Fence.wide.fn 46 := trivial
  clear hR h0 hd hY hZ hz8 hn
  refine (callsIn_wide (n := 9)).1 (callsIn_of_wp Tryz.func79 rfl trivial ?_ rfl)
  simp only [Tryz.ntmps79, List.size_toArray, List.length_cons, List.length_nil, Nat.reduceAdd, Nat.reduceSub, Array.replicate_succ, Array.replicate_zero, List.push_toArray, List.append_toArray, List.nil_append, List.cons_append]
  gi_wp2
  gi_loopw [10] (fun i wr => ∃ (k : Nat) (Q' : Nat → Prop), k ≤ n ∧ i = .int .i64 k ∧ (J (offE Z l k)).at_ wr Q' ∧ Since Q W Q' wr) (fun i _ => n - (intOf i).toNat)
  case atStart => exact ⟨0, Q, Nat.zero_le _, rfl, H0.out, Since.refl _ _⟩
  case round =>
    clear e1 e2
    obtain ⟨k, Q', hk, rfl, hJk, hsi⟩ := hrel
    by_cases hlt : k < n
    · obtain ⟨t, ht⟩ := get_some (l := l) (i := k) (by rw [← HN.out]; exact hlt)
      obtain ⟨g1, g2, _, g4⟩ := HX.out wr ⟨Q', hsi⟩
      obtain ⟨b, o, rfl, hc⟩ := g4 k t ht
      have HAk := Lib.hid (HAt.out wr ⟨Q', hsi⟩ t)
      obtain ⟨pa, cc, hpv, hcell⟩ := HPs.out t
      rw [hpv] at HAk
      have HCell := Lib.hid hcell
      have HSt := Lib.hid (offE_step (Z := Z) ht)
      have hm8 := HP8.out t
      have HG := Lib.hid (fun i x (hi : (partsOf Z t)[i]? = some x) => And.intro (plE_get ht hi) (plE_lt ht hi))
      obtain ⟨m, hm⟩ : ∃ m, m = (partsOf Z t).length := ⟨_, rfl⟩
      rw [← hm] at HAk HSt hm8
      have HM := Lib.hid hm
      have HJ := Lib.hid hJk
      have HSi := Lib.hid hsi
      have hki : (k : Int) < (n : Int) := by omega
      generalize nameV Z t = nm at *
      unfold tx at HAk
      clear hJk hsi g4 ht hpv hcell hm
      obtain ⟨U, hU⟩ : ∃ U, U = wr := ⟨_, rfl⟩
      subst hU
      gi_wp2_with (gi_at_call 46; ((with_reducible refine (callsIn_wide.2 HAk.out).mono ?_)); rintro e w6 ⟨rfl, hs6⟩; have H6 := Lib.hid hs6; clear hs6)
      have HJ6 := Lib.hid (show (J (offE Z l k + 0)).at_ w6 Q' ∧ Since Q W Q' w6 from ⟨(J _).keep HJ.out H6.out (fun _ _ h => h), HSi.out.trans ⟨H6.out.mono (fun _ _ h => h.elim), fun _ h => .inl h⟩⟩)
      clear g1 g2 hc
      gi_loopw [19] (fun i wr => ∃ (j : Nat) (Q' : Nat → Prop), j ≤ m ∧ i = .int .i64 j ∧ (J (offE Z l k + j)).at_ wr Q' ∧ Since Q W Q' wr) (fun i _ => m - (intOf i).toNat)
      case atStart => exact ⟨0, Q', Nat.zero_le _, rfl, HJ6.out.1, HJ6.out.2⟩
      case round =>
        obtain ⟨j, Q2, hj, rfl, hJj, hsj⟩ := hrel
        by_cases hjlt : j < m
        · obtain ⟨x, hx⟩ := get_some (l := partsOf Z t) (i := j) (by rw [← HM.out]; exact hjlt)
          obtain ⟨_, _, h3, _⟩ := HX.out wr ⟨Q2, hsj⟩
          obtain ⟨b2, rfl, hc2⟩ := HCell.out wr h3 j x hx
          obtain ⟨hg, hglt⟩ := HG.out j x hx
          obtain ⟨fn6, tm6, as6, bd6, hyy, hRo⟩ := HY.out _ _ wr Q2 hg hJj hsj
          have HRo := Lib.hid hRo
          have HGl := Lib.hid hglt
          have HSj := Lib.hid hsj
          have hji : (j : Int) < (m : Int) := by omega
          dsimp only [encPl] at hyy
          clear hJj hsj h3 hg hglt hRo hx
          gi_wp2
          refine (RoundIn.any _ HRo.out).mono ?_
          rintro e W3 (⟨rfl, Q3, hJ3, hT3, hG3⟩ | ⟨rfl, hg3⟩)
          · gi_wp2
            go_roundw
            case rel => exact ⟨j + 1, Q3, by omega, by go_num, hJ3, HSj.out.trans ⟨hT3, hG3⟩⟩
            case measure => simp [intOf]; omega
          · have HEnd := Lib.hid (show ∃ k, k < (plE Z l).length ∧ Goes (Jx k) Q W W3 from by
              obtain ⟨Q3, h1, h2⟩ := hg3.since
              exact ⟨_, HGl.out, (HSj.out.trans h2).goes h1⟩)
            clear hg3
            gi_wp2
            refine bodyPost_ret (results_none rfl _ _ _) rfl ?_
            exact ⟨⟨_, rfl⟩, .inr HEnd.out⟩
        · obtain rfl : j = m := by omega
          have HEnd := Lib.hid (show (J (offE Z l (k + 1))).at_ wr Q2 ∧ Since Q W Q2 wr from ⟨by rw [HSt.out]; exact hJj, hsj⟩)
          clear hJj hsj
          gi_wp2
          go_roundw
          case rel => exact ⟨k + 1, Q2, by omega, by go_num, HEnd.out.1, HEnd.out.2⟩
          case measure => simp [intOf]; omega
    · obtain rfl : k = n := by omega
      have HEnd := Lib.hid (show Goes (J (plE Z l).length) Q W wr from by rw [← HAll.out]; exact hsi.goes hJk)
      clear hJk hsi
      gi_wp2
      go_end0
      exact ⟨⟨_, rfl⟩, .inl HEnd.out⟩
end Go.Proofs.YtmmkcfiecgpkpaaGreat

/- The places that the program's set hands out. No condition but that it is one. -/
namespace Go.Proofs.YtmmkcfiecgpkpaaGreat
open Go.RowKit Go.Shelf
attribute [local go_sem] Oper.semAt_some
set_option linter.unusedVariables false
set_option linter.unusedSimpArgs false
set_option maxRecDepth 100000

theorem infoPlace : (Tryz.prog.info? 25).map (fun i => (i.zero, i.size, i.bytes)) = some (some (.agg #[.int .i64 0, .int .i64 0]), 2, 16) := by kernel_rfl
def plZ (z : Int × Nat × Nat) : Int × Int := (z.1, (z.2.1 : Nat))

/-- Places in a box, made since: the box, and the row. -/
def plHand (b0 B : Nat) (l : List (Int × Int)) : Thing where
  at_ w W := ∃ a c, Blk w B [.slice a l.length c] 59 ∧ w.ownsRow b0 25 2 (.slice a l.length c) l.length (l.flatMap plcV) ∧ (Value.slice a l.length c).ownBlock ≠ some B ∧ ∀ k, W k ↔ k = B ∨ (Value.slice a l.length c).ownBlock = some k
  lt := by
    rintro w W ⟨a, c, h1, h2, h3, hW⟩ k hk
    rcases (hW k).1 hk with rfl | hk
    · exact h1.lt
    · cases a with
      | none => cases hk
      | some z =>
        have h4 := (ow_lt h2 z rfl).2
        have h5 : z.block = k := by simpa [Value.ownBlock] using hk
        omega
  keep := by
    rintro w w' W S ⟨a, c, h1, h2, h3, hW⟩ ht hs
    exact ⟨a, c, h1.turned ht (hs _ ((hW B).2 (.inl rfl))), ow_turned h2 ht (fun b hb => hs b ((hW b).2 (.inr hb))), h3, hW⟩

/-- A place more. -/
theorem pl_app {b0 B : Nat} {l : List (Int × Int)} {V U w6 : World} {Q : Nat → Prop} {a a' : Option Addr} {c n c' : Nat} {x : Int × Int} (hn : n = l.length) (hB : Blk V B [.slice a n c] 59) (hne : (Value.slice a n c).ownBlock ≠ some B) (hQ : ∀ k, Q k ↔ k = B ∨ (Value.slice a n c).ownBlock = some k)
    (hU : Still V U) (hown : w6.ownsRow b0 25 2 (.slice a' (n + 1) c') (n + 1) (l.flatMap plcV ++ plcV x)) (hg : U.grownBy w6 (Value.slice a n c).ownBlock) (hat : (Value.slice a' (n + 1) c').ownBlock = (Value.slice a n c).ownBlock ∨ (Value.slice a' (n + 1) c').ownBlock = some U.heap.size) :
    w6.cell? ⟨B, 0, none⟩ = some (.slice a n c) ∧ w6.frozen? ⟨B, 0, none⟩ = false ∧ Hid (Goes (plHand b0 B (l ++ [x])) Q V (w6.setCell ⟨B, 0, none⟩ (.slice a' (n + 1) c'))) := by
  subst hn
  have hBl := hB.lt
  have hUs := hU.size
  have hT : Turned (fun k => (Value.slice a l.length c).ownBlock = some k) V w6 := (hU.mono (fun _ _ h => h.elim)).grown hg (fun k hk => .inl hk)
  have hB6 : Blk w6 B [.slice a l.length c] 59 := hB.turned hT hne
  have hne' : (Value.slice a' (l.length + 1) c').ownBlock ≠ some B := fun e => by
    rcases hat with h | h
    · exact hne (h ▸ e)
    · rw [h] at e
      have := Option.some.inj e; omega
  refine ⟨hB6.cell rfl, hB6.free _, Lib.hid ?_⟩
  have hT2 : Turned (· = B) w6 (w6.setCell ⟨B, 0, none⟩ (.slice a' (l.length + 1) c')) := turned_set (Turned.refl _ _) 0 _
  have hlen : (l ++ [x]).length = l.length + 1 := by simp
  have hr : (plHand b0 B (l ++ [x])).at_ (w6.setCell ⟨B, 0, none⟩ (.slice a' (l.length + 1) c')) (fun k => k = B ∨ (Value.slice a' (l ++ [x]).length c').ownBlock = some k) := by
    refine ⟨a', c', ?_, ?_, ?_, fun _ => Iff.rfl⟩
    · rw [hlen]; have := hB6.set 0 (.slice a' (l.length + 1) c'); simpa using this
    · rw [hlen, show (l ++ [x]).flatMap plcV = l.flatMap plcV ++ plcV x by simp [List.flatMap_append]]
      exact ow_turned hown hT2 (fun b hb e => hne' (e ▸ hb))
    · rw [hlen]; exact hne'
  refine ⟨_, hr, ?_, fun k hk => ?_⟩
  · exact (hT.mono (fun k _ h => (hQ k).2 (.inr h))).trans (hT2.mono (fun k _ h => (hQ k).2 (.inl h)))
  · rcases hk with hk | hk
    · exact .inl ((hQ k).2 (.inl hk))
    · rw [hlen] at hk
      rcases hat with h | h
      · exact .inl ((hQ k).2 (.inr (h ▸ hk)))
      · rw [h] at hk
        have := Option.some.inj hk
        exact .inr (by omega)

set_option maxHeartbeats 4000000 in
theorem tpplaces_any {s q : Nat} {a : Option Addr} {c : Nat} {Z : List TpZ} {w : World} {W : Nat → Prop} (h : (tzT s q a c Z).at_ w W) (hZ : Z.length ≤ 16) (hz8 : ∀ z ∈ Z, z.2.2.length ≤ 8)
    (ao : Option Addr) (l : List Int) (m cap n : Nat) (hm : m = l.length) (hA : NumsAt w ao l) (hmx : m ≤ 100) (hn : n = ((plE Z l).map plZ).length) (hn1 : n ≤ 10000) :
    Calls Tryz.prog 27 #[.pointer (some ⟨s, 0, none⟩), .slice ao m cap] w (OutPl w ((plE Z l).map plZ) n) := by
  obtain ⟨i0, hi, hz0, hz1, hz2⟩ := info_parts infoPlace
  obtain ⟨W1, hW1⟩ : ∃ W1, W1 = w.alloc (.cells #[.slice none 0 0] 59) := ⟨_, rfl⟩
  have hs1 : Still w W1 := by rw [hW1]; exact (Turned.refl _ _).alloc _
  have hb1 : Blk W1 w.heap.size [.slice none 0 0] 59 := by rw [hW1]; exact Blk.new w [.slice none 0 0] 59
  have hz1' : W1.heap.size = w.heap.size + 1 := by rw [hW1]; simp
  have HIt := Lib.hid (tpprts_it (s := s) (q := q) (a := a) (c := c) hZ hz8 ao m cap l hm hmx W1.heap.size (W1.heap.size + 1))
  have hx1 : (tzT s q a c Z).at_ W1 W := Thing.keep _ h hs1 (fun _ _ h => h)
  have hSl := Thing.lt _ h
  obtain ⟨S, hS, hSb⟩ := evP_new (n := m) (cap := cap) hx1 (hA.still hs1)
  have HE := Lib.hid (tpprts_any (some ⟨s, 0, none⟩) ao m cap W1)
  have HR := Lib.hid hS
  obtain ⟨R, hR⟩ : ∃ R, R = (plE Z l).map plZ := ⟨_, rfl⟩
  have hRn : R.length = n := by rw [hR, hn]
  have hRl : (plE Z l).length = n := by rw [← hRn, hR, List.length_map]
  have ht2 : Still W1 ((W1.alloc (.cells #[.pointer (some ⟨s, 0, none⟩)] 26)).alloc (.cells #[.slice ao m cap] 23)) := ((Turned.refl _ _).alloc _).alloc _
  have HB := Lib.hid (show (plHand w.heap.size w.heap.size (R.take 0)).at_ ((W1.alloc (.cells #[.pointer (some ⟨s, 0, none⟩)] 26)).alloc (.cells #[.slice ao m cap] 23)) (fun k => k = w.heap.size ∨ (Value.slice none 0 0).ownBlock = some k) from
    ⟨none, 0, hb1.turned ht2 (fun h => h), World.ownsRow_nil _ _ _ _, by simp [Value.ownBlock], fun _ => Iff.rfl⟩)
  have hD' : ∀ k, k = w.heap.size ∨ (Value.slice none 0 0).ownBlock = some k → k = w.heap.size := fun k hk => hk.elim id (fun hk => by simp [Value.ownBlock] at hk)
  have HD := Lib.hid (show ∀ k, (k = w.heap.size ∨ (Value.slice none 0 0).ownBlock = some k) → ¬ S k from by
    intro k hk0 hk
    obtain rfl := hD' k hk0
    rcases hSb _ hk with hk | hk | hk | hk
    · omega
    · omega
    · have := hSl _ hk; omega
    · have := nums_lt hA hk; omega)
  have HSt := Lib.hid (hs1.trans ht2)
  have HD2 := Lib.hid hD'
  have HAll := Lib.hid (show R.take (plE Z l).length = R from by rw [hRl, ← hRn, List.take_length])
  have HZ1 := Lib.hid hz1'
  have HRn := Lib.hid hRn
  have HLk := Lib.hid (fun k => show (R.take k).length ≤ 10000 from by rw [List.length_take]; omega)
  have HGet := Lib.hid (fun k (z : Int × Nat × Nat) (hz : (plE Z l)[k]? = some z) => show R.take (k + 1) = R.take k ++ [plZ z] from by
    have e : R[k]? = some (plZ z) := by rw [hR, List.getElem?_map, hz]; rfl
    rw [List.take_add_one, e]; rfl)
  rw [← hR]
  clear h hSl hS hSb ht2 hb1 hz1' hD' hx1 hR hRn hRl hn hA hm hZ hz8
  refine (callsIn_wide (n := 9)).1 (callsIn_of_wp_marks Tryz.func27 rfl trivial ?_ rfl)
  simp only [Tryz.ntmps27, List.size_toArray, List.length_cons, List.length_nil, Nat.reduceAdd, Nat.reduceSub, Array.replicate_succ, Array.replicate_zero, List.push_toArray, List.append_toArray, List.nil_append, List.cons_append]
  have hf1 : Fence.wide.fn 51 := trivial
  gi_wp2_with (gi_at_call 51; rw [← hW1]; ((with_reducible refine (callsIn_wide.2 HE.out).mono ?_)); rintro e w2 ⟨rfl, rfl⟩)
  rw [← hW1, show w.heap.size + 1 = W1.heap.size from HZ1.out.symm]
  clear hW1
  refine loopA_outer rfl (enters_of Tryz.func79 (by kernel_rfl) rfl) HIt.out (by exact fun _ => rfl) (fun k => plHand w.heap.size w.heap.size (R.take k)) (fun _ => noT) HR.out HB.out HD.out ?_ ?_ ?_
  · rintro ⟨t, i, x⟩ y k V Q' hr hl1 hx hI hQl hsk
    obtain ⟨rr, hrr⟩ := hr
    have hyV : y < V.heap.size := (Array.getElem?_eq_some_iff.1 hrr).1
    have hVb := Blk.new V [.int .i64 t, .int .i64 (i : Nat)] 25
    have b1 : (V.alloc (.cells #[.int .i64 0, .int .i64 0] 25)).cell? ⟨V.heap.size, 0, none⟩ = some (.int .i64 0) := (Blk.new V [.int .i64 0, .int .i64 0] 25).cell rfl
    have HBx := Lib.hid (fun W2 (hT2 : Turned (· = y) (V.alloc (.cells #[.int .i64 t, .int .i64 (i : Nat)] 25)) W2) => show Blk W2 V.heap.size [.int .i64 t, .int .i64 (i : Nat)] 25 from hVb.turned hT2 (by omega))
    have HI2 := Lib.hid (fun W2 (hT2 : Turned (· = y) (V.alloc (.cells #[.int .i64 t, .int .i64 (i : Nat)] 25)) W2) => show (plHand w.heap.size w.heap.size (R.take k)).at_ W2 Q' ∧ V.heap.size < W2.heap.size from
      ⟨Thing.keep _ (Thing.keep _ hI ((Turned.refl _ V).alloc _) (fun _ _ h => h)) hT2 (fun j hj e => hQl (e ▸ hj)), by have := hT2.size; rw [World.size_alloc] at this; omega⟩)
    have hsz : w.heap.size ≤ V.heap.size := by
      have := hsk.turn.size
      have := HSt.out.size
      omega
    have HG := Lib.hid (HGet.out k _ hx)
    have hln := HLk.out k
    clear hl1 hx hI hQl hsk hVb hrr hyV
    dsimp only [encPl]
    gi_wp2
    refine ⟨(Turned.refl _ _).alloc _, fun W2 _ hT2 => ?_⟩
    obtain ⟨hI2, hlt2⟩ := HI2.out W2 hT2
    have hbx := HBx.out W2 hT2
    have p0 := hbx.cell (o := 0) rfl
    have p1 := hbx.cell (o := 1) rfl
    obtain ⟨a1, c1, hB, hrow, hne, hQ⟩ := hI2
    have cc := hB.cell (o := 0) rfl
    have HF := Lib.hid (fun V' (hg : Goes (plHand w.heap.size w.heap.size (R.take k ++ [(t, ((i : Nat) : Int))])) Q' W2 V') => show Goes (plHand w.heap.size w.heap.size (R.take (k + 1))) Q' W2 V' from by
      rw [HG.out]; exact hg)
    have HAp := Lib.hid (fun U hU w6 a' c' hown hg hat => pl_app (b0 := w.heap.size) (U := U) (w6 := w6) (a' := a') (c' := c') (x := (t, ((i : Nat) : Int))) rfl hB hne hQ hU hown hg hat)
    have HRow := Lib.hid hrow
    obtain ⟨m, hm⟩ : ∃ m, m = (R.take k).length := ⟨_, rfl⟩
    rw [← hm] at HAp HRow cc hln
    have hsz2 : w.heap.size ≤ W2.heap.size := by omega
    clear hB hQ hrow hne hm hbx hT2
    gi_wp2_with (gi_at_builtin; refine wpListIn_append_own_at _ rfl _ _ 59 rfl w.heap.size 25 i0 (.agg #[.int .i64 0, .int .i64 0]) 2 16 Tryz.underlying59 hi hz0 hz1 hz2 rfl (by decide) _ _ _ rfl (HRow.out.alloc _) ⟨W2.heap.size, 0, none⟩ 1 1 [.int .i64 t, .int .i64 (i : Nat)] rfl rfl (ow_cells W2 [.int .i64 t, .int .i64 (i : Nat)] 25) (ow_ints rfl) (by unfold maxLen; omega) (by omega) (by simp; omega) ?_; intro v' w6 hown6 hg6 _ hat6; obtain ⟨a6, c6, rfl⟩ := ow_slice hown6; obtain ⟨hc6, hf6, HG6⟩ := HAp.out _ ((Turned.refl _ _).alloc _) w6 a6 c6 hown6 hg6 hat6; clear hown6 hg6 hat6)
    exact HF.out _ HG6.out
  · intro D V Q' hD hK hQD hI hsk
    rw [HAll.out] at hI
    obtain ⟨a, c, hB, hrow, hne, hQ⟩ := hI
    have cc := hB.cell (o := 0) rfl
    rw [HRn.out] at cc
    have hD1 : w.heap.size ≤ D := Nat.le_trans HSt.out.size hD
    have hT0 : Turned (fun k => w.heap.size ≤ k) w V := (HSt.out.mono (fun _ _ h => h.elim)).trans (hsk.turn.mono (fun k _ h => by have := HD2.out k h; omega))
    have hp := putObj_since (.deferred none) (Array.getElem?_eq_some_iff.1 hK).1
    have HP := Lib.hid (show OutPl w R n (.returned (.slice a n c)) (V.putObj D (.deferred none)) from by
      rw [HRn.out] at hrow hQ
      refine ⟨a, c, rfl, ow_turned hrow hp (fun b hb e => ?_), ?_⟩
      · obtain rfl := e
        exact hQD ((hQ _).2 (.inr hb))
      · exact (hT0.trans (hp.mono (fun k _ e => by rw [e]; exact hD1))).mono (fun k hk hh => by omega))
    clear hB hrow hne hQ hT0 hsk hp
    gi_wp2
    refine ⟨by simp, .inl ⟨_, _, rfl, run_takeDeferred hK, ?_⟩⟩
    refine ⟨_, results_tmp rfl _ _ _, ?_⟩
    exact HP.out
  · intro D k V Q' hD hK hQD hk hI hsk
    exact hI.elim
end Go.Proofs.YtmmkcfiecgpkpaaGreat

/- The partition that the program's set answers at a place. No condition but that it is one. -/
namespace Go.Proofs.YtmmkcfiecgpkpaaGreat
open Go.RowKit Go.Shelf
attribute [local go_sem] Oper.semAt_some
set_option linter.unusedVariables false
set_option linter.unusedSimpArgs false
set_option maxRecDepth 100000

/-- Where the partition at a place lies, if there is one. -/
def prtZ (Z : List TpZ) (t p : Int) : Option Nat := if 0 ≤ p then (partsOf Z t)[p.toNat]? else none
theorem plE_one (Z : List TpZ) (t : Int) : plE Z [t] = plT Z t := by simp [plE]
theorem plE_one_some {Z : List TpZ} {t : Int} {k : Nat} {z : Int × Nat × Nat} (h : (plE Z [t])[k]? = some z) : z.1 = t ∧ z.2.1 = k ∧ (partsOf Z t)[k]? = some z.2.2 := by
  rw [plE_one] at h
  unfold plT at h
  rw [List.getElem?_mapIdx] at h
  cases hx : (partsOf Z t)[k]? with
  | none => rw [hx] at h; cases h
  | some x =>
    rw [hx] at h
    obtain rfl := Option.some.inj h
    exact ⟨rfl, rfl, rfl⟩
theorem prtZ_yes {Z : List TpZ} {t p : Int} {k : Nat} {z : Int × Nat × Nat} (h : (plE Z [t])[k]? = some z) (hp : (z.2.1 : Int) = p) : prtZ Z t p = some z.2.2 := by
  obtain ⟨_, h2, h3⟩ := plE_one_some h
  unfold prtZ
  rw [if_pos (by omega), ← hp, h2, Int.toNat_natCast, h3]
theorem prtZ_no {Z : List TpZ} {t p : Int} (h : ∀ j z, j < (plE Z [t]).length → (plE Z [t])[j]? = some z → (z.2.1 : Int) ≠ p) : prtZ Z t p = none := by
  unfold prtZ
  by_cases h0 : 0 ≤ p
  · rw [if_pos h0]
    cases hx : (partsOf Z t)[p.toNat]? with
    | none => rfl
    | some x =>
      exfalso
      have hl := (List.getElem?_eq_some_iff.1 hx).1
      refine h p.toNat (t, p.toNat, x) ?_ ?_ (by show ((p.toNat : Nat) : Int) = p; omega)
      · rw [plE_one, plT_len]; exact hl
      · rw [plE_one]; unfold plT; rw [List.getElem?_mapIdx, hx]; rfl
  · rw [if_neg h0]

/-- The two boxes of the answer. -/
abbrev bx2T (B : Nat) (v : Value) (e : Int) : Thing := (blkT B [v] 47).sep (blkT (B + 1) [.int .i64 e] 27)
/-- What holds between two rounds; and where one has left. -/
def prtI (B : Nat) (L : List (Int × Nat × Nat)) (p : Int) (k : Nat) : Thing where
  at_ w W := (bx2T B (.pointer none) 0).at_ w W ∧ ∀ j z, j < k → L[j]? = some z → (z.2.1 : Int) ≠ p
  lt := fun h => (bx2T B (.pointer none) 0).lt h.1
  keep := fun h ht hs => ⟨(bx2T B (.pointer none) 0).keep h.1 ht hs, h.2⟩
def prtX (B : Nat) (L : List (Int × Nat × Nat)) (p : Int) (k : Nat) : Thing where
  at_ w W := ∃ z, L[k]? = some z ∧ (z.2.1 : Int) = p ∧ (bx2T B (.pointer (some ⟨z.2.2, 0, none⟩)) 0).at_ w W
  lt := by rintro w W ⟨z, _, _, h⟩; exact Thing.lt _ h
  keep := by rintro w w' W S ⟨z, h1, h2, h⟩ ht hs; exact ⟨z, h1, h2, Thing.keep _ h ht hs⟩

theorem results_cellPE {fn : Func} {p q : Tmp} {t u : TypeId} (h : fn.results = #[.cell p t, .cell q u]) (tmps : Array Value) (P : Program) (w : World) :
    (results fn tmps).run P w =
      ((asAddr (tmps.getD p undef)).run P w).andThen fun a w₁ => ((loadVar t a).run P w₁).andThen fun v w₂ =>
        ((asAddr (tmps.getD q undef)).run P w₂).andThen fun a' w₃ => ((loadVar u a').run P w₃).andThen fun v' w₄ => .ok (.tuple #[v, v']) w₄ := by
  simp only [results, h]
  simp [Sem.run_bind, Result.andThen]

/-- How a function ends whose two results lie in cells, where a loop lies behind it. -/
theorem cell2_end {F : Fence} {n : Nat} {V : World} {D B : Nat} {v : Value} {e : Int} {a : Act} {fn : Func} {W : Nat → Prop} {R : Ending → World → Prop} (hfn : fn.results = #[.cell 4 47, .cell 5 27])
    (h4 : a.tmps.getD 4 undef = .pointer (some ⟨B, 0, none⟩)) (h5 : a.tmps.getD 5 undef = .pointer (some ⟨B + 1, 0, none⟩)) (hd : a.defers = [{ target := .collected D, args := #[] }]) (hB : (bx2T B v e).at_ V W) (hne : B ≠ D ∧ B + 1 ≠ D) (hK : V.heap[D]? = some (.deferred (some [])))
    (hR : ∀ W', Turned (· = D) V W' → R (.returned (.tuple #[v, .int .i64 e])) W') : bodyPostM F n Tryz.prog fn R .ret a V := by
  show LeavesInM F n Tryz.prog fn a.tmps R a.defers .returning V
  rw [hd]
  refine ⟨by simp, .inl ⟨_, _, rfl, run_takeDeferred hK, ?_⟩⟩
  have hP : Turned (· = D) V (V.putObj D (.deferred none)) := putObj_since _ (Array.getElem?_eq_some_iff.1 hK).1
  obtain ⟨W1, W2, ⟨h1, _⟩, ⟨h2, _⟩, _⟩ := hB
  have b1 : (V.putObj D (.deferred none)).cell? ⟨B, 0, none⟩ = some v := (h1.turned hP hne.1).cell rfl
  have b2 : (V.putObj D (.deferred none)).cell? ⟨B + 1, 0, none⟩ = some (.int .i64 e) := (h2.turned hP hne.2).cell rfl
  refine ⟨.tuple #[v, .int .i64 e], ?_, hR _ hP⟩
  rw [results_cellPE hfn, h4, h5]
  go_simp

theorem bx2_at {B : Nat} {v : Value} {e : Int} {V : World} {W : Nat → Prop} (h : (bx2T B v e).at_ V W) : V.cell? ⟨B, 0, none⟩ = some v ∧ V.cell? ⟨B + 1, 0, none⟩ = some (.int .i64 e) ∧ V.frozen? ⟨B, 0, none⟩ = false ∧ V.frozen? ⟨B + 1, 0, none⟩ = false ∧ (∀ k, W k ↔ k = B ∨ k = B + 1) ∧
    ∀ (v' : Value) (e' : Int), (bx2T B v' e').at_ ((V.setCell ⟨B, 0, none⟩ v').setCell ⟨B + 1, 0, none⟩ (.int .i64 e')) W := by
  obtain ⟨W1, W2, ⟨h1, k1⟩, ⟨h2, k2⟩, hd, hW⟩ := h
  have hW' : ∀ k, W k ↔ k = B ∨ k = B + 1 := fun k => by rw [hW, k1, k2]
  refine ⟨h1.cell rfl, h2.cell rfl, h1.free _, h2.free _, hW', fun v' e' => ⟨W1, W2, ⟨?_, k1⟩, ⟨?_, k2⟩, hd, hW⟩⟩
  · exact (h1.set 0 v').turned (turned_set (Turned.refl _ _) 0 _) (by omega)
  · exact (h2.turned (turned_set (Turned.refl (· = B) V) 0 v') (by omega)).set 0 _

set_option maxHeartbeats 4000000 in
theorem tppart_any {s q : Nat} {a : Option Addr} {c : Nat} {Z : List TpZ} {w : World} {W : Nat → Prop} (h : (tzT s q a c Z).at_ w W) (hZ : Z.length ≤ 16) (hz8 : ∀ z ∈ Z, z.2.2.length ≤ 8) (t p : Int) :
    Calls Tryz.prog 22 #[.pointer (some ⟨s, 0, none⟩), plcA t p] w fun e w' => e = .returned (.tuple #[.pointer ((prtZ Z t p).map fun x => ⟨x, 0, none⟩), .int .i64 (if (prtZ Z t p).isSome then 0 else 5)]) ∧ Still w w' := by
  obtain ⟨W1, hW1⟩ : ∃ W1, W1 = ((w.alloc (.cells #[.int .i64 t, .int .i64 p] 25)).alloc (.cells #[.pointer none] 47)).alloc (.cells #[.int .i64 0] 27) := ⟨_, rfl⟩
  have hs1 : Still w W1 := by rw [hW1]; exact (((Turned.refl _ _).alloc _).alloc _).alloc _
  have hz1 : W1.heap.size = w.heap.size + 3 := by rw [hW1]; simp
  have hb0 : Blk W1 w.heap.size [.int .i64 t, .int .i64 p] 25 := by rw [hW1]; exact ((Blk.new w [.int .i64 t, .int .i64 p] 25).alloc _).alloc _
  have hb1 : Blk W1 (w.heap.size + 1) [.pointer none] 47 := by
    rw [hW1]
    have := (Blk.new (w.alloc (.cells #[.int .i64 t, .int .i64 p] 25)) [.pointer none] 47).alloc (.cells #[.int .i64 0] 27)
    rwa [World.size_alloc] at this
  have hb2 : Blk W1 (w.heap.size + 1 + 1) [.int .i64 0] 27 := by
    rw [hW1]
    have := Blk.new ((w.alloc (.cells #[.int .i64 t, .int .i64 p] 25)).alloc (.cells #[.pointer none] 47)) [.int .i64 0] 27
    rwa [World.size_alloc, World.size_alloc] at this
  have HM := Lib.hid (tpmade_any ((tzT_rd h).still hs1))
  obtain ⟨W2, hW2⟩ : ∃ W2, W2 = W1.alloc (.cells #[.int .i64 t] 3) := ⟨_, rfl⟩
  have hs2 : Still W1 W2 := by rw [hW2]; exact (Turned.refl _ _).alloc _
  have hz2 : W2.heap.size = W1.heap.size + 1 := by rw [hW2]; simp
  have hbn : Blk W2 W1.heap.size [.int .i64 t] 3 := by rw [hW2]; exact Blk.new W1 [.int .i64 t] 3
  have hA2 : NumsAt W2 (some ⟨W1.heap.size, 0, none⟩) [t] := fun i x hi => ⟨W1.heap.size, 0, rfl, by
    match i, hi with
    | 0, hi => obtain rfl : t = x := by simpa using hi
               exact hbn.cell rfl
    | i + 1, hi => simp at hi⟩
  have hx2 : (tzT s q a c Z).at_ W2 W := Thing.keep _ (Thing.keep _ h hs1 (fun _ _ h => h)) hs2 (fun _ _ h => h)
  have hSl := Thing.lt _ h
  have HIt := Lib.hid (tpprts_it (s := s) (q := q) (a := a) (c := c) hZ hz8 (some ⟨W1.heap.size, 0, none⟩) 1 1 [t] rfl (by omega) W2.heap.size (W2.heap.size + 1))
  obtain ⟨S, hS, hSb⟩ := evP_new (n := 1) (cap := 1) hx2 hA2
  have HE := Lib.hid (tpprts_any (some ⟨s, 0, none⟩) (some ⟨W1.heap.size, 0, none⟩) 1 1 W2)
  have HR := Lib.hid hS
  have HYes := Lib.hid (fun (k : Nat) (z : Int × Nat × Nat) (hz : (plE Z [t])[k]? = some z) (e : (z.2.1 : Int) = p) => prtZ_yes hz e)
  have HNo := Lib.hid (fun (hn : ∀ j z, j < (plE Z [t]).length → (plE Z [t])[j]? = some z → (z.2.1 : Int) ≠ p) => prtZ_no hn)
  have HT := Lib.hid (fun (k : Nat) (z : Int × Nat × Nat) (hz : (plE Z [t])[k]? = some z) => show z.1 = t from (plE_one_some hz).1)
  obtain ⟨L, hL⟩ : ∃ L, L = plE Z [t] := ⟨_, rfl⟩
  rw [← hL] at HIt HYes HNo HT
  generalize prtZ Z t p = ans at *
  have HEy := Lib.hid (fun x (h : ans = some x) => show (if ans.isSome then (0 : Int) else 5) = 0 from by rw [h]; rfl)
  have HEn := Lib.hid (fun (h : ans = none) => show (if ans.isSome then (0 : Int) else 5) = 5 from by rw [h]; rfl)
  generalize (if ans.isSome then (0 : Int) else 5) = er at *
  have ht3 : Still W2 ((W2.alloc (.cells #[.pointer (some ⟨s, 0, none⟩)] 26)).alloc (.cells #[.slice (some ⟨W1.heap.size, 0, none⟩) 1 1] 23)) := ((Turned.refl _ _).alloc _).alloc _
  have ht13 := hs2.trans ht3
  have HB := Lib.hid (show (prtI (w.heap.size + 1) L p 0).at_ ((W2.alloc (.cells #[.pointer (some ⟨s, 0, none⟩)] 26)).alloc (.cells #[.slice (some ⟨W1.heap.size, 0, none⟩) 1 1] 23)) (fun k => k = w.heap.size + 1 ∨ k = w.heap.size + 1 + 1) from
    ⟨⟨(· = w.heap.size + 1), (· = w.heap.size + 1 + 1), ⟨hb1.turned ht13 (fun h => h), fun _ => Iff.rfl⟩, ⟨hb2.turned ht13 (fun h => h), fun _ => Iff.rfl⟩, fun k h1 h2 => by omega, fun _ => Iff.rfl⟩, fun j _ hj => by omega⟩)
  have HD := Lib.hid (show ∀ k, (k = w.heap.size + 1 ∨ k = w.heap.size + 1 + 1) → ¬ S k from by
    intro k hk0 hk
    rcases hSb _ hk with hk | hk | hk | ⟨_, x, hx, hk⟩
    · omega
    · omega
    · have := hSl _ hk; omega
    · obtain rfl := Option.some.inj hx
      have hk' : W1.heap.size = k := hk
      omega)
  have HA := Lib.hid (fun V Q' (hS : Since (fun k => k = w.heap.size + 1 ∨ k = w.heap.size + 1 + 1) ((W2.alloc (.cells #[.pointer (some ⟨s, 0, none⟩)] 26)).alloc (.cells #[.slice (some ⟨W1.heap.size, 0, none⟩) 1 1] 23)) Q' V) => show Blk V w.heap.size [.int .i64 t, .int .i64 p] 25 from
    (hb0.turned ht13 (fun h => h)).turned hS.turn (by omega))
  have HSt := Lib.hid (hs1.trans ht13)
  have HZ := Lib.hid (show w.heap.size + 3 ≤ ((W2.alloc (.cells #[.pointer (some ⟨s, 0, none⟩)] 26)).alloc (.cells #[.slice (some ⟨W1.heap.size, 0, none⟩) 1 1] 23)).heap.size from by rw [World.size_alloc, World.size_alloc]; omega)
  have q0 := hb0.cell (o := 0) rfl
  have HZ1 := Lib.hid hz1
  have HZ2 := Lib.hid hz2
  clear h hSl hS hSb ht3 ht13 hb0 hb1 hb2 hx2 hL hA2 hbn hs1 hs2 hz1 hz2 hZ hz8
  refine (callsIn_wide (n := 9)).1 (callsIn_of_wp_marks Tryz.func22 rfl trivial ?_ rfl)
  simp only [Tryz.ntmps22, List.size_toArray, List.length_cons, List.length_nil, Nat.reduceAdd, Nat.reduceSub, Array.replicate_succ, Array.replicate_zero, List.push_toArray, List.append_toArray, List.nil_append, List.cons_append]
  have hf1 : Fence.wide.fn 51 := trivial
  have hf2 : Fence.wide.fn 50 := trivial
  gi_wp2_with (first
    | (gi_at_call 50; rw [← hW1]; ((with_reducible refine (callsIn_wide.2 HM.out).mono ?_)); rintro e w2 ⟨rfl, rfl⟩)
    | (gi_at_call 51; rw [← hW1, ← hW2, show w.heap.size + 1 + 1 + 1 = W1.heap.size by have := HZ1.out; omega]; ((with_reducible refine (callsIn_wide.2 HE.out).mono ?_)); rintro e w2 ⟨rfl, rfl⟩))
  rw [show w.heap.size + 1 + 1 + 1 = W1.heap.size by have := HZ1.out; omega, ← hW1, ← hW2, show W1.heap.size + 1 = W2.heap.size by have := HZ2.out; omega]
  clear hW1 hW2
  refine loopA_outer rfl (enters_of Tryz.func79 (by kernel_rfl) rfl) HIt.out (by exact fun _ => rfl) (prtI (w.heap.size + 1) L p) (prtX (w.heap.size + 1) L p) HR.out HB.out HD.out ?_ ?_ ?_
  · rintro ⟨zt, zi, zx⟩ y k V Q' hr hl1 hx hI hQl hsk
    have htt := HT.out k _ hx
    dsimp only at htt
    subst htt
    obtain ⟨rr, hrr⟩ := hr
    have hyV : y < V.heap.size := (Array.getElem?_eq_some_iff.1 hrr).1
    have hVb := Blk.new V [.int .i64 zt, .int .i64 (zi : Nat)] 25
    have b1 : (V.alloc (.cells #[.int .i64 0, .int .i64 0] 25)).cell? ⟨V.heap.size, 0, none⟩ = some (.int .i64 0) := (Blk.new V [.int .i64 0, .int .i64 0] 25).cell rfl
    have hAV := HA.out V Q' hsk
    have hBQ := (bx2_at hI.1).2.2.2.2.1
    have hyw : y ≠ w.heap.size := by have := HZ.out; omega
    have HI2 := Lib.hid (fun W3 (hT2 : Turned (· = y) (V.alloc (.cells #[.int .i64 zt, .int .i64 (zi : Nat)] 25)) W3) => show (prtI (w.heap.size + 1) L p k).at_ W3 Q' ∧ Blk W3 w.heap.size [.int .i64 zt, .int .i64 p] 25 ∧ Blk W3 V.heap.size [.int .i64 zt, .int .i64 (zi : Nat)] 25 from
      ⟨Thing.keep _ (Thing.keep _ hI ((Turned.refl _ V).alloc _) (fun _ _ h => h)) hT2 (fun j hj e => hQl (e ▸ hj)), (hAV.alloc _).turned hT2 (fun e => hyw e.symm), hVb.turned hT2 (by omega)⟩)
    have HXx := Lib.hid hx
    clear hl1 hx hI hQl hsk hVb hrr hyV hAV hBQ hyw
    dsimp only [encPl]
    gi_wp2
    refine ⟨(Turned.refl _ _).alloc _, fun W3 _ hT2 => ?_⟩
    obtain ⟨hI2, hb2, hb3⟩ := HI2.out W3 hT2
    have p0 := hb3.cell (o := 0) rfl
    have p1 := hb3.cell (o := 1) rfl
    have r0 := hb2.cell (o := 0) rfl
    have r1 := hb2.cell (o := 1) rfl
    obtain ⟨hbx, hno⟩ := hI2
    obtain ⟨c4, c5, c6, c7, hQ, hset⟩ := bx2_at hbx
    by_cases hp : (zi : Int) = p
    · have HG := Lib.hid (show Goes (prtX (w.heap.size + 1) L p k) Q' W3 ((W3.setCell ⟨w.heap.size + 1, 0, none⟩ (.pointer (some ⟨zx, 0, none⟩))).setCell ⟨w.heap.size + 1 + 1, 0, none⟩ (.int .i64 0)) from
        ⟨Q', ⟨_, HXx.out, hp, hset _ _⟩, ((Turned.refl Q' W3).setCell (p := ⟨w.heap.size + 1, 0, none⟩) (.inl ((hQ _).2 (.inl rfl))) _).setCell (p := ⟨w.heap.size + 1 + 1, 0, none⟩) (.inl ((hQ _).2 (.inr rfl))) _, fun _ h => .inl h⟩)
      clear hb2 hb3 hT2 hbx hno hQ hset
      gi_wp2
      exact HG.out
    · have HG := Lib.hid (show Goes (prtI (w.heap.size + 1) L p (k + 1)) Q' W3 W3 from
        ⟨Q', ⟨hbx, fun j z' hj hz' => by
          rcases Nat.lt_succ_iff_lt_or_eq.1 hj with hj | rfl
          · exact hno j z' hj hz'
          · have h9 := HXx.out
            rw [h9] at hz'
            obtain rfl := Option.some.inj hz'
            exact hp⟩, Turned.refl _ _, fun _ h => .inl h⟩)
      clear hb2 hb3 hT2 hbx hno hQ hset
      gi_wp2
      exact HG.out
  · intro D V Q' hD hK hQD hI hsk
    obtain ⟨hbx, hno⟩ := hI
    obtain ⟨c4, c5, c6, c7, hQ, hset⟩ := bx2_at hbx
    have HAns := Lib.hid (HNo.out hno)
    have hD1 : w.heap.size + 1 ≠ D ∧ w.heap.size + 1 + 1 ≠ D := by have := HZ.out; omega
    have HK := Lib.hid (show ((V.setCell ⟨w.heap.size + 1, 0, none⟩ (.pointer none)).setCell ⟨w.heap.size + 1 + 1, 0, none⟩ (.int .i64 5)).heap[D]? = some (.deferred (some [])) from by
      rw [Below.heap_setCell _ _ _ _ (fun e => hD1.2 e.symm), Below.heap_setCell _ _ _ _ (fun e => hD1.1 e.symm)]; exact hK)
    have HB2 := Lib.hid (hset (.pointer none) 5)
    have HT5 := Lib.hid (fun W' (ht : Turned (· = D) ((V.setCell ⟨w.heap.size + 1, 0, none⟩ (.pointer none)).setCell ⟨w.heap.size + 1 + 1, 0, none⟩ (.int .i64 5)) W') => show Still w W' from by
      have h0 := HZ.out
      have t1 : Turned (fun k => w.heap.size ≤ k) w V := (HSt.out.mono (fun _ _ h => h.elim)).trans (hsk.turn.mono (fun k _ e => by omega))
      have t2 : Turned (fun k => w.heap.size ≤ k) V ((V.setCell ⟨w.heap.size + 1, 0, none⟩ (.pointer none)).setCell ⟨w.heap.size + 1 + 1, 0, none⟩ (.int .i64 5)) := ((Turned.refl _ V).setCell (p := ⟨w.heap.size + 1, 0, none⟩) (.inl (by simp)) _).setCell (p := ⟨w.heap.size + 1 + 1, 0, none⟩) (.inl (by simp; omega)) _
      exact ((t1.trans t2).trans (ht.mono (fun k _ e => by omega))).mono (fun k hk hh => by omega))
    clear hbx hno hQ hset hsk hK hQD
    gi_wp2
    exact cell2_end rfl rfl rfl rfl HB2.out hD1 HK.out (fun W' ht => ⟨by rw [HEn.out HAns.out, HAns.out]; rfl, HT5.out W' ht⟩)
  · intro D k V Q' hD hK hQD hk hI hsk
    obtain ⟨z, hz, hzp, hbx⟩ := hI
    have HAns := Lib.hid (HYes.out k z hz hzp)
    have hD1 : w.heap.size + 1 ≠ D ∧ w.heap.size + 1 + 1 ≠ D := by have := HZ.out; omega
    have HB2 := Lib.hid hbx
    have HK := Lib.hid hK
    have HT5 := Lib.hid (fun W' (ht : Turned (· = D) V W') => show Still w W' from by
      have h0 := HZ.out
      have t1 : Turned (fun k => w.heap.size ≤ k) w V := (HSt.out.mono (fun _ _ h => h.elim)).trans (hsk.turn.mono (fun k _ e => by omega))
      exact (t1.trans (ht.mono (fun k _ e => by omega))).mono (fun k hk hh => by omega))
    clear hbx hsk hK hQD hz hzp
    gi_wp2
    try rw [Exit.noGoto_ret]
    exact cell2_end rfl rfl rfl rfl HB2.out hD1 HK.out (fun W' ht => ⟨by rw [HEy.out _ HAns.out, HAns.out]; rfl, HT5.out W' ht⟩)
end Go.Proofs.YtmmkcfiecgpkpaaGreat

/- What holds a set of topics keeps the words that the statements want of it. No condition. -/
namespace Go.Proofs.YtmmkcfiecgpkpaaGreat
open Go.RowKit
set_option linter.unusedVariables false
set_option linter.unusedSimpArgs false
set_option maxRecDepth 100000

section
variable {Z : List TpZ} {T : List TpM} {L : List (List Nat)}
theorem name_of (h : Z.map (·.1) = T.map (·.nm)) (t : Int) : nameV Z t = nmAt T t := by
  unfold nameV nmAt
  have e : (Z[t.toNat]?).map (·.1) = (T[t.toNat]?).map (·.nm) := by rw [← List.getElem?_map, ← List.getElem?_map, h]
  rw [e]
theorem z_len (h2 : Z.map (·.2.2) = L) (hf : Fits L T) {i : Nat} {z : TpZ} (hz : Z[i]? = some z) : ∃ x, T[i]? = some x ∧ z.2.2.length = x.ps.length ∧ L[i]? = some z.2.2 := by
  have e0 : L[i]? = some z.2.2 := by rw [← h2, List.getElem?_map, hz]; rfl
  have e1 : (L.map (·.length))[i]? = some z.2.2.length := by rw [List.getElem?_map, e0]; rfl
  rw [show L.map (·.length) = T.map (·.ps.length) from hf, List.getElem?_map] at e1
  cases hx : T[i]? with
  | none => rw [hx] at e1; cases e1
  | some x => rw [hx] at e1; exact ⟨x, rfl, by simpa using e1.symm, e0⟩
theorem z_eight (h2 : Z.map (·.2.2) = L) (hf : Fits L T) (h8 : ∀ t ∈ T, t.ps.length ≤ 8) : ∀ z ∈ Z, z.2.2.length ≤ 8 := fun z hz => by
  obtain ⟨i, hi, rfl⟩ := List.mem_iff_getElem.1 hz
  obtain ⟨x, h3, h4, _⟩ := z_len h2 hf (List.getElem?_eq_getElem hi)
  rw [h4]
  exact h8 x (List.mem_of_getElem? h3)
theorem parts_len (h2 : Z.map (·.2.2) = L) (hf : Fits L T) (t : Int) (ht : 0 ≤ t) : (partsOf Z t).length = nps T t.toNat := by
  unfold partsOf
  rw [if_pos ht]
  have hzt : (Z.map (·.2.2)).map (·.length) = T.map (·.ps.length) := by rw [h2]; exact hf
  have e := congrArg (fun l : List Nat => l[t.toNat]?) hzt
  simp only [List.getElem?_map, Option.map_map] at e
  unfold nps
  cases hz : Z[t.toNat]? with
  | none =>
    rw [hz] at e
    cases hx : T[t.toNat]? with
    | none => rfl
    | some x => rw [hx] at e; cases e
  | some z =>
    rw [hz] at e
    cases hx : T[t.toNat]? with
    | none => rw [hx] at e; cases e
    | some x => rw [hx] at e; simpa using e
theorem plT_of (h2 : Z.map (·.2.2) = L) (hf : Fits L T) (t : Int) : (plT Z t).map plZ = plcOf T t := by
  unfold plcOf
  by_cases ht : 0 ≤ t
  · rw [if_pos ht]
    have hl := parts_len h2 hf t ht
    apply List.ext_getElem?
    intro i
    unfold plT
    rw [List.getElem?_map, List.getElem?_mapIdx, List.getElem?_map, ← hl]
    cases hx : (partsOf Z t)[i]? with
    | none => rw [List.getElem?_eq_none_iff] at hx; rw [List.getElem?_eq_none_iff.2 (by simp; omega)]; rfl
    | some x => have hlt := (List.getElem?_eq_some_iff.1 hx).1; rw [List.getElem?_range hlt]; rfl
  · rw [if_neg ht]
    unfold plT partsOf
    rw [if_neg ht]; rfl
theorem plE_of (h2 : Z.map (·.2.2) = L) (hf : Fits L T) (l : List Int) : (plE Z l).map plZ = plcs T l := by
  unfold plE plcs
  rw [List.map_flatMap]
  congr 1
  funext t
  exact plT_of h2 hf t
theorem plcs_le (h8 : ∀ t ∈ T, t.ps.length ≤ 8) (l : List Int) : (plcs T l).length ≤ 8 * l.length := by
  have h1 : ∀ t : Int, (plcOf T t).length ≤ 8 := fun t => by
    unfold plcOf
    split
    · rw [List.length_map, List.length_range]
      unfold nps
      cases hx : T[t.toNat]? with
      | none => simp
      | some x => exact h8 x (List.mem_of_getElem? hx)
    · simp
  induction l with
  | nil => simp [plcs]
  | cons t l ih =>
    have e : plcs T (t :: l) = plcOf T t ++ plcs T l := by simp [plcs]
    rw [e, List.length_append, List.length_cons]
    have := h1 t
    omega
theorem prtZ_some (h2 : Z.map (·.2.2) = L) {t p x : Nat} {xs : List Nat} (h3 : L[t]? = some xs) (h4 : xs[p]? = some x) : prtZ Z t p = some x := by
  unfold prtZ partsOf
  rw [if_pos (by omega), if_pos (by omega), Int.toNat_natCast, Int.toNat_natCast]
  have e : (Z[t]?).map (·.2.2) = some xs := by rw [← List.getElem?_map, h2, h3]
  rw [e]; exact h4
theorem prtZ_none (h2 : Z.map (·.2.2) = L) (hf : Fits L T) {t p : Int} (h : partE T t p ≠ 0) : prtZ Z t p = none := by
  unfold prtZ
  by_cases hp : 0 ≤ p
  · rw [if_pos hp]
    by_cases ht : 0 ≤ t
    · rw [List.getElem?_eq_none_iff, parts_len h2 hf t ht]
      unfold partE prt at h
      unfold nps
      cases hx : T[t.toNat]? with
      | none => simp
      | some x =>
        rw [hx] at h
        show x.ps.length ≤ p.toNat
        rcases Nat.lt_or_ge p.toNat x.ps.length with hl | hl
        · exfalso
          apply h
          rw [if_pos]
          exact ⟨ht, hp, by rw [Option.bind_some, List.getElem?_eq_getElem hl]; rfl⟩
        · exact hl
    · unfold partsOf; rw [if_neg ht]; rfl
  · rw [if_neg hp]
end

theorem head_api : HeadApi tpHT where
  find := fun h hf hn l hl => by
    obtain ⟨a, c, Z, e1, e2, hr⟩ := tpHT_rd h
    exact tpfind_any hr e1 hn l hl
  name := fun h hf hn t ht => by
    obtain ⟨a, c, Z, e1, e2, hr⟩ := tpHT_rd h
    have := tpname_any hr (by rw [(fd_of e1 []).2]; exact hn) t
    rwa [name_of e1] at this
  topics := fun h hf hn => by
    obtain ⟨a, c, Z, e1, e2, hr⟩ := tpHT_rd h
    exact (tptopics_any hr).mono fun e w' ⟨h1, h2⟩ => ⟨by rw [h1, (fd_of e1 []).2], by rw [h2]; exact Turned.refl _ _⟩
  pool := fun h hf hn => by
    obtain ⟨a, c, Z, e1, e2, hr⟩ := tpHT_rd h
    exact (tppool_any hr).mono fun e w' ⟨h1, h2⟩ => ⟨h1, by rw [h2]; exact Turned.refl _ _⟩
  places := fun h hf hn h8 ao l m cap n hm hA hW hmx hnl => by
    obtain ⟨a, c, Z, e1, e2, h⟩ := h
    have hb := plcs_le h8 l
    have := tpplaces_any h (by rw [(fd_of e1 []).2]; exact hn) (z_eight e2 hf h8) ao l m cap n hm hA hmx (by rw [plE_of e2 hf]; exact hnl) (by omega)
    rwa [plE_of e2 hf] at this
  part_ok := fun h hf hn h8 t p x xs h3 h4 => by
    obtain ⟨a, c, Z, e1, e2, h⟩ := h
    have := tppart_any h (by rw [(fd_of e1 []).2]; exact hn) (z_eight e2 hf h8) (t : Nat) (p : Nat)
    rw [prtZ_some e2 h3 h4] at this
    exact this
  part_no := fun h hf hn h8 t p ht hp he => by
    obtain ⟨a, c, Z, e1, e2, h⟩ := h
    have := tppart_any h (by rw [(fd_of e1 []).2]; exact hn) (z_eight e2 hf h8) t p
    rw [prtZ_none e2 hf he] at this
    exact this
  route := fun h hf hn hp l hl k ao m cap hm hA hW hmx => by
    obtain ⟨a, c, Z, e1, e2, hr⟩ := tpHT_rd h
    exact tproute_any hr e1 e2 hf hn hp l hl k ao m cap hm hA hW hmx
end Go.Proofs.YtmmkcfiecgpkpaaGreat

/- The program's Make of a set, and how a topic's partitions are made. No condition but that the pool is one. -/
namespace Go.Proofs.YtmmkcfiecgpkpaaGreat
open Go.RowKit
set_option linter.unusedVariables false
set_option linter.unusedSimpArgs false
set_option maxRecDepth 100000

theorem tpmake_no (n s : Int) (w : World) (hn : i64 n) (hs : i64 s) (hno : ¬ (1 ≤ n ∧ n ≤ 128 ∧ 1 ≤ s ∧ s ≤ 256)) : Calls Tryz.prog 8 #[.int .i64 n, .int .i64 s] w fun e w' => e = .returned (.tuple #[.pointer none, .int .i64 2]) ∧ Still w w' := by
  have HP := Lib.hid (pool_api.make_no n s w hn hs hno)
  clear hn hs hno
  go_enter Tryz.func8, Tryz.ntmps8
  go_wp2_with (go_at_call 36; ((with_reducible refine HP.out.mono ?_)); rintro e w1 ⟨rfl, h1⟩; have H1 := Lib.hid h1; clear h1)
  go_ret2
  exact ⟨rfl, H1.out⟩
theorem tpmake_ok (n s : Nat) (w : World) (h1 : 1 ≤ n) (h2 : n ≤ 128) (h3 : 1 ≤ s) (h4 : s ≤ 256) :
    Calls Tryz.prog 8 #[.int .i64 n, .int .i64 s] w fun e w' => ∃ x q, e = .returned (.tuple #[.pointer (some ⟨x, 0, none⟩), .int .i64 0]) ∧ ∃ W, (setT tpHT pT xT x q [] ⟨PM.new n s, []⟩).at_ w' W ∧ Still w w' ∧ ∀ k, W k → w.heap.size ≤ k := by
  have HP := Lib.hid (pool_api.make_ok n s w h1 h2 h3 h4)
  unfold PNew at HP
  have HF := Lib.hid (fun (w1 : World) (q : Nat) (V : Nat → Prop) (hV : (pT q (PM.new n s)).at_ w1 V) (hs : Still w w1) (hlo : ∀ k, V k → w.heap.size ≤ k) =>
    show ∃ W, (setT tpHT pT xT w1.heap.size q [] ⟨PM.new n s, []⟩).at_ (w1.alloc (.cells #[.pointer (some ⟨q, 0, none⟩), .slice none 0 0] 74)) W ∧ Still w (w1.alloc (.cells #[.pointer (some ⟨q, 0, none⟩), .slice none 0 0] 74)) ∧ ∀ k, W k → w.heap.size ≤ k from by
      have hlt := (pT q (PM.new n s)).lt hV
      have ha : Still w1 (w1.alloc (.cells #[.pointer (some ⟨q, 0, none⟩), .slice none 0 0] 74)) := (Turned.refl _ _).alloc _
      refine ⟨fun k => k = w1.heap.size ∨ V k, ⟨(· = w1.heap.size), V, ⟨none, 0, [], rfl, rfl, (· = w1.heap.size), fun _ => False, ⟨Blk.new w1 [.pointer (some ⟨q, 0, none⟩), .slice none 0 0] 74, fun _ => Iff.rfl⟩,
        ⟨fun _ => False, fun _ => False, ⟨World.ownsRow_nil _ _ _ _, fun k => ⟨fun h => h.elim, fun h => by cases h⟩⟩, fun _ h => h, fun _ h => h.elim, fun k => ⟨fun h => h.elim, fun h => h.elim id id⟩⟩, fun _ _ h => h, fun k => ⟨.inl, fun h => h.elim id (fun h => h.elim)⟩⟩,
        ⟨V, fun _ => False, (pT q (PM.new n s)).keep hV ha (fun _ _ h => h), fun _ h => h, fun _ _ h => h, fun k => ⟨.inl, fun h => h.elim id (fun h => h.elim)⟩⟩, fun k e hk => by have := hlt k hk; omega, fun _ => Iff.rfl⟩, hs.alloc _, fun k hk => ?_⟩
      rcases hk with rfl | hk
      · exact hs.size
      · exact hlo k hk)
  generalize PM.new n s = P at *
  clear h1 h2 h3 h4
  go_enter Tryz.func8, Tryz.ntmps8
  go_wp2_with (go_at_call 36; ((with_reducible refine HP.out.mono ?_)); rintro e w1 ⟨q, rfl, V, hV, hs, hlo⟩; have HV := Lib.hid hV; have HS := Lib.hid hs; have HL := Lib.hid hlo; clear hV hs hlo)
  go_ret2
  exact ⟨_, q, rfl, HF.out w1 q V HV.out HS.out HL.out⟩

/-! How partitions are made. -/
theorem infoPartP : (Tryz.prog.info? 47).map (fun i => (i.zero, i.size, i.bytes)) = some (some (.pointer none), 1, 8) := by kernel_rfl
theorem made_ptrs (k : Nat) : madeCells #[Value.pointer none] k = (List.replicate k (Value.pointer none)).toArray := by
  apply Array.ext
  · simp [madeCells]
  · intro i h1 h2
    simp [madeCells, Nat.mod_one]
/-- So many partitions, made alike, and the row that tells where they lie. -/
abbrev madeT (q b n : Nat) (M : RM) (xs : List Nat) : Thing := (blkT b (prtsV xs ++ List.replicate (n - xs.length) (.pointer none)) 47).sep (allT (fun z : Nat × RM => xT z.1 q z.2) (xs.map fun x => (x, M)))
theorem madeT_step {w w1 w2 : World} {q b n x : Nat} {M : RM} {xs : List Nat} (hk : xs.length < n) (H : Held w w1 (madeT q b n M xs)) (hx : ∃ V, (xT x q M).at_ w2 V ∧ Still w1 w2 ∧ ∀ k, V k → w1.heap.size ≤ k) :
    (∃ u, w2.cell? ⟨b, xs.length, none⟩ = some u) ∧ w2.frozen? ⟨b, xs.length, none⟩ = false ∧ Hid (Held w (w2.setCell ⟨b, xs.length, none⟩ (.pointer (some ⟨x, 0, none⟩))) (madeT q b n M (xs ++ [x]))) := by
  have H2 := (H.new hx).turn
  obtain ⟨W, ⟨hb, hW⟩, hg⟩ := H2.fst
  have hl : (prtsV xs).length = xs.length := by simp [prtsV]
  have e1 : (prtsV xs ++ List.replicate (n - xs.length) (Value.pointer none)).set xs.length (.pointer (some ⟨x, 0, none⟩)) = prtsV (xs ++ [x]) ++ List.replicate (n - (xs ++ [x]).length) (.pointer none) := by
    obtain ⟨d, hd⟩ : ∃ d, n - xs.length = d + 1 := ⟨n - xs.length - 1, by omega⟩
    rw [hd, show n - (xs ++ [x]).length = d by simp; omega, List.replicate_succ, List.set_append, if_neg (by rw [hl]; omega), hl, Nat.sub_self, List.set_cons_zero]
    simp [prtsV]
  have hi : xs.length < (prtsV xs ++ List.replicate (n - xs.length) (Value.pointer none)).length := by rw [List.length_append, hl, List.length_replicate]; omega
  refine ⟨⟨_, hb.cell (o := xs.length) (List.getElem?_eq_getElem hi)⟩, hb.free _, Lib.hid ?_⟩
  have H3 := hg (blkT b (prtsV (xs ++ [x]) ++ List.replicate (n - (xs ++ [x]).length) (.pointer none)) 47) (w2.setCell ⟨b, xs.length, none⟩ (.pointer (some ⟨x, 0, none⟩))) ⟨W, ⟨by rw [← e1]; exact hb.set _ _, hW⟩, (Turned.refl W w2).setCell (p := ⟨b, xs.length, none⟩) (.inl ((hW b).2 rfl)) _, fun _ h => .inl h⟩
  refine H3.under (fun _ V h => ⟨V, ?_, fun _ h => h⟩)
  rw [List.map_append]
  exact all_snoc h

section
variable {s q : Nat} {a : Option Addr} {c : Nat} {Z : List TpZ} {w : World} {W : Nat → Prop} {P : PM} {N : Nat}
set_option maxHeartbeats 2000000 in
theorem tpsplit_no (h : HRd s q a c Z w) (hP : (pT q P).at_ w W) (hO : P.Ok N) (hN : N < 900000) (n r p : Int) (hn : w64 n) (hr : w64 r) (hp : w64 p) (hno : n < 1 ∨ 8 < n ∨ r < 1 ∨ 64 < r ∨ (p ≠ 0 ∧ p ≠ 1)) :
    Calls Tryz.prog 39 #[.pointer (some ⟨s, 0, none⟩), .int .i64 n, .int .i64 r, .int .i64 p] w fun e w' => e = .returned (.tuple #[.slice none 0 0, .int .i64 2]) ∧ Still w w' := by
  by_cases h1 : n < 1
  · clear hno h hP hO hn hr hp
    go_enter Tryz.func39, Tryz.ntmps39
    go_wp2
    go_ret2
    exact ⟨rfl, Turned.refl _ _⟩
  · by_cases h8 : 8 < n
    · clear hno h hP hO hn hr hp
      go_enter Tryz.func39, Tryz.ntmps39
      go_wp2
      go_ret2
      exact ⟨rfl, Turned.refl _ _⟩
    · obtain ⟨m, rfl⟩ : ∃ m : Nat, n = (m : Int) := ⟨n.toNat, by omega⟩
      obtain ⟨i0, hi, hz0, hz1, hz2⟩ := info_parts infoPartP
      have hb : (i0.bytes : Int) * (m : Int) ≤ 281474976710656 := by rw [hz2]; omega
      have hmk := fun W : World => run_make (P := Tryz.prog) W 85 47 i0 _ Tryz.underlying85 hi hz0 .i64 .i64 (m : Int) (m : Int) (Int.natCast_nonneg m) (Int.le_refl _) hb (by omega)
      simp only [hz1, Int.toNat_natCast, Nat.mul_one, show Value.cells (.pointer none) = #[.pointer none] from rfl, made_ptrs] at hmk
      have HX := Lib.hid (fun V (hs : Still w V) => part_api.make_no ((pT q P).keep hP hs (fun _ _ h => h)) hO hN r p hr hp (by omega))
      have HC := Lib.hid (fun V (hs : Still w V) => (h.still hs).c0)
      have hm1 : ¬ ((m : Int) < 1) := h1
      have hm8 : ¬ ((8 : Int) < (m : Int)) := h8
      have hm0 : (0 : Int) < (m : Int) := by omega
      have HSt := Lib.hid (show Still w (w.alloc (.cells (List.replicate m (Value.pointer none)).toArray 47)) from (Turned.refl _ _).alloc _)
      have c0 := HC.out _ HSt.out
      clear hno h hP hO hn hr hp h1 h8
      go_enter Tryz.func39, Tryz.ntmps39
      go_wp2
      clear c0 hmk
      go_loopw [23] (fun i wr => i = .int .i64 0 ∧ Still w wr) (fun i _ => 0)
      case atStart => exact ⟨rfl, HSt.out⟩
      case round =>
        obtain ⟨rfl, hst⟩ := hrel
        have c0 := HC.out wr hst
        have HS := Lib.hid hst
        clear hst
        go_wp2_with (go_at_call 63; ((with_reducible refine (HX.out _ HS.out).mono ?_)); rintro e w1 ⟨rfl, h1⟩; have H1 := Lib.hid h1; clear h1)
        go_ret2
        exact ⟨rfl, HS.out.trans H1.out⟩

set_option maxHeartbeats 2000000 in
theorem tpsplit_ok (h : HRd s q a c Z w) (hP : (pT q P).at_ w W) (hO : P.Ok N) (hN : N < 900000) (m r : Nat) (ov : Bool) (h1 : 1 ≤ m) (h8 : m ≤ 8) (hr1 : 1 ≤ r) (hr2 : r ≤ 64) :
    Calls Tryz.prog 39 #[.pointer (some ⟨s, 0, none⟩), .int .i64 m, .int .i64 r, .int .i64 (polB ov)] w fun e w' => ∃ b xs, e = .returned (.tuple #[.slice (some ⟨b, 0, none⟩) m m, .int .i64 0]) ∧ xs.length = m ∧ Held w w' (madeT q b m (RM.new r ov) xs) := by
  obtain ⟨i0, hi, hz0, hz1, hz2⟩ := info_parts infoPartP
  have hb : (i0.bytes : Int) * (m : Int) ≤ 281474976710656 := by rw [hz2]; omega
  have hmk := fun W : World => run_make (P := Tryz.prog) W 85 47 i0 _ Tryz.underlying85 hi hz0 .i64 .i64 (m : Int) (m : Int) (Int.natCast_nonneg m) (Int.le_refl _) hb (by omega)
  simp only [hz1, Int.toNat_natCast, Nat.mul_one, show Value.cells (.pointer none) = #[.pointer none] from rfl, made_ptrs] at hmk
  have HX := Lib.hid (fun V (hs : Still w V) => part_api.make_ok ((pT q P).keep hP hs (fun _ _ h => h)) hO hN r ov hr1 hr2)
  unfold XNew at HX
  have HC := Lib.hid (fun V (hs : Still w V) => (h.still hs).c0)
  have hm1 : ¬ ((m : Int) < 1) := by omega
  have hm8 : ¬ ((8 : Int) < (m : Int)) := by omega
  have H0 := Lib.hid (show Held w (w.alloc (.cells (List.replicate m (Value.pointer none)).toArray 47)) (madeT q w.heap.size m (RM.new r ov) []) from
    ⟨(· = w.heap.size), ⟨(· = w.heap.size), fun _ => False, ⟨by have := Blk.new w (List.replicate m (Value.pointer none)) 47; exact this, fun _ => Iff.rfl⟩, fun _ h => h, fun _ _ h => h, fun k => ⟨.inl, fun h => h.elim id (fun h => h.elim)⟩⟩, fun k e => by omega, (Turned.refl _ _).alloc _⟩)
  generalize RM.new r ov = M at *
  generalize polB ov = pb at *
  generalize (r : Int) = rr at *
  have c0 := HC.out _ H0.out.ground
  clear h hP hO hr1 hr2 h1
  go_enter Tryz.func39, Tryz.ntmps39
  go_wp2
  obtain ⟨b, hbb⟩ : ∃ b, b = w.heap.size := ⟨_, rfl⟩
  rw [← hbb] at H0 ⊢
  obtain ⟨W0, hW0⟩ : ∃ W0, W0 = w.alloc (.cells (Array.replicate m (Value.pointer none)) 47) := ⟨_, rfl⟩
  rw [List.toArray_replicate, ← hW0] at H0
  rw [← hW0]
  clear c0 hmk hbb hW0
  go_loopw [23] (fun i wr => ∃ (k : Nat) (xs : List Nat), k ≤ m ∧ i = .int .i64 k ∧ xs.length = k ∧ Held w wr (madeT q b m M xs)) (fun i _ => m - (intOf i).toNat)
  case atStart => exact ⟨0, [], Nat.zero_le _, rfl, rfl, H0.out⟩
  case round =>
    obtain ⟨k, xs, hk, rfl, hxl, hh⟩ := hrel
    have HXl := Lib.hid hxl
    have HH := Lib.hid hh
    have c0 := HC.out wr hh.ground
    clear hxl hh
    by_cases hlt : k < m
    · have hki : (k : Int) < (m : Int) := by omega
      have HStep := Lib.hid (fun (w2 : World) (x : Nat) (hx : ∃ V, (xT x q M).at_ w2 V ∧ Still wr w2 ∧ ∀ k, V k → wr.heap.size ≤ k) => by
        have := madeT_step (by rw [HXl.out]; exact hlt) HH.out hx
        rw [HXl.out] at this
        exact this)
      go_wp2_with (go_at_call 63; ((with_reducible refine (HX.out _ HH.out.ground).mono ?_)); rintro e w2 ⟨x, rfl, hx⟩; obtain ⟨⟨u, hu⟩, hf, HN⟩ := HStep.out w2 x hx; clear hx)
      go_roundw
      case rel => exact ⟨k + 1, xs ++ [x], by omega, by go_num, by rw [List.length_append, HXl.out]; rfl, HN.out⟩
      case measure => simp [intOf]; omega
    · obtain rfl : k = m := by omega
      go_wp2
      go_ret2
      exact ⟨b, xs, rfl, HXl.out, HH.out⟩
end
end Go.Proofs.YtmmkcfiecgpkpaaGreat

/- What a claim does to the program's set. No condition but that the set is one. -/
namespace Go.Proofs.YtmmkcfiecgpkpaaGreat
open Go.RowKit
set_option linter.unusedVariables false
set_option linter.unusedSimpArgs false
set_option maxRecDepth 100000

theorem putP_same {T : List TpM} {t p : Nat} {M : RM} (h : prt T t p = some M) : putP T t p M = T := by
  obtain ⟨x, h1, h2⟩ := prt_some h
  have hp : x.ps.set p M = x.ps := by
    apply List.ext_getElem?
    intro i
    by_cases e : p = i
    · subst e; rw [List.getElem?_set_self (List.getElem?_eq_some_iff.1 h2).1, h2]
    · rw [List.getElem?_set_ne e]
  unfold putP
  simp only [h1, hp]
  apply List.ext_getElem?
  intro i
  by_cases e : t = i
  · subst e; rw [List.getElem?_set_self (List.getElem?_eq_some_iff.1 h1).1, h1]
  · rw [List.getElem?_set_ne e]

section
variable {w w' w0 : World} {Q0 W : Nat → Prop} {A B R : Thing}
/-- A box is set. -/
theorem Sit.boxSet {b : Nat} {xs : List Value} {e : TypeId} (h : Sit Q0 w0 w (A.sep (blkT b xs e))) (o : Nat) (v : Value) : Sit Q0 w0 (w.setCell ⟨b, o, none⟩ v) (A.sep (blkT b (xs.set o v) e)) := by
  obtain ⟨W, ⟨hb, hW⟩, hg⟩ := h.swap.fst
  exact (hg (blkT b (xs.set o v) e) _ ⟨W, ⟨hb.set o v, hW⟩, (Turned.refl W w).setCell (p := ⟨b, o, none⟩) (.inl ((hW b).2 rfl)) _, fun _ h => .inl h⟩).swap
theorem Sit.boxAt {b : Nat} {xs : List Value} {e : TypeId} (h : Sit Q0 w0 w (A.sep (blkT b xs e))) : Blk w b xs e := by obtain ⟨W, ⟨hb, _⟩, _⟩ := h.snd; exact hb
end

section
variable {s q : Nat} {L : List (List Nat)} {S : StM} {X : List Int} {N K : Nat}
/-- A partition's own claim, as one of the set. -/
theorem setT_claim {V : World} {W : Nat → Prop} (h : (setT tpHT pT xT s q L S).at_ V W) (hf : Fits L S.T) (hO : S.Ok X N K) (hN : N < 900000) (hK : K < 900000) {t p x : Nat} {xs : List Nat} {M : RM} (hm : prt S.T t p = some M) (h1 : L[t]? = some xs) (h2 : xs[p]? = some x) (n : Int) (hn : w64 n) :
    Calls Tryz.prog 48 #[.pointer (some ⟨x, 0, none⟩), .int .i64 n] V fun e w' => e = .returned (.tuple #[.int .i64 (ptClA S.P M n), .int .i64 (ptClH S.P M n), .int .i64 (ptClE S.P M n)]) ∧ Goes (setT tpHT pT xT s q L ⟨ptClP S.P M n, putP S.T t p (ptClM S.P M n)⟩) W V w' := by
  have h3 := set_open hf hm h1 h2 h
  obtain ⟨W1, g1, g2, g3⟩ := goes_fst h3
  obtain ⟨hM, hI⟩ := hO.at hm
  exact (part_api.claim g1 hI hO.ok hM hN hK n hn).mono fun e w' ⟨he, hg⟩ => ⟨he, (g3 _ _ hg).turn (fun h => set_shut hf hm h1 h2 h)⟩

set_option maxHeartbeats 4000000 in
theorem tpclaim_any {w : World} {W : Nat → Prop} (h : (setT tpHT pT xT s q L S).at_ w W) (hf : Fits L S.T) (hO : S.Ok X N K) (hN : N < 900000) (hK : K < 900000) (l : Txt) (hl : l.length ≤ 300)
    (k : List UInt8) (ao : Option Addr) (m cap : Nat) (hm : m = k.length) (hA : BytesAt w ao k) (hW : SlW ao m cap) (hmx : m ≤ 100) (n : Int) (hn : w64 n) :
    Calls Tryz.prog 20 #[.pointer (some ⟨s, 0, none⟩), tx l, .slice ao m cap, .int .i64 n] w fun e w' => e = .returned (.tuple #[plcA (tclT S l k n) (tclP S l k n), .int .i64 (tclA S l k n), .int .i64 (tclH S l k n), .int .i64 (tclE S l k n)]) ∧ Goes (setT tpHT pT xT s q L (tclM S l k n)) W w w' := by
  have hw1 : Still w (w.alloc (.cells #[.int .i64 0, .int .i64 0] 25)) := (Turned.refl _ _).alloc _
  have HS1 := Lib.hid ((Sit.start h).box [.int .i64 0, .int .i64 0] 25)
  have HHd := Lib.hid (fun V (hs : Sit W w V ((setT tpHT pT xT s q L S).sep (blkT w.heap.size [.int .i64 0, .int .i64 0] 25))) => show ∃ U, (tpHT s q (S.T.map (·.nm)) L).at_ V U from by
    obtain ⟨U, ⟨U1, _, h1, _⟩, _⟩ := hs.fst; exact ⟨U1, h1⟩)
  have HRt := Lib.hid (show Calls Tryz.prog 17 #[.pointer (some ⟨s, 0, none⟩), tx l, .slice ao m cap] (w.alloc (.cells #[.int .i64 0, .int .i64 0] 25)) fun e w' => e = .returned (.tuple #[plcA (routT S.T l k) (routP S.T l k), .int .i64 (routE S.T l k)]) ∧ Still (w.alloc (.cells #[.int .i64 0, .int .i64 0] 25)) w' from by
    obtain ⟨U, h1⟩ := HHd.out _ HS1.out
    exact head_api.route h1 hf hO.len hO.nps l hl k ao m cap hm (hA.still hw1) hW hmx)
  by_cases h0 : routE S.T l k = 0
  · obtain ⟨t, p, e1, e2, hpr, ht16, hp8⟩ := rout_ok hO h0
    obtain ⟨xs, x, ps, g1, g2, g3, g4⟩ := fits_at hf hpr
    have eE : tclE S l k n = ptClE S.P (rtM S.T l k) n := by unfold tclE; rw [if_neg (by simp [h0])]
    rw [e1, e2, h0] at HRt
    have HPt := Lib.hid (fun V (hs : Sit W w V ((setT tpHT pT xT s q L S).sep (blkT w.heap.size [.int .i64 0, .int .i64 0] 25))) => show Calls Tryz.prog 22 #[.pointer (some ⟨s, 0, none⟩), .agg #[.int .i64 (t : Nat), .int .i64 (p : Nat)]] V fun e w' => e = .returned (.tuple #[.pointer (some ⟨x, 0, none⟩), .int .i64 0]) ∧ Still V w' from by
      obtain ⟨U, h1⟩ := HHd.out V hs
      exact head_api.part_ok h1 hf hO.len (fun t ht => (hO.nps t ht).2) t p x xs g1 g2)
    have HCl := Lib.hid (fun V (R : Thing) (hs : Sit W w V ((setT tpHT pT xT s q L S).sep R)) => by
      obtain ⟨U, h1, h2⟩ := hs.fst
      exact (setT_claim h1 hf hO hN hK hpr g1 g2 n hn).mono (fun e w' (he : _ ∧ _) => And.intro he.1 (h2 _ _ he.2)))
    have HEnd := Lib.hid (fun V (S' : StM) (u : Nat) (hs : Sit W w V ((setT tpHT pT xT s q L S').sep ((blkT w.heap.size [.int .i64 0, .int .i64 0] 25).sep (blkT u [.int .i64 (t : Nat), .int .i64 (p : Nat)] 25)))) =>
      show Hid (∀ x y : Int, (V.setCell ⟨w.heap.size, 0, none⟩ (.int .i64 x)).cell? ⟨w.heap.size, 0, none⟩ = some (.int .i64 x) ∧ ((V.setCell ⟨w.heap.size, 0, none⟩ (.int .i64 x)).setCell ⟨w.heap.size, 1, none⟩ (.int .i64 y)).cell? ⟨w.heap.size, 1, none⟩ = some (.int .i64 y) ∧ Goes (setT tpHT pT xT s q L S') W w ((V.setCell ⟨w.heap.size, 0, none⟩ (.int .i64 x)).setCell ⟨w.heap.size, 1, none⟩ (.int .i64 y))) ∧
        (V.cell? ⟨w.heap.size, 0, none⟩ = some (.int .i64 0) ∧ V.cell? ⟨w.heap.size, 1, none⟩ = some (.int .i64 0) ∧ V.frozen? ⟨w.heap.size, 0, none⟩ = false ∧ V.frozen? ⟨w.heap.size, 1, none⟩ = false) ∧ V.cell? ⟨u, 0, none⟩ = some (.int .i64 (t : Nat)) ∧ V.cell? ⟨u, 1, none⟩ = some (.int .i64 (p : Nat)) from by
        have h2 := hs.assoc'.swap.assoc'
        have hb := h2.boxAt
        have hp := hs.assoc'.boxAt
        exact ⟨Lib.hid (fun x y => ⟨((h2.boxSet 0 (.int .i64 x)).boxAt).cell (o := 0) rfl, (((h2.boxSet 0 (.int .i64 x)).boxSet 1 (.int .i64 y)).boxAt).cell (o := 1) rfl, ((h2.boxSet 0 (.int .i64 x)).boxSet 1 (.int .i64 y)).drop.snd.goes⟩), ⟨hb.cell rfl, hb.cell rfl, hb.free _, hb.free _⟩, hp.cell rfl, hp.cell rfl⟩)
    have HB3 := Lib.hid (fun V (hs : Still (w.alloc (.cells #[.int .i64 0, .int .i64 0] 25)) V) => show Sit W w (V.alloc (.cells #[.int .i64 (t : Nat), .int .i64 (p : Nat)] 25)) (((setT tpHT pT xT s q L S).sep (blkT w.heap.size [.int .i64 0, .int .i64 0] 25)).sep (blkT V.heap.size [.int .i64 (t : Nat), .int .i64 (p : Nat)] 25)) from
      (HS1.out.still hs).box [.int .i64 (t : Nat), .int .i64 (p : Nat)] 25)
    unfold tclT tclP tclA tclH tclM
    rw [eE, e1, e2]
    by_cases hc : ptClE S.P (rtM S.T l k) n = 0
    · rw [hc] at HCl ⊢
      simp only [ne_eq, not_true_eq_false, if_false, Int.toNat_natCast]
      have HS' := Lib.hid (fun V (R : Thing) (hs : Sit W w V ((setT tpHT pT xT s q L ⟨ptClP S.P (rtM S.T l k) n, putP S.T t p (ptClM S.P (rtM S.T l k) n)⟩).sep R)) => hs)
      generalize (⟨ptClP S.P (rtM S.T l k) n, putP S.T t p (ptClM S.P (rtM S.T l k) n)⟩ : StM) = S' at *
      generalize ptClA S.P (rtM S.T l k) n = at_ at *
      generalize ptClH S.P (rtM S.T l k) n = hd at *
      unfold tx at *
      clear h hf hO hN hK hm hA hW hw1 h0 e1 e2 hpr g1 g2 g3 g4 eE hc hn HS'
      go_enter Tryz.func20, Tryz.ntmps20
      go_wp2_with (first
        | (go_at_call 17; ((with_reducible refine HRt.out.mono ?_)); rintro e w2 ⟨rfl, hs⟩; have H3 := Lib.hid (HB3.out w2 hs); clear hs)
        | (go_at_call 22; ((with_reducible refine (HPt.out _ H3.out.drop).mono ?_)); rintro e w3 ⟨rfl, hs⟩; have H4 := Lib.hid (H3.out.still hs).assoc; clear hs)
        | (go_at_call 48; ((with_reducible refine (HCl.out _ _ H4.out).mono ?_)); rintro e w4 ⟨rfl, hs⟩; obtain ⟨HF, ⟨b1, b2, b3, b4⟩, p0, p1⟩ := HEnd.out w4 _ _ hs; clear hs))
      obtain ⟨d1, d2, d3⟩ := HF.out (t : Nat) (p : Nat)
      exact bodyPost_ret (v := .tuple #[.agg #[.int .i64 (t : Nat), .int .i64 (p : Nat)], .int .i64 at_, .int .i64 hd, .int .i64 0]) (by simp [results, Tryz.results20, go_sem, d1, d2]) rfl ⟨rfl, d3⟩
    · rw [show (⟨ptClP S.P (rtM S.T l k) n, putP S.T t p (ptClM S.P (rtM S.T l k) n)⟩ : StM) = S from by
        unfold ptClP ptClM; rw [if_pos hc, if_pos hc, putP_same hpr]] at HCl
      rw [if_pos hc, if_pos hc, if_pos hc, if_pos hc, if_pos hc]
      generalize ptClE S.P (rtM S.T l k) n = er at *
      generalize ptClA S.P (rtM S.T l k) n = at_ at *
      generalize ptClH S.P (rtM S.T l k) n = hd at *
      unfold tx at *
      clear h hf hO hN hK hm hA hW hw1 h0 e1 e2 hpr g1 g2 g3 g4 eE hn
      go_enter Tryz.func20, Tryz.ntmps20
      go_wp2_with (first
        | (go_at_call 17; ((with_reducible refine HRt.out.mono ?_)); rintro e w2 ⟨rfl, hs⟩; have H3 := Lib.hid (HB3.out w2 hs); clear hs)
        | (go_at_call 22; ((with_reducible refine (HPt.out _ H3.out.drop).mono ?_)); rintro e w3 ⟨rfl, hs⟩; have H4 := Lib.hid (H3.out.still hs).assoc; clear hs)
        | (go_at_call 48; ((with_reducible refine (HCl.out _ _ H4.out).mono ?_)); rintro e w4 ⟨rfl, hs⟩; obtain ⟨HF, ⟨b1, b2, b3, b4⟩, p0, p1⟩ := HEnd.out w4 _ _ hs; clear hs))
      obtain ⟨d1, d2, d3⟩ := HF.out 0 0
      exact bodyPost_ret (v := .tuple #[.agg #[.int .i64 0, .int .i64 0], .int .i64 0, .int .i64 0, .int .i64 er]) (by simp [results, Tryz.results20, go_sem, d1, d2]) rfl ⟨rfl, d3⟩
  · have eE : tclE S l k n = routE S.T l k := by unfold tclE; rw [if_pos h0]
    have eT : routT S.T l k = 0 := by unfold routT; rw [if_pos h0]
    have eP : routP S.T l k = 0 := by unfold routP; rw [if_pos h0]
    unfold tclT tclP tclA tclH tclM
    rw [eE, eT, eP, if_pos h0, if_pos h0, if_pos h0, if_pos h0]
    rw [eT, eP] at HRt
    have HB3 := Lib.hid (fun V (hs : Still (w.alloc (.cells #[.int .i64 0, .int .i64 0] 25)) V) => show Hid (∀ x y : Int, ((V.alloc (.cells #[.int .i64 0, .int .i64 0] 25)).setCell ⟨w.heap.size, 0, none⟩ (.int .i64 x)).cell? ⟨w.heap.size, 0, none⟩ = some (.int .i64 x) ∧ (((V.alloc (.cells #[.int .i64 0, .int .i64 0] 25)).setCell ⟨w.heap.size, 0, none⟩ (.int .i64 x)).setCell ⟨w.heap.size, 1, none⟩ (.int .i64 y)).cell? ⟨w.heap.size, 1, none⟩ = some (.int .i64 y) ∧ Goes (setT tpHT pT xT s q L S) W w (((V.alloc (.cells #[.int .i64 0, .int .i64 0] 25)).setCell ⟨w.heap.size, 0, none⟩ (.int .i64 x)).setCell ⟨w.heap.size, 1, none⟩ (.int .i64 y))) ∧
        ((V.alloc (.cells #[.int .i64 0, .int .i64 0] 25)).cell? ⟨w.heap.size, 0, none⟩ = some (.int .i64 0) ∧ (V.alloc (.cells #[.int .i64 0, .int .i64 0] 25)).cell? ⟨w.heap.size, 1, none⟩ = some (.int .i64 0) ∧ (V.alloc (.cells #[.int .i64 0, .int .i64 0] 25)).frozen? ⟨w.heap.size, 0, none⟩ = false ∧ (V.alloc (.cells #[.int .i64 0, .int .i64 0] 25)).frozen? ⟨w.heap.size, 1, none⟩ = false) from by
        have h2 := ((HS1.out.still hs).box [.int .i64 0, .int .i64 0] 25).drop
        have hb := h2.boxAt
        exact ⟨Lib.hid (fun x y => ⟨((h2.boxSet 0 (.int .i64 x)).boxAt).cell (o := 0) rfl, (((h2.boxSet 0 (.int .i64 x)).boxSet 1 (.int .i64 y)).boxAt).cell (o := 1) rfl, ((h2.boxSet 0 (.int .i64 x)).boxSet 1 (.int .i64 y)).drop.goes⟩), ⟨hb.cell rfl, hb.cell rfl, hb.free _, hb.free _⟩⟩)
    generalize routE S.T l k = er at *
    unfold tx at *
    clear h hf hO hN hK hm hA hW hw1 eE eT eP hn
    go_enter Tryz.func20, Tryz.ntmps20
    go_wp2_with (go_at_call 17; ((with_reducible refine HRt.out.mono ?_)); rintro e w2 ⟨rfl, hs⟩; obtain ⟨HF, ⟨b1, b2, b3, b4⟩⟩ := HB3.out w2 hs; clear hs)
    obtain ⟨d1, d2, d3⟩ := HF.out 0 0
    exact bodyPost_ret (v := .tuple #[.agg #[.int .i64 0, .int .i64 0], .int .i64 0, .int .i64 0, .int .i64 er]) (by simp [results, Tryz.results20, go_sem, d1, d2]) rfl ⟨rfl, d3⟩
end
end Go.Proofs.YtmmkcfiecgpkpaaGreat

/- What opening a topic does to the program's set. No condition but that the set is one. -/
namespace Go.Proofs.YtmmkcfiecgpkpaaGreat
open Go.RowKit
set_option linter.unusedVariables false
set_option linter.unusedSimpArgs false
set_option maxRecDepth 100000

theorem infoTopic : (Tryz.prog.info? 89).map (fun i => (i.zero, i.size, i.bytes)) = some (some (.agg #[.string ⟨#[]⟩, .slice none 0 0]), 2, 40) := by kernel_rfl
theorem encTp_ones (z : TpZ) : ∀ u ∈ encTp z, u.oneCell' = true := fun u hu => by
  unfold encTp at hu
  simp at hu
  rcases hu with rfl | rfl <;> rfl

section
variable {s q : Nat} {L : List (List Nat)} {S : StM} {w : World} {W : Nat → Prop}
abbrev restS (q : Nat) (L : List (List Nat)) (S : StM) : Thing := (pT q S.P).sep (tpsT xT q (L.zip (S.T.map (·.ps))))
/-- Where a set's topics lie. -/
theorem set_tz (h : (setT tpHT pT xT s q L S).at_ w W) : ∃ a c Z, Z.map (·.1) = S.T.map (·.nm) ∧ Z.map (·.2.2) = L ∧ ((tzT s q a c Z).sep (restS q L S)).at_ w W := by
  obtain ⟨W1, W2, ⟨a, c, Z, e1, e2, h1⟩, h2, hd, hW⟩ := h
  exact ⟨a, c, Z, e1, e2, W1, W2, h1, h2, hd, hW⟩
theorem tz_set {a : Option Addr} {c : Nat} {Z : List TpZ} (e1 : Z.map (·.1) = S.T.map (·.nm)) (e2 : Z.map (·.2.2) = L) (h : ((tzT s q a c Z).sep (restS q L S)).at_ w W) : (setT tpHT pT xT s q L S).at_ w W := by
  obtain ⟨W1, W2, h1, h2, hd, hW⟩ := h
  exact ⟨W1, W2, ⟨a, c, Z, e1, e2, h1⟩, h2, hd, hW⟩
theorem zip_rep {α β : Type} (M : β) : ∀ (xs : List α), xs.zip (List.replicate xs.length M) = xs.map fun x => (x, M)
  | [] => rfl
  | x :: xs => by rw [List.length_cons, List.replicate_succ, List.zip_cons_cons, zip_rep M xs]; rfl

/-- The topics' row, ahead of all else. -/
theorem top_row {a : Option Addr} {c : Nat} {Z : List TpZ} {R : Thing} (h : ((tzT s q a c Z).sep R).at_ w W) :
    ((ownT 89 2 a Z.length c (rowOf encTp Z)).sep ((blkT s [.pointer (some ⟨q, 0, none⟩), .slice a Z.length c] 74).sep ((zonesT Z).sep R))).at_ w W :=
  sep_turn (sep_imp2 (fun h => h) (fun h => sep_assoc h) (sep_assoc h))
theorem top_shut {a : Option Addr} {c n : Nat} {Z : List TpZ} {z : TpZ} {M : RM} {nps : Nat} (hn : n = (Z ++ [z]).length) (hf : Fits L S.T) (hz : z.2.2.length = nps)
    (h : ((blkT s [.pointer (some ⟨q, 0, none⟩), .slice a n c] 74).sep ((ownT 89 2 a n c (rowOf encTp Z ++ encTp z)).sep ((zonesT Z).sep ((restS q L S).sep (madeT q z.2.1 nps M z.2.2))))).at_ w W) :
    ((tzT s q a c (Z ++ [z])).sep (restS q (L ++ [z.2.2]) ⟨S.P, S.T ++ [⟨z.1, List.replicate nps M⟩]⟩)).at_ w W := by
  subst hn
  have hl : L.length = (S.T.map (·.ps)).length := by have := congrArg List.length hf; simpa [List.length_map] using this
  have e1 : prtsV z.2.2 ++ List.replicate (nps - z.2.2.length) (Value.pointer none) = prtsV z.2.2 := by rw [hz, Nat.sub_self]; simp
  have e2 : (L ++ [z.2.2]).zip ((S.T ++ [(⟨z.1, List.replicate nps M⟩ : TpM)]).map (·.ps)) = L.zip (S.T.map (·.ps)) ++ [(z.2.2, List.replicate nps M)] := by
    rw [List.map_append, List.zip_append hl]; rfl
  have e3 : rowOf encTp (Z ++ [z]) = rowOf encTp Z ++ encTp z := by rw [rowOf_append, rowOf_cons, rowOf_nil, List.append_nil]
  unfold restS tzT
  rw [e2, e3]
  refine sep_assoc' (sep_imp2 (fun h => h) (fun h => sep_assoc' (sep_imp2 (fun h => h) (fun h => ?_) h)) h)
  have h1 := sep_assoc' (sep_imp2 (fun h => h) (fun h => sep_assoc (sep_swap h)) h)
  refine sep_imp2 (fun h => ?_) (fun h => ?_) h1
  · refine all_snoc (sep_imp2 (fun h => ?_) (fun h => h) (sep_swap h))
    rw [e1] at h
    exact h
  · refine sep_imp2 (fun h => h) (fun h => ?_) (sep_turn h)
    refine all_snoc (sep_imp2 (fun h => ?_) (fun h => h) h)
    show (allT (fun z : Nat × RM => xT z.1 q z.2) (z.2.2.zip (List.replicate nps M))).at_ _ _
    rw [← hz, zip_rep]
    exact h
/-- One more topic. -/
theorem top_new {a a' : Option Addr} {c c' n : Nat} {Z : List TpZ} {z : TpZ} {M : RM} {nps : Nat} {Q0 : Nat → Prop} {w0 V w6 : World} {o : Obj} (hn : n = Z.length) (hf : Fits L S.T) (hz : z.2.2.length = nps) (e1 : Z.map (·.1) = S.T.map (·.nm)) (e2 : Z.map (·.2.2) = L)
    (H : Sit Q0 w0 V (((tzT s q a c Z).sep (restS q L S)).sep (madeT q z.2.1 nps M z.2.2))) (hown : w6.ownsRow 0 89 2 (.slice a' (n + 1) c') (n + 1) (rowOf encTp Z ++ encTp z)) (hg : (V.alloc o).grownBy w6 (Value.slice a n c).ownBlock)
    (hat : (Value.slice a' (n + 1) c').ownBlock = (Value.slice a n c).ownBlock ∨ (Value.slice a' (n + 1) c').ownBlock = some (V.alloc o).heap.size) :
    w6.cell? ⟨s, 1, none⟩ = some (.slice a n c) ∧ w6.frozen? ⟨s, 1, none⟩ = false ∧ Hid (Sit Q0 w0 (w6.setCell ⟨s, 1, none⟩ (.slice a' (n + 1) c')) (setT tpHT pT xT s q (L ++ [z.2.2]) ⟨S.P, S.T ++ [⟨z.1, List.replicate nps M⟩]⟩)) := by
  subst hn
  have H1 := H.imp (fun h => top_row (sep_assoc h))
  obtain ⟨U, h1, h2⟩ := H1.fst
  have H2 := (h2 _ _ (ownT_grown h1 hown hg hat)).turn
  obtain ⟨U2, ⟨hb, hU⟩, h3⟩ := H2.fst
  refine ⟨hb.cell rfl, hb.free _, Lib.hid ?_⟩
  have H3 := h3 (blkT s [.pointer (some ⟨q, 0, none⟩), .slice a' (Z.length + 1) c'] 74) (w6.setCell ⟨s, 1, none⟩ (.slice a' (Z.length + 1) c')) ⟨U2, ⟨by have := hb.set 1 (.slice a' (Z.length + 1) c'); simpa using this, hU⟩, (Turned.refl U2 w6).setCell (p := ⟨s, 1, none⟩) (.inl ((hU s).2 rfl)) _, fun _ h => .inl h⟩
  refine H3.imp (fun h => tz_set (a := a') (c := c') (Z := Z ++ [z]) ?_ ?_ (top_shut (n := Z.length + 1) (by simp) hf hz h))
  · show (Z ++ [z]).map (·.1) = (S.T ++ [(⟨z.1, List.replicate nps M⟩ : TpM)]).map (·.nm)
    rw [List.map_append, List.map_append, e1]; rfl
  · rw [List.map_append, e2]; rfl

theorem openE_bad {T : List TpM} {l : Txt} {n r p : Int} (h0 : nmE l = 0) (h : n < 1 ∨ 8 < n ∨ r < 1 ∨ 64 < r ∨ (p ≠ 0 ∧ p ≠ 1)) : openE T l n r p = 2 := by unfold openE; rw [if_neg (by simp [h0]), if_pos h]
set_option maxHeartbeats 4000000 in
theorem tpopen_any {X : List Int} {N K : Nat} (h : (setT tpHT pT xT s q L S).at_ w W) (hf : Fits L S.T) (hO : S.Ok X N K) (hN : N < 900000) (l : Txt) (hl : l.length ≤ 300) (n r p : Int) (hn : w64 n) (hr : w64 r) (hp : w64 p) :
    Calls Tryz.prog 13 #[.pointer (some ⟨s, 0, none⟩), tx l, .int .i64 n, .int .i64 r, .int .i64 p] w (OpenPost tpHT pT xT w W s q L S l n r p) := by
  obtain ⟨a, c, Z, e1, e2, h'⟩ := set_tz h
  have hrd : HRd s q a c Z w := by obtain ⟨W1, W2, h1, _⟩ := h'; exact tzT_rd h1
  have hzl := (fd_of e1 l).2
  have HRf := Lib.hid (tprefuse_any hrd l hl)
  have HNo := Lib.hid (fun (e : Int) (w' : World) (hs : Still w w') (he : openE S.T l n r p = e) (h0 : e ≠ 0) => show OpenPost tpHT pT xT w W s q L S l n r p (.returned (.tuple #[.int .i64 0, .int .i64 e])) w' from by
    refine ⟨by unfold openN; rw [he, if_pos h0], L, ?_, ?_⟩
    · unfold openT; rw [he, if_pos h0]; exact hf
    · unfold openT; rw [he, if_pos h0]; exact ((Sit.start h).still hs).goes)
  rcases nmE_or l with h0 | h0
  · rw [h0] at HRf
    by_cases hbad : n < 1 ∨ 8 < n ∨ r < 1 ∨ 64 < r ∨ (p ≠ 0 ∧ p ≠ 1)
    · have hoe := openE_bad (T := S.T) h0 hbad
      have HSp := Lib.hid (fun V (hs : Still w V) => show Calls Tryz.prog 39 #[.pointer (some ⟨s, 0, none⟩), .int .i64 n, .int .i64 r, .int .i64 p] V fun e w' => e = .returned (.tuple #[.slice none 0 0, .int .i64 2]) ∧ Still V w' from by
        obtain ⟨W1, W2, _, ⟨W3, W4, h3, _⟩, _⟩ := h'
        exact tpsplit_no (hrd.still hs) ((pT q S.P).keep h3 hs (fun _ _ h => h)) hO.ok hN n r p hn hr hp hbad)
      have HEnd := Lib.hid (fun w' hs => HNo.out 2 w' hs hoe (by omega))
      unfold tx at *
      clear h h' hrd e1 e2 hf hO hbad hoe hn hr hp hzl
      go_enter Tryz.func13, Tryz.ntmps13
      go_wp2_with (first
        | (go_at_call 38; ((with_reducible refine HRf.out.mono ?_)); rintro e w1 ⟨rfl, hs⟩; have H1 := Lib.hid hs; clear hs)
        | (go_at_call 39; ((with_reducible refine (HSp.out _ H1.out).mono ?_)); rintro e w2 ⟨rfl, hs⟩; have H2 := Lib.hid (H1.out.trans hs); clear hs))
      go_ret2
      exact HEnd.out _ H2.out
    · obtain ⟨m, rfl⟩ : ∃ m : Nat, n = (m : Int) := ⟨n.toNat, by omega⟩
      obtain ⟨rr, rfl⟩ : ∃ rr : Nat, r = (rr : Int) := ⟨r.toNat, by omega⟩
      obtain ⟨ov, rfl⟩ : ∃ ov : Bool, p = polB ov := by
        by_cases hp0 : p = 0
        · exact ⟨false, by rw [hp0]; rfl⟩
        · exact ⟨true, by rw [show p = 1 by omega]; rfl⟩
      have hov : (polB ov == 1) = ov := by cases ov <;> rfl
      have HSp := Lib.hid (fun V (hs : Still w V) => show Calls Tryz.prog 39 #[.pointer (some ⟨s, 0, none⟩), .int .i64 m, .int .i64 rr, .int .i64 (polB ov)] V fun e w' => ∃ b xs, e = .returned (.tuple #[.slice (some ⟨b, 0, none⟩) m m, .int .i64 0]) ∧ xs.length = m ∧ Still w w' ∧ Sit W w w' (((tzT s q a c Z).sep (restS q L S)).sep (madeT q b m (RM.new rr ov) xs)) from by
        have h2 := h'
        obtain ⟨W1, W2, g1, ⟨W3, W4, h3, g4⟩, g5⟩ := h'
        refine (tpsplit_ok (hrd.still hs) ((pT q S.P).keep h3 hs (fun _ _ h => h)) hO.ok hN m rr ov (by omega) (by omega) (by omega) (by omega)).mono ?_
        rintro e w' ⟨b, xs, he, hx, ⟨U, u1, u2, u3⟩⟩
        exact ⟨b, xs, he, hx, hs.trans u3, ((Sit.start h2).still hs).new ⟨U, u1, u3, u2⟩⟩)
      have HFd := Lib.hid (fun V (hs : Still w V) => tpfind_any (hrd.still hs) e1 hO.len l hl)
      have HTp := Lib.hid (fun V (hs : Still w V) => tptopics_any (hrd.still hs))
      have HC1 := Lib.hid (fun V (hs : Still w V) => (hrd.still hs).c1)
      have hoe : openE S.T l (m : Int) (rr : Int) (polB ov) = if fdN S.T l < S.T.length then 6 else if 16 ≤ S.T.length then 4 else 0 := by unfold openE; rw [if_neg (by simp [h0]), if_neg hbad]
      have hl16 := hO.len
      have HOe := Lib.hid hoe
      by_cases hfd : fdN S.T l < S.T.length
      · have hfe : findE S.T l = 0 := by unfold findE; rw [if_neg (by simp [h0]), if_pos hfd]
        rw [hfe] at HFd
        have HEnd := Lib.hid (fun w' hs => HNo.out 6 w' hs (by rw [hoe, if_pos hfd]) (by omega))
        generalize findN S.T l = fn at *
        generalize polB ov = pb at *
        unfold tx at *
        clear h h' hrd e1 e2 hf hO hbad hoe hn hr hp hzl hfe hfd hov
        go_enter Tryz.func13, Tryz.ntmps13
        go_wp2_with (first
          | (go_at_call 38; ((with_reducible refine HRf.out.mono ?_)); rintro e w1 ⟨rfl, hs⟩; have H1 := Lib.hid hs; clear hs)
          | (go_at_call 39; ((with_reducible refine (HSp.out _ H1.out).mono ?_)); rintro e w2 ⟨b, xs, rfl, _, hs, _⟩; have H2 := Lib.hid hs; clear hs)
          | (go_at_call 15; ((with_reducible refine (HFd.out _ H2.out).mono ?_)); rintro e w3 ⟨rfl, hs⟩; have H3 := Lib.hid (H2.out.trans hs); clear hs))
        go_ret2
        exact HEnd.out _ H3.out
      · have hfe : findE S.T l = 5 := by unfold findE; rw [if_neg (by simp [h0]), if_neg hfd]
        rw [hfe] at HFd
        by_cases h16 : 16 ≤ S.T.length
        · have HEnd := Lib.hid (fun w' hs => HNo.out 4 w' hs (by rw [hoe, if_neg hfd, if_pos h16]) (by omega))
          rw [hzl] at HTp
          generalize findN S.T l = fn at *
          generalize polB ov = pb at *
          have hi16 : (16 : Int) ≤ ((S.T.length : Nat) : Int) := by omega
          generalize S.T.length = tn at *
          unfold tx at *
          clear h h' hrd e1 e2 hf hO hbad hoe hn hr hp hzl hfe hfd hov
          go_enter Tryz.func13, Tryz.ntmps13
          go_wp2_with (first
            | (go_at_call 38; ((with_reducible refine HRf.out.mono ?_)); rintro e w1 ⟨rfl, hs⟩; have H1 := Lib.hid hs; clear hs)
            | (go_at_call 39; ((with_reducible refine (HSp.out _ H1.out).mono ?_)); rintro e w2 ⟨b, xs, rfl, _, hs, _⟩; have H2 := Lib.hid hs; clear hs)
            | (go_at_call 15; ((with_reducible refine (HFd.out _ H2.out).mono ?_)); rintro e w3 ⟨rfl, hs⟩; have H3 := Lib.hid (H2.out.trans hs); clear hs)
            | (go_at_call 33; ((with_reducible refine (HTp.out _ H3.out).mono ?_)); rintro e w4 ⟨rfl, rfl⟩))
          go_ret2
          exact HEnd.out _ H3.out
        · obtain ⟨i0, hi, hz0, hz1, hz2⟩ := info_parts infoTopic
          have ho0 : openE S.T l (m : Int) (rr : Int) (polB ov) = 0 := by rw [hoe, if_neg hfd, if_neg h16]
          obtain ⟨tn, htn⟩ : ∃ tn, tn = S.T.length := ⟨_, rfl⟩
          have hot : openT S.T l (m : Int) (rr : Int) (polB ov) = S.T ++ [⟨l, List.replicate m (RM.new rr ov)⟩] := by
            unfold openT newT
            rw [ho0, if_neg (by simp), hov, Int.toNat_natCast, Int.toNat_natCast]
          have hon : openN S.T l (m : Int) (rr : Int) (polB ov) = (tn : Nat) := by unfold openN; rw [ho0, if_neg (by simp), htn]
          have HEnd := Lib.hid (fun (w' : World) (xs : List Nat) (hx : xs.length = m) (H : Sit W w w' (setT tpHT pT xT s q (L ++ [xs]) ⟨S.P, S.T ++ [⟨l, List.replicate m (RM.new rr ov)⟩]⟩)) => show OpenPost tpHT pT xT w W s q L S l m rr (polB ov) (.returned (.tuple #[.int .i64 (tn : Nat), .int .i64 0])) w' from by
            refine ⟨by rw [hon, ho0], L ++ [xs], ?_, ?_⟩
            · rw [hot]
              unfold Fits
              rw [List.map_append, List.map_append, show L.map (·.length) = S.T.map (·.ps.length) from hf]
              simp [hx]
            · rw [hot]; exact H.goes)
          have HRow := Lib.hid (fun (V : World) (b : Nat) (xs : List Nat) (H : Sit W w V (((tzT s q a c Z).sep (restS q L S)).sep (madeT q b m (RM.new rr ov) xs))) => show V.ownsRow 0 89 2 (.slice a Z.length c) Z.length (rowOf encTp Z) from by
            obtain ⟨U, h1, _⟩ := (H.imp (fun h => top_row (sep_assoc h))).fst
            exact h1.1)
          have HNew := Lib.hid (fun (V w6 : World) (b : Nat) (xs : List Nat) (hx : xs.length = m) (H : Sit W w V (((tzT s q a c Z).sep (restS q L S)).sep (madeT q b m (RM.new rr ov) xs))) (o : Obj) (a' : Option Addr) (c' : Nat) (hown : w6.ownsRow 0 89 2 (.slice a' (tn + 1) c') (tn + 1) (rowOf encTp Z ++ [.string ⟨l.toArray⟩, .slice (some ⟨b, 0, none⟩) m m])) (hg : (V.alloc o).grownBy w6 (Value.slice a tn c).ownBlock) hat => top_new (z := (l, b, xs)) (n := tn) (a' := a') (c' := c') (by rw [htn, hzl]) hf hx e1 e2 H (by
            rw [show encTp (l, b, xs) = [.string ⟨l.toArray⟩, .slice (some ⟨b, 0, none⟩) m m] by unfold encTp tx; simp only [hx]]; exact hown) hg hat)
          have HTn := Lib.hid (fun (V : World) (xs : List Nat) (hx : xs.length = m) (H : Sit W w V (setT tpHT pT xT s q (L ++ [xs]) ⟨S.P, S.T ++ [⟨l, List.replicate m (RM.new rr ov)⟩]⟩)) => show Calls Tryz.prog 33 #[.pointer (some ⟨s, 0, none⟩)] V fun e w' => e = .returned (.int .i64 ((tn + 1 : Nat) : Int)) ∧ Still V w' from by
            obtain ⟨U, ⟨U1, _, h1, _⟩, _⟩ := H
            have := head_api.topics (T := S.T ++ [⟨l, List.replicate m (RM.new rr ov)⟩]) h1 (by
              unfold Fits
              rw [List.map_append, List.map_append, show L.map (·.length) = S.T.map (·.ps.length) from hf]
              simp [hx]) (by simp; omega)
            rw [List.length_append, ← htn] at this
            exact this)
          rw [hzl, ← htn] at HTp HC1 HRow
          have h16' : ¬ ((16 : Int) ≤ (tn : Int)) := by omega
          have htn16 : tn < 16 := by omega
          have HOn := Lib.hid (fun (b : Nat) => show ∀ u ∈ [Value.string ⟨l.toArray⟩, .slice (some ⟨b, 0, none⟩) m m], u.oneCell' = true from fun u hu => by
            simp at hu
            rcases hu with rfl | rfl <;> rfl)
          have hwr : IntKind.i64.wrap (((tn + 1 : Nat) : Int) - 1) = (tn : Nat) := by simp [IntKind.wrap, IntKind.signed, IntKind.bits]; omega
          generalize findN S.T l = fn at *
          generalize polB ov = pb at *
          unfold tx at *
          clear h h' hrd e1 e2 hf hO hbad hoe hn hr hp hzl hfe hfd hov hot hon ho0 HOe h16 htn hl16
          go_enter Tryz.func13, Tryz.ntmps13
          go_wp2_with (first
            | (go_at_call 38; ((with_reducible refine HRf.out.mono ?_)); rintro e w1 ⟨rfl, hs⟩; have H1 := Lib.hid hs; clear hs)
            | (go_at_call 39; ((with_reducible refine (HSp.out _ H1.out).mono ?_)); rintro e w2 ⟨b, xs, rfl, hx, hs, hS⟩; have H2 := Lib.hid hs; have HX := Lib.hid hx; have HS2 := Lib.hid hS; clear hs hx hS)
            | (go_at_call 15; ((with_reducible refine (HFd.out _ H2.out).mono ?_)); rintro e w3 ⟨rfl, hs⟩; have H3 := Lib.hid (H2.out.trans hs); have HS3 := Lib.hid (HS2.out.still hs); clear hs)
            | (go_at_call 33; ((with_reducible refine (HTp.out _ H3.out).mono ?_)); rintro e w4 ⟨rfl, rfl⟩; have c1 := HC1.out w3 H3.out; have HR3 := Lib.hid (HRow.out _ _ _ HS3.out))
            | (go_at_call 33; ((with_reducible refine (HTn.out _ _ HX.out HG6.out).mono ?_)); rintro e w7 ⟨rfl, hs⟩; have H7 := Lib.hid (HG6.out.still hs); clear hs)
            | (at_builtin; refine wpList_append_own_at _ rfl _ _ 72 rfl 0 89 i0 (.agg #[.string ⟨#[]⟩, .slice none 0 0]) 2 40 Tryz.underlying72 hi hz0 hz1 hz2 rfl (by decide) _ _ _ rfl (HR3.out.alloc _) ⟨w3.heap.size, 0, none⟩ 1 1 [.string ⟨l.toArray⟩, .slice (some ⟨b, 0, none⟩) m m] rfl rfl (ow_cells w3 [.string ⟨l.toArray⟩, .slice (some ⟨b, 0, none⟩) m m] 89) (HOn.out b) (by unfold maxLen; omega) (by omega) (by first | (simp; done) | (simp; omega)) ?_; intro v6 w6 hown6 hg6 _ hat6; obtain ⟨a6, c6, rfl⟩ := ow_slice hown6; obtain ⟨hc6, hf6, HG6⟩ := HNew.out w3 w6 b xs HX.out HS3.out _ a6 c6 hown6 hg6 hat6; clear hown6 hg6 hat6))
          go_ret2
          exact HEnd.out _ _ HX.out H7.out
  · have hoe : openE S.T l n r p = 80 := by unfold openE; rw [if_pos (by rw [h0]; omega)]
    rw [h0] at HRf
    have HEnd := Lib.hid (fun w' hs => HNo.out 80 w' hs hoe (by omega))
    unfold tx at *
    clear h h' hrd e1 e2 hf hO hoe hn hr hp hzl
    go_enter Tryz.func13, Tryz.ntmps13
    go_wp2_with (go_at_call 38; ((with_reducible refine HRf.out.mono ?_)); rintro e w1 ⟨rfl, hs⟩; have H1 := Lib.hid hs; clear hs)
    go_ret2
    exact HEnd.out _ H1.out
end
end Go.Proofs.YtmmkcfiecgpkpaaGreat

/- The program's set of topics keeps the words that the statements want of it. No condition. -/
namespace Go.Proofs.YtmmkcfiecgpkpaaGreat
open Go.RowKit
set_option linter.unusedVariables false
set_option linter.unusedSimpArgs false
set_option maxRecDepth 100000

theorem topic_api : TopicApi tpHT pT xT where
  toHeadApi := head_api
  make_no := fun n s w hn hs hno => tpmake_no n s w hn hs hno
  make_ok := fun n s w h1 h2 h3 h4 => tpmake_ok n s w h1 h2 h3 h4
  open_ := fun h hf hO hN hK l hl n r p hn hr hp => tpopen_any h hf hO hN l hl n r p hn hr hp
  claim := fun h hf hO hN hK l hl k ao m cap hm hA hW hmx n hn => tpclaim_any h hf hO hN hK l hl k ao m cap hm hA hW hmx n hn
end Go.Proofs.YtmmkcfiecgpkpaaGreat
