/- Texts that lie next to one another, laid into one: each says what it holds. No condition but what each states. -/
import Derived.Test.YtmmkcfiecgpkpaaGreatBdTpM
import Derived.Test.YtmmkcfiecgpkpaaGreatBdRingZ
import Derived.Test.YtmmkcfiecgpkpaaGreatBxNameRef
import Derived.Test.YtmmkcfiecgpkpaaGreatBdRoute

/- The document's set of topics, as it lies in memory. What can be read of it; what its find, Find and Route answer. No condition but that it is one. -/
namespace Go.Proofs.YtmmkcfiecgpkpaaGreat
open Go.RowKit
set_option linter.unusedVariables false
set_option linter.unusedSimpArgs false
set_option maxRecDepth 100000

/-- A topic as it lies: its name, the row of its partitions, and where these lie. -/
abbrev ZpZ := Txt × Option Addr × Nat × List Nat
def encZp (z : ZpZ) : List Value := [tx z.1, .slice z.2.1 z.2.2.2.length z.2.2.1]
theorem encZp_len (z : ZpZ) : (encZp z).length = 2 := rfl
def zprtsV (xs : List Nat) : List Value := xs.map fun x => .pointer (some ⟨x, 0, none⟩)
theorem zprtsV_get {xs : List Nat} {j x : Nat} (h : xs[j]? = some x) : (zprtsV xs)[j]? = some (.pointer (some ⟨x, 0, none⟩)) := by unfold zprtsV; rw [List.getElem?_map, h]; rfl
abbrev zzonesT (Z : List ZpZ) : Thing := allT (fun z : ZpZ => ownT 50 1 z.2.1 z.2.2.2.length z.2.2.1 (zprtsV z.2.2.2)) Z
abbrev zzT (s q : Nat) (a : Option Addr) (c : Nat) (Z : List ZpZ) : Thing :=
  (blkT s [.pointer (some ⟨q, 0, none⟩), .slice a Z.length c] 82).sep ((ownT 93 2 a Z.length c (rowOf encZp Z)).sep (zzonesT Z))
/-- What holds the document's set; its partitions. -/
def zhT (s q : Nat) (nms : List Txt) (L : List (List Nat)) : Thing where
  at_ w W := ∃ a c Z, Z.map (·.1) = nms ∧ Z.map (·.2.2.2) = L ∧ (zzT s q a c Z).at_ w W
  lt := by rintro w W ⟨a, c, Z, _, _, h⟩; exact Thing.lt _ h
  keep := by rintro w w' W S ⟨a, c, Z, e1, e2, h⟩ ht hs; exact ⟨a, c, Z, e1, e2, Thing.keep _ h ht hs⟩
def zXT (x q : Nat) (M : RM) : Thing where
  at_ w W := ∃ r, (zxT x q r M).at_ w W
  lt := by rintro w W ⟨r, h⟩; exact Thing.lt _ h
  keep := by rintro w w' W S ⟨r, h⟩ ht hs; exact ⟨r, Thing.keep _ h ht hs⟩

theorem all_get' {α : Type} {F : α → Thing} {l : List α} {i : Nat} {x : α} {w : World} {W : Nat → Prop} (hi : l[i]? = some x) (h : (allT F l).at_ w W) : ∃ V, (F x).at_ w V ∧ ∀ k, V k → W k := by
  obtain ⟨W1, W2, h1, _, _, hW⟩ := all_pick hi h
  exact ⟨W1, h1, fun k hk => (hW k).2 (.inl hk)⟩

/-- What can be read of it. -/
structure ZRd (s q : Nat) (a : Option Addr) (c : Nat) (Z : List ZpZ) (w : World) : Prop where
  c0 : w.cell? ⟨s, 0, none⟩ = some (.pointer (some ⟨q, 0, none⟩))
  c1 : w.cell? ⟨s, 1, none⟩ = some (.slice a Z.length c)
  row : ∀ (i : Nat) (z : ZpZ), Z[i]? = some z → ∃ g, a = some ⟨g, 0, none⟩ ∧ w.cell? ⟨g, i * 2, none⟩ = some (tx z.1) ∧ w.cell? ⟨g, i * 2 + 1, none⟩ = some (.slice z.2.1 z.2.2.2.length z.2.2.1)
  prt : ∀ (i : Nat) (z : ZpZ) (j x : Nat), Z[i]? = some z → z.2.2.2[j]? = some x → ∃ g, z.2.1 = some ⟨g, 0, none⟩ ∧ w.cell? ⟨g, j, none⟩ = some (.pointer (some ⟨x, 0, none⟩))
theorem ZRd.still {s q : Nat} {a : Option Addr} {c : Nat} {Z : List ZpZ} {w w' : World} (h : ZRd s q a c Z w) (ht : Still w w') : ZRd s q a c Z w' :=
  ⟨still_cell ht h.c0 rfl, still_cell ht h.c1 rfl, fun i z hz => by
    obtain ⟨g, e, h1, h2⟩ := h.row i z hz
    exact ⟨g, e, still_cell ht h1 rfl, still_cell ht h2 rfl⟩, fun i z j x hz hx => by
    obtain ⟨g, e, h1⟩ := h.prt i z j x hz hx
    exact ⟨g, e, still_cell ht h1 rfl⟩⟩
theorem zzT_rd {s q : Nat} {a : Option Addr} {c : Nat} {Z : List ZpZ} {w : World} {W : Nat → Prop} (h : (zzT s q a c Z).at_ w W) : ZRd s q a c Z w := by
  obtain ⟨W1, W2, ⟨h1, _⟩, ⟨W3, W4, ⟨h3, _⟩, h4, _⟩, _⟩ := h
  refine ⟨h1.cell rfl, h1.cell rfl, fun i z hz => ?_, fun i z j x hz hx => ?_⟩
  · have hlt := (List.getElem?_eq_some_iff.1 hz).1
    obtain ⟨g, rfl⟩ := owm_addr h3 (by omega)
    exact ⟨g, rfl, (owm_cell h3 (rowOf_get encZp_len hz (j := 0) rfl)).1, (owm_cell h3 (rowOf_get encZp_len hz (j := 1) rfl)).1⟩
  · obtain ⟨V, ⟨h5, _⟩, _⟩ := all_get' hz h4
    have hlt := (List.getElem?_eq_some_iff.1 hx).1
    obtain ⟨zn, za, zc, zx⟩ := z
    dsimp only at *
    obtain ⟨g, rfl⟩ := owm_addr h5 (by omega)
    exact ⟨g, rfl, (owm_cell h5 (zprtsV_get hx)).1⟩
theorem zhT_rd {s q : Nat} {nms : List Txt} {L : List (List Nat)} {w : World} {W : Nat → Prop} (h : (zhT s q nms L).at_ w W) : ∃ a c Z, Z.map (·.1) = nms ∧ Z.map (·.2.2.2) = L ∧ ZRd s q a c Z w := by
  obtain ⟨a, c, Z, e1, e2, h⟩ := h
  exact ⟨a, c, Z, e1, e2, zzT_rd h⟩

theorem zfd_of {Z : List ZpZ} {T : List TpM} (h : Z.map (·.1) = T.map (·.nm)) (l : Txt) : Z.findIdx (fun z => z.1 == l) = fdN T l ∧ Z.length = T.length := by
  constructor
  · have e1 : Z.findIdx (fun z => z.1 == l) = (Z.map (·.1)).findIdx (fun x => x == l) := by rw [List.findIdx_map]; rfl
    have e2 : fdN T l = (T.map (·.nm)).findIdx (fun x => x == l) := by unfold fdN; rw [List.findIdx_map]; rfl
    rw [e1, e2, h]
  · have := congrArg List.length h
    simpa using this

section
variable {s q : Nat} {a : Option Addr} {c : Nat} {Z : List ZpZ} {w : World} {T : List TpM}
set_option maxHeartbeats 1000000 in
theorem ztpfind_any (hn : Z.length ≤ 16) (hrd : ZRd s q a c Z w) (l : Txt) :
    Calls Tryz.prog 41 #[.pointer (some ⟨s, 0, none⟩), tx l] w fun e w' => e = .returned (.int .i64 (if Z.findIdx (fun z => z.1 == l) < Z.length then ((Z.findIdx (fun z => z.1 == l) : Nat) : Int) else -1)) ∧ w = w' := by
  obtain ⟨n, hnl⟩ : ∃ n, n = Z.length := ⟨_, rfl⟩
  have HRow := Lib.hid (fun (i : Nat) (z : ZpZ) (hz : Z[i]? = some z) => hrd.row i z hz)
  have HN := Lib.hid hnl
  have c1 := hrd.c1
  have HA := Lib.hid (fun (k : Nat) (h : k < Z.length) (h1 : ∀ (j : Nat) (z : ZpZ), j < k → Z[j]? = some z → (z.1 == l) = false) (z : ZpZ) (hz : Z[k]? = some z) (he : (z.1 == l) = true) =>
    show (if Z.findIdx (fun z => z.1 == l) < Z.length then ((Z.findIdx (fun z => z.1 == l) : Nat) : Int) else -1) = (k : Nat) from by
      have hg : Z[k] = z := by have := List.getElem?_eq_getElem h; rw [hz] at this; exact (Option.some.inj this).symm
      have : Z.findIdx (fun z => z.1 == l) = k := by
        rw [List.findIdx_eq h]
        refine ⟨by simp only [hg]; exact he, fun j hj => ?_⟩
        have := h1 j Z[j] hj (List.getElem?_eq_getElem (by omega))
        simpa using this
      rw [this, if_pos h])
  have HB := Lib.hid (fun (h1 : ∀ (j : Nat) (z : ZpZ), j < Z.length → Z[j]? = some z → (z.1 == l) = false) =>
    show (if Z.findIdx (fun z => z.1 == l) < Z.length then ((Z.findIdx (fun z => z.1 == l) : Nat) : Int) else -1) = -1 from by
      rw [if_neg]
      intro h
      have := List.findIdx_getElem (w := h)
      have := h1 _ _ h (List.getElem?_eq_getElem h)
      simp_all)
  have hn16 : n ≤ 16 := by omega
  generalize (if Z.findIdx (fun z => z.1 == l) < Z.length then ((Z.findIdx (fun z => z.1 == l) : Nat) : Int) else -1) = ans at *
  rw [← hnl] at c1 HA HB
  clear hnl hn hrd
  go_enter Tryz.func41, Tryz.ntmps41
  go_wp2_with fail
  go_loopw [5] (fun i wr => ∃ k : Nat, k ≤ n ∧ i = .int .i64 k ∧ (∀ (j : Nat) (z : ZpZ), j < k → Z[j]? = some z → (z.1 == l) = false) ∧ w = wr) (fun i _ => n - (intOf i).toNat)
  case atStart => exact ⟨0, Nat.zero_le _, rfl, fun j z hj => absurd hj (Nat.not_lt_zero _), rfl⟩
  case round =>
    obtain ⟨k, hk, rfl, hno, hw⟩ := hrel
    subst hw
    have HNo := Lib.hid hno
    by_cases hlt : k < n
    · obtain ⟨z, hz⟩ := get_some (l := Z) (i := k) (by rw [← HN.out]; exact hlt)
      obtain ⟨g, rfl, r1, r2⟩ := HRow.out k z hz
      have hki : (k : Int) < (n : Int) := by omega
      have HA1 := Lib.hid (HA.out k hlt hno z hz)
      have HNx := Lib.hid (fun (he : (z.1 == l) = false) => show ∀ (j : Nat) (y : ZpZ), j < k + 1 → Z[j]? = some y → (y.1 == l) = false from fun j y hj hy => by
        rcases Nat.lt_succ_iff_lt_or_eq.1 hj with hj | rfl
        · exact hno j y hj hy
        · rw [hz] at hy
          obtain rfl := Option.some.inj hy
          exact he)
      obtain ⟨zn, za, zc, zx⟩ := z
      dsimp only at r1 r2 HA1 HNx
      unfold tx at *
      clear hno hz
      cases he : (zn == l) with
      | true =>
        have HAns := Lib.hid (HA1.out he)
        clear HA1 HNx
        go_wp2_with fail
        go_ret
        exact ⟨by rw [HAns.out]; rfl, rfl⟩
      | false =>
        have HNx1 := Lib.hid (HNx.out he)
        clear HA1 HNx
        go_wp2_with fail
        go_roundw
        case rel => exact ⟨k + 1, by omega, by go_num, HNx1.out, by first | rfl | trivial⟩
        case measure => simp [intOf]; omega
    · obtain rfl : k = n := by omega
      have HAns := Lib.hid (HB.out hno)
      clear hno hlt
      go_wp2_with fail
      go_ret
      exact ⟨by rw [HAns.out]; rfl, rfl⟩

set_option maxHeartbeats 1000000 in
theorem zztfind_any (h : ZRd s q a c Z w) (he : Z.map (·.1) = T.map (·.nm)) (hn : T.length ≤ 16) (l : Txt) (hl : l.length ≤ 300) :
    Calls Tryz.prog 16 #[.pointer (some ⟨s, 0, none⟩), tx l] w fun e w' => e = .returned (.tuple #[.int .i64 (findN T l), .int .i64 (findE T l)]) ∧ Still w w' := by
  obtain ⟨e1, e2⟩ := zfd_of he l
  have HR := Lib.hid (zncheck_any l w (by omega))
  have HI := Lib.hid (fun V (hs : Still w V) => ztpfind_any (by omega) (h.still hs) l)
  rw [e1, e2] at HI
  unfold findN findE
  generalize fdN T l = d at *
  generalize T.length = n at *
  rcases nmE_or l with h0 | h0
  · rw [h0] at HR ⊢
    by_cases hd : d < n
    · rw [if_pos hd] at HI
      have hdi : ¬ ((d : Int) < 0) := by omega
      have HV := Lib.hid (show (if (if (0 : Int) ≠ 0 then (80 : Int) else if d < n then 0 else 5) ≠ 0 then (0 : Int) else (d : Nat)) = (d : Nat) ∧ (if (0 : Int) ≠ 0 then (80 : Int) else if d < n then 0 else 5) = 0 from by simp [hd])
      rw [HV.out.1, HV.out.2]
      unfold tx at *
      clear h he h0 e1 e2
      go_enter Tryz.func16, Tryz.ntmps16
      go_wp2_with (first
        | (go_at_call 40; ((with_reducible refine HR.out.mono ?_)); rintro e w1 ⟨rfl, hs⟩; have H1 := Lib.hid hs; clear hs)
        | (go_at_call 41; ((with_reducible refine (HI.out _ H1.out).mono ?_)); rintro e w2 ⟨rfl, rfl⟩))
      go_ret2
      exact ⟨rfl, H1.out⟩
    · rw [if_neg hd] at HI
      have HV := Lib.hid (show (if (if (0 : Int) ≠ 0 then (80 : Int) else if d < n then 0 else 5) ≠ 0 then (0 : Int) else (d : Nat)) = 0 ∧ (if (0 : Int) ≠ 0 then (80 : Int) else if d < n then 0 else 5) = 5 from by simp [hd])
      rw [HV.out.1, HV.out.2]
      unfold tx at *
      clear h he h0 e1 e2
      go_enter Tryz.func16, Tryz.ntmps16
      go_wp2_with (first
        | (go_at_call 40; ((with_reducible refine HR.out.mono ?_)); rintro e w1 ⟨rfl, hs⟩; have H1 := Lib.hid hs; clear hs)
        | (go_at_call 41; ((with_reducible refine (HI.out _ H1.out).mono ?_)); rintro e w2 ⟨rfl, rfl⟩))
      go_ret2
      exact ⟨rfl, H1.out⟩
  · rw [h0] at HR ⊢
    have HV := Lib.hid (show (if (if (80 : Int) ≠ 0 then (80 : Int) else if d < n then 0 else 5) ≠ 0 then (0 : Int) else (d : Nat)) = 0 ∧ (if (80 : Int) ≠ 0 then (80 : Int) else if d < n then 0 else 5) = 80 from by simp)
    rw [HV.out.1, HV.out.2]
    unfold tx at *
    clear h he h0 e1 e2
    go_enter Tryz.func16, Tryz.ntmps16
    go_wp2_with (go_at_call 40; ((with_reducible refine HR.out.mono ?_)); rintro e w1 ⟨rfl, hs⟩; have H1 := Lib.hid hs; clear hs)
    go_ret2
    exact ⟨rfl, H1.out⟩
end
end Go.Proofs.YtmmkcfiecgpkpaaGreat
