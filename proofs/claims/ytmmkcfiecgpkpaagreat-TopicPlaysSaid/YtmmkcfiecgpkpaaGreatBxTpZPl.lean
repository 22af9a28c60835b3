/- Texts that lie next to one another, laid into one: each says what it holds. No condition but what each states. -/
import Derived.Test.YtmmkcfiecgpkpaaGreatBxTpZDo

/- The places that the document's set hands out. No condition but that it is one. -/
namespace Go.Proofs.YtmmkcfiecgpkpaaGreat
open Go.RowKit
set_option linter.unusedVariables false
set_option linter.unusedSimpArgs false
set_option maxRecDepth 100000

theorem zow_past {w0 w w' : World} {e : TypeId} {m n : Nat} {v : Value} {xs : List Value} (hs : Still w0 w) (h : w.ownsRow w0.heap.size e m v n xs) (ht : Turned (fun i => v.ownBlock = some i) w w') : Still w0 w' := by
  refine hs.past ht (fun i hi => .inr ?_)
  obtain ⟨ao, cc, rfl⟩ := ow_slice h
  cases ao with
  | none => cases hi
  | some x =>
    have := (ow_lt h x rfl).1
    have e : x.block = i := by simpa [Value.ownBlock] using hi
    omega
theorem zinfoPlace : (Tryz.prog.info? 25).map (fun i => (i.zero, i.size, i.bytes)) = some (some (.agg #[.int .i64 0, .int .i64 0]), 2, 16) := by kernel_rfl
theorem plcs_step {T : List TpM} {l : List Int} {k : Nat} {t : Int} (h : l[k]? = some t) : plcs T (l.take (k + 1)) = plcs T (l.take k) ++ plcOf T t := by
  unfold plcs
  rw [List.take_add_one, h, List.flatMap_append]
  simp
theorem zplcs_le {T : List TpM} (h8 : ∀ t ∈ T, t.ps.length ≤ 8) (l : List Int) : (plcs T l).length ≤ 8 * l.length := by
  have h1 : ∀ t : Int, (plcOf T t).length ≤ 8 := fun t => by
    unfold plcOf
    split
    · rw [List.length_map, List.length_range]
      unfold nps
      cases hx : T[t.toNat]? with
      | none => simp
      | some x => exact h8 x (List.mem_of_getElem? hx)
    · simp
  induction l with
  | nil => simp [plcs]
  | cons t l ih =>
    have e : plcs T (t :: l) = plcOf T t ++ plcs T l := by simp [plcs]
    rw [e, List.length_append, List.length_cons]
    have := h1 t
    omega
/-- Places in a row of one's own, while they are gathered. -/
def PlAt (w wr : World) (l : List (Int × Int)) (o : Value) : Prop := ∃ a c, o = .slice a l.length c ∧ wr.ownsRow w.heap.size 25 2 (.slice a l.length c) l.length (l.flatMap plcV) ∧ Still w wr
theorem PlAt.still {w wr w' : World} {l : List (Int × Int)} {o : Value} (h : PlAt w wr l o) (ht : Still wr w') : PlAt w w' l o := by
  obtain ⟨a, c, e, h1, h2⟩ := h
  exact ⟨a, c, e, ow_still h1 ht, h2.trans ht⟩

set_option maxHeartbeats 4000000 in
theorem zztplaces_any {s q : Nat} {a : Option Addr} {c : Nat} {Z : List ZpZ} {w : World} {T : List TpM} {L : List (List Nat)} (h : ZRd s q a c Z w) (he : Z.map (·.1) = T.map (·.nm)) (h1 : Z.map (·.2.2.2) = L) (hf : Fits L T) (hn16 : T.length ≤ 16) (h8 : ∀ t ∈ T, t.ps.length ≤ 8)
    (ao : Option Addr) (l : List Int) (m cap n : Nat) (hm : m = l.length) (hA : NumsAt w ao l) (hmx : m ≤ 100) (hn : n = (plcs T l).length) :
    Calls Tryz.prog 29 #[.pointer (some ⟨s, 0, none⟩), .slice ao m cap] w (OutPl w (plcs T l) n) := by
  obtain ⟨i0, hi, hz0, hz1, hz2⟩ := info_parts zinfoPlace
  have hzl := (zfd_of he []).2
  have HR := Lib.hid (fun V (hs : Still w V) => h.still hs)
  have HA := Lib.hid (fun V (hs : Still w V) => hA.still hs)
  have HM := Lib.hid hm
  have HLen := Lib.hid (fun k => show (plcs T (l.take k)).length ≤ 800 from by
    have := zplcs_le h8 (l.take k)
    rw [List.length_take] at this
    omega)
  have HStep := Lib.hid (fun k t (ht : l[k]? = some t) => plcs_step (T := T) ht)
  have HNone := Lib.hid (fun t (ht : t < 0 ∨ (Z.length : Int) ≤ t) => show plcOf T t = [] from by
    unfold plcOf
    by_cases h0 : 0 ≤ t
    · rw [if_pos h0]
      have : T[t.toNat]? = none := List.getElem?_eq_none_iff.2 (by omega)
      unfold nps; rw [this]; rfl
    · rw [if_neg h0])
  have HSome := Lib.hid (fun (i : Nat) z (hz : Z[i]? = some z) => show plcOf T (i : Nat) = (List.range z.2.2.2.length).map (fun p : Nat => (((i : Nat) : Int), (p : Int))) ∧ z.2.2.2.length ≤ 8 from by
    obtain ⟨x, hx, hzx, _⟩ := zz_len h1 hf hz
    refine ⟨?_, by rw [hzx]; exact h8 x (List.mem_of_getElem? hx)⟩
    unfold plcOf
    rw [if_pos (by omega), Int.toNat_natCast]
    unfold nps
    rw [hx, hzx]; rfl)
  have HAll := Lib.hid (show plcs T (l.take m) = plcs T l from by rw [hm, List.take_length])
  have H0 := Lib.hid (show PlAt w (w.alloc (.cells #[] 25)) (plcs T (l.take 0)) (.slice (some ⟨w.heap.size, 0, none⟩) 0 0) from
    ⟨some ⟨w.heap.size, 0, none⟩, 0, rfl, World.ownsRow_made (e := 25) (size := 2) w #[] 0 (Nat.le_refl _) (by simp) (by simp [plcs]), (Turned.refl _ _).alloc _⟩)
  have HN := Lib.hid hn
  have hz16 : Z.length ≤ 16 := by omega
  clear h he h1 hf h8 hA hm hn hzl
  go_enter Tryz.func29, Tryz.ntmps29
  go_wp2_with fail
  go_loopw [6, 5] (fun i o wr => ∃ k : Nat, k ≤ m ∧ i = .int .i64 k ∧ PlAt w wr (plcs T (l.take k)) o) (fun i _ _ => m - (intOf i).toNat)
  case atStart => exact ⟨0, Nat.zero_le _, rfl, H0.out⟩
  case round =>
    clear H0
    obtain ⟨k, hk, rfl, a', c', rfl, hrow, hst⟩ := hrel
    have HRow := Lib.hid hrow
    have HSt := Lib.hid hst
    have c1 := (HR.out wr hst).c1
    by_cases hlt : k < m
    · obtain ⟨t, ht⟩ := get_some (l := l) (i := k) (by rw [← HM.out]; exact hlt)
      obtain ⟨b, o, rfl, hc⟩ := HA.out wr hst k t ht
      have HS1 := Lib.hid (HStep.out k t ht)
      have hki : (k : Int) < (m : Int) := by omega
      clear hrow hst ht
      by_cases htn : t < 0
      · have HE := Lib.hid (show plcs T (l.take (k + 1)) = plcs T (l.take k) from by rw [HS1.out, HNone.out t (.inl htn), List.append_nil])
        go_wp2_with fail
        go_roundw
        case rel => exact ⟨k + 1, by omega, by go_num, by rw [HE.out]; exact ⟨a', c', rfl, HRow.out, HSt.out⟩⟩
        case measure => simp [intOf]; omega
      · by_cases htl : (Z.length : Int) ≤ t
        · have HE := Lib.hid (show plcs T (l.take (k + 1)) = plcs T (l.take k) from by rw [HS1.out, HNone.out t (.inr htl), List.append_nil])
          generalize Z.length = zn at *
          go_wp2_with fail
          go_roundw
          case rel => exact ⟨k + 1, by omega, by go_num, by rw [HE.out]; exact ⟨a', c', rfl, HRow.out, HSt.out⟩⟩
          case measure => simp [intOf]; omega
        · obtain ⟨ti, rfl⟩ : ∃ ti : Nat, t = (ti : Int) := ⟨t.toNat, by omega⟩
          obtain ⟨z, hz⟩ := get_some (l := Z) (i := ti) (by omega)
          obtain ⟨hpl, hz8⟩ := HSome.out ti z hz
          have HCell := Lib.hid (fun V (hs : Still w V) => show ∃ g, a = some ⟨g, 0, none⟩ ∧ V.cell? ⟨g, ti * 2 + 1, none⟩ = some (.slice z.2.1 z.2.2.2.length z.2.2.1) ∧ V.cell? ⟨s, 1, none⟩ = some (.slice a Z.length c) from by
            obtain ⟨g, e, _, r2⟩ := (HR.out V hs).row ti z hz
            exact ⟨g, e, r2, (HR.out V hs).c1⟩)
          have HPl := Lib.hid hpl
          obtain ⟨za, hza⟩ : ∃ za, za = z.2.1 := ⟨_, rfl⟩
          obtain ⟨zc, hzc⟩ : ∃ zc, zc = z.2.2.1 := ⟨_, rfl⟩
          rw [← hza, ← hzc] at HCell
          have hti : (ti : Int) < (Z.length : Int) := by omega
          have hti0 : ¬ ((ti : Int) < 0) := by omega
          have hti2 : ti < Z.length := by omega
          generalize z.2.2.2.length = zl at *
          generalize Z.length = zn at *
          clear hz hpl hza hzc htn htl
          have HP := Lib.hid (show PlAt w wr (plcs T (l.take k) ++ (List.range 0).map (fun p : Nat => (((ti : Nat) : Int), (p : Int)))) (.slice a' (plcs T (l.take k)).length c') from by
            rw [List.range_zero, List.map_nil, List.append_nil]; exact ⟨a', c', rfl, HRow.out, HSt.out⟩)
          have HLk := HLen.out k
          have HLkH := Lib.hid HLk
          go_wp2_with fail
          obtain ⟨U, hU⟩ : ∃ U, U = wr := ⟨_, rfl⟩
          rw [← hU] at HP HSt HRow
          subst hU
          go_loopw [8, 5] (fun j o wx => ∃ p : Nat, p ≤ zl ∧ j = .int .i64 p ∧ PlAt w wx (plcs T (l.take k) ++ (List.range p).map (fun p : Nat => (((ti : Nat) : Int), (p : Int)))) o) (fun j _ _ => zl - (intOf j).toNat)
          case atStart => exact ⟨0, Nat.zero_le _, rfl, HP.out⟩
          case round =>
            obtain ⟨p, hp, rfl, a2, c2, rfl, hrow2, hst2⟩ := hrel
            obtain ⟨g, rfl, r2, r1⟩ := HCell.out wr hst2
            have HRow2 := Lib.hid hrow2
            have HSt2 := Lib.hid hst2
            by_cases hpz : p < zl
            · have hpi : (p : Int) < (zl : Int) := by omega
              obtain ⟨ln, hln⟩ : ∃ ln, ln = (plcs T (l.take k) ++ (List.range p).map (fun p : Nat => (((ti : Nat) : Int), (p : Int)))).length := ⟨_, rfl⟩
              have hlnb : ln ≤ 900 := by rw [hln, List.length_append, List.length_map, List.length_range]; omega
              have HNext := Lib.hid (fun (w6 : World) (a6 : Option Addr) (c6 : Nat) (hown : w6.ownsRow w.heap.size 25 2 (.slice a6 (ln + 1) c6) (ln + 1) ((plcs T (l.take k) ++ (List.range p).map (fun p : Nat => (((ti : Nat) : Int), (p : Int)))).flatMap plcV ++ [.int .i64 (ti : Nat), .int .i64 (p : Nat)])) (hs : Still w w6) =>
                show PlAt w w6 (plcs T (l.take k) ++ (List.range (p + 1)).map (fun p : Nat => (((ti : Nat) : Int), (p : Int)))) (.slice a6 (ln + 1) c6) from by
                  have e1 : plcs T (l.take k) ++ (List.range (p + 1)).map (fun p : Nat => (((ti : Nat) : Int), (p : Int))) = (plcs T (l.take k) ++ (List.range p).map (fun p : Nat => (((ti : Nat) : Int), (p : Int)))) ++ [(((ti : Nat) : Int), (p : Int))] := by
                    rw [List.range_succ, List.map_append, List.append_assoc]; rfl
                  refine ⟨a6, c6, by rw [e1, List.length_append, ← hln]; rfl, ?_, hs⟩
                  rw [e1, List.length_append, ← hln, List.flatMap_append]
                  exact hown)
              rw [← hln] at HRow2
              rw [← hln]
              have hszw := hst2.size
              clear hrow2 hst2 hln
              go_wp2_with (at_builtin; refine wpList_append_own_at _ rfl _ _ 59 rfl w.heap.size 25 i0 (.agg #[.int .i64 0, .int .i64 0]) 2 16 Tryz.underlying59 hi hz0 hz1 hz2 rfl (by decide) _ _ _ rfl (HRow2.out.alloc _) ⟨wr.heap.size, 0, none⟩ 1 1 [.int .i64 (ti : Nat), .int .i64 (p : Nat)] rfl rfl (ow_cells wr [.int .i64 (ti : Nat), .int .i64 (p : Nat)] 25) (ow_ints rfl) (by unfold maxLen; omega) (by omega) (by first | (simp; done) | (simp; omega)) ?_; intro v6 w6 hown6 hg6 _ hat6; obtain ⟨a6, c6, rfl⟩ := ow_slice hown6; have HN6 := Lib.hid (HNext.out w6 a6 c6 hown6 (zow_past HSt2.out HRow2.out (((Turned.refl _ _).alloc _).grown hg6 (fun k hk => .inl hk)))); clear hown6 hg6 hat6)
              go_roundw
              case rel => exact ⟨p + 1, by omega, by go_num, HN6.out⟩
              case measure => simp [intOf]; omega
            · obtain rfl : p = zl := by omega
              have HE := Lib.hid (show PlAt w wr (plcs T (l.take (k + 1))) (.slice a2 (plcs T (l.take k) ++ (List.range p).map (fun p : Nat => (((ti : Nat) : Int), (p : Int)))).length c2) from by
                rw [HS1.out, HPl.out]
                exact ⟨a2, c2, rfl, hrow2, hst2⟩)
              clear hrow2 hst2 hpz
              go_wp2_with fail
              go_roundw
              case rel => exact ⟨k + 1, by omega, by go_num, HE.out⟩
              case measure => simp [intOf]; omega
    · obtain rfl : k = m := by omega
      have HO := Lib.hid (show OutPl w (plcs T l) n (.returned (.slice a' (plcs T (l.take k)).length c')) wr from by
        rw [HAll.out] at hrow ⊢
        rw [← HN.out] at hrow ⊢
        exact ⟨a', c', rfl, hrow, hst⟩)
      clear hrow hst
      go_wp2_with fail
      go_ret
      exact HO.out
end Go.Proofs.YtmmkcfiecgpkpaaGreat
