/- What Refs, Ready and Make of the document's ring do. No condition but that the ring is one. -/
import Derived.Test.YtefopajkcpcjpaaRingRefDo
import Derived.Maps.AppendAt
namespace Go.Proofs.Ytefopajkcpcjpaa
open Go.RowKit
set_option linter.unusedVariables false
set_option linter.unusedSimpArgs false
set_option maxRecDepth 100000

/-- Numbers that are handed out: a slice of one's own. -/
def OutNums (w : World) (l : List Int) (n : Nat) (e : Ending) (w' : World) : Prop := ∃ a c, e = .returned (.slice a n c) ∧ w'.ownsRow w.heap.size 3 1 (.slice a n c) n (ints l) ∧ Still w w'

/-- What append of one number leaves of a row of one's own. -/
theorem ow_appended {w wr w6 : World} {ao : Option Addr} {k cc : Nat} {xs ys : List Value} {o : Obj} {v6 : Value} (hs : Still w wr) (h : wr.ownsRow w.heap.size 3 1 (.slice ao k cc) k xs) (hg : (wr.alloc o).grownBy w6 (Value.slice ao k cc).ownBlock) : Still w w6 := by
  refine (hs.alloc o).past ((Turned.refl (fun i => (Value.slice ao k cc).ownBlock = some i) _).grown hg (fun i e => .inl e)) (fun i hi => ?_)
  cases ao with
  | none => cases hi
  | some x => have := (ow_lt h x rfl).1
              have e : x.block = i := by simpa [Value.ownBlock] using hi
              exact .inr (by omega)

theorem RM.refs_get {M : RM} {k : Nat} {p : Plc} (h : M.l[k]? = some p) : M.refs.take (k + 1) = M.refs.take k ++ [p.r] := by
  unfold RM.refs
  rw [List.take_add_one, List.getElem?_map, h]
  rfl

set_option maxHeartbeats 1000000 in
theorem zrrefs_any {w : World} {W : Nat → Prop} {q : Nat} {M : RM} {N : Nat} (H0 : (zrT q M).at_ w W) (hM : M.Ok N) (n : Nat) (hn : n = M.l.length) :
    Calls Try.prog 29 #[.pointer (some ⟨q, 0, none⟩)] w (OutNums w M.refs n) := by
  obtain ⟨la, lc, H⟩ := H0
  obtain ⟨i0, hi, hz0, hz1, hz2⟩ := info_parts infoIntW
  have hmax : n ≤ 64 := by have := hM.len; have := hM.max; omega
  have c3 : w.cell? ⟨q, 3, none⟩ = some (.slice la n lc) := hn ▸ H.cells.2.2.2
  have HC := Lib.hid (fun w' (hst : Still w w') => (hn ▸ (H.still hst).cells.2.2.2 : w'.cell? ⟨q, 3, none⟩ = some (.slice la n lc)))
  have HP := Lib.hid (fun w' (hst : Still w w') (k : Nat) (hk : k < n) => show ∃ (g : Nat) (p : Plc), M.l[k]? = some p ∧ la = some ⟨g, 0, none⟩ ∧ w'.cell? ⟨g, k * 2, none⟩ = some (.int .i64 p.r) by
    obtain ⟨p, hp⟩ := get_some (l := M.l) (i := k) (by omega)
    obtain ⟨g, h1, h2, _⟩ := (H.still hst).place hp
    exact ⟨g, p, hp, h1, h2⟩)
  have HL := Lib.hid (show M.refs.take n = M.refs by rw [List.take_of_length_le]; simp [RM.refs, hn])
  have HW := Lib.hid (World.ownsRow_made (e := 3) (size := 1) w #[] 0 (Nat.le_refl _) (by simp) (by simp))
  clear H hM hn
  go_enter Try.func29, Try.ntmps29
  go_wp2
  go_loopw [3, 4] (fun o i wr => ∃ (k : Nat) (ao : Option Addr) (cc : Nat), k ≤ n ∧ i = .int .i64 k ∧ o = .slice ao k cc ∧ wr.ownsRow w.heap.size 3 1 (.slice ao k cc) k (ints (M.refs.take k)) ∧ Still w wr) (fun _ i _ => n - (intOf i).toNat)
  case atStart => exact ⟨0, _, 0, Nat.zero_le _, rfl, rfl, HW.out, (Turned.refl _ _).alloc _⟩
  case round =>
    obtain ⟨k, ao, cc, hk, rfl, rfl, hown, hst⟩ := hrel
    have cr := HC.out wr hst
    by_cases hlt : k < n
    · obtain ⟨g, p, hp, rfl, c0⟩ := HP.out wr hst k hlt
      have HO := Lib.hid hown
      have HS := Lib.hid hst
      have HPP := Lib.hid hp
      have hlo := hst.size
      clear hown hst hp HC HP c3
      go_wp2_with (at_builtin; refine wpList_append_own_at _ rfl _ _ 39 rfl w.heap.size 3 i0 (.int .i64 0) 1 8 Try.underlying39 hi hz0 hz1 hz2 rfl (by decide) (.slice ao k cc) k (ints (M.refs.take k)) rfl (ow_still HO.out ((Turned.refl _ _).alloc _)) ⟨wr.heap.size, 0, none⟩ 1 1 [.int .i64 p.r] rfl rfl (ow_cells wr _ _) (ow_ints rfl) (by unfold maxLen; omega) (by omega) (by simp; omega) ?_; intro v6 w6 hown6 hg6 _ hat6; obtain ⟨a6, c6, rfl⟩ := ow_slice hown6; have HS6 := Lib.hid (ow_appended (v6 := .bool true) (ys := []) HS.out HO.out hg6); have HO6 := Lib.hid hown6; clear hown6 hg6 hat6)
      go_roundw
      case rel => exact ⟨k + 1, a6, c6, by omega, by go_num, rfl, by rw [RM.refs_get HPP.out]; simpa [ints] using HO6.out, HS6.out⟩
      case measure => simp [intOf]; omega
    · obtain rfl : k = n := by omega
      have HO := Lib.hid hown
      have HS := Lib.hid hst
      clear hown hst HP
      go_wp2
      go_ret
      refine ⟨ao, cc, rfl, ?_, HS.out⟩
      have := HO.out
      rwa [HL.out] at this
end Go.Proofs.Ytefopajkcpcjpaa
