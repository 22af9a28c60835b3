/- What Trim of the document's ring does. No condition but that the ring is one. -/
import Derived.Test.YtliaaggjefjbeaaRingRefClaim
namespace Go.Proofs.Ytliaaggjefjbeaa
open Go.RowKit
set_option linter.unusedVariables false
set_option linter.unusedSimpArgs false
set_option maxRecDepth 100000

/-- What Trim hands out, and what it leaves: the ring and the references that went, apart. -/
def TrimSep (RT : Nat → RM → Thing) (w : World) (W : Nat → Prop) (q : Nat) (M : RM) (tt : Int) (e : Ending) (w' : World) : Prop :=
  ∃ a c, e = .returned (.tuple #[.slice a (M.trimL tt).length c, .int .i64 (M.trimE tt)]) ∧ Goes ((RT q (M.trimM tt)).sep (ownT 3 1 a (M.trimL tt).length c (ints (M.trimL tt)))) W w w'

theorem trim_same {w w' : World} {W : Nat → Prop} {q lc : Nat} {la : Option Addr} {M : RM} (H : RIn w W q la lc M) (hst : Still w w') {tt er : Int} (he : M.trimE tt = er) (h0 : er ≠ 0) : TrimSep zrT w W q M tt (.returned (.tuple #[.slice none 0 0, .int .i64 er])) w' := by
  have hl : M.trimL tt = [] := by unfold RM.trimL; rw [if_pos (by rw [he]; exact h0)]
  have hm : M.trimM tt = M := by unfold RM.trimM; rw [if_pos (by rw [he]; exact h0)]
  unfold TrimSep
  rw [hl, hm, he]
  refine ⟨none, 0, rfl, ⟨W, ⟨W, fun _ => False, ⟨la, lc, H.still hst⟩, ⟨⟨rfl, .inl ⟨rfl, rfl⟩⟩, fun k => ⟨fun h => h.elim, fun h => by cases h⟩⟩, fun _ _ h => h, fun k => by simp⟩, hst.mono (fun _ _ h => h.elim), fun k hk => .inl hk⟩⟩

theorem all_take_step {l : List Plc} {k : Nat} {p : Plc} (h : l[k]? = some p) (ha : (l.take k).all (·.d) = true) (hd : p.d = true) : (l.take (k + 1)).all (·.d) = true := by
  rw [List.take_add_one, h]
  simp [List.all_append, ha, hd]
theorem all_take_no {l : List Plc} {k c : Nat} {p : Plc} (h : l[k]? = some p) (hk : k < c) (hd : p.d = false) : ¬ (l.take c).all (·.d) = true := by
  intro ha
  rw [List.all_eq_true] at ha
  have hm : p ∈ l.take c := List.mem_of_getElem? (i := k) (by rw [List.getElem?_take, if_pos hk]; exact h)
  have := ha p hm
  rw [hd] at this
  cases this

/-- So many of the eldest places go. -/
theorem RIn.cutN {w w6 : World} {W : Nat → Prop} {q lc : Nat} {la : Option Addr} {M : RM} (H : RIn w W q la lc M) (h6 : Still w w6) {c m c6 : Nat} {a6 : Option Addr} (hm : m = (M.l.drop c).length)
    (hown : w6.ownsRow w.heap.size 75 2 (.slice a6 m c6) m (rowOf encP (M.l.drop c))) :
    (RIn ((w6.setCell ⟨q, 3, none⟩ (.slice a6 m c6)).setCell ⟨q, 2, none⟩ (.int .i64 ((M.h : Int) + (c : Int)))) (fun k => W k ∨ (Value.slice a6 m c6).ownBlock = some k) q a6 c6 { M with h := M.h + c, l := M.l.drop c } ∧ (∀ k, (Value.slice a6 m c6).ownBlock = some k → w.heap.size ≤ k)) ∧
      Blk w6 q [.int .i64 M.n, .int .i64 (polB M.ov), .int .i64 M.h, .slice la M.l.length lc] 48 := by
  have H6 := H.still h6
  have hlq := H.lt q H.own.1
  have htq : Turned (· = q) w6 (w6.setCell ⟨q, 3, none⟩ (.slice a6 m c6)) := turned_set (Turned.refl _ _) _ _
  have hx : ∀ x, a6 = some x → w.heap.size ≤ x.block := by rintro x rfl; exact (ow_lt hown x rfl).1
  have R : RIn (w6.setCell ⟨q, 3, none⟩ (.slice a6 m c6)) (fun k => W k ∨ (Value.slice a6 m c6).ownBlock = some k) q a6 c6 { M with l := M.l.drop c } := by
    refine ⟨fun k hk => ?_, ⟨.inl H.own.1, fun x hx' => ⟨.inr (by rw [hx']; rfl), by have := hx x hx'; omega⟩⟩, by rw [← hm]; exact H6.hd.set 3 _, ?_⟩
    · have hsz : (w6.setCell ⟨q, 3, none⟩ (.slice a6 m c6)).heap.size = w6.heap.size := by simp [World.setCell]
      rw [hsz]
      rcases hk with hk | hk
      · exact H6.lt k hk
      · cases a6 with
        | none => cases hk
        | some x => have := (ow_lt hown x rfl).2; simp only [Value.ownBlock, Option.some.injEq] at hk; omega
    · rw [← hm]
      exact ow_base (ow_turned hown htq (fun b hb e => by
        cases a6 with
        | none => cases hb
        | some x => have := hx x rfl
                    have e' : x.block = b := by simpa [Value.ownBlock] using hb
                    omega)) (Nat.zero_le _)
  have R2 := R.setH (M.h + c)
  rw [show ((M.h + c : Nat) : Int) = (M.h : Int) + (c : Int) by omega] at R2
  refine ⟨⟨R2, fun k hk => ?_⟩, H6.hd⟩
  cases a6 with
  | none => cases hk
  | some x => have := hx x rfl
              have e' : x.block = k := by simpa [Value.ownBlock] using hk
              omega

theorem trim_done {w V w6 : World} {W : Nat → Prop} {q lc : Nat} {la : Option Addr} {M : RM} (H : RIn w W q la lc M) (hV : Still w V) {ao : Option Addr} {c cc : Nat} (hcn : c ≤ M.l.length) (hout : V.ownsRow w.heap.size 3 1 (.slice ao c cc) c (ints ((M.l.take c).map (·.r)))) (h6 : Still V w6) {m c6 : Nat} {a6 : Option Addr} (hm : m = (M.l.drop c).length)
    (hown : w6.ownsRow V.heap.size 75 2 (.slice a6 m c6) m (rowOf encP (M.l.drop c))) {tt : Int} (he : M.trimE tt = 0 ∧ M.trimL tt = (M.l.take c).map (·.r) ∧ M.trimM tt = { M with h := M.h + c, l := M.l.drop c }) :
    TrimSep zrT w W q M tt (.returned (.tuple #[.slice ao c cc, .int .i64 0])) ((w6.setCell ⟨q, 3, none⟩ (.slice a6 m c6)).setCell ⟨q, 2, none⟩ (.int .i64 ((M.h : Int) + (c : Int)))) ∧ Blk w6 q [.int .i64 M.n, .int .i64 (polB M.ov), .int .i64 M.h, .slice la M.l.length lc] 48 := by
  obtain ⟨⟨R, hlo⟩, hb⟩ := (H.still hV).cutN h6 hm hown
  obtain ⟨e1, e2, e3⟩ := he
  have hlen : ((M.l.take c).map (·.r)).length = c := by rw [List.length_map, List.length_take]; omega
  have hq := H.lt q H.own.1
  have hob : ∀ k, (Value.slice ao c cc).ownBlock = some k → w.heap.size ≤ k ∧ k < V.heap.size := by
    intro k hk
    cases ao with
    | none => cases hk
    | some x => have := ow_lt hout x rfl
                have e' : x.block = k := by simpa [Value.ownBlock] using hk
                omega
  have ht : Turned (· = q) w6 ((w6.setCell ⟨q, 3, none⟩ (.slice a6 m c6)).setCell ⟨q, 2, none⟩ (.int .i64 ((M.h : Int) + (c : Int)))) := turned_set (turned_set (Turned.refl _ _) _ _) _ _
  refine ⟨?_, hb⟩
  unfold TrimSep
  rw [e1, e2, e3, hlen]
  refine ⟨ao, cc, rfl, ⟨fun k => (W k ∨ (Value.slice a6 m c6).ownBlock = some k) ∨ (Value.slice ao c cc).ownBlock = some k, ⟨_, _, ⟨a6, c6, R⟩, ⟨ow_base (ow_turned (ow_still hout h6) ht (fun b hb e => by have := hob b hb; omega)) (Nat.zero_le _), fun k => Iff.rfl⟩, fun k hk hk2 => ?_, fun k => Iff.rfl⟩, ?_, fun k hk => ?_⟩⟩
  · have h2 := hob k hk2
    rcases hk with hk | hk
    · have := H.lt k hk; omega
    · have := hlo k hk; omega
  · exact ((hV.trans h6).mono (fun _ _ h => h.elim)).trans (ht.mono (fun i _ e => by subst e; exact H.own.1))
  · rcases hk with (hk | hk) | hk
    · exact .inl hk
    · exact .inr (Nat.le_trans hV.size (hlo k hk))
    · exact .inr (hob k hk).1

end Go.Proofs.Ytliaaggjefjbeaa