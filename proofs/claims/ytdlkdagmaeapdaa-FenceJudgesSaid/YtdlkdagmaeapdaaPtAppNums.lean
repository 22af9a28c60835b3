/- An append of a row of numbers to one of one's own inside a region that draws its order: the row that is appended may be nil. No condition. -/
import Derived.Test.YtdlkdagmaeapdaaStepApp
import Derived.Test.YtdlkdagmaeapdaaHeld
import Derived.Laws.AppendOwnNone
namespace Go.Proofs.Ytdlkdagmaeapdaa
open Go.RowKit
set_option linter.unusedVariables false
set_option linter.unusedSimpArgs false

theorem ints_all1 (l : List Int) : ∀ u ∈ ints l, u.oneCell' = true := by
  intro u hu
  simp only [ints, List.mem_map] at hu
  obtain ⟨x, _, rfl⟩ := hu
  rfl
theorem step_app_nums {ops : Array Oper} {o : Oper} {a : Act} {w : World} {K : Act → World → Prop} {Q : Exit → Act → World → Prop} {E : Prop}
    (hg : o.guard = none) (s x : Operand) (hop : o.op = Op.call { callee := Callee.builtin Builtin.append, args := #[s, x], argTypes := #[44, 44] })
    (base n k : Nat) (v : Value) (xs : List Int) (hs : a.eval s = v) (hown : w.ownsRow base 3 1 v n (ints xs))
    (ao : Option Addr) (m c : Nat) (l : List Int) (hx : a.eval x = .slice ao m c) (hm : m = l.length) (hN : NumsAt w ao l) (h0 : ao = none → m = 0 ∧ c = 0) (hk : k = n + m) (h63 : k ≤ 1000000) (hbase : base ≤ w.heap.size)
    (h : ∀ v' w', w'.ownsRow base 3 1 v' k (ints (xs ++ l)) → Turned (fun i => v.ownBlock = some i) w w' → K (a.put o.dst v') w') :
    if Region.wanted o (yielded ops a.tmps) = true then Oper.wp Try.prog o a w K Q else E := by
  obtain ⟨i0, ji, jz0, jz1, jz2⟩ := info_parts infoIntW
  subst hk
  cases ao with
  | none =>
    obtain ⟨rfl, rfl⟩ := h0 rfl
    obtain rfl : l = [] := by cases l with
      | nil => rfl
      | cons _ _ => simp at hm
    have hw : Region.wanted o (yielded ops a.tmps) = true := by simp [Region.wanted, hg]
    rw [if_pos hw]
    have hrun := run_append_owned_none (P := Try.prog) (w := w) base 44 o.type 3 i0 1 Try.underlying44 ji v n (ints xs) hown
    unfold Oper.wp
    simp [execOp, hop, resolve, invoke, builtin, hs, hx, hrun, Result.andThen]
    exact h _ _ (by rw [List.append_nil, Nat.add_zero]; exact hown) (Turned.refl _ _)
  | some ad =>
    refine step_app_own hg s x 44 hop base 3 i0 (.int .i64 0) 1 8 Try.underlying44 ji jz0 jz1 jz2 rfl (by decide) v n (ints xs) hs hown ad m c (ints l) hx (by rw [ints_length]; omega) (fun j u hj => ?_) (ints_all1 l) (by unfold maxLen; omega) (by omega) hbase ?_
    · unfold ints at hj
      rw [List.getElem?_map] at hj
      cases hz : l[j]? with
      | none => rw [hz] at hj; cases hj
      | some z =>
        rw [hz] at hj
        obtain ⟨b, p, e, hc⟩ := hN j z hz
        cases e
        have e2 : u = .int .i64 z := (Option.some.inj hj).symm
        rw [e2, Addr.add_lit]; exact hc
    · intro v' w' h1 h2 h3
      exact h v' w' (by rw [show ints (xs ++ l) = ints xs ++ ints l from by simp [ints]]; exact h1) ((Turned.refl _ _).grown h2 (fun i e => .inl e))
theorem ow_past {w0 w w' : World} {e : TypeId} {m n : Nat} {v : Value} {xs : List Value} (hs : Still w0 w) (h : w.ownsRow w0.heap.size e m v n xs) (ht : Turned (fun i => v.ownBlock = some i) w w') : Still w0 w' := by
  refine hs.past ht (fun i hi => .inr ?_)
  obtain ⟨ao, cc, rfl⟩ := ow_slice h
  cases ao with
  | none => cases hi
  | some x =>
    have := (ow_lt h x rfl).1
    have e : x.block = i := by simpa [Value.ownBlock] using hi
    omega
end Go.Proofs.Ytdlkdagmaeapdaa
