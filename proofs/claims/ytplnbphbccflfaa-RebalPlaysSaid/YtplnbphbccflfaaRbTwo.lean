/- Both tables of layer 17, of one plain state: calls on both, one after the other; an append of places. No condition but the words. -/
import Derived.Test.YtplnbphbccflfaaRbSame
import Derived.Test.YtplnbphbccflfaaPtAppNums
import Derived.Test.YtplnbphbccflfaaIntsCopy
namespace Go.Proofs.Ytplnbphbccflfaa
open Go.RowKit
set_option linter.unusedVariables false
set_option linter.unusedSimpArgs false
set_option maxRecDepth 100000

theorem row_cells17 {w : World} {b o : Nat} {xs : List Plc} (h : RowAt encPl 2 w (some ⟨b, o, none⟩) xs) : ∀ (j : Nat) (u : Value), (rowOf encPl xs)[j]? = some u → w.cell? ((⟨b, o, none⟩ : Addr).add j) = some u := by
  intro j u hj
  have hl : j < xs.length * 2 := by
    have := (List.getElem?_eq_some_iff.1 hj).1
    rwa [rowOf_length encPl_len] at this
  obtain ⟨x, hx⟩ := get_some (l := xs) (i := j / 2) (by omega)
  obtain ⟨b', o', e, hc⟩ := h (j / 2) x hx
  cases e
  obtain ⟨v, hv⟩ := get_some (l := encPl x) (i := j % 2) (by rw [encPl_len]; omega)
  have h1 := rowOf_get encPl_len hx hv
  rw [show j / 2 * 2 + j % 2 = j by omega, hj] at h1
  obtain rfl := Option.some.inj h1
  have h2 := hc (j % 2) u hv
  rw [Addr.add_lit]
  rw [show o + (j / 2 * 2 + j % 2) = o + j by omega] at h2
  exact h2
theorem onePl (l : List Plc) : ∀ u ∈ rowOf encPl l, u.oneCell' = true := by
  intro u hu
  unfold rowOf at hu
  obtain ⟨x, _, hx⟩ := List.mem_flatMap.1 hu
  unfold encPl encI at hx
  simp at hx
  rcases hx with rfl | rfl <;> rfl
theorem wpList_app_pl {ops : Array Oper} {rest : List Oper} {o : Oper} {a : Act} {w : World} {Q : Exit → Act → World → Prop} (hgd : o.guard = none) (s x : Operand)
    (ho : o.op = .call { callee := .builtin .append, args := #[s, x], argTypes := #[23, 23] })
    (base n k : Nat) (v : Value) (xs : List Plc) (hs : a.eval s = v) (hown : w.ownsRow base 49 2 v n (rowOf encPl xs))
    (ao : Option Addr) (m c : Nat) (l : List Plc) (hx : a.eval x = .slice ao m c) (hm : m = l.length) (hR : PlAt w ao l) (h0 : ao = none → m = 0 ∧ c = 0) (hk : k = n + m) (h63 : k ≤ 1000000) (hbase : base ≤ w.heap.size)
    (h : ∀ v' w', w'.ownsRow base 49 2 v' k (rowOf encPl (xs ++ l)) → Turned (fun i => v.ownBlock = some i) w w' → wpList Try.prog ops Q rest (a.put o.dst v') w') :
    wpList Try.prog ops Q (o :: rest) a w := by
  obtain ⟨pi, qi, pz0, pz1, pz2⟩ := info_parts infoPl17
  subst hk
  cases ao with
  | none =>
    obtain ⟨rfl, rfl⟩ := h0 rfl
    obtain rfl : l = [] := by cases l with
      | nil => rfl
      | cons _ _ => simp at hm
    refine wpList_append_own_none hgd s x 23 ho base 49 pi 2 Try.underlying23 qi v n (rowOf encPl xs) hs hown hx ?_
    exact h v w (by rw [List.append_nil, Nat.add_zero]; exact hown) (Turned.refl _ _)
  | some ad =>
    refine wpList_append_own_at _ hgd s x 23 ho base 49 pi (.agg #[.int .i64 0, .int .i64 0]) 2 16 Try.underlying23 qi pz0 pz1 pz2 rfl (by decide) v n (rowOf encPl xs) hs hown ad m c (rowOf encPl l) hx (by rw [rowOf_length encPl_len, hm]) (fun j u hj => ?_) (onePl l) (by unfold maxLen; omega) (by omega) hbase ?_
    · cases l with
      | nil => cases hj
      | cons y r =>
        obtain ⟨b, p, e, _⟩ := hR 0 y rfl
        cases e
        exact row_cells17 hR j u hj
    · intro v' w' g1 g2 _ _
      exact h v' w' (by rw [rowOf_append]; exact g1) ((Turned.refl _ _).grown g2 (fun i e => .inl e))

section
variable {BT : Nat → TbM → Thing} {w0 V : World} {q z K : Nat} {M : TbM}
theorem tb_begin (A : RebalApi BT) (hM : M.Ok K) (hK : K < 1000000) {lo bo ao am : Option Addr} {ps : List Plc} {ms : List Int} {n m cl c1 c2 cm : Nat} (hn : n = ps.length) (hm : m = ms.length) (h1 : n ≤ 1000) (h2 : m ≤ 1000)
    (hA : NumsAt w0 am ms) (H : Held w0 V ((((BT q M).sep (zbT z M)).sep (plsT lo n cl ps)).sep ((plsT bo n c1 ps).sep (intsT ao m c2 ms)))) :
    ∃ (v : Bool) (E : Int), Calls Try.prog 12 #[.pointer (some ⟨q, 0, none⟩), .slice bo n c1, .slice ao m c2] V fun e w' => e = .returned (.tuple #[.bool v, .int .i64 E]) ∧
      Calls Try.prog 14 #[.pointer (some ⟨z, 0, none⟩), .slice lo n cl, .slice am m cm] w' fun e w'' => e = .returned (.tuple #[.bool v, .int .i64 E]) ∧ ∃ M' : TbM, M'.Ok (K + 1) ∧ Held w0 w'' ((BT q M').sep (zbT z M')) := by
  have H1 : Held w0 V ((BT q M).sep (((zbT z M).sep (plsT lo n cl ps)).sep ((plsT bo n c1 ps).sep (intsT ao m c2 ms)))) := H.assoc.assoc.imp2 (fun h => sep_imp2 (fun h => h) (fun h => sep_assoc' h) h)
  refine ⟨M.beginV ps ms, begE ps ms, (Held.beginC A hM hK hn hm h1 h2 rfl rfl rfl H1).mono fun e w' ⟨he, h⟩ => ⟨he, ?_⟩⟩
  have H2 : Held w0 w' ((BT q (M.begin_ ps ms)).sep ((zbT z M).sep (plsT lo n cl ps))) := h.assoc'.drop
  have H3 : Held w0 w' ((zbT z M).sep ((BT q (M.begin_ ps ms)).sep (plsT lo n cl ps))) := H2.turn
  have hpl : PlAt w' lo ps := by
    obtain ⟨_, hp, _⟩ := H3.snd.snd
    exact RowAt.of_own encPl_len hp.1 hn
  have hlo : ∀ W, (zbT z M).at_ w' W → True := fun _ _ => trivial
  have HG := H3.ground
  obtain ⟨W, ⟨W1, W2, g1, g2, gd, gW⟩, gl, gs⟩ := H3
  have hz := zrbbegin_any (c1 := cl) (c2 := cm) g1 hM hK hn hm h1 h2 hpl (hA.still HG) (fun hne a ea hk => by
    have h5 := gl _ ((gW _).2 (.inl hk))
    cases ms with
    | nil => exact hne rfl
    | cons y r =>
      obtain ⟨b, o, e, hc⟩ := hA 0 y rfl
      rw [ea] at e
      cases e
      have h6 : b < w0.heap.size := cell_lt hc
      have h7 : w0.heap.size ≤ b := h5
      omega)
  refine hz.mono fun e w'' ⟨he, hg⟩ => ⟨he, M.begin_ ps ms, hM.begin_ ps ms, ?_⟩
  have H4 : Held w0 w' ((zbT z M).sep ((BT q (M.begin_ ps ms)).sep (plsT lo n cl ps))) := ⟨W, ⟨W1, W2, g1, g2, gd, gW⟩, gl, gs⟩
  have H5 : Held w0 w'' ((zbT z (M.begin_ ps ms)).sep ((BT q (M.begin_ ps ms)).sep (plsT lo n cl ps))) := by
    obtain ⟨Wn, q1, q2, q3⟩ := hg
    refine ⟨fun k => Wn k ∨ W2 k, ⟨Wn, W2, q1, Thing.keep _ g2 q2 (fun k hk hk1 => gd k hk1 hk), fun k hk hk2 => ?_, fun k => Iff.rfl⟩, fun k hk => ?_, gs.past q2 (fun i hi => .inr (gl i ((gW i).2 (.inl hi))))⟩
    · rcases q3 k hk with h | h
      · exact gd k h hk2
      · have := Thing.lt _ g2 k hk2; omega
    · rcases hk with hk | hk
      · rcases q3 k hk with h | h
        · exact gl k ((gW k).2 (.inl h))
        · exact Nat.le_trans gs.size h
      · exact gl k ((gW k).2 (.inr hk))
  exact H5.turn.assoc'.drop
theorem tb_ack (A : RebalApi BT) (hM : M.Ok K) (hK : K < 1000000) {x : Int} (h1 : -9223372036854775808 ≤ x) (h2 : x ≤ 9223372036854775807) (H : Held w0 V ((BT q M).sep (zbT z M))) :
    ∃ (v : Bool) (E : Int), Calls Try.prog 15 #[.pointer (some ⟨q, 0, none⟩), .int .i64 x] V fun e w' => e = .returned (.tuple #[.bool v, .int .i64 E]) ∧
      Calls Try.prog 16 #[.pointer (some ⟨z, 0, none⟩), .int .i64 x] w' fun e w'' => e = .returned (.tuple #[.bool v, .int .i64 E]) ∧ ∃ M' : TbM, M'.Ok (K + 1) ∧ Held w0 w'' ((BT q M').sep (zbT z M')) := by
  refine ⟨M.ackV x, M.ackE x, (Held.ackB A hM hK h1 h2 rfl rfl rfl H).mono fun e w' ⟨he, h⟩ => ⟨he, ?_⟩⟩
  exact (h.swap.call (fun _ h => zrback_any h hM hK x)).mono fun e w'' ⟨he, h⟩ => ⟨he, _, hM.ack x, h.swap⟩
end
end Go.Proofs.Ytplnbphbccflfaa
