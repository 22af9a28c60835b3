/- Texts that lie next to one another, laid into one: each says what it holds. No condition but what each states. -/
import Derived.Test.YtmmkcfiecgpkpaaGreatBdApp
import Derived.Test.YtmmkcfiecgpkpaaGreatBxHeld

/- A row appended to a row of one's own, be it of nothing; and what that leaves of things that are held. No condition. -/
namespace Go.Proofs.YtmmkcfiecgpkpaaGreat
open Go.RowKit
set_option linter.unusedVariables false
set_option linter.unusedSimpArgs false

theorem wpList_app_row {P : Program} (w : World) {ops : Array Oper} {rest : List Oper} {o : Oper} {a : Act} {Q : Exit → Act → World → Prop} (hgd : o.guard = none) (s x : Operand) (t : TypeId)
    (ho : o.op = .call { callee := .builtin .append, args := #[s, x], argTypes := #[t, t] })
    (base : Nat) (e : TypeId) (i : TypeInfo) (z : Value) (bytes : Nat) (ht : P.underlying t = some (.slice e)) (hi : P.info? e = some i) (hz : i.zero = some z) (hsize : i.size = 1) (hby : i.bytes = bytes) (hzs : z.cells.size = 1)
    (ao : Option Addr) (n cc : Nat) (xs : List Value) (hs : a.eval s = .slice ao n cc) (hown : w.ownsRow base e 1 (.slice ao n cc) n xs)
    (sp : Option Addr) (m c : Nat) (news : List Value) (hx : a.eval x = .slice sp m c) (hl : news.length = m) (hnews : ∀ y, sp = some y → ∀ j u, news[j]? = some u → w.cell? (y.add j) = some u) (hnil : sp = none → m = 0) (h1 : ∀ u ∈ news, u.oneCell' = true)
    (h63 : n + m ≤ maxLen) (hbytes : (n + m) * bytes ≤ 140737488355328) (hbase : base ≤ w.heap.size)
    (h : ∀ a' c' w', w'.ownsRow base e 1 (.slice a' (n + m) c') (n + m) (xs ++ news) → w.grownBy w' (Value.slice ao n cc).ownBlock → ((Value.slice a' (n + m) c').ownBlock = (Value.slice ao n cc).ownBlock ∨ (Value.slice a' (n + m) c').ownBlock = some w.heap.size) → wpList P ops Q rest (a.put o.dst (.slice a' (n + m) c')) w') :
    wpList P ops Q (o :: rest) a w := by
  have zero : m = 0 → wpList P ops Q (o :: rest) a w := fun h0 => by
    subst h0
    have e0 : news = [] := List.eq_nil_of_length_eq_zero hl
    subst e0
    refine wpList_app_zero hgd s x t ho e i ht hi ao sp n cc c hs hx (ow_le hown).1 ?_
    exact h ao cc w (by simpa using hown) ⟨rfl, rfl, rfl, Nat.le_refl _, fun _ _ _ => rfl⟩ (.inl rfl)
  cases sp with
  | none => exact zero (hnil rfl)
  | some ad =>
    exact wpList_append_own_at w hgd s x t ho base e i z 1 bytes ht hi hz hsize hby hzs (by decide) (.slice ao n cc) n xs hs hown ad m c news hx (by omega) (hnews ad rfl) h1 h63 hbytes hbase (fun v' w' h2 h3 _ h5 => by
      obtain ⟨a', c', rfl⟩ := ow_slice h2
      exact h a' c' w' h2 h3 h5)

/-- What append of a row leaves of one's own. -/
theorem ownT_grownR {e : TypeId} {m : Nat} {ao a' : Option Addr} {n cc n' c' : Nat} {xs ys : List Value} {W : Nat → Prop} {w w' : World} (h : (ownT e m ao n cc xs).at_ w W)
    (hown : w'.ownsRow 0 e m (.slice a' n' c') n' ys) (hg : w.grownBy w' (Value.slice ao n cc).ownBlock)
    (hat : (Value.slice a' n' c').ownBlock = (Value.slice ao n cc).ownBlock ∨ (Value.slice a' n' c').ownBlock = some w.heap.size) : Goes (ownT e m a' n' c' ys) W w w' := by
  obtain ⟨h1, hW⟩ := h
  refine ⟨fun k => (Value.slice a' n' c').ownBlock = some k, ⟨hown, fun k => Iff.rfl⟩, (Turned.refl W w).grown hg (fun k hk => .inl ((hW k).2 hk)), fun k hk => ?_⟩
  rcases hat with h | h
  · exact .inl ((hW k).2 (h ▸ hk))
  · rw [h] at hk
    have : w.heap.size = k := by simpa using hk
    exact .inr (by omega)
theorem Held.grownR {w0 w w' : World} {A : Thing} {e : TypeId} {m : Nat} {ao a' : Option Addr} {n cc n' c' : Nat} {xs ys : List Value} (H : Held w0 w (A.sep (ownT e m ao n cc xs)))
    (hown : w'.ownsRow 0 e m (.slice a' n' c') n' ys) (hg : w.grownBy w' (Value.slice ao n cc).ownBlock)
    (hat : (Value.slice a' n' c').ownBlock = (Value.slice ao n cc).ownBlock ∨ (Value.slice a' n' c').ownBlock = some w.heap.size) : Held w0 w' (A.sep (ownT e m a' n' c' ys)) := by
  obtain ⟨W, h1, h2⟩ := H.swap.fst
  exact (h2 _ _ (ownT_grownR h1 hown hg hat)).swap
theorem Held.ownFst {w0 w : World} {A : Thing} {e : TypeId} {m : Nat} {ao : Option Addr} {n cc : Nat} {xs : List Value} (H : Held w0 w ((ownT e m ao n cc xs).sep A)) : w.ownsRow 0 e m (.slice ao n cc) n xs := H.swap.own
end Go.Proofs.YtmmkcfiecgpkpaaGreat
