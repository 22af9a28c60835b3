/- clear, copy and an append of nothing over blocks that are known whole; slices.Clone, slices.Reverse, and slices.Delete of the last. No condition. -/
import Derived.Test.YtdblhflebaffcaaOwn
import Derived.Test.YtdblhflebaffcaaBytes
import Derived.Laws.CopyOwn
import Derived.Lib.SliceRun
import Derived.Deep.RegionHeld3
import Derived.Deep.DeepCutAuto
import Derived.BigRegion
import Derived.Deep.RegionLaw
import Derived.Maps.AppendAt
namespace Go.Proofs.Ytdblhflebaffcaa
open Go.RowKit
set_option linter.unusedVariables false
set_option linter.unusedSimpArgs false
set_option maxRecDepth 100000

/-- Some laid over others, from a place on. -/
def laid (xs : List Value) (o : Nat) (cs : List Value) : List Value := xs.take o ++ (cs ++ xs.drop (o + cs.length))
theorem laid_nil (xs : List Value) (o : Nat) : laid xs o [] = xs := by simp [laid]
theorem laid_cons (xs : List Value) (o : Nat) (v : Value) (r : List Value) (h : o < xs.length) : laid (xs.set o v) (o + 1) r = laid xs o (v :: r) := by
  unfold laid
  rw [List.take_set, List.drop_set, if_pos (by omega)]
  rw [show o + (v :: r).length = o + 1 + r.length by simp; omega]
  have : (xs.take (o + 1)).set o v = xs.take o ++ [v] := by
    rw [List.set_eq_take_append_cons_drop, if_pos (by simp; omega), List.take_take, Nat.min_eq_left (Nat.le_succ o), List.drop_eq_nil_of_le (by simp; omega)]
  rw [this]
  simp

theorem blk_setCells (e : TypeId) (b : Nat) : ∀ (cs : List Value) (o : Nat) (w : World) (xs : List Value), Blk w b xs e → o + cs.length ≤ xs.length → Blk (w.setCells b o cs) b (laid xs o cs) e ∧ Turned (· = b) w (w.setCells b o cs)
  | [], o, w, xs, h, _ => ⟨by rw [laid_nil]; exact h, Turned.refl _ _⟩
  | v :: r, o, w, xs, h, hl => by
    have hl' : o + 1 + r.length ≤ xs.length := by simp at hl; omega
    obtain ⟨h1, h2⟩ := blk_setCells e b r (o + 1) (w.setCell ⟨b, o, none⟩ v) (xs.set o v) (h.set o v) (by simpa using hl')
    rw [laid_cons xs o v r (by omega)] at h1
    exact ⟨h1, (turned_set (Turned.refl _ w) o v).trans h2⟩

theorem run_clear_none (P : Program) (w : World) (t e ty : TypeId) (ht : P.underlying t = some (.slice e)) (b : Option Addr) (c : Nat) : (Builtin.clear_ #[t] ty #[.slice b 0 c]).run P w = .ok (.tuple #[]) w := by
  cases b <;> simp [Builtin.clear_, run_underlying ht]

theorem wpList_clear_blk {P : Program} {w : World} {ops : Array Oper} {rest : List Oper} {o : Oper} {a : Act} {Q : Exit → Act → World → Prop} (hgd : o.guard = none) (s : Operand) (t : TypeId)
    (ho : o.op = .call { callee := .builtin .clear, args := #[s], argTypes := #[t] }) (e : TypeId) (z : Value) (ht : P.underlying t = some (.slice e)) (hv : ∀ w, (zeroValue e).run P w = .ok z w) (hz : z.cells = #[z]) (h1 : z.oneCell' = true)
    (b k n c : Nat) (hs : a.eval s = .slice (some ⟨b, k, none⟩) n c) (xs : List Value) (e' : TypeId) (hb : Blk w b xs e') (hl : k + n ≤ xs.length)
    (h : ∀ w', Blk w' b (laid xs k (List.replicate n z)) e' → Turned (· = b) w w' → wpList P ops Q rest (a.put o.dst (.tuple #[])) w') : wpList P ops Q (o :: rest) a w := by
  refine wpList_plain hgd fun K hK => ?_
  by_cases hn : n = 0
  · subst hn
    have hrun := run_clear_none P w t e o.type ht (some ⟨b, k, none⟩) c
    unfold Oper.wp
    simp [execOp, ho, resolve, invoke, builtin, hs, hrun, Result.andThen]
    exact hK _ _ (h w (by rw [List.replicate_zero, laid_nil]; exact hb) (Turned.refl _ _))
  · have hc : ∀ j, j < n → (w.cell? ⟨b, k + j, none⟩).isSome = true := fun j hj => by
      rw [hb.cell (o := k + j) (List.getElem?_eq_getElem (by omega))]; rfl
    have hrun := Lib.run_clear_slice (P := P) w t e o.type z ht hv hz h1 b k n c (by omega) hc (fun j _ => hb.free _)
    obtain ⟨h2, h3⟩ := blk_setCells e' b (List.replicate n z) k w xs hb (by simpa using hl)
    unfold Oper.wp
    simp [execOp, ho, resolve, invoke, builtin, hs, hrun, Result.andThen]
    exact hK _ _ (h _ h2 h3)

theorem wpList_copy_blk {P : Program} {w : World} {ops : Array Oper} {rest : List Oper} {o : Oper} {a : Act} {Q : Exit → Act → World → Prop} (hgd : o.guard = none) (d s : Operand) (dT sT : TypeId)
    (ho : o.op = .call { callee := .builtin .copy, args := #[d, s], argTypes := #[dT, sT] }) (elem : TypeId) (hu : P.underlying dT = some (.slice elem)) (hsz : (P.info? elem).map (·.size) = some 1)
    (b k n c : Nat) (sp : Option Addr) (sCap : Nat) (hd : a.eval d = .slice (some ⟨b, k, none⟩) n c) (hs : a.eval s = .slice sp n sCap)
    (xs : List Value) (e' : TypeId) (hb : Blk w b xs e') (cs : List Value) (hn : cs.length = n) (hsrc : ∀ ad, sp = some ad → ∀ j v, cs[j]? = some v → w.cell? (ad.add j) = some v) (hno : sp = none → n = 0)
    (hl : k + n ≤ xs.length) (h1 : ∀ v ∈ cs, v.oneCell' = true)
    (h : ∀ w', Blk w' b (laid xs k cs) e' → Turned (· = b) w w' → wpList P ops Q rest (a.put o.dst (goInt cs.length)) w') : wpList P ops Q (o :: rest) a w := by
  by_cases h0 : n = 0
  · subst h0
    obtain rfl : cs = [] := List.eq_nil_of_length_eq_zero hn
    refine wpList_copy_nothing hgd d s dT sT ho elem hu hsz _ _ _ _ _ _ hd hs (by simp) ?_
    exact h w (by rw [laid_nil]; exact hb) (Turned.refl _ _)
  · obtain ⟨ad, rfl⟩ : ∃ ad, sp = some ad := by
      cases sp with
      | none => exact absurd (hno rfl) h0
      | some ad => exact ⟨ad, rfl⟩
    refine wpList_plain hgd fun K hK => ?_
    have hc : ∀ j, j < cs.length → (w.cell? ⟨b, k + j, none⟩).isSome = true := fun j hj => by
      rw [hb.cell (o := k + j) (List.getElem?_eq_getElem (by omega))]; rfl
    have hrun := run_copy_cells (P := P) w dT sT o.type elem b k n c ad n sCap cs hu hsz (by simp [hn]) (hsrc ad rfl) hc (fun j _ => hb.free _) h1
    obtain ⟨h2, h3⟩ := blk_setCells e' b cs k w xs hb (by omega)
    unfold Oper.wp
    simp [execOp, ho, resolve, invoke, builtin, hd, hs, hrun, Result.andThen]
    exact hK _ _ (h _ h2 h3)

/-- Guards ahead of the laws: the next operation is a call of clear, of copy. -/
theorem atClear {P : Program} {w : World} {ops : Array Oper} {rest : List Oper} {a : Act} {Q : Exit → Act → World → Prop} {dst : Option Tmp} {s : Operand} {t ty : TypeId} {pos : String} {after : Array Edge} {guard : Option (Nat × Bool)}
    (h : wpList P ops Q ({ dst, op := .call { callee := .builtin .clear, args := #[s], argTypes := #[t] }, type := ty, pos, after, guard } :: rest) a w) :
    wpList P ops Q ({ dst, op := .call { callee := .builtin .clear, args := #[s], argTypes := #[t] }, type := ty, pos, after, guard } :: rest) a w := h
theorem atCopy {P : Program} {w : World} {ops : Array Oper} {rest : List Oper} {a : Act} {Q : Exit → Act → World → Prop} {dst : Option Tmp} {d s : Operand} {t t' ty : TypeId} {pos : String} {after : Array Edge} {guard : Option (Nat × Bool)}
    (h : wpList P ops Q ({ dst, op := .call { callee := .builtin .copy, args := #[d, s], argTypes := #[t, t'] }, type := ty, pos, after, guard } :: rest) a w) :
    wpList P ops Q ({ dst, op := .call { callee := .builtin .copy, args := #[d, s], argTypes := #[t, t'] }, type := ty, pos, after, guard } :: rest) a w := h

theorem run_append_zero {P : Program} (t ty e : TypeId) (i : TypeInfo) (ht : P.underlying t = some (.slice e)) (hi : P.info? e = some i) (b s : Option Addr) (n cap c : Nat) (hle : n ≤ cap) (W : World) :
    (Builtin.append_ #[t, t] ty #[.slice b n cap, .slice s 0 c]).run P W = .ok (.slice b n cap) W := by
  have hl : ∀ (x : Addr), (loadCells x 0).run P W = .ok #[] W := fun x => by simpa using run_loadCells_list (P := P) W x [] (by simp)
  cases b <;> cases s <;> simp [Builtin.append_, run_underlying ht, sizeOf, typeInfo, hi, Builtin.lenOf, Builtin.firstCells, hle, storeCells, hl]

/-- The same as one step of a region that draws its order. -/
theorem step_append_zero {P : Program} {ops : Array Oper} {o : Oper} {a : Act} {w : World} {K : Act → World → Prop} {Q : Exit → Act → World → Prop} {E : Prop}
    (hg : o.guard = none) (s x : Operand) (t : TypeId) (hop : o.op = Op.call { callee := Callee.builtin Builtin.append, args := #[s, x], argTypes := #[t, t] })
    (e : TypeId) (i : TypeInfo) (h1 : P.underlying t = some (.slice e)) (h2 : P.info? e = some i)
    (b sp : Option Addr) (n cap c : Nat) (hs : a.eval s = .slice b n cap) (hx : a.eval x = .slice sp 0 c) (hle : n ≤ cap)
    (hK : K (a.put o.dst (.slice b n cap)) w) :
    if Region.wanted o (yielded ops a.tmps) = true then Oper.wp P o a w K Q else E := by
  have hw : Region.wanted o (yielded ops a.tmps) = true := by simp [Region.wanted, hg]
  rw [if_pos hw]
  have hrun := run_append_zero (P := P) t o.type e i h1 h2 b sp n cap c hle w
  unfold Oper.wp
  simp [execOp, hop, resolve, invoke, builtin, hs, hx, hrun, Result.andThen]
  exact hK

theorem step_append_own {P : Program} {ops : Array Oper} {o : Oper} {a : Act} {w : World} {K : Act → World → Prop} {Q : Exit → Act → World → Prop} {E : Prop}
    (hg : o.guard = none) (s x : Operand) (t : TypeId) (hop : o.op = Op.call { callee := Callee.builtin Builtin.append, args := #[s, x], argTypes := #[t, t] })
    (base : Nat) (e : TypeId) (i : TypeInfo) (z : Value) (size bytes : Nat) (ht : P.underlying t = some (.slice e)) (hi : P.info? e = some i) (hz : i.zero = some z)
    (hsize : i.size = size) (hby : i.bytes = bytes) (hzs : z.cells.size = size) (hsz : 0 < size)
    (v : Value) (n : Nat) (xs : List Value) (hs : a.eval s = v) (hown : w.ownsRow base e size v n xs)
    (ad : Addr) (m c : Nat) (news : List Value) (hx : a.eval x = .slice (some ad) m c) (hl : news.length = m * size) (hnews : ∀ j u, news[j]? = some u → w.cell? (ad.add j) = some u) (h1 : ∀ u ∈ news, u.oneCell' = true)
    (h63 : n + m ≤ maxLen) (hbytes : (n + m) * bytes ≤ 140737488355328) (hbase : base ≤ w.heap.size)
    (h : ∀ v' w', w'.ownsRow base e size v' (n + m) (xs ++ news) → w.grownBy w' v.ownBlock → (v'.ownBlock = v.ownBlock ∨ v'.ownBlock = some w.heap.size) → K (a.put o.dst v') w') :
    if Region.wanted o (yielded ops a.tmps) = true then Oper.wp P o a w K Q else E := by
  have hw : Region.wanted o (yielded ops a.tmps) = true := by simp [Region.wanted, hg]
  rw [if_pos hw]
  obtain ⟨v', w', hrun, r1, r2, _, r4⟩ := run_append_own_at (P := P) w base t o.type e i z size bytes ht hi hz hsize hby hzs hsz v n xs hown ad m c news hl hnews h1 h63 hbytes hbase
  unfold Oper.wp
  simp [execOp, hop, resolve, invoke, builtin, hs, hx, hrun, Result.andThen]
  exact h _ _ r1 r2 r4
end Go.Proofs.Ytdblhflebaffcaa
