/- What sched.Make does: a machine of the programs, as it begins, or the document's error. No condition but that the programs read as their instructions. -/
import Derived.Test.YtdbmieofcdafkaaRefuse
import Derived.Deep.RegionLaw
namespace Go.Proofs.Ytdbmieofcdafkaa
open Go.RowKit
set_option linter.unusedVariables false
set_option linter.unusedSimpArgs false
set_option maxRecDepth 100000

theorem infoSesP : (Try.prog.info? 67).map (fun i => (i.zero, i.size, i.bytes)) = some (some (.pointer none), 1, 8) := by kernel_rfl

def ptrV (q : Nat) : Value := .pointer (some ⟨q, 0, none⟩)

/-- append of what is at hand, as one step of a region that draws its order. -/
theorem step_append_own {P : Program} {ops : Array Oper} {o : Oper} {a : Act} {w : World} {K : Act → World → Prop} {Q : Exit → Act → World → Prop} {E : Prop}
    (hgd : o.guard = none) (s x : Operand) (t : TypeId) (ho : o.op = Op.call { callee := Callee.builtin Builtin.append, args := #[s, x], argTypes := #[t, t] })
    (base : Nat) (e : TypeId) (i : TypeInfo) (z : Value) (size bytes : Nat) (ht : P.underlying t = some (.slice e)) (hi : P.info? e = some i) (hz : i.zero = some z)
    (hsize : i.size = size) (hby : i.bytes = bytes) (hzs : z.cells.size = size) (hsz : 0 < size)
    (v : Value) (n : Nat) (xs : List Value) (hs : a.eval s = v) (hown : w.ownsRow base e size v n xs)
    (ad : Addr) (m c : Nat) (news : List Value) (hx : a.eval x = .slice (some ad) m c) (hl : news.length = m * size) (hnews : ∀ j u, news[j]? = some u → w.cell? (ad.add j) = some u) (h1 : ∀ u ∈ news, u.oneCell' = true)
    (h63 : n + m ≤ maxLen) (hbytes : (n + m) * bytes ≤ 140737488355328) (hbase : base ≤ w.heap.size)
    (h : ∀ v' w', w'.ownsRow base e size v' (n + m) (xs ++ news) → w.grownBy w' v.ownBlock → K (a.put o.dst v') w') :
    if Region.wanted o (yielded ops a.tmps) = true then Oper.wp P o a w K Q else E := by
  have hw : Region.wanted o (yielded ops a.tmps) = true := by simp [Region.wanted, hgd]
  rw [if_pos hw]
  obtain ⟨v', w', hrun, r1, r2, _⟩ := run_append_own_at (P := P) w base t o.type e i z size bytes ht hi hz hsize hby hzs hsz v n xs hown ad m c news hl hnews h1 h63 hbytes hbase
  unfold Oper.wp
  simp [execOp, ho, resolve, invoke, builtin, hs, hx, hrun, Result.andThen]
  exact h v' w' r1 r2

theorem own_turned {S : Nat → Prop} {w w' : World} {base : Nat} {e : TypeId} {size n : Nat} {v : Value} {xs : List Value} (h : w.ownsRow base e size v n xs) (ht : Turned S w w') (hs : ∀ b, v.ownBlock = some b → ¬ S b) : w'.ownsRow base e size v n xs := by
  refine ⟨h.1, ?_⟩
  rcases h.2 with ⟨rfl, rfl⟩ | ⟨g, cap, cur, rfl, h1, h2, h3⟩
  · exact .inl ⟨rfl, rfl⟩
  · exact .inr ⟨g, cap, cur, rfl, h1, (ht.block g (Array.getElem?_eq_some_iff.1 h2).1 (hs g rfl)).trans h2, h3⟩

theorem blk_ne {w : World} {b b' : Nat} {xs ys : List Value} {e e' : TypeId} (h : Blk w b xs e) (h' : Blk w b' ys e') (hne : e ≠ e') : b ≠ b' := by
  rintro rfl
  have := h.symm.trans h'
  simp at this
  exact hne this.2

theorem own_ne {w : World} {base : Nat} {e e' : TypeId} {size n : Nat} {v : Value} {xs ys : List Value} {b : Nat} (h : w.ownsRow base e size v n xs) (hb : Blk w b ys e') (hne : e ≠ e') : v.ownBlock ≠ some b := by
  rcases h.2 with ⟨rfl, rfl⟩ | ⟨g, cap, cur, rfl, h1, h2, h3⟩
  · simp [Value.ownBlock]
  · intro he
    have : g = b := by simpa [Value.ownBlock] using he
    subst this
    have := h2.symm.trans hb
    simp at this
    exact hne this.2

def SesM (B : Nat) (w : World) (q : Nat) (p : List Ins) : Prop :=
  ∃ a c, Blk w q (sesHd a c ⟨p, 0, [0, 0, 0, 0]⟩) 73 ∧ PRow w a p ∧ (p ≠ [] → ∀ y, a = some y → B ≤ y.block) ∧ B ≤ q

structure MkInv (w : World) (n hb mb ab : Nat) (ps : List (Sl Ins)) (k : Nat) (qs : List Nat) (ao : Option Addr) (cc : Nat) (wr : World) : Prop where
  hd : Blk wr hb [.pointer (some ⟨mb, 0, none⟩), .slice ao k cc] 65
  own : wr.ownsRow w.heap.size 67 1 (.slice ao k cc) k (qs.map ptrV)
  mem : Mem wr mb ab (newSt n)
  len : qs.length = k
  ses : ∀ (j q : Nat) (x : Sl Ins), qs[j]? = some q → ps[j]? = some x → SesM w.heap.size wr q x.xs
  inj : ∀ i j q : Nat, qs[i]? = some q → qs[j]? = some q → i = j
  lt : ∀ q ∈ qs, q < wr.heap.size
  t : Still w wr
  b1 : w.heap.size ≤ hb
  b2 : w.heap.size ≤ mb
  b3 : w.heap.size ≤ ab

theorem SesM.turned {S : Nat → Prop} {B : Nat} {w w' : World} {q : Nat} {p : List Ins} (h : SesM B w q p) (ht : Turned S w w') (h1 : ¬ S q) (h2 : ∀ g cur, w.heap[g]? = some (.cells cur 70 (0, 0)) → ¬ S g) : SesM B w' q p := by
  obtain ⟨a, c, hb, hp, h3, h4⟩ := h
  refine ⟨a, c, hb.turned ht h1, fun hne => ?_, h3, h4⟩
  obtain ⟨g, cur, rfl, hg, hc⟩ := hp hne
  exact ⟨g, cur, rfl, (ht.block g (Array.getElem?_eq_some_iff.1 hg).1 (h2 g cur hg)).trans hg, hc⟩

theorem mk_next {w wr w5 w6 : World} {n hb mb ab k : Nat} {ps : List (Sl Ins)} {qs : List Nat} {ao ao' a : Option Addr} {cc cc' c : Nat} {x : Sl Ins} (I : MkInv w n hb mb ab ps k qs ao cc wr) (hx : ps[k]? = some x)
    (h5 : Still wr w5) (hp : PRow w5 a x.xs) (ha : x.xs ≠ [] → ∀ y, a = some y → wr.heap.size ≤ y.block)
    (hown : w6.ownsRow w.heap.size 67 1 (.slice ao' (k + 1) cc') (k + 1) (qs.map ptrV ++ [ptrV w5.heap.size]))
    (hg : ((w5.alloc (.cells (sesHd a c ⟨x.xs, 0, [0, 0, 0, 0]⟩).toArray 73)).alloc (.cells #[ptrV w5.heap.size] 67)).grownBy w6 (Value.slice ao k cc).ownBlock) :
    MkInv w n hb mb ab ps (k + 1) (qs ++ [w5.heap.size]) ao' cc' (w6.setCell ⟨hb, 1, none⟩ (.slice ao' (k + 1) cc')) := by
  have hT5 : Still w5 ((w5.alloc (.cells (sesHd a c ⟨x.xs, 0, [0, 0, 0, 0]⟩).toArray 73)).alloc (.cells #[ptrV w5.heap.size] 67)) := ((Turned.refl _ _).alloc _).alloc _
  have hTp := h5.trans hT5
  have hq : Blk ((w5.alloc (.cells (sesHd a c ⟨x.xs, 0, [0, 0, 0, 0]⟩).toArray 73)).alloc (.cells #[ptrV w5.heap.size] 67)) w5.heap.size (sesHd a c ⟨x.xs, 0, [0, 0, 0, 0]⟩) 73 := (Blk.new _ _ _).alloc _
  have hpp := hp.turned hT5 (fun _ _ _ h => h)
  have hsz : wr.heap.size ≤ w5.heap.size := h5.size
  generalize (w5.alloc (.cells (sesHd a c ⟨x.xs, 0, [0, 0, 0, 0]⟩).toArray 73)).alloc (.cells #[ptrV w5.heap.size] 67) = wp at *
  have hG : Turned (fun b => (Value.slice ao k cc).ownBlock = some b) wp w6 := (Turned.refl _ _).grown hg (fun b e => .inl e)
  have ownp := own_turned I.own hTp (fun _ _ h => h)
  have hdp := I.hd.turned hTp (fun h => h)
  have memp := I.mem.turned hTp (fun h => h) (fun h => h)
  have nInstr : ∀ g cur, wp.heap[g]? = some (.cells cur 70 (0, 0)) → ¬ ((Value.slice ao k cc).ownBlock = some g) := fun g cur hgc h => by
    have hb : Blk wp g cur.toList 70 := hgc
    exact own_ne ownp hb (by decide) h
  have hd6 := hdp.turned hG (own_ne ownp hdp (by decide))
  have mem6 := memp.turned hG (own_ne ownp memp.hd (by decide)) (own_ne ownp memp.row (by decide))
  have hT6 : Turned (· = hb) w6 (w6.setCell ⟨hb, 1, none⟩ (.slice ao' (k + 1) cc')) := turned_set (Turned.refl _ _) _ _
  have hd7 := hd6.set 1 (.slice ao' (k + 1) cc')
  have old : ∀ (q : Nat) (p : List Ins), SesM w.heap.size wp q p → SesM w.heap.size (w6.setCell ⟨hb, 1, none⟩ (.slice ao' (k + 1) cc')) q p := by
    intro q p hs
    have hqb : ∃ xs, Blk wp q xs 73 := by obtain ⟨_, _, h, _⟩ := hs; exact ⟨_, h⟩
    obtain ⟨xs', hqb⟩ := hqb
    have h6 := hs.turned hG (own_ne ownp hqb (by decide)) nInstr
    refine h6.turned hT6 (fun e => ?_) (fun g cur hgc e => ?_)
    · obtain ⟨_, _, h, _⟩ := h6
      exact blk_ne h hd6 (by decide) e
    · have hb' : Blk w6 g cur.toList 70 := hgc
      exact blk_ne hb' hd6 (by decide) e
  have hq' : SesM w.heap.size wp w5.heap.size x.xs := ⟨a, c, hq, hpp, fun hne y hy => Nat.le_trans I.t.size (ha hne y hy), Nat.le_trans I.t.size hsz⟩
  have hltnew : ∀ q ∈ qs, q < w5.heap.size := fun q hqm => Nat.lt_of_lt_of_le (I.lt q hqm) hsz
  have hsz6 : wp.heap.size ≤ w6.heap.size := hG.size
  have hsz7 := hT6.size
  have hsize := hTp.size
  refine ⟨hd7, ?_, mem6.turned hT6 (fun e => blk_ne mem6.hd hd6 (by decide) e) (fun e => blk_ne mem6.row hd6 (by decide) e), by simp [I.len], ?_, ?_, ?_, ?_, I.b1, I.b2, I.b3⟩
  · rw [List.map_append]
    exact own_turned hown hT6 (fun b hb' e => by subst e; exact own_ne hown hd6 (by decide) hb')
  · intro j q y hq1 hy
    by_cases e : j = k
    · subst e
      obtain rfl : y = x := by rw [hx] at hy; exact (Option.some.inj hy).symm
      rw [List.getElem?_append_right (by rw [I.len]; omega), I.len, Nat.sub_self] at hq1
      simp at hq1
      subst hq1
      exact old _ _ hq'
    · have hjl : j < qs.length := by
        have := get_lt hq1
        simp [I.len] at this
        rw [I.len]; omega
      rw [List.getElem?_append_left hjl] at hq1
      exact old _ _ ((I.ses j q y hq1 hy).turned hTp (fun h => h) (fun _ _ _ h => h))
  · intro i j q hi hj
    have key : ∀ i : Nat, (qs ++ [w5.heap.size])[i]? = some q → (i < k ∧ qs[i]? = some q ∧ q < w5.heap.size) ∨ (i = k ∧ q = w5.heap.size) := by
      intro i hi
      by_cases e : i < qs.length
      · rw [List.getElem?_append_left e] at hi
        exact .inl ⟨by rw [← I.len]; exact e, hi, hltnew q (List.mem_of_getElem? hi)⟩
      · have := get_lt hi
        simp at this
        have e2 : i = qs.length := by omega
        subst e2
        simp at hi
        exact .inr ⟨I.len, hi.symm⟩
    rcases key i hi with ⟨h1, h2, h3⟩ | ⟨h1, h2⟩ <;> rcases key j hj with ⟨h4, h5', h6⟩ | ⟨h4, h5'⟩
    · exact I.inj i j q h2 h5'
    · omega
    · omega
    · omega
  · intro q hqm
    rw [List.mem_append] at hqm
    rcases hqm with h | h
    · have := I.lt q h; omega
    · simp at h
      have := hq.lt
      omega
  · have hT1 : Turned (fun b => w.heap.size ≤ b) w w6 := ((I.t.trans hTp).mono (fun _ _ h => h.elim)).trans (hG.mono (fun b _ hb' => by
      obtain ⟨h1, _⟩ := ownp.lt b hb'
      exact h1))
    exact (hT1.setCell (p := ⟨hb, 1, none⟩) (.inl I.b1) _).mono (fun b hlt hb' => by omega)
end Go.Proofs.Ytdbmieofcdafkaa
