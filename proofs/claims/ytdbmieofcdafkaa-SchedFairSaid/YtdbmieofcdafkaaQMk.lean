/- What the document's own Make does: a machine of the programs, as it begins, or the document's error. No condition but that the programs read as their instructions. -/
import Derived.Test.YtdbmieofcdafkaaQRight
import Derived.Test.YtdbmieofcdafkaaMakeSched
import Derived.Laws.AppendOwnNone
namespace Go.Proofs.Ytdbmieofcdafkaa
open Go.RowKit
set_option linter.unusedVariables false
set_option linter.unusedSimpArgs false
set_option maxRecDepth 100000

theorem infoQSesP : (Try.prog.info? 81).map (fun i => (i.zero, i.size, i.bytes)) = some (some (.pointer none), 1, 8) := by kernel_rfl

def QSesM (B : Nat) (w : World) (q : Nat) (p : List Ins) : Prop :=
  ∃ a c, Blk w q (sesHd a c ⟨p, 0, [0, 0, 0, 0]⟩) 83 ∧ PRow w a p ∧ (p ≠ [] → ∀ y, a = some y → B ≤ y.block) ∧ B ≤ q

structure QMkInv (w : World) (n hb rb vb bb wb : Nat) (ps : List (Sl Ins)) (k : Nat) (qs : List Nat) (ao : Option Addr) (cc : Nat) (wr : World) : Prop where
  hd : Blk wr hb [.pointer (some ⟨rb, 0, none⟩), .slice ao k cc] 79
  own : wr.ownsRow w.heap.size 81 1 (.slice ao k cc) k (qs.map ptrV)
  mem : Ref wr rb vb bb wb (newSt n)
  len : qs.length = k
  ses : ∀ (j q : Nat) (x : Sl Ins), qs[j]? = some q → ps[j]? = some x → QSesM w.heap.size wr q x.xs
  inj : ∀ i j q : Nat, qs[i]? = some q → qs[j]? = some q → i = j
  lt : ∀ q ∈ qs, q < wr.heap.size
  t : Still w wr
  b1 : w.heap.size ≤ hb
  b2 : w.heap.size ≤ rb
  b3 : w.heap.size ≤ vb
  b4 : w.heap.size ≤ bb
  b5 : w.heap.size ≤ wb

theorem QSesM.turned {S : Nat → Prop} {B : Nat} {w w' : World} {q : Nat} {p : List Ins} (h : QSesM B w q p) (ht : Turned S w w') (h1 : ¬ S q) (h2 : ∀ g cur, w.heap[g]? = some (.cells cur 70 (0, 0)) → ¬ S g) : QSesM B w' q p := by
  obtain ⟨a, c, hb, hp, h3, h4⟩ := h
  refine ⟨a, c, hb.turned ht h1, fun hne => ?_, h3, h4⟩
  obtain ⟨g, cur, rfl, hg, hc⟩ := hp hne
  exact ⟨g, cur, rfl, (ht.block g (Array.getElem?_eq_some_iff.1 hg).1 (h2 g cur hg)).trans hg, hc⟩

theorem qmk_next {w wr w5 w6 : World} {n hb rb vb bb wb k : Nat} {ps : List (Sl Ins)} {qs : List Nat} {ao ao' a : Option Addr} {cc cc' c : Nat} {x : Sl Ins} (I : QMkInv w n hb rb vb bb wb ps k qs ao cc wr) (hx : ps[k]? = some x)
    (h5 : Still wr w5) (hp : PRow w5 a x.xs) (ha : x.xs ≠ [] → ∀ y, a = some y → wr.heap.size ≤ y.block)
    (hown : w6.ownsRow w.heap.size 81 1 (.slice ao' (k + 1) cc') (k + 1) (qs.map ptrV ++ [ptrV w5.heap.size]))
    (hg : ((w5.alloc (.cells (sesHd a c ⟨x.xs, 0, [0, 0, 0, 0]⟩).toArray 83)).alloc (.cells #[ptrV w5.heap.size] 81)).grownBy w6 (Value.slice ao k cc).ownBlock) :
    QMkInv w n hb rb vb bb wb ps (k + 1) (qs ++ [w5.heap.size]) ao' cc' (w6.setCell ⟨hb, 1, none⟩ (.slice ao' (k + 1) cc')) := by
  have hT5 : Still w5 ((w5.alloc (.cells (sesHd a c ⟨x.xs, 0, [0, 0, 0, 0]⟩).toArray 83)).alloc (.cells #[ptrV w5.heap.size] 81)) := ((Turned.refl _ _).alloc _).alloc _
  have hTp := h5.trans hT5
  have hq : Blk ((w5.alloc (.cells (sesHd a c ⟨x.xs, 0, [0, 0, 0, 0]⟩).toArray 83)).alloc (.cells #[ptrV w5.heap.size] 81)) w5.heap.size (sesHd a c ⟨x.xs, 0, [0, 0, 0, 0]⟩) 83 := (Blk.new _ _ _).alloc _
  have hpp := hp.turned hT5 (fun _ _ _ h => h)
  have hsz : wr.heap.size ≤ w5.heap.size := h5.size
  generalize (w5.alloc (.cells (sesHd a c ⟨x.xs, 0, [0, 0, 0, 0]⟩).toArray 83)).alloc (.cells #[ptrV w5.heap.size] 81) = wp at *
  have hG : Turned (fun b => (Value.slice ao k cc).ownBlock = some b) wp w6 := (Turned.refl _ _).grown hg (fun b e => .inl e)
  have ownp := own_turned I.own hTp (fun _ _ h => h)
  have hdp := I.hd.turned hTp (fun h => h)
  have memp := I.mem.turned hTp (fun h => h) (fun h => h) (fun h => h) (fun h => h)
  have nInstr : ∀ g cur, wp.heap[g]? = some (.cells cur 70 (0, 0)) → ¬ ((Value.slice ao k cc).ownBlock = some g) := fun g cur hgc h => by
    have hb : Blk wp g cur.toList 70 := hgc
    exact own_ne ownp hb (by decide) h
  have hd6 := hdp.turned hG (own_ne ownp hdp (by decide))
  have mem6 := memp.turned hG (own_ne ownp memp.hd (by decide)) (own_ne ownp memp.rowV (by decide)) (own_ne ownp memp.rowB (by decide)) (own_ne ownp memp.rowW (by decide))
  have hT6 : Turned (· = hb) w6 (w6.setCell ⟨hb, 1, none⟩ (.slice ao' (k + 1) cc')) := turned_set (Turned.refl _ _) _ _
  have hd7 := hd6.set 1 (.slice ao' (k + 1) cc')
  have old : ∀ (q : Nat) (p : List Ins), QSesM w.heap.size wp q p → QSesM w.heap.size (w6.setCell ⟨hb, 1, none⟩ (.slice ao' (k + 1) cc')) q p := by
    intro q p hs
    have hqb : ∃ xs, Blk wp q xs 83 := by obtain ⟨_, _, h, _⟩ := hs; exact ⟨_, h⟩
    obtain ⟨xs', hqb⟩ := hqb
    have h6 := hs.turned hG (own_ne ownp hqb (by decide)) nInstr
    refine h6.turned hT6 (fun e => ?_) (fun g cur hgc e => ?_)
    · obtain ⟨_, _, h, _⟩ := h6
      exact blk_ne h hd6 (by decide) e
    · have hb' : Blk w6 g cur.toList 70 := hgc
      exact blk_ne hb' hd6 (by decide) e
  have hq' : QSesM w.heap.size wp w5.heap.size x.xs := ⟨a, c, hq, hpp, fun hne y hy => Nat.le_trans I.t.size (ha hne y hy), Nat.le_trans I.t.size hsz⟩
  have hltnew : ∀ q ∈ qs, q < w5.heap.size := fun q hqm => Nat.lt_of_lt_of_le (I.lt q hqm) hsz
  have hsz6 : wp.heap.size ≤ w6.heap.size := hG.size
  have hsz7 := hT6.size
  have hsize := hTp.size
  refine ⟨hd7, ?_, mem6.turned hT6 (fun e => blk_ne mem6.hd hd6 (by decide) e) (fun e => blk_ne mem6.rowV hd6 (by decide) e) (fun e => blk_ne mem6.rowB hd6 (by decide) e) (fun e => blk_ne mem6.rowW hd6 (by decide) e), by simp [I.len], ?_, ?_, ?_, ?_, I.b1, I.b2, I.b3, I.b4, I.b5⟩
  · rw [List.map_append]
    exact own_turned hown hT6 (fun b hb' e => by subst e; exact own_ne hown hd6 (by decide) hb')
  · intro j q y hq1 hy
    by_cases e : j = k
    · subst e
      obtain rfl : y = x := by rw [hx] at hy; exact (Option.some.inj hy).symm
      rw [List.getElem?_append_right (by rw [I.len]; omega), I.len, Nat.sub_self] at hq1
      simp at hq1
      subst hq1
      exact old _ _ hq'
    · have hjl : j < qs.length := by
        have := get_lt hq1
        simp [I.len] at this
        rw [I.len]; omega
      rw [List.getElem?_append_left hjl] at hq1
      exact old _ _ ((I.ses j q y hq1 hy).turned hTp (fun h => h) (fun _ _ _ h => h))
  · intro i j q hi hj
    have key : ∀ i : Nat, (qs ++ [w5.heap.size])[i]? = some q → (i < k ∧ qs[i]? = some q ∧ q < w5.heap.size) ∨ (i = k ∧ q = w5.heap.size) := by
      intro i hi
      by_cases e : i < qs.length
      · rw [List.getElem?_append_left e] at hi
        exact .inl ⟨by rw [← I.len]; exact e, hi, hltnew q (List.mem_of_getElem? hi)⟩
      · have := get_lt hi
        simp at this
        have e2 : i = qs.length := by omega
        subst e2
        simp at hi
        exact .inr ⟨I.len, hi.symm⟩
    rcases key i hi with ⟨h1, h2, h3⟩ | ⟨h1, h2⟩ <;> rcases key j hj with ⟨h4, h5', h6⟩ | ⟨h4, h5'⟩
    · exact I.inj i j q h2 h5'
    · omega
    · omega
    · omega
  · intro q hqm
    rw [List.mem_append] at hqm
    rcases hqm with h | h
    · have := I.lt q h; omega
    · simp at h
      have := hq.lt
      omega
  · have hT1 : Turned (fun b => w.heap.size ≤ b) w w6 := ((I.t.trans hTp).mono (fun _ _ h => h.elim)).trans (hG.mono (fun b _ hb' => by
      obtain ⟨h1, _⟩ := ownp.lt b hb'
      exact h1))
    exact (hT1.setCell (p := ⟨hb, 1, none⟩) (.inl I.b1) _).mono (fun b hlt hb' => by omega)

theorem QMkInv.still {w wr w2 : World} {n hb rb vb bb wb k : Nat} {ps : List (Sl Ins)} {qs : List Nat} {ao : Option Addr} {cc : Nat} (I : QMkInv w n hb rb vb bb wb ps k qs ao cc wr) (h : Still wr w2) : QMkInv w n hb rb vb bb wb ps k qs ao cc w2 :=
  ⟨I.hd.turned h (fun h => h), own_turned I.own h (fun _ _ h => h), I.mem.turned h (fun h => h) (fun h => h) (fun h => h) (fun h => h), I.len, fun j q x hq hx => (I.ses j q x hq hx).turned h (fun h => h) (fun _ _ _ h => h), I.inj,
    fun q hq => Nat.lt_of_lt_of_le (I.lt q hq) h.size, I.t.trans h, I.b1, I.b2, I.b3, I.b4, I.b5⟩

theorem qmk_mid {w wr w5 w6 : World} {n hb rb vb bb wb k : Nat} {ps : List (Sl Ins)} {qs : List Nat} {ao : Option Addr} {cc : Nat} {o1 o2 : Obj} (I : QMkInv w n hb rb vb bb wb ps k qs ao cc wr)
    (h5 : Still wr w5) (hg : ((w5.alloc o1).alloc o2).grownBy w6 (Value.slice ao k cc).ownBlock) : Blk w6 hb [.pointer (some ⟨rb, 0, none⟩), .slice ao k cc] 79 := by
  have hTp : Still wr ((w5.alloc o1).alloc o2) := (h5.alloc _).alloc _
  have hG : Turned (fun b => (Value.slice ao k cc).ownBlock = some b) ((w5.alloc o1).alloc o2) w6 := (Turned.refl _ _).grown hg (fun b e => .inl e)
  have hdp := I.hd.turned hTp (fun h => h)
  exact hdp.turned hG (own_ne (own_turned I.own hTp (fun _ _ h => h)) hdp (by decide))

theorem qmk_own {w wr w5 : World} {n hb rb vb bb wb k : Nat} {ps : List (Sl Ins)} {qs : List Nat} {ao : Option Addr} {cc : Nat} (I : QMkInv w n hb rb vb bb wb ps k qs ao cc wr)
    (h5 : Still wr w5) (o1 o2 : Obj) : ((w5.alloc o1).alloc o2).ownsRow w.heap.size 81 1 (.slice ao k cc) k (qs.map ptrV) := own_turned I.own ((h5.alloc o1).alloc o2) (fun _ _ h => h)

theorem qmk_sm {w wr : World} {n hb rb vb bb wb len : Nat} {ps : List (Sl Ins)} {qs : List Nat} {ao : Option Addr} {cc : Nat} (I : QMkInv w n hb rb vb bb wb ps len qs ao cc wr) (hl1 : 1 ≤ len) (hl2 : len ≤ 16) (hps : ps.length = len)
    (h1 : 1 ≤ n) (h2 : n ≤ 64) (hF : faultFrom n 0 (ps.map (·.xs)) = none) : ∃ L : QLay, hb = L.hb ∧ QM wr L (mach0 n (ps.map (·.xs))) ∧ w.heap.size ≤ L.lo ∧ L.hi ≤ wr.heap.size := by
  rcases I.own.2 with ⟨e0, h0⟩ | ⟨g, cap, cur, e0, hg0, hg, hcap, hcm, hcs, ht⟩
  · omega
  · obtain ⟨rfl, rfl⟩ : ao = some ⟨g, 0, none⟩ ∧ cc = cap := by simpa using e0
    have hsb : Blk wr g cur.toList 81 := hg
    have hmach : (mach0 n (ps.map (·.xs))).ss.length = len := by simp [mach0, hps]
    have hq : ∀ q ∈ qs, ∃ p, QSesM w.heap.size wr q p := fun q hqm => by
      obtain ⟨j, hj⟩ := List.getElem?_of_mem hqm
      obtain ⟨x, hx⟩ := get_some (l := ps) (i := j) (by rw [hps, ← I.len]; exact get_lt hj)
      exact ⟨_, I.ses j q x hj hx⟩
    have hqne : ∀ {b : Nat} {xs : List Value} {e : TypeId}, Blk wr b xs e → e ≠ 83 → b ∉ qs := fun hb he hm => by
      obtain ⟨p, a, c, hbq, _⟩ := hq _ hm
      exact blk_ne hb hbq he rfl
    have hW3 : ∀ b, rS vb bb wb b → ∃ xs, Blk wr b xs 3 ∧ w.heap.size ≤ b := fun b hb => by
      rcases hb with rfl | rfl | rfl
      · exact ⟨_, I.mem.rowV, I.b3⟩
      · exact ⟨_, I.mem.rowB, I.b4⟩
      · exact ⟨_, I.mem.rowW, I.b5⟩
    refine ⟨⟨w.heap.size, wr.heap.size, hb, rb, vb, bb, wb, g, cc, qs⟩, rfl, ⟨?_, I.mem, by rw [hmach]; exact I.len, ?_, ?_, I.inj, hqne I.hd (by decide), hqne I.mem.hd (by decide), (fun b hb => by obtain ⟨xs, h3, _⟩ := hW3 b hb; exact hqne h3 (by decide)), hqne hsb (by decide),
      (fun h => by obtain ⟨xs, h3, _⟩ := hW3 _ h; exact blk_ne I.hd h3 (by decide) rfl), (fun h => by obtain ⟨xs, h3, _⟩ := hW3 _ h; exact blk_ne hsb h3 (by decide) rfl), mach0_ok h1 h2 (by simp [hps]; omega) (by simp [hps]; omega) (fault_none hF), ⟨I.b1, I.hd.lt⟩, ⟨I.b2, I.mem.hd.lt⟩, (fun b hb => by obtain ⟨xs, h3, h4⟩ := hW3 b hb; exact ⟨h4, h3.lt⟩), ⟨hg0, hsb.lt⟩, ?_, by rw [hmach]; exact hcap⟩, Nat.le_refl _, Nat.le_refl _⟩
    · rw [hmach]; exact I.hd
    · intro k p hp
      refine hsb.cell ?_
      have h3 : (cur.toList.take (len * 1))[k]? = some (ptrV p) := by rw [ht]; simp [hp]
      rw [List.getElem?_take] at h3
      split at h3
      · exact h3
      · cases h3
    · intro k p s hp hs
      obtain ⟨x, hx⟩ := get_some (l := ps) (i := k) (by rw [hps, ← I.len]; exact get_lt hp)
      obtain ⟨a, c, hb, hprow, ha, hB⟩ := I.ses k p x hp hx
      have hse : s = ⟨x.xs, 0, [0, 0, 0, 0]⟩ := by
        simp [mach0, hx] at hs
        exact hs.symm
      subst hse
      refine ⟨a, c, hb, hprow.row, fun y hy hne => ?_⟩
      obtain ⟨gg, cu, e, hgg, _⟩ := hprow hne
      have e : y = ⟨gg, 0, none⟩ := Option.some.inj (hy.symm.trans e)
      subst e
      have hgb : Blk wr gg cu.toList 70 := hgg
      refine ⟨ha hne _ hy, hgb.lt, fun hW => ?_⟩
      rcases hW with h | h
      · obtain ⟨xs, h3, _⟩ := hW3 _ h; exact blk_ne hgb h3 (by decide) rfl
      · exact hqne hgb (by decide) h
    · intro p hp
      obtain ⟨q, a, c, hb, _, _, hB⟩ := hq p hp
      exact ⟨hB, hb.lt⟩

def QMkPost (w : World) (n : Nat) (ps : List (Sl Ins)) (e : Ending) (w' : World) : Prop :=
  (∃ k er, faultFrom n 0 (ps.map (·.xs)) = some (k, er) ∧ e = .returned (.tuple #[.pointer none, .int .i64 (k : Nat), .int .i64 er]) ∧ Still w w') ∨
  (faultFrom n 0 (ps.map (·.xs)) = none ∧ ∃ L : QLay, e = .returned (.tuple #[.pointer (some ⟨L.hb, 0, none⟩), .int .i64 (ps.length : Nat), .int .i64 0]) ∧ QM w' L (mach0 n (ps.map (·.xs))) ∧ Still w w' ∧ w.heap.size ≤ L.lo ∧ L.hi ≤ w'.heap.size)

end Go.Proofs.Ytdbmieofcdafkaa
