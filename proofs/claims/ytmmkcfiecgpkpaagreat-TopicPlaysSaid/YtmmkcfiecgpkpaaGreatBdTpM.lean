/- Texts that lie next to one another, laid into one: each says what it holds. No condition but what each states. -/
import Derived.Test.YtmmkcfiecgpkpaaGreatBdPtA
import Derived.Test.YtmmkcfiecgpkpaaGreatBdText
import Derived.Test.YtmmkcfiecgpkpaaGreatBdRoute
import Derived.Test.YtmmkcfiecgpkpaaGreatBxSit
import Derived.Test.YtmmkcfiecgpkpaaGreatBxSlW
import Derived.Laws.StructEq

/- The plain set of topics: a pool, and topics in their order, each with a name and partitions; what its calls do, as plain functions. No condition. -/
namespace Go.Proofs.YtmmkcfiecgpkpaaGreat
open Go.RowKit
set_option linter.unusedVariables false
set_option linter.unusedSimpArgs false

structure TpM where
  nm : Txt
  ps : List RM
structure StM where
  P : PM
  T : List TpM

def fdN (T : List TpM) (l : Txt) : Nat := T.findIdx (fun t => t.nm == l)
def findE (T : List TpM) (l : Txt) : Int := if nmE l ≠ 0 then 80 else if fdN T l < T.length then 0 else 5
def findN (T : List TpM) (l : Txt) : Int := if findE T l ≠ 0 then 0 else (fdN T l : Nat)
def openE (T : List TpM) (l : Txt) (n r p : Int) : Int :=
  if nmE l ≠ 0 then 80 else if n < 1 ∨ 8 < n ∨ r < 1 ∨ 64 < r ∨ (p ≠ 0 ∧ p ≠ 1) then 2 else if fdN T l < T.length then 6 else if 16 ≤ T.length then 4 else 0
def openN (T : List TpM) (l : Txt) (n r p : Int) : Int := if openE T l n r p ≠ 0 then 0 else (T.length : Nat)
def newT (l : Txt) (n r p : Int) : TpM := ⟨l, List.replicate n.toNat (RM.new r.toNat (p == 1))⟩
def openT (T : List TpM) (l : Txt) (n r p : Int) : List TpM := if openE T l n r p ≠ 0 then T else T ++ [newT l n r p]
def nmAt (T : List TpM) (t : Int) : Txt := if 0 ≤ t then ((T[t.toNat]?).map (·.nm)).getD [] else []
/-- How many partitions a topic has. -/
def nps (T : List TpM) (t : Nat) : Nat := ((T[t]?).map (·.ps.length)).getD 0
def plcOf (T : List TpM) (t : Int) : List (Int × Int) := if 0 ≤ t then (List.range (nps T t.toNat)).map (fun p : Nat => (t, (p : Int))) else []
def plcs (T : List TpM) (l : List Int) : List (Int × Int) := l.flatMap (plcOf T)
/-- The partition at a place. -/
def prt (T : List TpM) (t p : Nat) : Option RM := (T[t]?).bind fun x => x.ps[p]?
def partE (T : List TpM) (t p : Int) : Int := if 0 ≤ t ∧ 0 ≤ p ∧ (prt T t.toNat p.toNat).isSome then 0 else 5
def routE (T : List TpM) (l : Txt) (k : List UInt8) : Int := if findE T l ≠ 0 then findE T l else rtE (nps T (fdN T l)) k
def routT (T : List TpM) (l : Txt) (k : List UInt8) : Int := if routE T l k ≠ 0 then 0 else (fdN T l : Nat)
def routP (T : List TpM) (l : Txt) (k : List UInt8) : Int := if routE T l k ≠ 0 then 0 else rtP (nps T (fdN T l)) k
/-- Another partition at a place. -/
def putP (T : List TpM) (t p : Nat) (M : RM) : List TpM := match T[t]? with
  | some x => T.set t ⟨x.nm, x.ps.set p M⟩
  | none => T
/-- The partition to which a key goes. -/
def rtM (T : List TpM) (l : Txt) (k : List UInt8) : RM := (prt T (routT T l k).toNat (routP T l k).toNat).getD ⟨0, false, 0, []⟩
def tclE (S : StM) (l : Txt) (k : List UInt8) (n : Int) : Int := if routE S.T l k ≠ 0 then routE S.T l k else ptClE S.P (rtM S.T l k) n
def tclT (S : StM) (l : Txt) (k : List UInt8) (n : Int) : Int := if tclE S l k n ≠ 0 then 0 else routT S.T l k
def tclP (S : StM) (l : Txt) (k : List UInt8) (n : Int) : Int := if tclE S l k n ≠ 0 then 0 else routP S.T l k
def tclA (S : StM) (l : Txt) (k : List UInt8) (n : Int) : Int := if tclE S l k n ≠ 0 then 0 else ptClA S.P (rtM S.T l k) n
def tclH (S : StM) (l : Txt) (k : List UInt8) (n : Int) : Int := if tclE S l k n ≠ 0 then 0 else ptClH S.P (rtM S.T l k) n
def tclM (S : StM) (l : Txt) (k : List UInt8) (n : Int) : StM :=
  if tclE S l k n ≠ 0 then S else ⟨ptClP S.P (rtM S.T l k) n, putP S.T (routT S.T l k).toNat (routP S.T l k).toNat (ptClM S.P (rtM S.T l k) n)⟩

/-- All references of all partitions. -/
def allR (T : List TpM) : List Int := T.flatMap fun t => t.ps.flatMap RM.refs
/-- Those of all but one. -/
def restR (T : List TpM) (t p : Nat) : List Int := (((T[t]?).map fun x => (x.ps.eraseIdx p).flatMap RM.refs).getD []) ++ allR (T.eraseIdx t)

theorem perm_erase {α : Type} : ∀ {X : List α} {k : Nat} {x : α}, X[k]? = some x → X.Perm (x :: X.eraseIdx k)
  | [], k, x, h => by simp at h
  | y :: X, 0, x, h => by
    obtain rfl : y = x := by simpa using h
    exact List.Perm.refl _
  | y :: X, k + 1, x, h => by
    have := perm_erase (X := X) (k := k) (x := x) (by simpa using h)
    exact (List.Perm.cons y this).trans (List.Perm.swap _ _ _)
theorem set_erase {α : Type} : ∀ (X : List α) (k : Nat) (x : α), (X.set k x).eraseIdx k = X.eraseIdx k
  | [], k, x => by cases k <;> rfl
  | y :: X, 0, x => rfl
  | y :: X, k + 1, x => by
    show y :: (X.set k x).eraseIdx k = y :: X.eraseIdx k
    rw [set_erase X k x]
theorem prt_some {T : List TpM} {t p : Nat} {M : RM} (h : prt T t p = some M) : ∃ x, T[t]? = some x ∧ x.ps[p]? = some M := by
  unfold prt at h
  cases hx : T[t]? with
  | none => rw [hx] at h; cases h
  | some x => rw [hx] at h; exact ⟨x, rfl, h⟩
theorem refs_at {T : List TpM} {t p : Nat} {M : RM} (h : prt T t p = some M) : (allR T).Perm (M.refs ++ restR T t p) := by
  obtain ⟨x, h1, h2⟩ := prt_some h
  have e1 : (allR T).Perm (x.ps.flatMap RM.refs ++ allR (T.eraseIdx t)) := by
    have := List.Perm.flatMap_right (fun t : TpM => t.ps.flatMap RM.refs) (perm_erase h1)
    unfold allR
    rwa [List.flatMap_cons] at this
  have e2 : (x.ps.flatMap RM.refs).Perm (M.refs ++ (x.ps.eraseIdx p).flatMap RM.refs) := by
    have := List.Perm.flatMap_right RM.refs (perm_erase h2)
    rwa [List.flatMap_cons] at this
  refine e1.trans ?_
  unfold restR
  rw [h1]
  refine (List.Perm.append_right _ e2).trans ?_
  rw [List.append_assoc]
  exact List.Perm.refl _
theorem put_prt {T : List TpM} {t p : Nat} {M M' : RM} (h : prt T t p = some M) : prt (putP T t p M') t p = some M' ∧ restR (putP T t p M') t p = restR T t p := by
  obtain ⟨x, h1, h2⟩ := prt_some h
  have ht := (List.getElem?_eq_some_iff.1 h1).1
  have hp := (List.getElem?_eq_some_iff.1 h2).1
  unfold putP
  simp only [h1]
  constructor
  · unfold prt
    rw [List.getElem?_set_self ht]
    show (x.ps.set p M')[p]? = some M'
    rw [List.getElem?_set_self hp]
  · unfold restR
    rw [List.getElem?_set_self ht, h1, set_erase]
    simp [set_erase]
theorem put_other {T : List TpM} {t p t' p' : Nat} {M' : RM} (hne : t ≠ t' ∨ p ≠ p') : prt (putP T t p M') t' p' = prt T t' p' := by
  unfold putP
  cases hx : T[t]? with
  | none => rfl
  | some x =>
    have ht := (List.getElem?_eq_some_iff.1 hx).1
    unfold prt
    by_cases e : t = t'
    · subst e
      simp only [List.getElem?_set_self ht, hx, Option.bind_some]
      rcases hne with h | h
      · exact absurd rfl h
      · rw [List.getElem?_set_ne h]
    · simp only [List.getElem?_set_ne e]
theorem put_len (T : List TpM) (t p : Nat) (M : RM) : (putP T t p M).length = T.length := by unfold putP; split <;> simp
theorem put_names (T : List TpM) (t p : Nat) (M : RM) : (putP T t p M).map (·.nm) = T.map (·.nm) := by
  unfold putP
  cases hx : T[t]? with
  | none => rfl
  | some x =>
    have ht := (List.getElem?_eq_some_iff.1 hx).1
    simp only
    rw [List.map_set]
    apply List.ext_getElem?
    intro i
    by_cases e : t = i
    · subst e
      rw [List.getElem?_set_self (by simpa using ht), List.getElem?_map, hx]; rfl
    · rw [List.getElem?_set_ne e]
theorem put_nps (T : List TpM) (t p : Nat) (M : RM) (i : Nat) : nps (putP T t p M) i = nps T i := by
  unfold nps putP
  cases hx : T[t]? with
  | none => rfl
  | some x =>
    have ht := (List.getElem?_eq_some_iff.1 hx).1
    simp only
    by_cases e : t = i
    · subst e
      rw [List.getElem?_set_self ht, hx]; simp
    · rw [List.getElem?_set_ne e]

/-- A set as it may be: its handles are counted, and all is small. -/
structure StM.Ok (S : StM) (X : List Int) (N K : Nat) : Prop where
  inv : PtInv S.P (allR S.T ++ X)
  ok : S.P.Ok N
  len : S.T.length ≤ 16
  nps : ∀ t ∈ S.T, 1 ≤ t.ps.length ∧ t.ps.length ≤ 8
  names : ∀ t ∈ S.T, nmE t.nm = 0
  parts : ∀ t ∈ S.T, ∀ M ∈ t.ps, M.Ok K
theorem StM.Ok.mono {S : StM} {X : List Int} {N K N' K' : Nat} (h : S.Ok X N K) (h1 : N ≤ N') (h2 : K ≤ K') : S.Ok X N' K' := ⟨h.inv, h.ok.mono h1, h.len, h.nps, h.names, fun t ht M hM => (h.parts t ht M hM).mono h2⟩
theorem StM.Ok.at {S : StM} {X : List Int} {N K t p : Nat} {M : RM} (h : S.Ok X N K) (hm : prt S.T t p = some M) : M.Ok K ∧ PtInv S.P (M.refs ++ (restR S.T t p ++ X)) := by
  obtain ⟨x, h1, h2⟩ := prt_some hm
  refine ⟨h.parts x (List.mem_of_getElem? h1) M (List.mem_of_getElem? h2), h.inv.perm ?_⟩
  rw [← List.append_assoc]
  exact List.Perm.append_right X (refs_at hm)
/-- Another partition, another pool. -/
theorem StM.Ok.put {S : StM} {X : List Int} {N K N' K' t p : Nat} {P' : PM} {M M' : RM} (h : S.Ok X N K) (hm : prt S.T t p = some M) (hI : PtInv P' (M'.refs ++ (restR S.T t p ++ X))) (hO : P'.Ok N') (hM : M'.Ok K') (hN : N ≤ N') (hK : K ≤ K') : (StM.mk P' (putP S.T t p M')).Ok X N' K' := by
  obtain ⟨x, h1, h2⟩ := prt_some hm
  have ht := (List.getElem?_eq_some_iff.1 h1).1
  have e : putP S.T t p M' = S.T.set t ⟨x.nm, x.ps.set p M'⟩ := by unfold putP; simp only [h1]
  have hmem : ∀ y ∈ putP S.T t p M', y ∈ S.T ∨ y = ⟨x.nm, x.ps.set p M'⟩ := fun y hy => by rw [e] at hy; exact List.mem_or_eq_of_mem_set hy
  have hx := List.mem_of_getElem? h1
  obtain ⟨g1, g2⟩ := put_prt (M' := M') hm
  refine ⟨?_, hO, by show (putP S.T t p M').length ≤ 16; rw [put_len]; exact h.len, fun y hy => ?_, fun y hy => ?_, fun y hy M2 hM2 => ?_⟩
  · refine hI.perm ?_
    show (M'.refs ++ (restR S.T t p ++ X)).Perm (allR (putP S.T t p M') ++ X)
    rw [← List.append_assoc, ← g2]
    exact List.Perm.append_right X (refs_at g1).symm
  · rcases hmem y hy with hy | rfl
    · exact h.nps y hy
    · have := h.nps x hx; simpa using this
  · rcases hmem y hy with hy | rfl
    · exact h.names y hy
    · exact h.names x hx
  · rcases hmem y hy with hy | rfl
    · exact (h.parts y hy M2 hM2).mono hK
    · rcases List.mem_or_eq_of_mem_set hM2 with hM2 | rfl
      · exact (h.parts x hx M2 hM2).mono hK
      · exact hM
theorem fd_lt {T : List TpM} {l : Txt} (h : fdN T l < T.length) : ∃ x, T[fdN T l]? = some x ∧ x.nm = l := by
  refine ⟨T[fdN T l], List.getElem?_eq_getElem h, ?_⟩
  have h2 : ((T[T.findIdx (fun t => t.nm == l)]'h).nm == l) = true := List.findIdx_getElem (w := h)
  exact eq_of_beq h2
theorem rout_ok {S : StM} {X : List Int} {N K : Nat} (h : S.Ok X N K) {l : Txt} {k : List UInt8} (he : routE S.T l k = 0) :
    ∃ t p : Nat, routT S.T l k = (t : Nat) ∧ routP S.T l k = (p : Nat) ∧ prt S.T t p = some (rtM S.T l k) ∧ t < 16 ∧ p < 8 := by
  have hf : findE S.T l = 0 := by
    unfold routE at he
    split at he
    · exact he
    · rename_i h1; exact Decidable.of_not_not h1
  have hlt : fdN S.T l < S.T.length := by
    unfold findE at hf
    split at hf
    · cases hf
    · split at hf
      · assumption
      · cases hf
  obtain ⟨x, hx, _⟩ := fd_lt hlt
  have hn : nps S.T (fdN S.T l) = x.ps.length := by unfold nps; rw [hx]; rfl
  have hb := h.nps x (List.mem_of_getElem? hx)
  have hr : rtE (nps S.T (fdN S.T l)) k = 0 := by unfold routE at he; rwa [if_neg (by simp [hf])] at he
  have eT : routT S.T l k = (fdN S.T l : Nat) := if_neg (by simp [he])
  have eP : routP S.T l k = ((pt x.ps.length k : Nat) : Int) := by
    unfold routP
    rw [if_neg (by simp [he])]
    unfold rtP
    rw [if_pos hr, hn]
    unfold partOf pt
    rw [Int.toNat_natCast, if_neg (by omega)]
  have hp : pt x.ps.length k < x.ps.length := by unfold pt; exact Nat.mod_lt _ (by omega)
  have hl := h.len
  refine ⟨fdN S.T l, pt x.ps.length k, eT, eP, ?_, by omega, by omega⟩
  unfold rtM
  rw [eT, eP, Int.toNat_natCast, Int.toNat_natCast]
  unfold prt
  rw [hx]
  show x.ps[pt x.ps.length k]? = some ((x.ps[pt x.ps.length k]?).getD _)
  rw [List.getElem?_eq_getElem hp]; rfl
/-- A claim. -/
theorem StM.Ok.claim {S : StM} {X : List Int} {N K : Nat} (h : S.Ok X N K) (hN : N < 900000) (l : Txt) (k : List UInt8) (n : Int) : (tclM S l k n).Ok X (N + 2) (K + 1) := by
  unfold tclM
  split
  · exact h.mono (by omega) (by omega)
  · rename_i h1
    have he : tclE S l k n = 0 := Decidable.of_not_not h1
    have hr : routE S.T l k = 0 := by
      unfold tclE at he
      split at he
      · exact he
      · rename_i h2; exact Decidable.of_not_not h2
    obtain ⟨t, p, e1, e2, hm, _⟩ := rout_ok h hr
    obtain ⟨hM, hI⟩ := h.at hm
    obtain ⟨o1, o2, _⟩ := ptCl_ok h.ok hM n
    rw [e1, e2, Int.toNat_natCast, Int.toNat_natCast]
    exact h.put hm (inv_claim hI h.ok hM hN n) o1 o2 (by omega) (by omega)
/-- A publish. -/
theorem StM.Ok.pub {S : StM} {X : List Int} {N K t p : Nat} {M : RM} (h : S.Ok X N K) (hm : prt S.T t p = some M) (a : Int) : (StM.mk S.P (putP S.T t p (M.pubM a))).Ok X N K := by
  obtain ⟨hM, hI⟩ := h.at hm
  exact h.put hm (inv_pub hI a) h.ok (hM.pub a) (Nat.le_refl _) (Nat.le_refl _)
/-- One more topic. -/
theorem allR_new (l : Txt) (n r p : Int) (T : List TpM) : allR (T ++ [newT l n r p]) = allR T := by
  unfold allR
  rw [List.flatMap_append]
  have : ∀ m : Nat, (List.replicate m (RM.new r.toNat (p == 1))).flatMap RM.refs = [] := fun m => by
    induction m with
    | zero => rfl
    | succ m ih => rw [List.replicate_succ, List.flatMap_cons, ih]; rfl
  simp [newT, this]
theorem StM.Ok.open {S : StM} {X : List Int} {N K : Nat} (h : S.Ok X N K) (l : Txt) (n r p : Int) : (StM.mk S.P (openT S.T l n r p)).Ok X N K := by
  unfold openT
  split
  · exact h
  · rename_i h1
    have he : openE S.T l n r p = 0 := Decidable.of_not_not h1
    unfold openE at he
    split at he
    · cases he
    rename_i h2
    split at he
    · cases he
    rename_i h3
    split at he
    · cases he
    split at he
    · cases he
    rename_i h4 h5
    have hmem : ∀ y ∈ S.T ++ [newT l n r p], y ∈ S.T ∨ y = newT l n r p := fun y hy => by
      rcases List.mem_append.1 hy with hy | hy
      · exact .inl hy
      · exact .inr (List.mem_singleton.1 hy)
    refine ⟨by rw [show (StM.mk S.P (S.T ++ [newT l n r p])).T = S.T ++ [newT l n r p] from rfl, allR_new]; exact h.inv, h.ok, by simp; omega, fun y hy => ?_, fun y hy => ?_, fun y hy M hM => ?_⟩
    · rcases hmem y hy with hy | rfl
      · exact h.nps y hy
      · show 1 ≤ (List.replicate n.toNat (RM.new r.toNat (p == 1))).length ∧ _
        rw [show (newT l n r p).ps = List.replicate n.toNat (RM.new r.toNat (p == 1)) from rfl, List.length_replicate]; omega
    · rcases hmem y hy with hy | rfl
      · exact h.names y hy
      · exact Decidable.of_not_not h2
    · rcases hmem y hy with hy | rfl
      · exact h.parts y hy M hM
      · obtain rfl := List.eq_of_mem_replicate hM
        exact (RM.new_ok (by omega) (by omega)).mono (Nat.zero_le _)
theorem StM.new_ok {n size : Nat} (h1 : 1 ≤ n) (h2 : n ≤ 128) (h3 : 1 ≤ size) (h4 : size ≤ 256) : (StM.mk (PM.new n size) []).Ok [] 0 0 :=
  ⟨PtInv.new n size, PM.new_ok h1 h2 h3 h4, Nat.zero_le _, fun t ht => (by cases ht), fun t ht => (by cases ht), fun t ht => (by cases ht)⟩
end Go.Proofs.YtmmkcfiecgpkpaaGreat

/- Things one behind the other, as many as a list tells, apart from one another: one of them picked out, and laid back. No condition. -/
namespace Go.Proofs.YtmmkcfiecgpkpaaGreat
open Go.RowKit
set_option linter.unusedVariables false

def allT {α : Type} (F : α → Thing) : List α → Thing
  | [] => Thing.none
  | a :: l => (F a).sep (allT F l)

section
variable {α β : Type} {F : α → Thing} {w w' w0 : World} {W Q0 : Nat → Prop} {A B C R : Thing}
theorem sep_imp2 {A A' B B' : Thing} (f : ∀ {w : World} {W : Nat → Prop}, A.at_ w W → A'.at_ w W) (g : ∀ {w : World} {W : Nat → Prop}, B.at_ w W → B'.at_ w W) (h : (A.sep B).at_ w W) : (A'.sep B').at_ w W := by
  obtain ⟨W1, W2, h1, h2, hd, hW⟩ := h
  exact ⟨W1, W2, f h1, g h2, hd, hW⟩
theorem all_pick : ∀ {l : List α} {i : Nat} {a : α} {w : World} {W : Nat → Prop}, l[i]? = some a → (allT F l).at_ w W → ((F a).sep (allT F (l.eraseIdx i))).at_ w W
  | [], i, a, w, W, h, _ => by simp at h
  | b :: l, 0, a, w, W, h, k => by
    obtain rfl : b = a := by simpa using h
    exact k
  | b :: l, i + 1, a, w, W, h, k =>
    sep_turn (sep_imp2 (fun h => h) (fun k => all_pick (l := l) (i := i) (a := a) (by simpa using h) k) k)
theorem all_put : ∀ {l : List α} {i : Nat} {a : α} {w : World} {W : Nat → Prop}, i < l.length → ((F a).sep (allT F (l.eraseIdx i))).at_ w W → (allT F (l.set i a)).at_ w W
  | [], i, a, w, W, h, _ => by simp at h
  | b :: l, 0, a, w, W, h, k => k
  | b :: l, i + 1, a, w, W, h, k =>
    sep_imp2 (fun h => h) (fun k => all_put (l := l) (i := i) (a := a) (by simpa using h) k) (sep_turn k)
theorem all_app : ∀ {l l' : List α} {w : World} {W : Nat → Prop}, ((allT F l').sep (allT F l)).at_ w W → (allT F (l ++ l')).at_ w W
  | [], l', w, W, h => by
    obtain ⟨W1, W2, h1, h2, _, hW⟩ := h
    have e : W = W1 := funext fun k => propext ((hW k).trans ⟨fun h => h.elim id (fun h => absurd h (h2 k)), .inl⟩)
    rw [e]; exact h1
  | b :: l, l', w, W, h => sep_imp2 (fun h => h) (fun k => all_app k) (sep_turn h)
theorem all_snoc {l : List α} {a : α} (h : ((F a).sep (allT F l)).at_ w W) : (allT F (l ++ [a])).at_ w W :=
  all_app (sep_imp2 (fun h => by
    rename_i V U
    exact ⟨U, fun _ => False, h, fun _ h => h, fun _ _ h => h, fun k => ⟨.inl, fun h => h.elim id (fun h => h.elim)⟩⟩) (fun h => h) h)
/-- What each of them is turned into. -/
theorem all_imp {G : β → Thing} (g : α → β) (f : ∀ a {w : World} {W : Nat → Prop}, (F a).at_ w W → (G (g a)).at_ w W) : ∀ {l : List α} {w : World} {W : Nat → Prop}, (allT F l).at_ w W → (allT G (l.map g)).at_ w W
  | [], w, W, h => h
  | a :: l, w, W, h => sep_imp2 (fun h => f a h) (fun h => all_imp g f h) h
end
end Go.Proofs.YtmmkcfiecgpkpaaGreat

/- What the statements of layer 13 want of the program's sets of topics, told of the plain ones: one word for each call. The words are shown of the program in another text. No condition. -/
namespace Go.Proofs.YtmmkcfiecgpkpaaGreat
open Go.RowKit
set_option linter.unusedVariables false
set_option linter.unusedSimpArgs false
set_option maxRecDepth 100000

/-- The partitions of one topic, each where it lies. -/
abbrev prsT (XT : Nat → Nat → RM → Thing) (q : Nat) (l : List (Nat × RM)) : Thing := allT (fun z : Nat × RM => XT z.1 q z.2) l
/-- Those of all topics. -/
abbrev tpsT (XT : Nat → Nat → RM → Thing) (q : Nat) (L : List (List Nat × List RM)) : Thing := allT (fun z : List Nat × List RM => prsT XT q (z.1.zip z.2)) L
/-- Where the partitions lie, topic by topic: as many as there are. -/
def Fits (L : List (List Nat)) (T : List TpM) : Prop := L.map (·.length) = T.map (·.ps.length)
/-- A set: what holds it, told of names and of where partitions lie; its pool; the partitions. -/
abbrev setT (HT : Nat → Nat → List Txt → List (List Nat) → Thing) (PT : Nat → PM → Thing) (XT : Nat → Nat → RM → Thing) (s q : Nat) (L : List (List Nat)) (S : StM) : Thing :=
  (HT s q (S.T.map (·.nm)) L).sep ((PT q S.P).sep (tpsT XT q (L.zip (S.T.map (·.ps)))))

abbrev plcV (x : Int × Int) : List Value := [.int .i64 x.1, .int .i64 x.2]
abbrev plcA (t p : Int) : Value := .agg #[.int .i64 t, .int .i64 p]
@[go_sem] theorem place_eqIn (a b c d : Int) (w : World) : (Op.equalIn 10000 25 (.agg #[.int .i64 a, .int .i64 b]) (.agg #[.int .i64 c, .int .i64 d])).run Tryz.prog w = .ok (decide ([a, b] = [c, d])) w := by
  have u3 := Tryz.underlying3
  have a3 := Tryz.isAgg3
  have z3 := Tryz.sizeOf3
  rw [show (10000 : Nat) = 9999 + 1 from rfl, Op.equalIn]
  simp only [Sem.run_bind, run_underlying Tryz.underlying25, Result.andThen_ok]
  go_simp
  by_cases h1 : a = c <;> by_cases h2 : b = d <;> simp [h1, h2]
/-- Places that are handed out. -/
def OutPl (w : World) (l : List (Int × Int)) (n : Nat) (e : Ending) (w' : World) : Prop := ∃ a c, e = .returned (.slice a n c) ∧ w'.ownsRow w.heap.size 25 2 (.slice a n c) n (l.flatMap plcV) ∧ Still w w'

/-- The words of what holds a set: calls that read it alone. -/
structure HeadApi (HT : Nat → Nat → List Txt → List (List Nat) → Thing) : Prop where
  find : ∀ {w : World} {W : Nat → Prop} {s q : Nat} {T : List TpM} {L : List (List Nat)}, (HT s q (T.map (·.nm)) L).at_ w W → Fits L T → T.length ≤ 16 → ∀ l : Txt, l.length ≤ 300 →
    Calls Tryz.prog 15 #[.pointer (some ⟨s, 0, none⟩), tx l] w fun e w' => e = .returned (.tuple #[.int .i64 (findN T l), .int .i64 (findE T l)]) ∧ Still w w'
  name : ∀ {w : World} {W : Nat → Prop} {s q : Nat} {T : List TpM} {L : List (List Nat)}, (HT s q (T.map (·.nm)) L).at_ w W → Fits L T → T.length ≤ 16 → ∀ t : Int, w64 t →
    Calls Tryz.prog 30 #[.pointer (some ⟨s, 0, none⟩), .int .i64 t] w fun e w' => e = .returned (tx (nmAt T t)) ∧ Still w w'
  topics : ∀ {w : World} {W : Nat → Prop} {s q : Nat} {T : List TpM} {L : List (List Nat)}, (HT s q (T.map (·.nm)) L).at_ w W → Fits L T → T.length ≤ 16 →
    Calls Tryz.prog 33 #[.pointer (some ⟨s, 0, none⟩)] w fun e w' => e = .returned (.int .i64 T.length) ∧ Still w w'
  pool : ∀ {w : World} {W : Nat → Prop} {s q : Nat} {T : List TpM} {L : List (List Nat)}, (HT s q (T.map (·.nm)) L).at_ w W → Fits L T → T.length ≤ 16 →
    Calls Tryz.prog 35 #[.pointer (some ⟨s, 0, none⟩)] w fun e w' => e = .returned (.pointer (some ⟨q, 0, none⟩)) ∧ Still w w'
  places : ∀ {w : World} {W : Nat → Prop} {s q : Nat} {T : List TpM} {L : List (List Nat)}, (HT s q (T.map (·.nm)) L).at_ w W → Fits L T → T.length ≤ 16 → (∀ t ∈ T, t.ps.length ≤ 8) →
    ∀ (ao : Option Addr) (l : List Int) (m cap n : Nat), m = l.length → NumsAt w ao l → SlW ao m cap → m ≤ 100 → n = (plcs T l).length →
    Calls Tryz.prog 27 #[.pointer (some ⟨s, 0, none⟩), .slice ao m cap] w (OutPl w (plcs T l) n)
  part_ok : ∀ {w : World} {W : Nat → Prop} {s q : Nat} {T : List TpM} {L : List (List Nat)}, (HT s q (T.map (·.nm)) L).at_ w W → Fits L T → T.length ≤ 16 → (∀ t ∈ T, t.ps.length ≤ 8) → ∀ (t p x : Nat) (xs : List Nat), L[t]? = some xs → xs[p]? = some x →
    Calls Tryz.prog 22 #[.pointer (some ⟨s, 0, none⟩), plcA (t : Nat) (p : Nat)] w fun e w' => e = .returned (.tuple #[.pointer (some ⟨x, 0, none⟩), .int .i64 0]) ∧ Still w w'
  part_no : ∀ {w : World} {W : Nat → Prop} {s q : Nat} {T : List TpM} {L : List (List Nat)}, (HT s q (T.map (·.nm)) L).at_ w W → Fits L T → T.length ≤ 16 → (∀ t ∈ T, t.ps.length ≤ 8) → ∀ (t p : Int), w64 t → w64 p → partE T t p ≠ 0 →
    Calls Tryz.prog 22 #[.pointer (some ⟨s, 0, none⟩), plcA t p] w fun e w' => e = .returned (.tuple #[.pointer none, .int .i64 5]) ∧ Still w w'
  route : ∀ {w : World} {W : Nat → Prop} {s q : Nat} {T : List TpM} {L : List (List Nat)}, (HT s q (T.map (·.nm)) L).at_ w W → Fits L T → T.length ≤ 16 → (∀ t ∈ T, 1 ≤ t.ps.length ∧ t.ps.length ≤ 8) → ∀ (l : Txt), l.length ≤ 300 →
    ∀ (k : List UInt8) (ao : Option Addr) (m cap : Nat), m = k.length → BytesAt w ao k → SlW ao m cap → m ≤ 100 →
    Calls Tryz.prog 17 #[.pointer (some ⟨s, 0, none⟩), tx l, .slice ao m cap] w fun e w' => e = .returned (.tuple #[plcA (routT T l k) (routP T l k), .int .i64 (routE T l k)]) ∧ Still w w'
/-- A set that is changed: what Open leaves. -/
def OpenPost (HT : Nat → Nat → List Txt → List (List Nat) → Thing) (PT : Nat → PM → Thing) (XT : Nat → Nat → RM → Thing) (w : World) (W : Nat → Prop) (s q : Nat) (L : List (List Nat)) (S : StM) (l : Txt) (n r p : Int) (e : Ending) (w' : World) : Prop :=
  e = .returned (.tuple #[.int .i64 (openN S.T l n r p), .int .i64 (openE S.T l n r p)]) ∧ ∃ L', Fits L' (openT S.T l n r p) ∧ Goes (setT HT PT XT s q L' ⟨S.P, openT S.T l n r p⟩) W w w'

structure TopicApi (HT : Nat → Nat → List Txt → List (List Nat) → Thing) (PT : Nat → PM → Thing) (XT : Nat → Nat → RM → Thing) : Prop extends HeadApi HT where
  make_no : ∀ (n s : Int) (w : World), i64 n → i64 s → ¬ (1 ≤ n ∧ n ≤ 128 ∧ 1 ≤ s ∧ s ≤ 256) → Calls Tryz.prog 8 #[.int .i64 n, .int .i64 s] w fun e w' => e = .returned (.tuple #[.pointer none, .int .i64 2]) ∧ Still w w'
  make_ok : ∀ (n s : Nat) (w : World), 1 ≤ n → n ≤ 128 → 1 ≤ s → s ≤ 256 → Calls Tryz.prog 8 #[.int .i64 n, .int .i64 s] w fun e w' => ∃ x q, e = .returned (.tuple #[.pointer (some ⟨x, 0, none⟩), .int .i64 0]) ∧ ∃ W, (setT HT PT XT x q [] ⟨PM.new n s, []⟩).at_ w' W ∧ Still w w' ∧ ∀ k, W k → w.heap.size ≤ k
  open_ : ∀ {w : World} {W : Nat → Prop} {s q : Nat} {S : StM} {L : List (List Nat)} {X : List Int} {N K : Nat}, (setT HT PT XT s q L S).at_ w W → Fits L S.T → S.Ok X N K → N < 900000 → K < 900000 → ∀ l : Txt, l.length ≤ 300 → ∀ n r p : Int, w64 n → w64 r → w64 p →
    Calls Tryz.prog 13 #[.pointer (some ⟨s, 0, none⟩), tx l, .int .i64 n, .int .i64 r, .int .i64 p] w (OpenPost HT PT XT w W s q L S l n r p)
  claim : ∀ {w : World} {W : Nat → Prop} {s q : Nat} {S : StM} {L : List (List Nat)} {X : List Int} {N K : Nat}, (setT HT PT XT s q L S).at_ w W → Fits L S.T → S.Ok X N K → N < 900000 → K < 900000 → ∀ l : Txt, l.length ≤ 300 →
    ∀ (k : List UInt8) (ao : Option Addr) (m cap : Nat), m = k.length → BytesAt w ao k → SlW ao m cap → m ≤ 100 → ∀ n : Int, w64 n →
    Calls Tryz.prog 20 #[.pointer (some ⟨s, 0, none⟩), tx l, .slice ao m cap, .int .i64 n] w fun e w' => e = .returned (.tuple #[plcA (tclT S l k n) (tclP S l k n), .int .i64 (tclA S l k n), .int .i64 (tclH S l k n), .int .i64 (tclE S l k n)]) ∧ Goes (setT HT PT XT s q L (tclM S l k n)) W w w'
/-! One partition of a set. -/
theorem fits_at {L : List (List Nat)} {T : List TpM} (h : Fits L T) {t p : Nat} {M : RM} (hm : prt T t p = some M) : ∃ (xs : List Nat) (x : Nat) (ps : List RM), L[t]? = some xs ∧ xs[p]? = some x ∧ (T.map (·.ps))[t]? = some ps ∧ ps[p]? = some M := by
  obtain ⟨y, h1, h2⟩ := prt_some hm
  have e : (L.map (·.length))[t]? = some y.ps.length := by rw [show L.map (·.length) = T.map (·.ps.length) from h, List.getElem?_map, h1]; rfl
  rw [List.getElem?_map] at e
  cases hx : L[t]? with
  | none => rw [hx] at e; cases e
  | some xs =>
    rw [hx] at e
    have hl : xs.length = y.ps.length := by simpa using e
    obtain ⟨x, hx2⟩ := get_some (l := xs) (i := p) (by rw [hl]; exact (List.getElem?_eq_some_iff.1 h2).1)
    exact ⟨xs, x, y.ps, rfl, hx2, by rw [List.getElem?_map, h1]; rfl, h2⟩

theorem sep_mono2 {A A' B B' : Thing} (f : ∀ {w : World} {W : Nat → Prop}, A.at_ w W → A'.at_ w W) (g : ∀ {w : World} {W : Nat → Prop}, B.at_ w W → B'.at_ w W) {w : World} {W : Nat → Prop} (h : (A.sep B).at_ w W) : (A'.sep B').at_ w W := sep_imp2 f g h

section
variable {HT : Nat → Nat → List Txt → List (List Nat) → Thing} {PT : Nat → PM → Thing} {XT : Nat → Nat → RM → Thing} {s q : Nat} {L : List (List Nat)} {S : StM}
/-- What else lies in a set beside its pool and one partition. -/
def elseT (HT : Nat → Nat → List Txt → List (List Nat) → Thing) (XT : Nat → Nat → RM → Thing) (s q : Nat) (L : List (List Nat)) (T : List TpM) (t p : Nat) : Thing :=
  (HT s q (T.map (·.nm)) L).sep ((prsT XT q (((L[t]?.getD []).zip (((T[t]?).map (·.ps)).getD [])).eraseIdx p)).sep (tpsT XT q ((L.zip (T.map (·.ps))).eraseIdx t)))

theorem set_open {w : World} {W : Nat → Prop} (hf : Fits L S.T) {t p x : Nat} {xs : List Nat} {M : RM} (hm : prt S.T t p = some M) (h1 : L[t]? = some xs) (h2 : xs[p]? = some x) (h : (setT HT PT XT s q L S).at_ w W) :
    (((PT q S.P).sep (XT x q M)).sep (elseT HT XT s q L S.T t p)).at_ w W := by
  obtain ⟨y, g1, g2⟩ := prt_some hm
  have e1 : (L.zip (S.T.map (·.ps)))[t]? = some (xs, y.ps) := by rw [List.getElem?_zip_eq_some]; exact ⟨h1, by rw [List.getElem?_map, g1]; rfl⟩
  have e2 : (xs.zip y.ps)[p]? = some (x, M) := by rw [List.getElem?_zip_eq_some]; exact ⟨h2, g2⟩
  have k1 : ((HT s q (S.T.map (·.nm)) L).sep ((PT q S.P).sep ((XT x q M).sep ((prsT XT q ((xs.zip y.ps).eraseIdx p)).sep (tpsT XT q ((L.zip (S.T.map (·.ps))).eraseIdx t)))))).at_ w W :=
    sep_mono2 (fun h => h) (fun h => sep_mono2 (fun h => h) (fun h => sep_assoc (sep_mono2 (fun h => all_pick (F := fun z : Nat × RM => XT z.1 q z.2) e2 h) (fun h => h) (all_pick (F := fun z : List Nat × List RM => prsT XT q (z.1.zip z.2)) e1 h))) h) h
  have e3 : elseT HT XT s q L S.T t p = (HT s q (S.T.map (·.nm)) L).sep ((prsT XT q ((xs.zip y.ps).eraseIdx p)).sep (tpsT XT q ((L.zip (S.T.map (·.ps))).eraseIdx t))) := by
    unfold elseT; rw [h1, g1]; rfl
  rw [e3]
  exact sep_mono2 (fun h => h) (fun h => h) (sep_assoc' (sep_mono2 (fun h => h) (fun h => sep_turn h) (sep_turn k1)))

theorem set_shut {w : World} {W : Nat → Prop} (hf : Fits L S.T) {t p x : Nat} {xs : List Nat} {M M' : RM} {P' : PM} (hm : prt S.T t p = some M) (h1 : L[t]? = some xs) (h2 : xs[p]? = some x)
    (h : (((PT q P').sep (XT x q M')).sep (elseT HT XT s q L S.T t p)).at_ w W) : (setT HT PT XT s q L ⟨P', putP S.T t p M'⟩).at_ w W := by
  obtain ⟨y, g1, g2⟩ := prt_some hm
  have ht := (List.getElem?_eq_some_iff.1 g1).1
  have hp := (List.getElem?_eq_some_iff.1 g2).1
  have hlt := (List.getElem?_eq_some_iff.1 h1).1
  have hlp := (List.getElem?_eq_some_iff.1 h2).1
  have e3 : elseT HT XT s q L S.T t p = (HT s q (S.T.map (·.nm)) L).sep ((prsT XT q ((xs.zip y.ps).eraseIdx p)).sep (tpsT XT q ((L.zip (S.T.map (·.ps))).eraseIdx t))) := by
    unfold elseT; rw [h1, g1]; rfl
  rw [e3] at h
  have k1 : ((HT s q (S.T.map (·.nm)) L).sep ((PT q P').sep ((XT x q M').sep ((prsT XT q ((xs.zip y.ps).eraseIdx p)).sep (tpsT XT q ((L.zip (S.T.map (·.ps))).eraseIdx t)))))).at_ w W :=
    sep_turn (sep_mono2 (fun h => h) (fun h => sep_turn h) (sep_assoc h))
  have f1 : (xs.zip y.ps).set p (x, M') = xs.zip (y.ps.set p M') := by
    apply List.ext_getElem?
    intro i
    by_cases e : p = i
    · subst e
      rw [List.getElem?_set_self (by simp; omega)]
      symm
      rw [List.getElem?_zip_eq_some]
      exact ⟨h2, List.getElem?_set_self hp⟩
    · rw [List.getElem?_set_ne e]
      cases hz : (xs.zip y.ps)[i]? with
      | none =>
        symm
        rw [List.getElem?_eq_none_iff] at hz ⊢
        simpa using hz
      | some z =>
        obtain ⟨z1, z2⟩ := z
        rw [List.getElem?_zip_eq_some] at hz
        symm
        rw [List.getElem?_zip_eq_some]
        exact ⟨hz.1, by rw [List.getElem?_set_ne e]; exact hz.2⟩
  have f2 : (L.zip (S.T.map (·.ps))).set t (xs, y.ps.set p M') = L.zip ((putP S.T t p M').map (·.ps)) := by
    have e4 : (putP S.T t p M').map (·.ps) = (S.T.map (·.ps)).set t (y.ps.set p M') := by unfold putP; simp only [g1]; rw [List.map_set]
    rw [e4]
    apply List.ext_getElem?
    intro i
    by_cases e : t = i
    · subst e
      rw [List.getElem?_set_self (by simp; omega)]
      symm
      rw [List.getElem?_zip_eq_some]
      exact ⟨h1, List.getElem?_set_self (by simpa using ht)⟩
    · rw [List.getElem?_set_ne e]
      cases hz : (L.zip (S.T.map (·.ps)))[i]? with
      | none =>
        symm
        rw [List.getElem?_eq_none_iff] at hz ⊢
        simpa using hz
      | some z =>
        obtain ⟨z1, z2⟩ := z
        rw [List.getElem?_zip_eq_some] at hz
        symm
        rw [List.getElem?_zip_eq_some]
        exact ⟨hz.1, by rw [List.getElem?_set_ne e]; exact hz.2⟩
  have k2 : ((HT s q (S.T.map (·.nm)) L).sep ((PT q P').sep ((prsT XT q (xs.zip (y.ps.set p M'))).sep (tpsT XT q ((L.zip (S.T.map (·.ps))).eraseIdx t))))).at_ w W :=
    sep_mono2 (fun h => h) (fun h => sep_mono2 (fun h => h) (fun h => sep_mono2 (fun h => by rw [← f1]; exact all_put (F := fun z : Nat × RM => XT z.1 q z.2) (by simp; omega) h) (fun h => h) (sep_assoc' h)) h) k1
  show ((HT s q ((putP S.T t p M').map (·.nm)) L).sep ((PT q P').sep (tpsT XT q (L.zip ((putP S.T t p M').map (·.ps)))))).at_ w W
  rw [put_names, ← f2]
  exact sep_mono2 (fun h => h) (fun h => sep_mono2 (fun h => h) (fun h => all_put (F := fun z : List Nat × List RM => prsT XT q (z.1.zip z.2)) (by simp; omega) h) h) k2
theorem fits_put {T : List TpM} (h : Fits L T) (t p : Nat) (M : RM) : Fits L (putP T t p M) := by
  unfold Fits at *
  rw [h]
  unfold putP
  cases hx : T[t]? with
  | none => rfl
  | some x =>
    have ht := (List.getElem?_eq_some_iff.1 hx).1
    simp only
    rw [List.map_set]
    symm
    apply List.ext_getElem?
    intro i
    by_cases e : t = i
    · subst e
      rw [List.getElem?_set_self (by simpa using ht), List.getElem?_map, hx]; simp
    · rw [List.getElem?_set_ne e]
theorem fits_claim {S : StM} (h : Fits L S.T) (l : Txt) (k : List UInt8) (n : Int) : Fits L (tclM S l k n).T := by
  unfold tclM
  split
  · exact h
  · show Fits L (putP S.T _ _ _)
    exact fits_put h _ _ _
end
end Go.Proofs.YtmmkcfiecgpkpaaGreat
