/- The plain ledger: where it begins, and its spans with their kinds; what its calls answer. No condition. -/
import Derived.Test.YtdlkdagmaeapdaaBase
namespace Go.Proofs.Ytdlkdagmaeapdaa
open Go.RowKit
set_option linter.unusedVariables false
set_option maxRecDepth 100000

/-- A span: from, to, was it accepted? -/
abbrev Pc := Int × Int × Bool
structure LgM where
  b : Int
  L : List Pc

/-- Where spans end; of what kind the last one is. -/
def endF : Int → List Pc → Int
  | a, [] => a
  | _, x :: l => endF x.2.1 l
def lastK : Option Bool → List Pc → Option Bool
  | k, [] => k
  | _, x :: l => lastK (some x.2.2) l
/-- Contiguous from an offset on, and of both kinds in turn. -/
def chn : Int → Option Bool → List Pc → Prop
  | _, _, [] => True
  | a, k, x :: l => x.1 = a ∧ a < x.2.1 ∧ k ≠ some x.2.2 ∧ chn x.2.1 (some x.2.2) l

def LgM.fin (M : LgM) : Int := endF M.b M.L
structure LgM.Ok (M : LgM) : Prop where
  lo : 0 ≤ M.b
  ch : chn M.b none M.L
  len : M.L.length ≤ 256
  hi : M.fin ≤ 1099511627776

theorem endF_le {l : List Pc} : ∀ {a : Int} {k : Option Bool}, chn a k l → a ≤ endF a l ∧ ∀ x ∈ l, a ≤ x.1 ∧ x.1 < x.2.1 ∧ x.2.1 ≤ endF a l := by
  induction l with
  | nil => intro a k _; exact ⟨Int.le_refl _, fun x h => by cases h⟩
  | cons y l ih =>
    rintro a k ⟨h1, h2, h3, h4⟩
    obtain ⟨g1, g2⟩ := ih h4
    refine ⟨by show a ≤ endF y.2.1 l; omega, fun x hx => ?_⟩
    show a ≤ x.1 ∧ x.1 < x.2.1 ∧ x.2.1 ≤ endF y.2.1 l
    rcases List.mem_cons.1 hx with rfl | hx
    · exact ⟨by omega, by omega, by omega⟩
    · have := g2 x hx; omega
theorem endF_app (l m : List Pc) : ∀ a : Int, endF a (l ++ m) = endF (endF a l) m := by
  induction l with
  | nil => intro a; rfl
  | cons y l ih => intro a; exact ih _
theorem lastK_app (l m : List Pc) : ∀ k, lastK k (l ++ m) = lastK (lastK k l) m := by
  induction l with
  | nil => intro a; rfl
  | cons y l ih => intro a; exact ih _
theorem chn_app (l m : List Pc) : ∀ (a : Int) (k : Option Bool), chn a k (l ++ m) ↔ chn a k l ∧ chn (endF a l) (lastK k l) m := by
  induction l with
  | nil => intro a k; exact ⟨fun h => ⟨trivial, h⟩, fun h => h.2⟩
  | cons y l ih =>
    intro a k
    show (_ ∧ _ ∧ _ ∧ chn y.2.1 (some y.2.2) (l ++ m)) ↔ (_ ∧ _ ∧ _ ∧ chn y.2.1 (some y.2.2) l) ∧ _
    rw [ih]
    constructor
    · rintro ⟨h1, h2, h3, h4, h5⟩; exact ⟨⟨h1, h2, h3, h4⟩, h5⟩
    · rintro ⟨⟨h1, h2, h3, h4⟩, h5⟩; exact ⟨h1, h2, h3, h4, h5⟩
/-- The last span of some. -/
theorem last_split {l : List Pc} (h : l ≠ []) : ∃ (l' : List Pc) (x : Pc), l = l' ++ [x] := ⟨l.dropLast, l.getLast h, (List.dropLast_concat_getLast h).symm⟩

/-! ### Accept, Skip -/
def addE (M : LgM) (to : Int) (k : Bool) : Int := if to ≤ M.fin ∨ 1099511627776 < to then 2 else if lastK none M.L = some k then 0 else if 256 ≤ M.L.length then 4 else 0
/-- The last one ends elsewhere. -/
def setTo (l : List Pc) (to : Int) : List Pc := match l.getLast? with
  | none => []
  | some x => l.dropLast ++ [(x.1, to, x.2.2)]
theorem setTo_app (l : List Pc) (x : Pc) (to : Int) : setTo (l ++ [x]) to = l ++ [(x.1, to, x.2.2)] := by simp [setTo]
def addL (M : LgM) (to : Int) (k : Bool) : List Pc := if addE M to k ≠ 0 then M.L else if lastK none M.L = some k then setTo M.L to else M.L ++ [(M.fin, to, k)]
def LgM.add (M : LgM) (to : Int) (k : Bool) : LgM := ⟨M.b, addL M to k⟩
theorem lastK_split {l : List Pc} {k : Bool} (h : lastK none l = some k) : ∃ (l' : List Pc) (x : Pc), l = l' ++ [x] ∧ x.2.2 = k := by
  have hne : l ≠ [] := by rintro rfl; cases h
  obtain ⟨l', x, rfl⟩ := last_split hne
  rw [lastK_app] at h
  exact ⟨l', x, rfl, Option.some.inj h⟩
theorem LgM.Ok.add {M : LgM} (h : M.Ok) (to : Int) (k : Bool) : (M.add to k).Ok := by
  unfold LgM.add
  by_cases he : addE M to k = 0
  · have ht : ¬ (to ≤ M.fin ∨ 1099511627776 < to) := fun hh => by unfold addE at he; rw [if_pos hh] at he; omega
    by_cases hk : lastK none M.L = some k
    · have e : addL M to k = setTo M.L to := by unfold addL; rw [if_neg (by simp [he]), if_pos hk]
      rw [e]
      obtain ⟨l', x, hl, hx⟩ := lastK_split hk
      have hch := h.ch
      have hf : M.fin = x.2.1 := by unfold LgM.fin; rw [hl, endF_app]; rfl
      rw [hl, chn_app] at hch
      obtain ⟨c1, c2, c3, c4, _⟩ := hch
      refine ⟨h.lo, ?_, ?_, ?_⟩
      · show chn M.b none (setTo M.L to)
        rw [hl, setTo_app, chn_app]
        exact ⟨c1, c2, by show endF M.b l' < to; omega, c4, trivial⟩
      · show (setTo M.L to).length ≤ 256
        have := h.len
        rw [hl, setTo_app]; rw [hl] at this
        simpa using this
      · show endF M.b (setTo M.L to) ≤ 1099511627776
        rw [hl, setTo_app, endF_app]
        show to ≤ _
        omega
    · have e : addL M to k = M.L ++ [(M.fin, to, k)] := by unfold addL; rw [if_neg (by simp [he]), if_neg hk]
      rw [e]
      have hlen : M.L.length < 256 := by unfold addE at he; rw [if_neg ht, if_neg hk] at he; split at he <;> omega
      refine ⟨h.lo, ?_, ?_, ?_⟩
      · show chn M.b none (M.L ++ [(M.fin, to, k)])
        rw [chn_app]
        exact ⟨h.ch, rfl, by show endF M.b M.L < to; unfold LgM.fin at ht; omega, hk, trivial⟩
      · show (M.L ++ [(M.fin, to, k)]).length ≤ 256
        simp; omega
      · show endF M.b (M.L ++ [(M.fin, to, k)]) ≤ 1099511627776
        rw [endF_app]
        show to ≤ _
        omega
  · have e : addL M to k = M.L := by unfold addL; rw [if_pos he]
    rw [e]; exact h

/-! ### Back -/
def backE (M : LgM) (to : Int) : Int := if to < 0 then 2 else if to < M.b ∨ M.fin < to then 61 else 0
def cutPc (to : Int) (x : Pc) : Pc := (x.1, min x.2.1 to, x.2.2)
def backL (l : List Pc) (to : Int) : List Pc := (l.filter (fun x => x.1 < to)).map (cutPc to)
def LgM.back (M : LgM) (to : Int) : LgM := ⟨M.b, if backE M to ≠ 0 then M.L else backL M.L to⟩
theorem backL_nil {l : List Pc} {to : Int} (h : ∀ x ∈ l, to ≤ x.1) : backL l to = [] := by
  unfold backL
  rw [List.filter_eq_nil_iff.2 (fun x hx => by have := h x hx; simp; omega)]; rfl
theorem backL_cons (x : Pc) (l : List Pc) (to : Int) : backL (x :: l) to = if x.1 < to then cutPc to x :: backL l to else backL l to := by
  unfold backL
  rw [List.filter_cons]
  split <;> simp_all
theorem backL_ch {l : List Pc} {to : Int} : ∀ {a : Int} {k : Option Bool}, chn a k l → a ≤ to → to ≤ endF a l → chn a k (backL l to) ∧ endF a (backL l to) = to := by
  induction l with
  | nil => intro a k _ h1 h2; have : a = to := Int.le_antisymm h1 h2; exact ⟨trivial, this⟩
  | cons y l ih =>
    intro a k hc h1 h2
    have hall := endF_le hc
    obtain ⟨c1, c2, c3, c4⟩ := hc
    rw [backL_cons]
    by_cases ht : y.1 < to
    · rw [if_pos ht]
      by_cases h3 : y.2.1 ≤ to
      · obtain ⟨g1, g2⟩ := ih c4 h3 h2
        have hm : min y.2.1 to = y.2.1 := by omega
        unfold cutPc
        rw [hm]
        exact ⟨⟨c1, c2, c3, g1⟩, g2⟩
      · have hm : min y.2.1 to = to := by omega
        have hn : backL l to = [] := backL_nil (fun x hx => by have := (endF_le c4).2 x hx; omega)
        unfold cutPc
        rw [hm, hn]
        exact ⟨⟨c1, by show a < to; omega, c3, trivial⟩, rfl⟩
    · rw [if_neg ht]
      have hn : backL l to = [] := backL_nil (fun x hx => by have := hall.2 x (List.mem_cons_of_mem _ hx); omega)
      rw [hn]
      exact ⟨trivial, by show a = to; omega⟩
theorem backL_len (l : List Pc) (to : Int) : (backL l to).length ≤ l.length := by unfold backL; rw [List.length_map]; exact List.length_filter_le _ _
theorem LgM.Ok.back {M : LgM} (h : M.Ok) (to : Int) : (M.back to).Ok := by
  unfold LgM.back
  by_cases he : backE M to = 0
  · rw [if_neg (by simp [he])]
    have ht : ¬ (to < M.b ∨ M.fin < to) ∧ ¬ to < 0 := by
      unfold backE at he
      split at he
      · omega
      · split at he
        · omega
        · exact ⟨by assumption, by assumption⟩
    obtain ⟨g1, g2⟩ := backL_ch (to := to) h.ch (by omega) (by unfold LgM.fin at ht; omega)
    refine ⟨h.lo, g1, Nat.le_trans (backL_len _ _) h.len, ?_⟩
    show endF M.b (backL M.L to) ≤ _
    rw [g2]
    have := h.hi
    omega
  · rw [if_pos he]; exact h

/-! ### Is; the spans of a kind -/
def inPc (x : Pc) (n : Int) : Bool := decide (x.1 ≤ n) && decide (n < x.2.1)
def lgiV (l : List Pc) (n : Int) : Bool := ((l.find? (fun x => inPc x n)).map (·.2.2)).getD false
def lgiE (l : List Pc) (n : Int) : Int := if l.any (fun x => inPc x n) then 0 else 5
def spOf (l : List Pc) (k : Bool) : List (Int × Int) := (l.filter (fun x => x.2.2 == k)).map (fun x => (x.1, x.2.1))
theorem spOf_len (l : List Pc) (k : Bool) : (spOf l k).length ≤ l.length := by unfold spOf; rw [List.length_map]; exact List.length_filter_le _ _
def LgM.new (b : Int) : LgM := ⟨b, []⟩
theorem LgM.new_ok {b : Int} (h0 : 0 ≤ b) (h1 : b ≤ 1099511627776) : (LgM.new b).Ok := ⟨h0, trivial, by simp [LgM.new], h1⟩
end Go.Proofs.Ytdlkdagmaeapdaa
