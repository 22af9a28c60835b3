/- What Back of the document's ledger does. No condition but that it is one. -/
import Derived.Test.YtdlkdagmaeapdaaLgRefAdd
import Derived.Test.YtdlkdagmaeapdaaStepApp
namespace Go.Proofs.Ytdlkdagmaeapdaa
open Go.RowKit
set_option linter.unusedVariables false
set_option linter.unusedSimpArgs false
set_option maxRecDepth 100000

theorem backL_snoc {l : List Pc} {k : Nat} {x : Pc} (tt : Int) (h : l[k]? = some x) : backL (l.take (k + 1)) tt = if x.1 < tt then backL (l.take k) tt ++ [cutPc tt x] else backL (l.take k) tt := by
  unfold backL
  rw [List.take_add_one, h, List.filter_append]
  simp only [Option.toList_some, List.filter_cons, List.filter_nil]
  by_cases hk : x.1 < tt
  · rw [if_pos hk, if_pos (by simpa using hk)]; simp
  · rw [if_neg hk, if_neg (by simpa using hk)]; simp
section
variable {q : Nat} {a a2 sa sa' ka ka' : Option Addr} {c c2 sc sc' kc kc' n d : Nat} {M : LgM} {B : List Pc} {w V w6 : World} {W : Nat → Prop} {o : Obj}
abbrev zlgbT (q : Nat) (a : Option Addr) (c : Nat) (a2 : Option Addr) (c2 n : Nat) (M : LgM) (sa : Option Addr) (sc : Nat) (ka : Option Addr) (kc d : Nat) (B : List Pc) : Thing :=
  (zlT q a c a2 c2 n M).sep ((ownT 51 2 sa d sc (rowOf encSp B)).sep (ownT 4 1 ka d kc (kindsV B)))
theorem zb_rd (hn : n = M.L.length) (H : Sit W w V (zlgbT q a c a2 c2 n M sa sc ka kc d B)) : ZlRd q a c a2 c2 n M V ∧ V.ownsRow 0 51 2 (.slice sa d sc) d (rowOf encSp B) ∧ V.ownsRow 0 4 1 (.slice ka d kc) d (kindsV B) := by
  obtain ⟨_, h1, _⟩ := H.fst
  obtain ⟨_, h2, _⟩ := H.snd.fst
  obtain ⟨_, h3, _⟩ := H.snd.snd.use
  exact ⟨zlT_rd hn h1, h2.1, h3.1⟩
/-- Both rows grow. -/
theorem zb_sp {f t : Int} (H : Sit W w V (zlgbT q a c a2 c2 n M sa sc ka kc d B)) (hown : w6.ownsRow 0 51 2 (.slice sa' (d + 1) sc') (d + 1) (rowOf encSp B ++ [.int .i64 f, .int .i64 t]))
    (hg : (V.alloc o).grownBy w6 (Value.slice sa d sc).ownBlock) (hat : (Value.slice sa' (d + 1) sc').ownBlock = (Value.slice sa d sc).ownBlock ∨ (Value.slice sa' (d + 1) sc').ownBlock = some (V.alloc o).heap.size) :
    Hid (Sit W w w6 ((zlT q a c a2 c2 n M).sep ((ownT 51 2 sa' (d + 1) sc' (rowOf encSp B ++ [.int .i64 f, .int .i64 t])).sep (ownT 4 1 ka d kc (kindsV B))))) := by
  obtain ⟨U, h1, h2⟩ := H.turn.fst
  exact Lib.hid (h2 _ _ (ownT_grown h1 hown hg hat)).turn
theorem zb_mid {f t : Int} (hn : n = M.L.length) (H : Sit W w V ((zlT q a c a2 c2 n M).sep ((ownT 51 2 sa' (d + 1) sc' (rowOf encSp B ++ [.int .i64 f, .int .i64 t])).sep (ownT 4 1 ka d kc (kindsV B))))) :
    ZlRd q a c a2 c2 n M V ∧ V.ownsRow 0 4 1 (.slice ka d kc) d (kindsV B) := by
  obtain ⟨_, h1, _⟩ := H.fst
  obtain ⟨_, h3, _⟩ := H.snd.snd.use
  exact ⟨zlT_rd hn h1, h3.1⟩
theorem zb_kd {f t : Int} {k : Bool} (H : Sit W w V ((zlT q a c a2 c2 n M).sep ((ownT 51 2 sa' (d + 1) sc' (rowOf encSp B ++ [.int .i64 f, .int .i64 t])).sep (ownT 4 1 ka d kc (kindsV B)))))
    (hown : w6.ownsRow 0 4 1 (.slice ka' (d + 1) kc') (d + 1) (kindsV B ++ [.bool k]))
    (hg : (V.alloc o).grownBy w6 (Value.slice ka d kc).ownBlock) (hat : (Value.slice ka' (d + 1) kc').ownBlock = (Value.slice ka d kc).ownBlock ∨ (Value.slice ka' (d + 1) kc').ownBlock = some (V.alloc o).heap.size) :
    Hid (Sit W w w6 (zlgbT q a c a2 c2 n M sa' sc' ka' kc' (d + 1) (B ++ [(f, t, k)]))) := by
  have H1 := H.imp (B := (ownT 4 1 ka d kc (kindsV B)).sep ((zlT q a c a2 c2 n M).sep (ownT 51 2 sa' (d + 1) sc' (rowOf encSp B ++ [.int .i64 f, .int .i64 t])))) (fun h => sep_swap (sep_assoc' h))
  obtain ⟨U, h1, h2⟩ := H1.fst
  have H2 := h2 _ _ (ownT_grown h1 hown hg hat)
  have e1 : rowOf encSp (B ++ [(f, t, k)]) = rowOf encSp B ++ [.int .i64 f, .int .i64 t] := by rw [rowOf_append, rowOf_cons, rowOf_nil, List.append_nil]; rfl
  have e2 : kindsV (B ++ [(f, t, k)]) = kindsV B ++ [.bool k] := by simp [kindsV]
  refine Lib.hid (H2.imp (fun h => ?_))
  unfold zlgbT
  rw [e1, e2]
  exact sep_assoc (sep_swap h)
/-- They come into the ledger. -/
theorem zb_end (hd : d = B.length) (H : Sit W w V (zlgbT q a c a2 c2 n M sa sc ka kc d B)) :
    (V.cell? ⟨q, 1, none⟩ = some (.slice a n c) ∧ V.frozen? ⟨q, 1, none⟩ = false ∧ (V.setCell ⟨q, 1, none⟩ (.slice sa d sc)).cell? ⟨q, 2, none⟩ = some (.slice a2 n c2) ∧ (V.setCell ⟨q, 1, none⟩ (.slice sa d sc)).frozen? ⟨q, 2, none⟩ = false) ∧
    Hid (Goes (zLT q ⟨M.b, B⟩) W w ((V.setCell ⟨q, 1, none⟩ (.slice sa d sc)).setCell ⟨q, 2, none⟩ (.slice ka d kc))) := by
  obtain ⟨h1, h2, h3⟩ := sit_row (o := 1) H.assoc rfl (.slice sa d sc)
  obtain ⟨h4, h5, h6⟩ := sit_row (o := 2) h3.out rfl (.slice ka d kc)
  refine ⟨⟨h1, h2, h4, h5⟩, Lib.hid (((h6.out.imp (fun h => sep_assoc' (sep_imp2 (fun h => h) (fun h => sep_swap h) h))).drop).goes.turn (fun h => ⟨sa, sc, ka, kc, ?_⟩))⟩
  show (zlT q sa sc ka kc B.length ⟨M.b, B⟩).at_ _ _
  rw [← hd]
  exact h
theorem zb_start (h : (zlT q a c a2 c2 n M).at_ w W) : Sit W w ((w.alloc (.cells #[] 51)).alloc (.cells #[] 4)) (zlgbT q a c a2 c2 n M (some ⟨w.heap.size, 0, none⟩) 0 (some ⟨w.heap.size + 1, 0, none⟩) 0 0 []) := by
  have H1 := (Sit.start h).new (ownT_new w 51 2)
  have H2 := H1.new (ownT_new (w.alloc (.cells #[] 51)) 4 1)
  have e : (w.alloc (.cells #[] 51)).heap.size = w.heap.size + 1 := by simp
  rw [e] at H2
  exact H2.assoc

end
end Go.Proofs.Ytdlkdagmaeapdaa
