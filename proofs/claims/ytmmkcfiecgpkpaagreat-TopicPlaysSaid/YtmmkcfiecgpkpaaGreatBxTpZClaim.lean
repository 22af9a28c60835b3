/- Texts that lie next to one another, laid into one: each says what it holds. No condition but what each states. -/
import Derived.Test.YtmmkcfiecgpkpaaGreatBxTpZPart
import Derived.Test.YtmmkcfiecgpkpaaGreatBdPtRef

/- What a claim does to the document's set. No condition but that the set is one. -/
namespace Go.Proofs.YtmmkcfiecgpkpaaGreat
open Go.RowKit
set_option linter.unusedVariables false
set_option linter.unusedSimpArgs false
set_option maxRecDepth 100000

theorem zputP_same {T : List TpM} {t p : Nat} {M : RM} (h : prt T t p = some M) : putP T t p M = T := by
  obtain ⟨x, h1, h2⟩ := prt_some h
  have hp : x.ps.set p M = x.ps := by
    apply List.ext_getElem?
    intro i
    by_cases e : p = i
    · subst e; rw [List.getElem?_set_self (List.getElem?_eq_some_iff.1 h2).1, h2]
    · rw [List.getElem?_set_ne e]
  unfold putP
  simp only [h1, hp]
  apply List.ext_getElem?
  intro i
  by_cases e : t = i
  · subst e; rw [List.getElem?_set_self (List.getElem?_eq_some_iff.1 h1).1, h1]
  · rw [List.getElem?_set_ne e]

section
variable {w w' w0 : World} {Q0 W : Nat → Prop} {A B R : Thing}
/-- A box is set. -/
theorem Sit.zboxSet {b : Nat} {xs : List Value} {e : TypeId} (h : Sit Q0 w0 w (A.sep (blkT b xs e))) (o : Nat) (v : Value) : Sit Q0 w0 (w.setCell ⟨b, o, none⟩ v) (A.sep (blkT b (xs.set o v) e)) := by
  obtain ⟨W, ⟨hb, hW⟩, hg⟩ := h.swap.fst
  exact (hg (blkT b (xs.set o v) e) _ ⟨W, ⟨hb.set o v, hW⟩, (Turned.refl W w).setCell (p := ⟨b, o, none⟩) (.inl ((hW b).2 rfl)) _, fun _ h => .inl h⟩).swap
theorem Sit.zboxAt {b : Nat} {xs : List Value} {e : TypeId} (h : Sit Q0 w0 w (A.sep (blkT b xs e))) : Blk w b xs e := by obtain ⟨W, ⟨hb, _⟩, _⟩ := h.snd; exact hb
end

section
variable {s q : Nat} {L : List (List Nat)} {S : StM} {X : List Int} {N K : Nat}
/-- A partition's own claim, as one of the set. -/
theorem zsetT_claim {V : World} {W : Nat → Prop} (h : (setT zhT zT zXT s q L S).at_ V W) (hf : Fits L S.T) (hO : S.Ok X N K) (hN : N < 900000) (hK : K < 900000) {t p x : Nat} {xs : List Nat} {M : RM} (hm : prt S.T t p = some M) (h1 : L[t]? = some xs) (h2 : xs[p]? = some x) (n : Int) (hn : w64 n) :
    Calls Tryz.prog 49 #[.pointer (some ⟨x, 0, none⟩), .int .i64 n] V fun e w' => e = .returned (.tuple #[.int .i64 (ptClA S.P M n), .int .i64 (ptClH S.P M n), .int .i64 (ptClE S.P M n)]) ∧ Goes (setT zhT zT zXT s q L ⟨ptClP S.P M n, putP S.T t p (ptClM S.P M n)⟩) W V w' := by
  have h3 := set_open hf hm h1 h2 h
  obtain ⟨W1, g1, g2, g3⟩ := goes_fst h3
  obtain ⟨hM, hI⟩ := hO.at hm
  obtain ⟨U1, U2, u1, ⟨r, u2⟩, u3, u4⟩ := g1
  have g1' : (zsT q S.P x r M).at_ V W1 := ⟨U1, U2, u1, u2, u3, u4⟩
  have hc := zxclaim_any g1' hI hO.ok hM hN (by omega) n
  unfold ClaimEnd at hc
  exact hc.mono fun e w' ⟨he, hg⟩ => ⟨he, (g3 _ _ (hg.turn (B := (zT q (ptClP S.P M n)).sep (zXT x q (ptClM S.P M n))) (fun h => by
    obtain ⟨V1, V2, v1, v2, v3, v4⟩ := h
    exact ⟨V1, V2, v1, ⟨r, v2⟩, v3, v4⟩))).turn (fun h => set_shut hf hm h1 h2 h)⟩

set_option maxHeartbeats 4000000 in
theorem zztclaim_any {w : World} {W : Nat → Prop} (h : (setT zhT zT zXT s q L S).at_ w W) (hf : Fits L S.T) (hO : S.Ok X N K) (hN : N < 900000) (hK : K < 900000) (l : Txt) (hl : l.length ≤ 300)
    (k : List UInt8) (ao : Option Addr) (m cap : Nat) (hm : m = k.length) (hA : BytesAt w ao k) (hW : SlW ao m cap) (hmx : m ≤ 100) (n : Int) (hn : w64 n) :
    Calls Tryz.prog 21 #[.pointer (some ⟨s, 0, none⟩), tx l, .slice ao m cap, .int .i64 n] w fun e w' => e = .returned (.tuple #[plcA (tclT S l k n) (tclP S l k n), .int .i64 (tclA S l k n), .int .i64 (tclH S l k n), .int .i64 (tclE S l k n)]) ∧ Goes (setT zhT zT zXT s q L (tclM S l k n)) W w w' := by
  have hw1 : Still w (w.alloc (.cells #[.int .i64 0, .int .i64 0] 25)) := (Turned.refl _ _).alloc _
  have HS1 := Lib.hid ((Sit.start h).box [.int .i64 0, .int .i64 0] 25)
  have HHd := Lib.hid (fun V (hs : Sit W w V ((setT zhT zT zXT s q L S).sep (blkT w.heap.size [.int .i64 0, .int .i64 0] 25))) => show ∃ U, (zhT s q (S.T.map (·.nm)) L).at_ V U from by
    obtain ⟨U, ⟨U1, _, h1, _⟩, _⟩ := hs.fst; exact ⟨U1, h1⟩)
  have HRt := Lib.hid (show Calls Tryz.prog 19 #[.pointer (some ⟨s, 0, none⟩), tx l, .slice ao m cap] (w.alloc (.cells #[.int .i64 0, .int .i64 0] 25)) fun e w' => e = .returned (.tuple #[plcA (routT S.T l k) (routP S.T l k), .int .i64 (routE S.T l k)]) ∧ Still (w.alloc (.cells #[.int .i64 0, .int .i64 0] 25)) w' from by
    obtain ⟨U, h1⟩ := HHd.out _ HS1.out
    obtain ⟨a', c', Z', z1, z2, hr⟩ := zhT_rd h1
    exact zztroute_any hr z1 z2 hf hO.len hO.nps l hl k ao m cap hm (hA.still hw1) hmx)
  by_cases h0 : routE S.T l k = 0
  · obtain ⟨t, p, e1, e2, hpr, ht16, hp8⟩ := rout_ok hO h0
    obtain ⟨xs, x, ps, g1, g2, g3, g4⟩ := fits_at hf hpr
    have eE : tclE S l k n = ptClE S.P (rtM S.T l k) n := by unfold tclE; rw [if_neg (by simp [h0])]
    rw [e1, e2, h0] at HRt
    have HPt := Lib.hid (fun V (hs : Sit W w V ((setT zhT zT zXT s q L S).sep (blkT w.heap.size [.int .i64 0, .int .i64 0] 25))) => show Calls Tryz.prog 23 #[.pointer (some ⟨s, 0, none⟩), .agg #[.int .i64 (t : Nat), .int .i64 (p : Nat)]] V fun e w' => e = .returned (.tuple #[.pointer (some ⟨x, 0, none⟩), .int .i64 0]) ∧ Still V w' from by
      obtain ⟨U, h1⟩ := HHd.out V hs
      obtain ⟨a', c', Z', z1, z2, hr⟩ := zhT_rd h1
      have hL := hO.len
      have e0 : (Z'.map (·.2.2.2))[t]? = some xs := by rw [z2]; exact g1
      rw [List.getElem?_map] at e0
      cases hz : Z'[t]? with
      | none => rw [hz] at e0; cases e0
      | some z =>
        rw [hz] at e0
        have ez : z.2.2.2 = xs := by simpa using e0
        exact zztpart_ok hr (by rw [(zfd_of z1 []).2]; exact hL) (fun z' hz' => by
          obtain ⟨i, hi, rfl⟩ := List.mem_iff_getElem.1 hz'
          obtain ⟨y, h3, h4, _⟩ := zz_len z2 hf (List.getElem?_eq_getElem hi)
          rw [h4]
          exact (hO.nps y (List.mem_of_getElem? h3)).2) hz (by rw [ez]; exact g2))
    have HCl := Lib.hid (fun V (R : Thing) (hs : Sit W w V ((setT zhT zT zXT s q L S).sep R)) => by
      obtain ⟨U, h1, h2⟩ := hs.fst
      exact (zsetT_claim h1 hf hO hN hK hpr g1 g2 n hn).mono (fun e w' (he : _ ∧ _) => And.intro he.1 (h2 _ _ he.2)))
    have HEnd := Lib.hid (fun V (S' : StM) (u : Nat) (hs : Sit W w V ((setT zhT zT zXT s q L S').sep ((blkT w.heap.size [.int .i64 0, .int .i64 0] 25).sep (blkT u [.int .i64 (t : Nat), .int .i64 (p : Nat)] 25)))) =>
      show Hid (∀ x y : Int, (V.setCell ⟨w.heap.size, 0, none⟩ (.int .i64 x)).cell? ⟨w.heap.size, 0, none⟩ = some (.int .i64 x) ∧ ((V.setCell ⟨w.heap.size, 0, none⟩ (.int .i64 x)).setCell ⟨w.heap.size, 1, none⟩ (.int .i64 y)).cell? ⟨w.heap.size, 1, none⟩ = some (.int .i64 y) ∧ Goes (setT zhT zT zXT s q L S') W w ((V.setCell ⟨w.heap.size, 0, none⟩ (.int .i64 x)).setCell ⟨w.heap.size, 1, none⟩ (.int .i64 y))) ∧
        (V.cell? ⟨w.heap.size, 0, none⟩ = some (.int .i64 0) ∧ V.cell? ⟨w.heap.size, 1, none⟩ = some (.int .i64 0) ∧ V.frozen? ⟨w.heap.size, 0, none⟩ = false ∧ V.frozen? ⟨w.heap.size, 1, none⟩ = false) ∧ V.cell? ⟨u, 0, none⟩ = some (.int .i64 (t : Nat)) ∧ V.cell? ⟨u, 1, none⟩ = some (.int .i64 (p : Nat)) from by
        have h2 := hs.assoc'.swap.assoc'
        have hb := h2.zboxAt
        have hp := hs.assoc'.zboxAt
        exact ⟨Lib.hid (fun x y => ⟨((h2.zboxSet 0 (.int .i64 x)).zboxAt).cell (o := 0) rfl, (((h2.zboxSet 0 (.int .i64 x)).zboxSet 1 (.int .i64 y)).zboxAt).cell (o := 1) rfl, ((h2.zboxSet 0 (.int .i64 x)).zboxSet 1 (.int .i64 y)).drop.snd.goes⟩), ⟨hb.cell rfl, hb.cell rfl, hb.free _, hb.free _⟩, hp.cell rfl, hp.cell rfl⟩)
    have HB3 := Lib.hid (fun V (hs : Still (w.alloc (.cells #[.int .i64 0, .int .i64 0] 25)) V) => show Sit W w (V.alloc (.cells #[.int .i64 (t : Nat), .int .i64 (p : Nat)] 25)) (((setT zhT zT zXT s q L S).sep (blkT w.heap.size [.int .i64 0, .int .i64 0] 25)).sep (blkT V.heap.size [.int .i64 (t : Nat), .int .i64 (p : Nat)] 25)) from
      (HS1.out.still hs).box [.int .i64 (t : Nat), .int .i64 (p : Nat)] 25)
    unfold tclT tclP tclA tclH tclM
    rw [eE, e1, e2]
    by_cases hc : ptClE S.P (rtM S.T l k) n = 0
    · rw [hc] at HCl ⊢
      simp only [ne_eq, not_true_eq_false, if_false, Int.toNat_natCast]
      have HS' := Lib.hid (fun V (R : Thing) (hs : Sit W w V ((setT zhT zT zXT s q L ⟨ptClP S.P (rtM S.T l k) n, putP S.T t p (ptClM S.P (rtM S.T l k) n)⟩).sep R)) => hs)
      generalize (⟨ptClP S.P (rtM S.T l k) n, putP S.T t p (ptClM S.P (rtM S.T l k) n)⟩ : StM) = S' at *
      generalize ptClA S.P (rtM S.T l k) n = at_ at *
      generalize ptClH S.P (rtM S.T l k) n = hd at *
      unfold tx at *
      clear h hf hO hN hK hm hA hW hw1 h0 e1 e2 hpr g1 g2 g3 g4 eE hc hn HS'
      go_enter Tryz.func21, Tryz.ntmps21
      go_wp2_with (first
        | (go_at_call 19; ((with_reducible refine HRt.out.mono ?_)); rintro e w2 ⟨rfl, hs⟩; have H3 := Lib.hid (HB3.out w2 hs); clear hs)
        | (go_at_call 23; ((with_reducible refine (HPt.out _ H3.out.drop).mono ?_)); rintro e w3 ⟨rfl, hs⟩; have H4 := Lib.hid (H3.out.still hs).assoc; clear hs)
        | (go_at_call 49; ((with_reducible refine (HCl.out _ _ H4.out).mono ?_)); rintro e w4 ⟨rfl, hs⟩; obtain ⟨HF, ⟨b1, b2, b3, b4⟩, p0, p1⟩ := HEnd.out w4 _ _ hs; clear hs))
      obtain ⟨d1, d2, d3⟩ := HF.out (t : Nat) (p : Nat)
      exact bodyPost_ret (v := .tuple #[.agg #[.int .i64 (t : Nat), .int .i64 (p : Nat)], .int .i64 at_, .int .i64 hd, .int .i64 0]) (by simp [results, Tryz.results21, go_sem, d1, d2]) rfl ⟨rfl, d3⟩
    · rw [show (⟨ptClP S.P (rtM S.T l k) n, putP S.T t p (ptClM S.P (rtM S.T l k) n)⟩ : StM) = S from by
        unfold ptClP ptClM; rw [if_pos hc, if_pos hc, zputP_same hpr]] at HCl
      rw [if_pos hc, if_pos hc, if_pos hc, if_pos hc, if_pos hc]
      generalize ptClE S.P (rtM S.T l k) n = er at *
      generalize ptClA S.P (rtM S.T l k) n = at_ at *
      generalize ptClH S.P (rtM S.T l k) n = hd at *
      unfold tx at *
      clear h hf hO hN hK hm hA hW hw1 h0 e1 e2 hpr g1 g2 g3 g4 eE hn
      go_enter Tryz.func21, Tryz.ntmps21
      go_wp2_with (first
        | (go_at_call 19; ((with_reducible refine HRt.out.mono ?_)); rintro e w2 ⟨rfl, hs⟩; have H3 := Lib.hid (HB3.out w2 hs); clear hs)
        | (go_at_call 23; ((with_reducible refine (HPt.out _ H3.out.drop).mono ?_)); rintro e w3 ⟨rfl, hs⟩; have H4 := Lib.hid (H3.out.still hs).assoc; clear hs)
        | (go_at_call 49; ((with_reducible refine (HCl.out _ _ H4.out).mono ?_)); rintro e w4 ⟨rfl, hs⟩; obtain ⟨HF, ⟨b1, b2, b3, b4⟩, p0, p1⟩ := HEnd.out w4 _ _ hs; clear hs))
      obtain ⟨d1, d2, d3⟩ := HF.out 0 0
      exact bodyPost_ret (v := .tuple #[.agg #[.int .i64 0, .int .i64 0], .int .i64 0, .int .i64 0, .int .i64 er]) (by simp [results, Tryz.results21, go_sem, d1, d2]) rfl ⟨rfl, d3⟩
  · have eE : tclE S l k n = routE S.T l k := by unfold tclE; rw [if_pos h0]
    have eT : routT S.T l k = 0 := by unfold routT; rw [if_pos h0]
    have eP : routP S.T l k = 0 := by unfold routP; rw [if_pos h0]
    unfold tclT tclP tclA tclH tclM
    rw [eE, eT, eP, if_pos h0, if_pos h0, if_pos h0, if_pos h0]
    rw [eT, eP] at HRt
    have HB3 := Lib.hid (fun V (hs : Still (w.alloc (.cells #[.int .i64 0, .int .i64 0] 25)) V) => show Hid (∀ x y : Int, ((V.alloc (.cells #[.int .i64 0, .int .i64 0] 25)).setCell ⟨w.heap.size, 0, none⟩ (.int .i64 x)).cell? ⟨w.heap.size, 0, none⟩ = some (.int .i64 x) ∧ (((V.alloc (.cells #[.int .i64 0, .int .i64 0] 25)).setCell ⟨w.heap.size, 0, none⟩ (.int .i64 x)).setCell ⟨w.heap.size, 1, none⟩ (.int .i64 y)).cell? ⟨w.heap.size, 1, none⟩ = some (.int .i64 y) ∧ Goes (setT zhT zT zXT s q L S) W w (((V.alloc (.cells #[.int .i64 0, .int .i64 0] 25)).setCell ⟨w.heap.size, 0, none⟩ (.int .i64 x)).setCell ⟨w.heap.size, 1, none⟩ (.int .i64 y))) ∧
        ((V.alloc (.cells #[.int .i64 0, .int .i64 0] 25)).cell? ⟨w.heap.size, 0, none⟩ = some (.int .i64 0) ∧ (V.alloc (.cells #[.int .i64 0, .int .i64 0] 25)).cell? ⟨w.heap.size, 1, none⟩ = some (.int .i64 0) ∧ (V.alloc (.cells #[.int .i64 0, .int .i64 0] 25)).frozen? ⟨w.heap.size, 0, none⟩ = false ∧ (V.alloc (.cells #[.int .i64 0, .int .i64 0] 25)).frozen? ⟨w.heap.size, 1, none⟩ = false) from by
        have h2 := ((HS1.out.still hs).box [.int .i64 0, .int .i64 0] 25).drop
        have hb := h2.zboxAt
        exact ⟨Lib.hid (fun x y => ⟨((h2.zboxSet 0 (.int .i64 x)).zboxAt).cell (o := 0) rfl, (((h2.zboxSet 0 (.int .i64 x)).zboxSet 1 (.int .i64 y)).zboxAt).cell (o := 1) rfl, ((h2.zboxSet 0 (.int .i64 x)).zboxSet 1 (.int .i64 y)).drop.goes⟩), ⟨hb.cell rfl, hb.cell rfl, hb.free _, hb.free _⟩⟩)
    generalize routE S.T l k = er at *
    unfold tx at *
    clear h hf hO hN hK hm hA hW hw1 eE eT eP hn
    go_enter Tryz.func21, Tryz.ntmps21
    go_wp2_with (go_at_call 19; ((with_reducible refine HRt.out.mono ?_)); rintro e w2 ⟨rfl, hs⟩; obtain ⟨HF, ⟨b1, b2, b3, b4⟩⟩ := HB3.out w2 hs; clear hs)
    obtain ⟨d1, d2, d3⟩ := HF.out 0 0
    exact bodyPost_ret (v := .tuple #[.agg #[.int .i64 0, .int .i64 0], .int .i64 0, .int .i64 0, .int .i64 er]) (by simp [results, Tryz.results21, go_sem, d1, d2]) rfl ⟨rfl, d3⟩
end
end Go.Proofs.YtmmkcfiecgpkpaaGreat
