/- Texts that lie next to one another, laid into one: each says what it holds. No condition but what each states. -/
import Derived.Test.YtmmkcfiecgpkpaaGreatBdPlain
import Derived.Test.YtmmkcfiecgpkpaaGreatBxSit
import Derived.Test.YtmmkcfiecgpkpaaGreatBdPoolZ
import Derived.Test.YtmmkcfiecgpkpaaGreatBdRingZ
import Derived.StillTailTactics

/- The document's partition, as it lies in memory: a pool, a ring, and what holds both. What Fill, Read and Peek do. No condition but that it is one. -/
namespace Go.Proofs.YtmmkcfiecgpkpaaGreat
open Go.RowKit
set_option linter.unusedVariables false
set_option linter.unusedSimpArgs false
set_option maxRecDepth 100000

theorem Sit.last {Q0 : Nat → Prop} {w0 w : World} {A B C : Thing} (h : Sit Q0 w0 w (A.sep (B.sep C))) : Sit Q0 w0 w (C.sep (A.sep B)) := h.assoc'.swap
theorem Sit.unlast {Q0 : Nat → Prop} {w0 w : World} {A B C : Thing} (h : Sit Q0 w0 w (C.sep (A.sep B))) : Sit Q0 w0 w (A.sep (B.sep C)) := h.swap.assoc
theorem Sit.callLast {Q0 : Nat → Prop} {w0 w : World} {A B C C' : Thing} (H : Sit Q0 w0 w (A.sep (B.sep C))) {f : FuncId} {args : Array Value} {v : Value}
    (hc : ∀ W, C.at_ w W → Calls Tryz.prog f args w fun e w' => e = .returned v ∧ Goes C' W w w') : Calls Tryz.prog f args w fun e w' => e = .returned v ∧ Sit Q0 w0 w' (A.sep (B.sep C')) :=
  (H.last.call hc).mono fun e w' ⟨he, h⟩ => ⟨he, h.unlast⟩
theorem Sit.readLast {Q0 : Nat → Prop} {w0 w : World} {A B C : Thing} (H : Sit Q0 w0 w (A.sep (B.sep C))) {f : FuncId} {args : Array Value} {v : Value}
    (hc : ∀ W, C.at_ w W → Calls Tryz.prog f args w fun e w' => e = .returned v ∧ Still w w') : Calls Tryz.prog f args w fun e w' => e = .returned v ∧ Sit Q0 w0 w' (A.sep (B.sep C)) :=
  (H.last.read hc).mono fun e w' ⟨he, h⟩ => ⟨he, h.unlast⟩

/-- The document's partition, without its pool. -/
abbrev zxT (x q r : Nat) (M : RM) : Thing := (blkT x [.pointer (some ⟨q, 0, none⟩), .pointer (some ⟨r, 0, none⟩)] 57).sep (zrT r M)
abbrev zsT (q : Nat) (P : PM) (x r : Nat) (M : RM) : Thing := (zT q P).sep (zxT x q r M)

theorem zs_cells {Q0 : Nat → Prop} {w0 w : World} {q x r : Nat} {A R : Thing} (h : Sit Q0 w0 w (A.sep ((blkT x [.pointer (some ⟨q, 0, none⟩), .pointer (some ⟨r, 0, none⟩)] 57).sep R))) : w.cell? ⟨x, 0, none⟩ = some (.pointer (some ⟨q, 0, none⟩)) ∧ w.cell? ⟨x, 1, none⟩ = some (.pointer (some ⟨r, 0, none⟩)) := by
  obtain ⟨Q, ⟨W1, W2, _, ⟨V1, V2, v1, _, _, _⟩, _, _⟩, _⟩ := h
  exact ⟨v1.1.cell rfl, v1.1.cell rfl⟩
theorem zs_ring {Q0 : Nat → Prop} {w0 w : World} {q x r : Nat} {P : PM} {M : RM} (h : Sit Q0 w0 w (zsT q P x r M)) : ∃ la lc, M.l.length ≤ lc ∧ w.cell? ⟨r, 0, none⟩ = some (.int .i64 M.n) ∧ w.cell? ⟨r, 1, none⟩ = some (.int .i64 (polB M.ov)) ∧ w.cell? ⟨r, 2, none⟩ = some (.int .i64 M.h) ∧ w.cell? ⟨r, 3, none⟩ = some (.slice la M.l.length lc) ∧
    ∀ (k : Nat) (p : Plc), M.l[k]? = some p → ∃ g, la = some ⟨g, 0, none⟩ ∧ w.cell? ⟨g, k * 2, none⟩ = some (.int .i64 p.r) ∧ w.cell? ⟨g, k * 2 + 1, none⟩ = some (.bool p.d) := by
  obtain ⟨Q, ⟨W1, W2, _, ⟨V1, V2, _, ⟨la, lc, hr⟩, _, _⟩, _, _⟩, _⟩ := h
  obtain ⟨c0, c1, c2, c3⟩ := hr.cells
  refine ⟨la, lc, (ow_le hr.ls).1, c0, c1, c2, c3, fun k p hk => ?_⟩
  obtain ⟨g, e, d0, d1, _⟩ := hr.place hk
  exact ⟨g, e, d0, d1⟩
theorem zs_pool {Q0 : Nat → Prop} {w0 w : World} {q x r : Nat} {P : PM} {M : RM} (h : Sit Q0 w0 w (zsT q P x r M)) : ∃ fa fc cb, w.cell? ⟨q, 4, none⟩ = some (.int .i64 P.size) ∧ w.cell? ⟨q, 3, none⟩ = some (.slice (some fa) P.fr.length fc) ∧ w.cell? ⟨q, 1, none⟩ = some (.slice (some ⟨cb, 0, none⟩) P.sl.length P.sl.length) ∧
    ∀ (k : Nat) (s : Slt), P.sl[k]? = some s → w.cell? ⟨cb, k, none⟩ = some (.int .i64 s.c) := by
  obtain ⟨Q, ⟨W1, W2, ⟨L, hz⟩, _, _, _⟩, _⟩ := h
  refine ⟨L.fa, L.fc, L.cb, hz.hd.cell rfl, hz.hd.cell rfl, hz.hd.cell rfl, fun k s hk => hz.cc.cell ?_⟩
  exact ints_get (nums_get (by rw [List.getElem?_map, hk]; rfl))

theorem getE_vals (M : RM) (a : Int) : M.getE a = 0 ∨ M.getE a = 2 ∨ M.getE a = 61 ∨ M.getE a = 5 ∨ M.getE a = 8 := by
  unfold RM.getE
  split
  · rcases RM.find_vals M a with h | h | h | h <;> rw [h] <;> simp
  · split <;> simp

end Go.Proofs.YtmmkcfiecgpkpaaGreat

/- What Trim of the document's partition does. No condition but that it is one. -/
namespace Go.Proofs.YtmmkcfiecgpkpaaGreat
open Go.RowKit
set_option linter.unusedVariables false
set_option linter.unusedSimpArgs false
set_option maxRecDepth 100000

theorem ptDrops_ok : ∀ {l : List Int} {P : PM} {N : Nat}, P.Ok N → (ptDrops P l).Ok (N + l.length)
  | [], P, N, h => h
  | x :: l, P, N, h => (ptDrops_ok (l := l) (h.drop x)).mono (by simp; omega)
theorem ptDrops_step {P : PM} {l : List Int} {k : Nat} {y : Int} (h : l[k]? = some y) : ptDrops P (l.take (k + 1)) = (ptDrops P (l.take k)).dropM y := by
  unfold ptDrops; rw [List.take_add_one, h, List.foldl_append]; rfl
theorem Sit.numsLast {Q0 : Nat → Prop} {w0 w : World} {A B T : Thing} {a : Option Addr} {l : List Int} (h : Sit Q0 w0 w (A.sep (B.sep (numsT T a l)))) : NumsAt w a l := by
  obtain ⟨Q, ⟨W1, W2, _, ⟨V1, V2, _, v2, _, _⟩, _, _⟩, _⟩ := h
  exact v2.2.2.1
theorem Sit.unnumLast {Q0 : Nat → Prop} {w0 w : World} {A B T : Thing} {a : Option Addr} {l : List Int} (h : Sit Q0 w0 w (A.sep (B.sep (numsT T a l)))) : Sit Q0 w0 w (A.sep (B.sep T)) := by
  obtain ⟨Q, ⟨W1, W2, h1, ⟨V1, V2, v1, ⟨⟨V3, v3, v4⟩, _⟩, vd, vW⟩, hd, hW⟩, hs⟩ := h
  refine ⟨fun k => W1 k ∨ V1 k ∨ V3 k, ⟨W1, fun k => V1 k ∨ V3 k, h1, ⟨V1, V3, v1, v3, fun k hk hk' => vd k hk (v4 k hk'), fun k => Iff.rfl⟩, fun k hk hk' => hd k hk ((vW k).2 (hk'.imp id (v4 k))), fun k => Iff.rfl⟩, hs.turn, fun k hk => hs.grow k ((hW k).2 ?_)⟩
  exact hk.imp id (fun h => (vW k).2 (h.imp id (v4 k)))

end Go.Proofs.YtmmkcfiecgpkpaaGreat

/- What Claim of the document's partition does. No condition but that it is one, and that its handles are counted. -/
namespace Go.Proofs.YtmmkcfiecgpkpaaGreat
open Go.RowKit
set_option linter.unusedVariables false
set_option linter.unusedSimpArgs false
set_option maxRecDepth 100000

theorem trim_one {M : RM} {K : Nat} (hM : M.Ok K) (hf : M.l.length = M.n) (hd : M.hdp.d = true) : M.trimE ((M.h + 1 : Nat) : Int) = 0 ∧ M.trimL ((M.h + 1 : Nat) : Int) = [M.hdp.r] ∧ M.trimM ((M.h + 1 : Nat) : Int) = { M with h := M.h + 1, l := M.l.drop 1 } := by
  have hp := hM.pos
  have hc : M.cut ((M.h + 1 : Nat) : Int) = 1 := by unfold RM.cut; omega
  have h1 : M.l.take 1 = [M.hdp] := by
    unfold RM.hdp
    cases hl : M.l with
    | nil => rw [hl] at hf; simp at hf; omega
    | cons p l => rfl
  have he : M.trimE ((M.h + 1 : Nat) : Int) = 0 := by
    unfold RM.trimE
    rw [if_neg (by unfold RM.tail; omega), hc, h1, if_pos (by simp [hd])]
  refine ⟨he, ?_, ?_⟩
  · unfold RM.trimL; rw [if_neg (fun hn => hn he), hc, h1]; rfl
  · unfold RM.trimM; rw [if_neg (fun hn => hn he), hc]
theorem claim_room {M : RM} {h : Int} (h1 : 1 ≤ h) (ht : M.tail < 1099511627776) (hr : M.l.length ≠ M.n) : M.claimE h = 0 ∧ M.claimA h = M.tail ∧ M.claimW h = 0 ∧ M.claimM h = { M with l := M.l ++ [⟨h, false⟩] } := by
  have he : M.claimE h = 0 := by unfold RM.claimE; rw [if_neg (by omega), if_neg (by omega), if_neg (fun hh => hr hh.1)]
  refine ⟨he, ?_, ?_, ?_⟩
  · unfold RM.claimA; rw [if_neg (fun hn => hn he)]
  · unfold RM.claimW; rw [if_neg (fun hn => hn he), if_neg hr]
  · unfold RM.claimM; rw [if_neg (fun hn => hn he), if_neg hr]

/-- What the last two calls of a claim leave. -/
def ClaimEnd (W : Nat → Prop) (w : World) (q x r : Nat) (P : PM) (M : RM) (n : Int) (e : Ending) (w' : World) : Prop :=
  e = .returned (.tuple #[.int .i64 (ptClA P M n), .int .i64 (ptClH P M n), .int .i64 (ptClE P M n)]) ∧ Goes (zsT q (ptClP P M n) x r (ptClM P M n)) W w w'

theorem claim_refused {W : Nat → Prop} {w w' : World} {q x r : Nat} {P : PM} {M : RM} {n : Int} {er : Int} (he : ptClE P M n = er) (h0 : er ≠ 0) (h : Sit W w w' (zsT q P x r M)) : ClaimEnd W w q x r P M n (.returned (.tuple #[.int .i64 0, .int .i64 0, .int .i64 er])) w' := by
  have hn : ptClE P M n ≠ 0 := by omega
  refine ⟨?_, ?_⟩
  · rw [show ptClA P M n = 0 from if_pos hn, show ptClH P M n = 0 from if_pos hn, he]
  · rw [show ptClP P M n = P from if_pos hn, show ptClM P M n = M from if_pos hn]
    exact h.goes/-! The ways. -/

theorem zs_full {Q0 : Nat → Prop} {w0 w : World} {q x r : Nat} {P : PM} {M : RM} (h : Sit Q0 w0 w (zsT q P x r M)) {nn : Nat} {hr : Int} {ov hd : Bool} (e1 : M.n = nn) (e2 : M.l.length = nn) (e3 : M.ov = ov) (e4 : M.hdp = ⟨hr, hd⟩) (h1 : 1 ≤ nn) :
    w.cell? ⟨r, 0, none⟩ = some (.int .i64 nn) ∧ w.cell? ⟨r, 1, none⟩ = some (.int .i64 (polB ov)) ∧ w.cell? ⟨r, 2, none⟩ = some (.int .i64 M.h) ∧ ∃ g lc, nn ≤ lc ∧ w.cell? ⟨r, 3, none⟩ = some (.slice (some ⟨g, 0, none⟩) nn lc) ∧ w.cell? ⟨g, 0, none⟩ = some (.int .i64 hr) ∧ w.cell? ⟨g, 1, none⟩ = some (.bool hd) := by
  obtain ⟨la, lc, hlc, c0, c1, c2, c3, hp⟩ := zs_ring h
  obtain ⟨p0, hp0⟩ := get_some (l := M.l) (i := 0) (by omega)
  have e5 : p0 = ⟨hr, hd⟩ := by rw [← e4]; unfold RM.hdp; rw [hp0]; rfl
  obtain ⟨g, rfl, d0, d1⟩ := hp 0 p0 hp0
  rw [e5] at d0 d1
  rw [e1] at c0
  rw [e2] at c3 hlc
  rw [e3] at c1
  exact ⟨c0, c1, c2, g, lc, hlc, c3, d0, d1⟩
theorem slV_live {P : PM} {h : Int} (h0 : P.err h = 0) : slV h = .tuple #[.int .i64 ((hSlot h : Nat) : Int), .int .i64 0] := by
  obtain ⟨h1, _⟩ := PM.live h0
  unfold slV slOf isE hSlot
  rw [if_pos h1, if_pos h1, Int.toNat_of_nonneg (by omega)]

set_option maxHeartbeats 2000000 in
theorem zxclaim_arg {w : World} {W : Nat → Prop} {q x r : Nat} {P : PM} {M : RM} {N K : Nat} {X : List Int} (h0 : (zsT q P x r M).at_ w W) (hI : PtInv P (M.refs ++ X)) (hO : P.Ok N) (hM : M.Ok K) (hN : N < 900000) (hK : K < 1000000) (n : Int) (h : n < 0 ∨ 0 ≤ n ∧ (P.size : Int) < n) : Calls Tryz.prog 49 #[.pointer (some ⟨x, 0, none⟩), .int .i64 n] w (ClaimEnd W w q x r P M n) := by
  have HS := Lib.hid (Sit.start h0)
  obtain ⟨c0, c1⟩ := zs_cells HS.out
  obtain ⟨pa, pc, pcb, p4, _⟩ := zs_pool HS.out
  rcases h with h | ⟨h, h2⟩
  · have HE := Lib.hid (claim_refused (w' := w) (show ptClE P M n = 2 from if_pos h) (by omega) HS.out)
    clear hI hO hM h0
    go_enter Tryz.func49, Tryz.ntmps49
    go_wp2_with fail
    go_ret3
    exact HE.out
  · have hn : ¬ n < 0 := by omega
    have HE := Lib.hid (claim_refused (w' := w) (show ptClE P M n = 3 by unfold ptClE; rw [if_neg hn, if_pos h2]) (by omega) HS.out)
    generalize (P.size : Int) = sz at *
    clear hI hO hM h0
    go_enter Tryz.func49, Tryz.ntmps49
    go_wp2_with fail
    go_ret3
    exact HE.out

set_option maxHeartbeats 2000000 in
theorem zxclaim_block {w : World} {W : Nat → Prop} {q x r : Nat} {P : PM} {M : RM} {N K : Nat} {X : List Int} (h0 : (zsT q P x r M).at_ w W) (hI : PtInv P (M.refs ++ X)) (hO : P.Ok N) (hM : M.Ok K) (hN : N < 900000) (hK : K < 1000000) (n : Int) (hn1 : ¬ n < 0) (hn2 : ¬ (P.size : Int) < n) (hf : M.l.length = M.n) (hov : M.ov = false) : Calls Tryz.prog 49 #[.pointer (some ⟨x, 0, none⟩), .int .i64 n] w (ClaimEnd W w q x r P M n) := by
  have HS := Lib.hid (Sit.start h0)
  obtain ⟨c0, c1⟩ := zs_cells HS.out
  have HTl := Lib.hid (HS.out.readLast (fun _ h' => by obtain ⟨la, lc, h'⟩ := h'; exact zrtail_any h' hM hK))
  obtain ⟨pa, pc, pcb, p4, _⟩ := zs_pool HS.out
  have hlow := hM.low
  have hpos := hM.pos
  have hlen := hM.len
  have ht0 : ((M.tail : Nat) : Int) < 1000000 := by omega
  have ht1 : ¬ 1099511627776 ≤ ((M.tail : Nat) : Int) := by omega
  obtain ⟨nn, hnn⟩ : ∃ nn, M.n = nn := ⟨_, rfl⟩
  have hln : M.l.length = nn := by omega
  obtain ⟨⟨hr, hd⟩, hhd⟩ : ∃ p, M.hdp = p := ⟨_, rfl⟩
  have HE := Lib.hid (fun V (h : Sit W w V (zsT q P x r M)) => claim_refused (show ptClE P M n = 60 by unfold ptClE; rw [if_neg hn1, if_neg hn2, if_neg (by omega), if_pos ⟨hf, .inl hov⟩]) (by omega) h)
  have HFu := Lib.hid (fun V (h : Sit W w V (zsT q P x r M)) => zs_full h hnn hln hov hhd (by omega))
  simp only [polB] at HFu
  have hnn1 : 1 ≤ nn := by omega
  generalize (P.size : Int) = sz at *
  generalize ((M.tail : Nat) : Int) = tl at *
  clear h0 hI hO hM hN hK hf hov hhd hln hnn hlow hpos hlen HS
  go_enter Tryz.func49, Tryz.ntmps49
  go_wp2_with (go_at_call 58; ((with_reducible refine HTl.out.mono ?_)); rintro e w1 ⟨rfl, hs⟩; have H1 := Lib.hid hs; obtain ⟨d0, d1⟩ := zs_cells hs; obtain ⟨e0, e1, e2, g, lc, hlc, e3, e4, e5⟩ := HFu.out _ hs; have hg0 : (0 : Int) < (nn : Int) := (by omega); clear hs)
  go_quiet (fail)
  go_wp2_with fail
  go_ret3
  exact HE.out _ (H1.out.still ((Turned.refl _ _).drewN _))

set_option maxHeartbeats 2000000 in
theorem zxclaim_head {w : World} {W : Nat → Prop} {q x r : Nat} {P : PM} {M : RM} {N K : Nat} {X : List Int} (h0 : (zsT q P x r M).at_ w W) (hI : PtInv P (M.refs ++ X)) (hO : P.Ok N) (hM : M.Ok K) (hN : N < 900000) (hK : K < 1000000) (n : Int) (hn1 : ¬ n < 0) (hn2 : ¬ (P.size : Int) < n) (hf : M.l.length = M.n) (hov : M.ov = true) (hd0 : M.hdp.d = false) : Calls Tryz.prog 49 #[.pointer (some ⟨x, 0, none⟩), .int .i64 n] w (ClaimEnd W w q x r P M n) := by
  have HS := Lib.hid (Sit.start h0)
  obtain ⟨c0, c1⟩ := zs_cells HS.out
  have HTl := Lib.hid (HS.out.readLast (fun _ h' => by obtain ⟨la, lc, h'⟩ := h'; exact zrtail_any h' hM hK))
  obtain ⟨pa, pc, pcb, p4, _⟩ := zs_pool HS.out
  have hlow := hM.low
  have hpos := hM.pos
  have hlen := hM.len
  have ht0 : ((M.tail : Nat) : Int) < 1000000 := by omega
  have ht1 : ¬ 1099511627776 ≤ ((M.tail : Nat) : Int) := by omega
  obtain ⟨nn, hnn⟩ : ∃ nn, M.n = nn := ⟨_, rfl⟩
  have hln : M.l.length = nn := by omega
  obtain ⟨⟨hr, hd⟩, hhd⟩ : ∃ p, M.hdp = p := ⟨_, rfl⟩
  obtain rfl : hd = false := by rw [hhd] at hd0; exact hd0
  have HE := Lib.hid (fun V (h : Sit W w V (zsT q P x r M)) => claim_refused (show ptClE P M n = 60 by unfold ptClE; rw [if_neg hn1, if_neg hn2, if_neg (by omega), if_pos ⟨hf, .inr hd0⟩]) (by omega) h)
  have HFu := Lib.hid (fun V (h : Sit W w V (zsT q P x r M)) => zs_full h hnn hln hov hhd (by omega))
  simp only [polB] at HFu
  have hnn1 : 1 ≤ nn := by omega
  generalize (P.size : Int) = sz at *
  generalize ((M.tail : Nat) : Int) = tl at *
  clear h0 hI hO hM hN hK hf hov hhd hln hnn hlow hpos hlen HS hd0
  go_enter Tryz.func49, Tryz.ntmps49
  go_wp2_with (go_at_call 58; ((with_reducible refine HTl.out.mono ?_)); rintro e w1 ⟨rfl, hs⟩; have H1 := Lib.hid hs; obtain ⟨d0, d1⟩ := zs_cells hs; obtain ⟨e0, e1, e2, g, lc, hlc, e3, e4, e5⟩ := HFu.out _ hs; have hg0 : (0 : Int) < (nn : Int) := (by omega); clear hs)
  go_quiet (fail)
  go_wp2_with fail
  go_ret3
  exact HE.out _ (H1.out.still ((Turned.refl _ _).drewN _))

set_option maxHeartbeats 2000000 in
theorem zxclaim_none {w : World} {W : Nat → Prop} {q x r : Nat} {P : PM} {M : RM} {N K : Nat} {X : List Int} (h0 : (zsT q P x r M).at_ w W) (hI : PtInv P (M.refs ++ X)) (hO : P.Ok N) (hM : M.Ok K) (hN : N < 900000) (hK : K < 1000000) (n : Int) (hn1 : ¬ n < 0) (hn2 : ¬ (P.size : Int) < n) (hf : M.l.length ≠ M.n) (hfr : P.fr = []) : Calls Tryz.prog 49 #[.pointer (some ⟨x, 0, none⟩), .int .i64 n] w (ClaimEnd W w q x r P M n) := by
  have HS := Lib.hid (Sit.start h0)
  obtain ⟨c0, c1⟩ := zs_cells HS.out
  have HTl := Lib.hid (HS.out.readLast (fun _ h' => by obtain ⟨la, lc, h'⟩ := h'; exact zrtail_any h' hM hK))
  obtain ⟨pa, pc, pcb, p4, _⟩ := zs_pool HS.out
  have hlow := hM.low
  have hpos := hM.pos
  have hlen := hM.len
  have ht0 : ((M.tail : Nat) : Int) < 1000000 := by omega
  have ht1 : ¬ 1099511627776 ≤ ((M.tail : Nat) : Int) := by omega
  obtain ⟨nn, hnn⟩ : ∃ nn, M.n = nn := ⟨_, rfl⟩
  obtain ⟨L, hL⟩ : ∃ L, M.l.length = L := ⟨_, rfl⟩
  have hb1 : ((L : Int) == (nn : Int)) = false := by rw [beq_eq_false_iff_ne]; omega
  have hb2 : (L == nn) = false := by rw [beq_eq_false_iff_ne]; omega
  have HE := Lib.hid (fun V (h : Sit W w V (zsT q P x r M)) => claim_refused (show ptClE P M n = 50 by unfold ptClE; rw [if_neg hn1, if_neg hn2, if_neg (by omega), if_neg (fun hh => hf hh.1), if_pos ⟨hfr, .inl hf⟩]) (by omega) h)
  have HRn := Lib.hid (fun V (h : Sit W w V (zsT q P x r M)) => zs_ring h)
  have HPo := Lib.hid (fun V (h : Sit W w V (zsT q P x r M)) => zs_pool h)
  have hz : P.fr.length = 0 := by rw [hfr]; rfl
  rw [hL, hnn] at HRn
  rw [hz] at HPo
  generalize (P.size : Int) = sz at *
  generalize ((M.tail : Nat) : Int) = tl at *
  clear h0 hI hO hM hN hK hf hL hnn hlow hpos hlen HS hfr hz
  go_enter Tryz.func49, Tryz.ntmps49
  go_wp2_with (go_at_call 58; ((with_reducible refine HTl.out.mono ?_)); rintro e w1 ⟨rfl, hs⟩; have H1 := Lib.hid hs; obtain ⟨d0, d1⟩ := zs_cells hs; obtain ⟨la, lc, hlc, e0, e1, e2, e3, _⟩ := HRn.out _ hs; obtain ⟨fa, fc, cb, g4, g3, g1, _⟩ := HPo.out _ hs; clear hs)
  go_quiet (fail)
  go_wp2_with fail
  go_ret3
  exact HE.out _ (H1.out.still ((Turned.refl _ _).drewN _))

set_option maxHeartbeats 2000000 in
theorem zxclaim_held {w : World} {W : Nat → Prop} {q x r : Nat} {P : PM} {M : RM} {N K : Nat} {X : List Int} (h0 : (zsT q P x r M).at_ w W) (hI : PtInv P (M.refs ++ X)) (hO : P.Ok N) (hM : M.Ok K) (hN : N < 900000) (hK : K < 1000000) (n : Int) (hn1 : ¬ n < 0) (hn2 : ¬ (P.size : Int) < n) (hf : M.l.length = M.n) (hov : M.ov = true) (hd0 : M.hdp.d = true) (hfr : P.fr = []) (hc1 : 1 < (P.slt M.hdp.r).c) : Calls Tryz.prog 49 #[.pointer (some ⟨x, 0, none⟩), .int .i64 n] w (ClaimEnd W w q x r P M n) := by
  have HS := Lib.hid (Sit.start h0)
  obtain ⟨c0, c1⟩ := zs_cells HS.out
  have HTl := Lib.hid (HS.out.readLast (fun _ h' => by obtain ⟨la, lc, h'⟩ := h'; exact zrtail_any h' hM hK))
  obtain ⟨pa, pc, pcb, p4, _⟩ := zs_pool HS.out
  have hlow := hM.low
  have hpos := hM.pos
  have hlen := hM.len
  have ht0 : ((M.tail : Nat) : Int) < 1000000 := by omega
  have ht1 : ¬ 1099511627776 ≤ ((M.tail : Nat) : Int) := by omega
  obtain ⟨nn, hnn⟩ : ∃ nn, M.n = nn := ⟨_, rfl⟩
  have hln : M.l.length = nn := by omega
  obtain ⟨⟨hr, hd⟩, hhd⟩ : ∃ p, M.hdp = p := ⟨_, rfl⟩
  obtain rfl : hd = true := by rw [hhd] at hd0; exact hd0
  have HE := Lib.hid (fun V (h : Sit W w V (zsT q P x r M)) => claim_refused (show ptClE P M n = 50 by unfold ptClE; rw [if_neg hn1, if_neg hn2, if_neg (by omega), if_neg (fun hh => by rw [hov, hd0] at hh; simp at hh), if_pos ⟨hfr, .inr hc1⟩]) (by omega) h)
  have HFu := Lib.hid (fun V (h : Sit W w V (zsT q P x r M)) => zs_full h hnn hln hov hhd (by omega))
  simp only [polB] at HFu
  have hnn1 : 1 ≤ nn := by omega
  have hlv : P.err hr = 0 := by
    have := hI.live M.hdp.r (by rw [refs_hdp (by omega)]; exact List.mem_append_left _ List.mem_cons_self)
    rwa [hhd] at this
  obtain ⟨_, hkl, hks, _, hc0⟩ := PM.live hlv
  have HSl := Lib.hid (fun V => refSlot_any hr V)
  rw [slV_live hlv] at HSl
  obtain ⟨kk, hkk⟩ : ∃ kk, kk = hSlot hr := ⟨_, rfl⟩
  obtain ⟨cc, hcc⟩ : ∃ cc, cc = (P.slt hr).c := ⟨_, rfl⟩
  obtain ⟨sl, hsl⟩ : ∃ sl, sl = P.sl.length := ⟨_, rfl⟩
  rw [← hkk] at HSl
  have HPo := Lib.hid (fun V (h : Sit W w V (zsT q P x r M)) => show ∃ fa fc cb, V.cell? ⟨q, 3, none⟩ = some (.slice (some fa) 0 fc) ∧ V.cell? ⟨q, 1, none⟩ = some (.slice (some ⟨cb, 0, none⟩) sl sl) ∧ V.cell? ⟨cb, kk, none⟩ = some (.int .i64 cc) from by
    obtain ⟨fa, fc, cb, _, g3, g1, gs⟩ := zs_pool h
    have := gs _ _ hks
    rw [← hkk, ← hcc] at this
    rw [hfr] at g3
    rw [← hsl] at g1
    exact ⟨fa, fc, cb, g3, g1, this⟩)
  have hksl : (kk : Int) < (sl : Int) := by omega
  have hcc1 : (1 : Int) < (cc : Int) := by rw [hhd] at hc1; dsimp only at hc1; omega
  generalize (P.size : Int) = sz at *
  generalize ((M.tail : Nat) : Int) = tl at *
  clear h0 hI hO hM hN hK hf hov hhd hln hnn hlow hpos hlen HS hd0 hfr hc1 hlv hkl hks hc0 hkk hcc hsl
  go_enter Tryz.func49, Tryz.ntmps49
  go_wp2_with (go_at_call 58; ((with_reducible refine HTl.out.mono ?_)); rintro e w1 ⟨rfl, hs⟩; have H1 := Lib.hid hs; obtain ⟨d0, d1⟩ := zs_cells hs; obtain ⟨e0, e1, e2, g, lc, hlc, e3, e4, e5⟩ := HFu.out _ hs; have hg0 : (0 : Int) < (nn : Int) := (by omega); obtain ⟨fa, fc, cb, g3, g1, gk⟩ := HPo.out _ hs; clear hs)
  go_quiet (fail)
  go_wp2_with (go_at_call 74; ((with_reducible refine (HSl.out _).mono ?_)); rintro e w5 ⟨rfl, hw⟩; rw [← hw]; clear hw)
  go_ret3
  exact HE.out _ (H1.out.still ((Turned.refl _ _).drewN _))

set_option maxHeartbeats 2000000 in
theorem zxclaim_go {w : World} {W : Nat → Prop} {q x r : Nat} {P : PM} {M : RM} {N K : Nat} {X : List Int} (h0 : (zsT q P x r M).at_ w W) (hI : PtInv P (M.refs ++ X)) (hO : P.Ok N) (hM : M.Ok K) (hN : N < 900000) (hK : K < 1000000) (n : Int) (hn1 : ¬ n < 0) (hn2 : ¬ (P.size : Int) < n) (hf : M.l.length ≠ M.n) (hfr : P.fr ≠ []) : Calls Tryz.prog 49 #[.pointer (some ⟨x, 0, none⟩), .int .i64 n] w (ClaimEnd W w q x r P M n) := by
  have HS := Lib.hid (Sit.start h0)
  obtain ⟨c0, c1⟩ := zs_cells HS.out
  have HTl := Lib.hid (HS.out.readLast (fun _ h' => by obtain ⟨la, lc, h'⟩ := h'; exact zrtail_any h' hM hK))
  obtain ⟨pa, pc, pcb, p4, _⟩ := zs_pool HS.out
  have hlow := hM.low
  have hpos := hM.pos
  have hlen := hM.len
  have ht0 : ((M.tail : Nat) : Int) < 1000000 := by omega
  have ht1 : ¬ 1099511627776 ≤ ((M.tail : Nat) : Int) := by omega
  obtain ⟨nn, hnn⟩ : ∃ nn, M.n = nn := ⟨_, rfl⟩
  obtain ⟨L, hL⟩ : ∃ L, M.l.length = L := ⟨_, rfl⟩
  have hb1 : ((L : Int) == (nn : Int)) = false := by rw [beq_eq_false_iff_ne]; omega
  have hb2 : (L == nn) = false := by rw [beq_eq_false_iff_ne]; omega
  have hE : ptClE P M n = 0 := by unfold ptClE; rw [if_neg hn1, if_neg hn2, if_neg (by omega), if_neg (fun hh => hf hh.1), if_neg (fun hh => hfr hh.1)]
  obtain ⟨a1, a2, a3, a4, a5, _⟩ := pt_claim hI hO hM hN hE
  obtain ⟨P1, hP1⟩ : ∃ P1, P1 = ptP0 P M := ⟨_, rfl⟩
  obtain ⟨hh, hhh⟩ : ∃ hh, hh = ptClH P M n := ⟨_, rfl⟩
  have hhT : P1.takeH n = hh := by rw [hhh, hP1]; exact (if_neg (fun hn => hn hE)).symm
  rw [← hP1] at a2 a3
  rw [← hhh] at a4
  have HEnd := Lib.hid (fun V (h : Sit W w V (zsT q (P1.takeM n) x r (ptWin M hh))) => show ClaimEnd W w q x r P M n (.returned (.tuple #[.int .i64 (M.tail : Nat), .int .i64 hh, .int .i64 0])) V from ⟨by
    rw [hE, ← hhh, show ptClA P M n = M.tail from if_neg (fun hn => hn hE)], by
    rw [show ptClP P M n = P1.takeM n by rw [hP1]; exact if_neg (fun hn => hn hE), show ptClM P M n = ptWin M hh by rw [hhh]; exact if_neg (fun hn => hn hE)]
    exact h.goes⟩)
  have hPP : P1 = P := by rw [hP1]; exact if_neg hf
  rw [hPP] at a2 a3 hhT HEnd
  have HTk := Lib.hid (fun V (h : Sit W w V (zsT q P x r M)) => h.call (fun _ h' => ztake_any h' hO (by omega) n))
  rw [a2, hhT] at HTk
  obtain ⟨b1, b2, b3, b4⟩ := claim_room (M := M) a4 (by omega) hf
  rw [show ptWin M hh = { M with l := M.l ++ [⟨hh, false⟩] } from if_neg hf, ← b4] at HEnd
  have HCm := Lib.hid (fun V (h : Sit W w V (zsT q (P.takeM n) x r M)) => h.callLast (fun _ h' => zrclaim_any h' hM hK hh))
  rw [b1, b2, b3] at HCm
  have HRn := Lib.hid (fun V (h : Sit W w V (zsT q P x r M)) => zs_ring h)
  have HPo := Lib.hid (fun V (h : Sit W w V (zsT q P x r M)) => zs_pool h)
  rw [hL, hnn] at HRn
  obtain ⟨fl, hfl⟩ : ∃ fl, P.fr.length = fl := ⟨_, rfl⟩
  rw [hfl] at HPo
  have hfl1 : (fl == 0) = false := by
    rw [beq_eq_false_iff_ne]; rintro rfl
    exact hfr (List.eq_nil_of_length_eq_zero hfl)
  have hfl2 : ((fl : Int) == 0) = false := by
    have := beq_eq_false_iff_ne.1 hfl1
    rw [beq_eq_false_iff_ne]; omega
  generalize P.takeM n = P2 at *
  generalize M.claimM hh = M2 at *
  generalize (P.size : Int) = sz at *
  generalize ((M.tail : Nat) : Int) = tl at *
  clear h0 hI hO hM hN hK hf hL hnn hlow hpos hlen HS hfr hfl hE hP1 hhh hhT a1 a2 a3 a4 a5 b1 b2 b3 b4 hPP
  go_enter Tryz.func49, Tryz.ntmps49
  go_wp2_with (go_at_call 58; ((with_reducible refine HTl.out.mono ?_)); rintro e w1 ⟨rfl, hs⟩; have H1 := Lib.hid hs; obtain ⟨d0, d1⟩ := zs_cells hs; obtain ⟨la, lc, hlc, e0, e1, e2, e3, _⟩ := HRn.out _ hs; obtain ⟨fa, fc, cb, g4, g3, g1, _⟩ := HPo.out _ hs; clear hs)
  go_quiet (fail)
  go_wp2_with (first
    | (go_at_call 77; ((with_reducible refine (HTk.out _ (H1.out.still ((Turned.refl _ _).drewN _))).mono ?_)); rintro e w5 ⟨rfl, hs⟩; have H5 := Lib.hid hs; obtain ⟨k4, k5⟩ := zs_cells hs; clear hs)
    | (go_at_call 78; ((with_reducible refine (HCm.out _ H5.out).mono ?_)); rintro e w6 ⟨rfl, hs⟩; have H6 := Lib.hid hs; clear hs))
  go_ret3
  exact HEnd.out _ H6.out

set_option maxHeartbeats 4000000 in
theorem zxclaim_over {w : World} {W : Nat → Prop} {q x r : Nat} {P : PM} {M : RM} {N K : Nat} {X : List Int} (h0 : (zsT q P x r M).at_ w W) (hI : PtInv P (M.refs ++ X)) (hO : P.Ok N) (hM : M.Ok K) (hN : N < 900000) (hK : K < 1000000) (n : Int) (hn1 : ¬ n < 0) (hn2 : ¬ (P.size : Int) < n) (hf : M.l.length = M.n) (hov : M.ov = true) (hd0 : M.hdp.d = true) (hfr : P.fr ≠ []) : Calls Tryz.prog 49 #[.pointer (some ⟨x, 0, none⟩), .int .i64 n] w (ClaimEnd W w q x r P M n) := by
  have HS := Lib.hid (Sit.start h0)
  obtain ⟨c0, c1⟩ := zs_cells HS.out
  have HTl := Lib.hid (HS.out.readLast (fun _ h' => by obtain ⟨la, lc, h'⟩ := h'; exact zrtail_any h' hM hK))
  obtain ⟨pa, pc, pcb, p4, _⟩ := zs_pool HS.out
  have hlow := hM.low
  have hpos := hM.pos
  have hlen := hM.len
  have ht0 : ((M.tail : Nat) : Int) < 1000000 := by omega
  have ht1 : ¬ 1099511627776 ≤ ((M.tail : Nat) : Int) := by omega
  obtain ⟨nn, hnn⟩ : ∃ nn, M.n = nn := ⟨_, rfl⟩
  have hln : M.l.length = nn := by omega
  obtain ⟨⟨hr, hd⟩, hhd⟩ : ∃ p, M.hdp = p := ⟨_, rfl⟩
  obtain rfl : hd = true := by rw [hhd] at hd0; exact hd0
  have hE : ptClE P M n = 0 := by unfold ptClE; rw [if_neg hn1, if_neg hn2, if_neg (by omega), if_neg (fun hh => by rw [hov, hd0] at hh; simp at hh), if_neg (fun hh => hfr hh.1)]
  obtain ⟨a1, a2, a3, a4, a5, _⟩ := pt_claim hI hO hM hN hE
  obtain ⟨P1, hP1⟩ : ∃ P1, P1 = ptP0 P M := ⟨_, rfl⟩
  obtain ⟨hh, hhh⟩ : ∃ hh, hh = ptClH P M n := ⟨_, rfl⟩
  have hhT : P1.takeH n = hh := by rw [hhh, hP1]; exact (if_neg (fun hn => hn hE)).symm
  rw [← hP1] at a2 a3
  rw [← hhh] at a4
  have HEnd := Lib.hid (fun V (h : Sit W w V (zsT q (P1.takeM n) x r (ptWin M hh))) => show ClaimEnd W w q x r P M n (.returned (.tuple #[.int .i64 (M.tail : Nat), .int .i64 hh, .int .i64 0])) V from ⟨by
    rw [hE, ← hhh, show ptClA P M n = M.tail from if_neg (fun hn => hn hE)], by
    rw [show ptClP P M n = P1.takeM n by rw [hP1]; exact if_neg (fun hn => hn hE), show ptClM P M n = ptWin M hh by rw [hhh]; exact if_neg (fun hn => hn hE)]
    exact h.goes⟩)
  have hPP : P1 = P.dropM hr := by rw [hP1, show hr = M.hdp.r by rw [hhd]]; exact if_pos hf
  obtain ⟨t1, t2, t3⟩ := trim_one hM hf hd0
  rw [show M.hdp.r = hr by rw [hhd]] at t2
  obtain ⟨M1, hM1⟩ : ∃ M1, M1 = M.trimM ((M.h + 1 : Nat) : Int) := ⟨_, rfl⟩
  have hM1o : M1.Ok K := by rw [hM1]; exact hM.trim _
  rw [t3] at hM1
  obtain ⟨b1, b2, b3, b4⟩ := claim_room (M := M1) a4 (by have := hM1o.low; omega) (by rw [hM1]; simp; omega)
  rw [show M1.tail = M.tail by rw [hM1]; unfold RM.tail; simp; omega] at b2
  rw [show ptWin M hh = { M with h := M.h + 1, l := M.l.drop 1 ++ [⟨hh, false⟩] } from if_pos hf, show ({ M with h := M.h + 1, l := M.l.drop 1 ++ [⟨hh, false⟩] } : RM) = M1.claimM hh by rw [b4, hM1]] at HEnd
  obtain ⟨hv, hhv⟩ : ∃ hv : Int, hv = ((M.h + 1 : Nat) : Int) := ⟨_, rfl⟩
  rw [← hhv] at t1 t2 t3
  have HTr := Lib.hid (fun V (h : Sit W w V (zsT q P x r M)) => show Calls Tryz.prog 75 #[.pointer (some ⟨r, 0, none⟩), .int .i64 hv] V fun e w' => ∃ al c, e = .returned (.tuple #[.slice al 1 c, .int .i64 0]) ∧ Sit W w w' ((zT q P).sep ((blkT x [.pointer (some ⟨q, 0, none⟩), .pointer (some ⟨r, 0, none⟩)] 57).sep (numsT (zrT r M1) al [hr]))) from by
    obtain ⟨W3, h3, h4⟩ := h.last.fst
    refine (zrtrim_any h3 hM hK hv).mono ?_
    rintro e w' ⟨al, c, he, hg⟩
    rw [t2] at he hg
    rw [t1] at he
    rw [t3, ← hM1] at hg
    exact ⟨al, c, he, (h4 _ _ hg).unlast⟩)
  have HDr := Lib.hid (fun V al (h : Sit W w V ((zT q P).sep ((blkT x [.pointer (some ⟨q, 0, none⟩), .pointer (some ⟨r, 0, none⟩)] 57).sep (numsT (zrT r M1) al [hr])))) => h.call (fun _ h' => zdrop_any h' hO (by omega) hr))
  rw [← hPP] at HDr
  have HTk := Lib.hid (fun V (h : Sit W w V (zsT q P1 x r M1)) => h.call (fun _ h' => ztake_any h' a3 (by omega) n))
  rw [a2, hhT] at HTk
  have HCm := Lib.hid (fun V (h : Sit W w V (zsT q (P1.takeM n) x r M1)) => h.callLast (fun _ h' => zrclaim_any h' hM1o hK hh))
  rw [b1, b2, b3] at HCm
  have HFu := Lib.hid (fun V (h : Sit W w V (zsT q P x r M)) => zs_full h hnn hln hov hhd (by omega))
  simp only [polB] at HFu
  have hnn1 : 1 ≤ nn := by omega
  have hmh : (M.h : Int) < 1000000 := by unfold RM.tail at ht0; omega
  have hsum : IntKind.i64.wrap ((M.h : Int) + 1) = hv := by rw [IntKind.wrap_i64]; omega
  have HPo := Lib.hid (fun V (h : Sit W w V (zsT q P x r M)) => zs_pool h)
  obtain ⟨fl, hfl⟩ : ∃ fl, P.fr.length = fl := ⟨_, rfl⟩
  rw [hfl] at HPo
  have hfl1 : (fl == 0) = false := by
    rw [beq_eq_false_iff_ne]; rintro rfl
    exact hfr (List.eq_nil_of_length_eq_zero hfl)
  have hfl2 : ((fl : Int) == 0) = false := by
    have := beq_eq_false_iff_ne.1 hfl1
    rw [beq_eq_false_iff_ne]; omega
  generalize P1.takeM n = P2 at *
  generalize M1.claimM hh = M2 at *
  generalize P.dropN hr = dn at *
  generalize P.err hr = de at *
  generalize (M.h : Int) = hm at *
  generalize (P.size : Int) = sz at *
  generalize ((M.tail : Nat) : Int) = tl at *
  clear h0 hI hO hM hN hK hf hov hhd hln hnn hlow hpos hlen HS hd0 hE hP1 hhh hhT a1 a2 a3 a4 a5 b1 b2 b3 b4 hPP t1 t2 t3 hM1 hM1o hhv hfr hfl
  go_enter Tryz.func49, Tryz.ntmps49
  go_wp2_with (go_at_call 58; ((with_reducible refine HTl.out.mono ?_)); rintro e w1 ⟨rfl, hs⟩; have H1 := Lib.hid hs; obtain ⟨d0, d1⟩ := zs_cells hs; obtain ⟨e0, e1, e2, g, lc, hlc, e3, e4, e5⟩ := HFu.out _ hs; have hg0 : (0 : Int) < (nn : Int) := (by omega); obtain ⟨fa, fc, cb, g4, g3, g1, _⟩ := HPo.out _ hs; clear hs)
  go_quiet (fail)
  go_wp2_with fail
  obtain ⟨V, hV⟩ : ∃ V, V = w1.drewN nq := ⟨_, rfl⟩
  rw [← hV]
  have HV1 := Lib.hid (show Still w1 V.drew by rw [hV]; exact ((Turned.refl _ _).drewN _).drew)
  have H2 := Lib.hid (H1.out.still HV1.out)
  obtain ⟨k8, k9⟩ := zs_cells H2.out
  obtain ⟨_, _, k2, _⟩ := HFu.out _ H2.out
  clear hV
  refine wp_region_noPanic ?_
  refine wp_region_held_drew (S := fun Z : World => Z.cell? ⟨x, 1, none⟩ = some (.pointer (some ⟨r, 0, none⟩))) (by kernel_rfl) k9 (fun hHeld => ?_)
  refine wpAnyH_take (i := 0) (oi := { dst := some 112, op := _, type := _, pos := _, after := _, guard := _ }) (v := ?_) rfl (by kernel_rfl) (by kernel_rfl) (by kernel_rfl) (fun _ _ _ h => h) (Or.inl ⟨by rfl, ?_⟩) hHeld ?_
  rotate_left
  · intro Z hZ
    have z0 := hZ
    go_simp
    all_goals with_reducible rfl
  try simp only [Act.put, List.setIfInBounds_toArray, List.set_cons_zero, List.set_cons_succ]
  refine wpAnyH_take (i := 1) (oi := { dst := some 113, op := _, type := _, pos := _, after := _, guard := _ }) (v := ?_) rfl (by kernel_rfl) (by kernel_rfl) (by kernel_rfl) (fun _ _ _ h => h) (Or.inl ⟨by rfl, ?_⟩) hHeld ?_
  rotate_left
  · intro Z hZ
    have z0 := hZ
    go_simp
    all_goals with_reducible rfl
  try simp only [Act.put, List.setIfInBounds_toArray, List.set_cons_zero, List.set_cons_succ]
  refine wpAnyH_take (i := 2) (oi := { dst := some 114, op := _, type := _, pos := _, after := _, guard := _ }) (v := ?_) rfl (by kernel_rfl) (by kernel_rfl) (by kernel_rfl) (fun _ _ _ h => h) (Or.inl ⟨by rfl, ?_⟩) hHeld ?_
  rotate_left
  · intro Z hZ
    have z0 := hZ
    go_simp
    all_goals with_reducible rfl
  try simp only [Act.put, List.setIfInBounds_toArray, List.set_cons_zero, List.set_cons_succ]
  refine wpAnyH_take (i := 3) (oi := { dst := some 115, op := _, type := _, pos := _, after := _, guard := _ }) (v := ?_) rfl (by kernel_rfl) (by kernel_rfl) (by kernel_rfl) (fun _ _ _ h => h) (Or.inl ⟨by rfl, ?_⟩) hHeld ?_
  rotate_left
  · intro Z hZ
    have z0 := hZ
    go_simp
    all_goals with_reducible rfl
  try simp only [Act.put, List.setIfInBounds_toArray, List.set_cons_zero, List.set_cons_succ]
  refine wpAnyH_take (i := 4) (oi := { dst := some 116, op := _, type := _, pos := _, after := _, guard := _ }) (v := ?_) rfl (by kernel_rfl) (by kernel_rfl) (by kernel_rfl) (fun _ _ _ h => h) (Or.inl ⟨by rfl, ?_⟩) hHeld ?_
  rotate_left
  · intro Z hZ
    have z0 := hZ
    go_simp
    all_goals with_reducible rfl
  try simp only [Act.put, List.setIfInBounds_toArray, List.set_cons_zero, List.set_cons_succ]
  refine wpAnyH_take (i := 5) (oi := { dst := some 117, op := _, type := _, pos := _, after := _, guard := _ }) (v := ?_) rfl (by kernel_rfl) (by kernel_rfl) (by kernel_rfl) (fun _ _ _ h => h) (Or.inl ⟨by rfl, ?_⟩) hHeld ?_
  rotate_left
  · intro Z hZ
    have z0 := hZ
    go_simp
    all_goals with_reducible rfl
  try simp only [Act.put, List.setIfInBounds_toArray, List.set_cons_zero, List.set_cons_succ]
  refine wpAnyH_take (i := 6) (oi := { dst := some 118, op := _, type := _, pos := _, after := _, guard := _ }) (v := ?_) rfl (by kernel_rfl) (by kernel_rfl) (by kernel_rfl) (fun _ _ _ h => h) (Or.inl ⟨by rfl, ?_⟩) hHeld ?_
  rotate_left
  · intro Z hZ
    have z0 := hZ
    go_simp
    all_goals with_reducible rfl
  try simp only [Act.put, List.setIfInBounds_toArray, List.set_cons_zero, List.set_cons_succ]
  refine wpAnyH_take (i := 7) (oi := { dst := some 119, op := _, type := _, pos := _, after := _, guard := _ }) (v := ?_) rfl (by kernel_rfl) (by kernel_rfl) (by kernel_rfl) (fun _ _ _ h => h) (Or.inl ⟨by rfl, ?_⟩) hHeld ?_
  rotate_left
  · intro Z hZ
    have z0 := hZ
    go_simp
    all_goals with_reducible rfl
  try simp only [Act.put, List.setIfInBounds_toArray, List.set_cons_zero, List.set_cons_succ]
  refine wpAnyH_take (i := 8) (oi := { dst := some 120, op := _, type := _, pos := _, after := _, guard := _ }) (v := ?_) rfl (by kernel_rfl) (by kernel_rfl) (by kernel_rfl) (fun _ _ _ h => h) (Or.inl ⟨by rfl, ?_⟩) hHeld ?_
  rotate_left
  · intro Z hZ
    have z0 := hZ
    go_simp
    all_goals with_reducible rfl
  try simp only [Act.put, List.setIfInBounds_toArray, List.set_cons_zero, List.set_cons_succ]
  refine wpAnyH_take (i := 9) (oi := { dst := some 121, op := _, type := _, pos := _, after := _, guard := _ }) (v := ?_) rfl (by kernel_rfl) (by kernel_rfl) (by kernel_rfl) (fun _ _ _ h => h) (Or.inl ⟨by rfl, ?_⟩) hHeld ?_
  rotate_left
  · intro Z hZ
    have z0 := hZ
    go_simp
    all_goals with_reducible rfl
  try simp only [Act.put, List.setIfInBounds_toArray, List.set_cons_zero, List.set_cons_succ]
  refine wpAnyH_ready (rs := [10]) (by kernel_rfl) (by simp) ?_
  refine AllReadyH.cons rfl (fun K hK => ?_) AllReadyH.nil
  go_simp
  refine hK.out _ _ hHeld (fun _ => ?_)
  clear hK K
  try simp only [Act.put, List.setIfInBounds_toArray, List.set_cons_zero, List.set_cons_succ]
  refine wpAnyH_take (i := 11) (oi := { dst := some 123, op := _, type := _, pos := _, after := _, guard := _ }) (v := ?_) rfl (by kernel_rfl) (by kernel_rfl) (by kernel_rfl) (fun _ _ _ h => h) (Or.inl ⟨by rfl, ?_⟩) hHeld ?_
  rotate_left
  · intro Z hZ
    have z0 := hZ
    go_simp
    all_goals with_reducible rfl
  try simp only [Act.put, List.setIfInBounds_toArray, List.set_cons_zero, List.set_cons_succ]
  refine wpAnyH_ready (rs := [12]) (by kernel_rfl) (by simp) ?_
  refine AllReadyH.cons rfl (fun K hK => ?_) AllReadyH.nil
  go_simp
  go_at_call 75
  with_reducible refine (HTr.out _ H2.out).mono ?_
  rintro e w3 ⟨al, ac, rfl, hs⟩
  have H3 := Lib.hid (hs.still (Turned.refl _ w3).drew)
  obtain ⟨k0, k1⟩ := zs_cells H3.out
  obtain ⟨ab, ao, rfl, ac0⟩ := H3.out.numsLast 0 _ rfl
  rw [Nat.add_zero] at ac0
  have hHeld3 := (zs_cells hs).2
  clear hs
  refine hK.out _ _ hHeld3 (fun _ => ?_)
  clear hK K
  try simp only [Act.put, List.setIfInBounds_toArray, List.set_cons_zero, List.set_cons_succ]
  refine wpAnyH_take (i := 13) (oi := { dst := some 111, op := _, type := _, pos := _, after := _, guard := _ }) (v := ?_) rfl (by kernel_rfl) (by kernel_rfl) (by kernel_rfl) (fun _ _ _ h => h) (Or.inl ⟨by rfl, ?_⟩) hHeld3 ?_
  rotate_left
  · intro Z hZ
    have z0 := hZ
    go_simp
    all_goals with_reducible rfl
  try simp only [Act.put, List.setIfInBounds_toArray, List.set_cons_zero, List.set_cons_succ]
  refine wpAnyH_take (i := 14) (oi := { dst := some 125, op := _, type := _, pos := _, after := _, guard := _ }) (v := ?_) rfl (by kernel_rfl) (by kernel_rfl) (by kernel_rfl) (fun _ _ _ h => h) (Or.inl ⟨by rfl, ?_⟩) hHeld3 ?_
  rotate_left
  · intro Z hZ
    have z0 := hZ
    go_simp
    all_goals with_reducible rfl
  try simp only [Act.put, List.setIfInBounds_toArray, List.set_cons_zero, List.set_cons_succ]
  refine wpAnyH_take (i := 15) (oi := { dst := some 126, op := _, type := _, pos := _, after := _, guard := _ }) (v := ?_) rfl (by kernel_rfl) (by kernel_rfl) (by kernel_rfl) (fun _ _ _ h => h) (Or.inl ⟨by rfl, ?_⟩) hHeld3 ?_
  rotate_left
  · intro Z hZ
    have z0 := hZ
    go_simp
    all_goals with_reducible rfl
  try simp only [Act.put, List.setIfInBounds_toArray, List.set_cons_zero, List.set_cons_succ]
  refine wpAnyH_take (i := 16) (oi := { dst := some 10, op := _, type := _, pos := _, after := _, guard := _ }) (v := ?_) rfl (by kernel_rfl) (by kernel_rfl) (by kernel_rfl) (fun _ _ _ h => h) (Or.inl ⟨by rfl, ?_⟩) hHeld3 ?_
  rotate_left
  · intro Z hZ
    have z0 := hZ
    go_simp
    all_goals with_reducible rfl
  try simp only [Act.put, List.setIfInBounds_toArray, List.set_cons_zero, List.set_cons_succ]
  refine wpAnyH_take (i := 17) (oi := { dst := some 11, op := _, type := _, pos := _, after := _, guard := _ }) (v := ?_) rfl (by kernel_rfl) (by kernel_rfl) (by kernel_rfl) (fun _ _ _ h => h) (Or.inl ⟨by rfl, ?_⟩) hHeld3 ?_
  rotate_left
  · intro Z hZ
    have z0 := hZ
    go_simp
    all_goals with_reducible rfl
  try simp only [Act.put, List.setIfInBounds_toArray, List.set_cons_zero, List.set_cons_succ]
  refine wpAnyH_done (by kernel_rfl) ?_ _
  refine NoPanic.normal ?_
  clear hHeld hHeld3
  go_wp2_with fail
  refine wp_region_still_tail 7 (by kernel_rfl) (by kernel_rfl) ?_
  simp only [List.take_succ_cons, List.take_zero, List.drop_succ_cons, List.drop_zero]
  repeat still_step
  refine wpStill_nil ?_
  change wpList _ _ _ _ _ w3.drew
  go_wp2_with (first
    | (go_at_call 76; ((with_reducible refine (HDr.out _ _ H3.out).mono ?_)); rintro e w4 ⟨rfl, hs⟩; have H4 := Lib.hid hs.unnumLast; obtain ⟨m2, m3⟩ := zs_cells hs; clear hs)
    | (go_at_call 77; ((with_reducible refine (HTk.out _ H4.out).mono ?_)); rintro e w5 ⟨rfl, hs⟩; have H5 := Lib.hid hs; obtain ⟨k4, k5⟩ := zs_cells hs; clear hs)
    | (go_at_call 78; ((with_reducible refine (HCm.out _ H5.out).mono ?_)); rintro e w6 ⟨rfl, hs⟩; have H6 := Lib.hid hs; clear hs))
  go_ret3
  exact HEnd.out _ H6.out

set_option maxHeartbeats 4000000 in
theorem zxclaim_last {w : World} {W : Nat → Prop} {q x r : Nat} {P : PM} {M : RM} {N K : Nat} {X : List Int} (h0 : (zsT q P x r M).at_ w W) (hI : PtInv P (M.refs ++ X)) (hO : P.Ok N) (hM : M.Ok K) (hN : N < 900000) (hK : K < 1000000) (n : Int) (hn1 : ¬ n < 0) (hn2 : ¬ (P.size : Int) < n) (hf : M.l.length = M.n) (hov : M.ov = true) (hd0 : M.hdp.d = true) (hfr : P.fr = []) (hc1 : ¬ 1 < (P.slt M.hdp.r).c) : Calls Tryz.prog 49 #[.pointer (some ⟨x, 0, none⟩), .int .i64 n] w (ClaimEnd W w q x r P M n) := by
  have HS := Lib.hid (Sit.start h0)
  obtain ⟨c0, c1⟩ := zs_cells HS.out
  have HTl := Lib.hid (HS.out.readLast (fun _ h' => by obtain ⟨la, lc, h'⟩ := h'; exact zrtail_any h' hM hK))
  obtain ⟨pa, pc, pcb, p4, _⟩ := zs_pool HS.out
  have hlow := hM.low
  have hpos := hM.pos
  have hlen := hM.len
  have ht0 : ((M.tail : Nat) : Int) < 1000000 := by omega
  have ht1 : ¬ 1099511627776 ≤ ((M.tail : Nat) : Int) := by omega
  obtain ⟨nn, hnn⟩ : ∃ nn, M.n = nn := ⟨_, rfl⟩
  have hln : M.l.length = nn := by omega
  obtain ⟨⟨hr, hd⟩, hhd⟩ : ∃ p, M.hdp = p := ⟨_, rfl⟩
  obtain rfl : hd = true := by rw [hhd] at hd0; exact hd0
  have hE : ptClE P M n = 0 := by unfold ptClE; rw [if_neg hn1, if_neg hn2, if_neg (by omega), if_neg (fun hh => by rw [hov, hd0] at hh; simp at hh), if_neg (fun hh => by rcases hh.2 with h | h; exact h hf; exact hc1 h)]
  obtain ⟨a1, a2, a3, a4, a5, _⟩ := pt_claim hI hO hM hN hE
  obtain ⟨P1, hP1⟩ : ∃ P1, P1 = ptP0 P M := ⟨_, rfl⟩
  obtain ⟨hh, hhh⟩ : ∃ hh, hh = ptClH P M n := ⟨_, rfl⟩
  have hhT : P1.takeH n = hh := by rw [hhh, hP1]; exact (if_neg (fun hn => hn hE)).symm
  rw [← hP1] at a2 a3
  rw [← hhh] at a4
  have HEnd := Lib.hid (fun V (h : Sit W w V (zsT q (P1.takeM n) x r (ptWin M hh))) => show ClaimEnd W w q x r P M n (.returned (.tuple #[.int .i64 (M.tail : Nat), .int .i64 hh, .int .i64 0])) V from ⟨by
    rw [hE, ← hhh, show ptClA P M n = M.tail from if_neg (fun hn => hn hE)], by
    rw [show ptClP P M n = P1.takeM n by rw [hP1]; exact if_neg (fun hn => hn hE), show ptClM P M n = ptWin M hh by rw [hhh]; exact if_neg (fun hn => hn hE)]
    exact h.goes⟩)
  have hPP : P1 = P.dropM hr := by rw [hP1, show hr = M.hdp.r by rw [hhd]]; exact if_pos hf
  obtain ⟨t1, t2, t3⟩ := trim_one hM hf hd0
  rw [show M.hdp.r = hr by rw [hhd]] at t2
  obtain ⟨M1, hM1⟩ : ∃ M1, M1 = M.trimM ((M.h + 1 : Nat) : Int) := ⟨_, rfl⟩
  have hM1o : M1.Ok K := by rw [hM1]; exact hM.trim _
  rw [t3] at hM1
  obtain ⟨b1, b2, b3, b4⟩ := claim_room (M := M1) a4 (by have := hM1o.low; omega) (by rw [hM1]; simp; omega)
  rw [show M1.tail = M.tail by rw [hM1]; unfold RM.tail; simp; omega] at b2
  rw [show ptWin M hh = { M with h := M.h + 1, l := M.l.drop 1 ++ [⟨hh, false⟩] } from if_pos hf, show ({ M with h := M.h + 1, l := M.l.drop 1 ++ [⟨hh, false⟩] } : RM) = M1.claimM hh by rw [b4, hM1]] at HEnd
  obtain ⟨hv, hhv⟩ : ∃ hv : Int, hv = ((M.h + 1 : Nat) : Int) := ⟨_, rfl⟩
  rw [← hhv] at t1 t2 t3
  have HTr := Lib.hid (fun V (h : Sit W w V (zsT q P x r M)) => show Calls Tryz.prog 75 #[.pointer (some ⟨r, 0, none⟩), .int .i64 hv] V fun e w' => ∃ al c, e = .returned (.tuple #[.slice al 1 c, .int .i64 0]) ∧ Sit W w w' ((zT q P).sep ((blkT x [.pointer (some ⟨q, 0, none⟩), .pointer (some ⟨r, 0, none⟩)] 57).sep (numsT (zrT r M1) al [hr]))) from by
    obtain ⟨W3, h3, h4⟩ := h.last.fst
    refine (zrtrim_any h3 hM hK hv).mono ?_
    rintro e w' ⟨al, c, he, hg⟩
    rw [t2] at he hg
    rw [t1] at he
    rw [t3, ← hM1] at hg
    exact ⟨al, c, he, (h4 _ _ hg).unlast⟩)
  have HDr := Lib.hid (fun V al (h : Sit W w V ((zT q P).sep ((blkT x [.pointer (some ⟨q, 0, none⟩), .pointer (some ⟨r, 0, none⟩)] 57).sep (numsT (zrT r M1) al [hr])))) => h.call (fun _ h' => zdrop_any h' hO (by omega) hr))
  rw [← hPP] at HDr
  have HTk := Lib.hid (fun V (h : Sit W w V (zsT q P1 x r M1)) => h.call (fun _ h' => ztake_any h' a3 (by omega) n))
  rw [a2, hhT] at HTk
  have HCm := Lib.hid (fun V (h : Sit W w V (zsT q (P1.takeM n) x r M1)) => h.callLast (fun _ h' => zrclaim_any h' hM1o hK hh))
  rw [b1, b2, b3] at HCm
  have HFu := Lib.hid (fun V (h : Sit W w V (zsT q P x r M)) => zs_full h hnn hln hov hhd (by omega))
  simp only [polB] at HFu
  have hnn1 : 1 ≤ nn := by omega
  have hmh : (M.h : Int) < 1000000 := by unfold RM.tail at ht0; omega
  have hsum : IntKind.i64.wrap ((M.h : Int) + 1) = hv := by rw [IntKind.wrap_i64]; omega
  have hlv : P.err hr = 0 := by
    have := hI.live M.hdp.r (by rw [refs_hdp (by omega)]; exact List.mem_append_left _ List.mem_cons_self)
    rwa [hhd] at this
  obtain ⟨_, hkl, hks, _, hc0⟩ := PM.live hlv
  have HSl := Lib.hid (fun V => refSlot_any hr V)
  rw [slV_live hlv] at HSl
  obtain ⟨kk, hkk⟩ : ∃ kk, kk = hSlot hr := ⟨_, rfl⟩
  obtain ⟨cc, hcc⟩ : ∃ cc, cc = (P.slt hr).c := ⟨_, rfl⟩
  obtain ⟨sl, hsl⟩ : ∃ sl, sl = P.sl.length := ⟨_, rfl⟩
  rw [← hkk] at HSl
  have HPo := Lib.hid (fun V (h : Sit W w V (zsT q P x r M)) => show ∃ fa fc cb, V.cell? ⟨q, 3, none⟩ = some (.slice (some fa) 0 fc) ∧ V.cell? ⟨q, 1, none⟩ = some (.slice (some ⟨cb, 0, none⟩) sl sl) ∧ V.cell? ⟨cb, kk, none⟩ = some (.int .i64 cc) from by
    obtain ⟨fa, fc, cb, _, g3, g1, gs⟩ := zs_pool h
    have := gs _ _ hks
    rw [← hkk, ← hcc] at this
    rw [hfr] at g3
    rw [← hsl] at g1
    exact ⟨fa, fc, cb, g3, g1, this⟩)
  have hksl : (kk : Int) < (sl : Int) := by omega
  have hcc1 : ¬ (1 : Int) < (cc : Int) := by rw [hhd] at hc1; dsimp only at hc1; omega
  generalize P1.takeM n = P2 at *
  generalize M1.claimM hh = M2 at *
  generalize P.dropN hr = dn at *
  generalize P.err hr = de at *
  generalize (M.h : Int) = hm at *
  generalize (P.size : Int) = sz at *
  generalize ((M.tail : Nat) : Int) = tl at *
  clear h0 hI hO hM hN hK hf hov hhd hln hnn hlow hpos hlen HS hd0 hE hP1 hhh hhT a1 a2 a3 a4 a5 b1 b2 b3 b4 hPP t1 t2 t3 hM1 hM1o hhv hfr hc1 hlv hkl hks hc0 hkk hcc hsl
  go_enter Tryz.func49, Tryz.ntmps49
  go_wp2_with (go_at_call 58; ((with_reducible refine HTl.out.mono ?_)); rintro e w1 ⟨rfl, hs⟩; have H1 := Lib.hid hs; obtain ⟨d0, d1⟩ := zs_cells hs; obtain ⟨e0, e1, e2, g, lc, hlc, e3, e4, e5⟩ := HFu.out _ hs; have hg0 : (0 : Int) < (nn : Int) := (by omega); obtain ⟨fa, fc, cb, g3, g1, gk⟩ := HPo.out _ hs; clear hs)
  go_quiet (fail)
  go_wp2_with (go_at_call 74; ((with_reducible refine (HSl.out _).mono ?_)); rintro e w5 ⟨rfl, hw⟩; rw [← hw]; clear hw)
  obtain ⟨V, hV⟩ : ∃ V, V = w1.drewN nq := ⟨_, rfl⟩
  rw [← hV]
  have HV1 := Lib.hid (show Still w1 V.drew by rw [hV]; exact ((Turned.refl _ _).drewN _).drew)
  have H2 := Lib.hid (H1.out.still HV1.out)
  obtain ⟨k8, k9⟩ := zs_cells H2.out
  obtain ⟨_, _, k2, _⟩ := HFu.out _ H2.out
  clear hV
  refine wp_region_noPanic ?_
  refine wp_region_held_drew (S := fun Z : World => Z.cell? ⟨x, 1, none⟩ = some (.pointer (some ⟨r, 0, none⟩))) (by kernel_rfl) k9 (fun hHeld => ?_)
  refine wpAnyH_take (i := 0) (oi := { dst := some 112, op := _, type := _, pos := _, after := _, guard := _ }) (v := ?_) rfl (by kernel_rfl) (by kernel_rfl) (by kernel_rfl) (fun _ _ _ h => h) (Or.inl ⟨by rfl, ?_⟩) hHeld ?_
  rotate_left
  · intro Z hZ
    have z0 := hZ
    go_simp
    all_goals with_reducible rfl
  try simp only [Act.put, List.setIfInBounds_toArray, List.set_cons_zero, List.set_cons_succ]
  refine wpAnyH_take (i := 1) (oi := { dst := some 113, op := _, type := _, pos := _, after := _, guard := _ }) (v := ?_) rfl (by kernel_rfl) (by kernel_rfl) (by kernel_rfl) (fun _ _ _ h => h) (Or.inl ⟨by rfl, ?_⟩) hHeld ?_
  rotate_left
  · intro Z hZ
    have z0 := hZ
    go_simp
    all_goals with_reducible rfl
  try simp only [Act.put, List.setIfInBounds_toArray, List.set_cons_zero, List.set_cons_succ]
  refine wpAnyH_take (i := 2) (oi := { dst := some 114, op := _, type := _, pos := _, after := _, guard := _ }) (v := ?_) rfl (by kernel_rfl) (by kernel_rfl) (by kernel_rfl) (fun _ _ _ h => h) (Or.inl ⟨by rfl, ?_⟩) hHeld ?_
  rotate_left
  · intro Z hZ
    have z0 := hZ
    go_simp
    all_goals with_reducible rfl
  try simp only [Act.put, List.setIfInBounds_toArray, List.set_cons_zero, List.set_cons_succ]
  refine wpAnyH_take (i := 3) (oi := { dst := some 115, op := _, type := _, pos := _, after := _, guard := _ }) (v := ?_) rfl (by kernel_rfl) (by kernel_rfl) (by kernel_rfl) (fun _ _ _ h => h) (Or.inl ⟨by rfl, ?_⟩) hHeld ?_
  rotate_left
  · intro Z hZ
    have z0 := hZ
    go_simp
    all_goals with_reducible rfl
  try simp only [Act.put, List.setIfInBounds_toArray, List.set_cons_zero, List.set_cons_succ]
  refine wpAnyH_take (i := 4) (oi := { dst := some 116, op := _, type := _, pos := _, after := _, guard := _ }) (v := ?_) rfl (by kernel_rfl) (by kernel_rfl) (by kernel_rfl) (fun _ _ _ h => h) (Or.inl ⟨by rfl, ?_⟩) hHeld ?_
  rotate_left
  · intro Z hZ
    have z0 := hZ
    go_simp
    all_goals with_reducible rfl
  try simp only [Act.put, List.setIfInBounds_toArray, List.set_cons_zero, List.set_cons_succ]
  refine wpAnyH_take (i := 5) (oi := { dst := some 117, op := _, type := _, pos := _, after := _, guard := _ }) (v := ?_) rfl (by kernel_rfl) (by kernel_rfl) (by kernel_rfl) (fun _ _ _ h => h) (Or.inl ⟨by rfl, ?_⟩) hHeld ?_
  rotate_left
  · intro Z hZ
    have z0 := hZ
    go_simp
    all_goals with_reducible rfl
  try simp only [Act.put, List.setIfInBounds_toArray, List.set_cons_zero, List.set_cons_succ]
  refine wpAnyH_take (i := 6) (oi := { dst := some 118, op := _, type := _, pos := _, after := _, guard := _ }) (v := ?_) rfl (by kernel_rfl) (by kernel_rfl) (by kernel_rfl) (fun _ _ _ h => h) (Or.inl ⟨by rfl, ?_⟩) hHeld ?_
  rotate_left
  · intro Z hZ
    have z0 := hZ
    go_simp
    all_goals with_reducible rfl
  try simp only [Act.put, List.setIfInBounds_toArray, List.set_cons_zero, List.set_cons_succ]
  refine wpAnyH_take (i := 7) (oi := { dst := some 119, op := _, type := _, pos := _, after := _, guard := _ }) (v := ?_) rfl (by kernel_rfl) (by kernel_rfl) (by kernel_rfl) (fun _ _ _ h => h) (Or.inl ⟨by rfl, ?_⟩) hHeld ?_
  rotate_left
  · intro Z hZ
    have z0 := hZ
    go_simp
    all_goals with_reducible rfl
  try simp only [Act.put, List.setIfInBounds_toArray, List.set_cons_zero, List.set_cons_succ]
  refine wpAnyH_take (i := 8) (oi := { dst := some 120, op := _, type := _, pos := _, after := _, guard := _ }) (v := ?_) rfl (by kernel_rfl) (by kernel_rfl) (by kernel_rfl) (fun _ _ _ h => h) (Or.inl ⟨by rfl, ?_⟩) hHeld ?_
  rotate_left
  · intro Z hZ
    have z0 := hZ
    go_simp
    all_goals with_reducible rfl
  try simp only [Act.put, List.setIfInBounds_toArray, List.set_cons_zero, List.set_cons_succ]
  refine wpAnyH_take (i := 9) (oi := { dst := some 121, op := _, type := _, pos := _, after := _, guard := _ }) (v := ?_) rfl (by kernel_rfl) (by kernel_rfl) (by kernel_rfl) (fun _ _ _ h => h) (Or.inl ⟨by rfl, ?_⟩) hHeld ?_
  rotate_left
  · intro Z hZ
    have z0 := hZ
    go_simp
    all_goals with_reducible rfl
  try simp only [Act.put, List.setIfInBounds_toArray, List.set_cons_zero, List.set_cons_succ]
  refine wpAnyH_ready (rs := [10]) (by kernel_rfl) (by simp) ?_
  refine AllReadyH.cons rfl (fun K hK => ?_) AllReadyH.nil
  go_simp
  refine hK.out _ _ hHeld (fun _ => ?_)
  clear hK K
  try simp only [Act.put, List.setIfInBounds_toArray, List.set_cons_zero, List.set_cons_succ]
  refine wpAnyH_take (i := 11) (oi := { dst := some 123, op := _, type := _, pos := _, after := _, guard := _ }) (v := ?_) rfl (by kernel_rfl) (by kernel_rfl) (by kernel_rfl) (fun _ _ _ h => h) (Or.inl ⟨by rfl, ?_⟩) hHeld ?_
  rotate_left
  · intro Z hZ
    have z0 := hZ
    go_simp
    all_goals with_reducible rfl
  try simp only [Act.put, List.setIfInBounds_toArray, List.set_cons_zero, List.set_cons_succ]
  refine wpAnyH_ready (rs := [12]) (by kernel_rfl) (by simp) ?_
  refine AllReadyH.cons rfl (fun K hK => ?_) AllReadyH.nil
  go_simp
  go_at_call 75
  with_reducible refine (HTr.out _ H2.out).mono ?_
  rintro e w3 ⟨al, ac, rfl, hs⟩
  have H3 := Lib.hid (hs.still (Turned.refl _ w3).drew)
  obtain ⟨k0, k1⟩ := zs_cells H3.out
  obtain ⟨ab, ao, rfl, ac0⟩ := H3.out.numsLast 0 _ rfl
  rw [Nat.add_zero] at ac0
  have hHeld3 := (zs_cells hs).2
  clear hs
  refine hK.out _ _ hHeld3 (fun _ => ?_)
  clear hK K
  try simp only [Act.put, List.setIfInBounds_toArray, List.set_cons_zero, List.set_cons_succ]
  refine wpAnyH_take (i := 13) (oi := { dst := some 111, op := _, type := _, pos := _, after := _, guard := _ }) (v := ?_) rfl (by kernel_rfl) (by kernel_rfl) (by kernel_rfl) (fun _ _ _ h => h) (Or.inl ⟨by rfl, ?_⟩) hHeld3 ?_
  rotate_left
  · intro Z hZ
    have z0 := hZ
    go_simp
    all_goals with_reducible rfl
  try simp only [Act.put, List.setIfInBounds_toArray, List.set_cons_zero, List.set_cons_succ]
  refine wpAnyH_take (i := 14) (oi := { dst := some 125, op := _, type := _, pos := _, after := _, guard := _ }) (v := ?_) rfl (by kernel_rfl) (by kernel_rfl) (by kernel_rfl) (fun _ _ _ h => h) (Or.inl ⟨by rfl, ?_⟩) hHeld3 ?_
  rotate_left
  · intro Z hZ
    have z0 := hZ
    go_simp
    all_goals with_reducible rfl
  try simp only [Act.put, List.setIfInBounds_toArray, List.set_cons_zero, List.set_cons_succ]
  refine wpAnyH_take (i := 15) (oi := { dst := some 126, op := _, type := _, pos := _, after := _, guard := _ }) (v := ?_) rfl (by kernel_rfl) (by kernel_rfl) (by kernel_rfl) (fun _ _ _ h => h) (Or.inl ⟨by rfl, ?_⟩) hHeld3 ?_
  rotate_left
  · intro Z hZ
    have z0 := hZ
    go_simp
    all_goals with_reducible rfl
  try simp only [Act.put, List.setIfInBounds_toArray, List.set_cons_zero, List.set_cons_succ]
  refine wpAnyH_take (i := 16) (oi := { dst := some 10, op := _, type := _, pos := _, after := _, guard := _ }) (v := ?_) rfl (by kernel_rfl) (by kernel_rfl) (by kernel_rfl) (fun _ _ _ h => h) (Or.inl ⟨by rfl, ?_⟩) hHeld3 ?_
  rotate_left
  · intro Z hZ
    have z0 := hZ
    go_simp
    all_goals with_reducible rfl
  try simp only [Act.put, List.setIfInBounds_toArray, List.set_cons_zero, List.set_cons_succ]
  refine wpAnyH_take (i := 17) (oi := { dst := some 11, op := _, type := _, pos := _, after := _, guard := _ }) (v := ?_) rfl (by kernel_rfl) (by kernel_rfl) (by kernel_rfl) (fun _ _ _ h => h) (Or.inl ⟨by rfl, ?_⟩) hHeld3 ?_
  rotate_left
  · intro Z hZ
    have z0 := hZ
    go_simp
    all_goals with_reducible rfl
  try simp only [Act.put, List.setIfInBounds_toArray, List.set_cons_zero, List.set_cons_succ]
  refine wpAnyH_done (by kernel_rfl) ?_ _
  refine NoPanic.normal ?_
  clear hHeld hHeld3
  go_wp2_with fail
  refine wp_region_still_tail 7 (by kernel_rfl) (by kernel_rfl) ?_
  simp only [List.take_succ_cons, List.take_zero, List.drop_succ_cons, List.drop_zero]
  repeat still_step
  refine wpStill_nil ?_
  change wpList _ _ _ _ _ w3.drew
  go_wp2_with (first
    | (go_at_call 76; ((with_reducible refine (HDr.out _ _ H3.out).mono ?_)); rintro e w4 ⟨rfl, hs⟩; have H4 := Lib.hid hs.unnumLast; obtain ⟨m2, m3⟩ := zs_cells hs; clear hs)
    | (go_at_call 77; ((with_reducible refine (HTk.out _ H4.out).mono ?_)); rintro e w5 ⟨rfl, hs⟩; have H5 := Lib.hid hs; obtain ⟨k4, k5⟩ := zs_cells hs; clear hs)
    | (go_at_call 78; ((with_reducible refine (HCm.out _ H5.out).mono ?_)); rintro e w6 ⟨rfl, hs⟩; have H6 := Lib.hid hs; clear hs))
  go_ret3
  exact HEnd.out _ H6.out

/- Claim. -/

theorem zxclaim_any {w : World} {W : Nat → Prop} {q x r : Nat} {P : PM} {M : RM} {N K : Nat} {X : List Int} (h0 : (zsT q P x r M).at_ w W) (hI : PtInv P (M.refs ++ X)) (hO : P.Ok N) (hM : M.Ok K) (hN : N < 900000) (hK : K < 1000000) (n : Int)  : Calls Tryz.prog 49 #[.pointer (some ⟨x, 0, none⟩), .int .i64 n] w (ClaimEnd W w q x r P M n) := by
  by_cases hn1 : n < 0
  · exact zxclaim_arg h0 hI hO hM hN hK n (.inl hn1)
  · by_cases hn2 : (P.size : Int) < n
    · exact zxclaim_arg h0 hI hO hM hN hK n (.inr ⟨by omega, hn2⟩)
    · by_cases hf : M.l.length = M.n
      · cases hov : M.ov with
        | false => exact zxclaim_block h0 hI hO hM hN hK n hn1 hn2 hf hov
        | true =>
          cases hd : M.hdp.d with
          | false => exact zxclaim_head h0 hI hO hM hN hK n hn1 hn2 hf hov hd
          | true =>
            by_cases hfr : P.fr = []
            · by_cases hc : 1 < (P.slt M.hdp.r).c
              · exact zxclaim_held h0 hI hO hM hN hK n hn1 hn2 hf hov hd hfr hc
              · exact zxclaim_last h0 hI hO hM hN hK n hn1 hn2 hf hov hd hfr hc
            · exact zxclaim_over h0 hI hO hM hN hK n hn1 hn2 hf hov hd hfr
      · by_cases hfr : P.fr = []
        · exact zxclaim_none h0 hI hO hM hN hK n hn1 hn2 hf hfr
        · exact zxclaim_go h0 hI hO hM hN hK n hn1 hn2 hf hfr
end Go.Proofs.YtmmkcfiecgpkpaaGreat
