/- Texts that lie next to one another, laid into one: each says what it holds. No condition but what each states. -/
import Derived.Test.YtmmkcfiecgpkpaaGreatBxTpZClaim
import Derived.Test.YtmmkcfiecgpkpaaGreatBdApp

/- Making the document's set, and opening a topic of it. No condition but that the set is one. -/
namespace Go.Proofs.YtmmkcfiecgpkpaaGreat
open Go.RowKit
set_option linter.unusedVariables false
set_option linter.unusedSimpArgs false
set_option maxRecDepth 100000

theorem zinfoTopic : (Tryz.prog.info? 93).map (fun i => (i.zero, i.size, i.bytes)) = some (some (.agg #[.string ⟨#[]⟩, .slice none 0 0]), 2, 40) := by kernel_rfl
theorem zinfoPartP : (Tryz.prog.info? 50).map (fun i => (i.zero, i.size, i.bytes)) = some (some (.pointer none), 1, 8) := by kernel_rfl

theorem zztmake_no (n s : Int) (w : World) (hno : ¬ (1 ≤ n ∧ n ≤ 128 ∧ 1 ≤ s ∧ s ≤ 256)) : Calls Tryz.prog 9 #[.int .i64 n, .int .i64 s] w fun e w' => e = .returned (.tuple #[.pointer none, .int .i64 2]) ∧ Still w w' := by
  have HP := Lib.hid (zmake_arg n s w hno)
  clear hno
  go_enter Tryz.func9, Tryz.ntmps9
  go_wp2_with (go_at_call 37; ((with_reducible refine HP.out.mono ?_)); rintro e w1 ⟨rfl, rfl⟩)
  go_ret2
  exact ⟨rfl, Turned.refl _ _⟩
theorem zztmake_ok (n s : Nat) (w : World) (h1 : 1 ≤ n) (h2 : n ≤ 128) (h3 : 1 ≤ s) (h4 : s ≤ 256) :
    Calls Tryz.prog 9 #[.int .i64 n, .int .i64 s] w fun e w' => ∃ x q, e = .returned (.tuple #[.pointer (some ⟨x, 0, none⟩), .int .i64 0]) ∧ ∃ W, (setT zhT zT zXT x q [] ⟨PM.new n s, []⟩).at_ w' W ∧ Still w w' ∧ ∀ k, W k → w.heap.size ≤ k := by
  have HP := Lib.hid (zmake_ok n s w h1 h2 h3 h4)
  unfold ZNew at HP
  have HF := Lib.hid (fun (w1 : World) (q : Nat) (V : Nat → Prop) (hV : (zT q (PM.new n s)).at_ w1 V) (hs : Still w w1) (hlo : ∀ k, V k → w.heap.size ≤ k) =>
    show ∃ W, (setT zhT zT zXT w1.heap.size q [] ⟨PM.new n s, []⟩).at_ (w1.alloc (.cells #[.pointer (some ⟨q, 0, none⟩), .slice none 0 0] 82)) W ∧ Still w (w1.alloc (.cells #[.pointer (some ⟨q, 0, none⟩), .slice none 0 0] 82)) ∧ ∀ k, W k → w.heap.size ≤ k from by
      have hlt := (zT q (PM.new n s)).lt hV
      have ha : Still w1 (w1.alloc (.cells #[.pointer (some ⟨q, 0, none⟩), .slice none 0 0] 82)) := (Turned.refl _ _).alloc _
      refine ⟨fun k => k = w1.heap.size ∨ V k, ⟨(· = w1.heap.size), V, ⟨none, 0, [], rfl, rfl, (· = w1.heap.size), fun _ => False, ⟨Blk.new w1 [.pointer (some ⟨q, 0, none⟩), .slice none 0 0] 82, fun _ => Iff.rfl⟩,
        ⟨fun _ => False, fun _ => False, ⟨World.ownsRow_nil _ _ _ _, fun k => ⟨fun h => h.elim, fun h => by cases h⟩⟩, fun _ h => h, fun _ h => h.elim, fun k => ⟨fun h => h.elim, fun h => h.elim id id⟩⟩, fun _ _ h => h, fun k => ⟨.inl, fun h => h.elim id (fun h => h.elim)⟩⟩,
        ⟨V, fun _ => False, (zT q (PM.new n s)).keep hV ha (fun _ _ h => h), fun _ h => h, fun _ _ h => h, fun k => ⟨.inl, fun h => h.elim id (fun h => h.elim)⟩⟩, fun k e hk => by have := hlt k hk; omega, fun _ => Iff.rfl⟩, hs.alloc _, fun k hk => ?_⟩
      rcases hk with rfl | hk
      · exact hs.size
      · exact hlo k hk)
  generalize PM.new n s = P at *
  clear h1 h2 h3 h4
  go_enter Tryz.func9, Tryz.ntmps9
  go_wp2_with (go_at_call 37; ((with_reducible refine HP.out.mono ?_)); rintro e w1 ⟨q, rfl, V, hV, hs, hlo⟩; have HV := Lib.hid hV; have HS := Lib.hid hs; have HL := Lib.hid hlo; clear hV hs hlo)
  go_ret2
  exact ⟨_, q, rfl, HF.out w1 q V HV.out HS.out HL.out⟩

section
variable {s q : Nat} {L : List (List Nat)} {S : StM} {w : World} {W : Nat → Prop}
abbrev zrestS (q : Nat) (L : List (List Nat)) (S : StM) : Thing := (zT q S.P).sep (tpsT zXT q (L.zip (S.T.map (·.ps))))
theorem zset_tz (h : (setT zhT zT zXT s q L S).at_ w W) : ∃ a c Z, Z.map (·.1) = S.T.map (·.nm) ∧ Z.map (·.2.2.2) = L ∧ ((zzT s q a c Z).sep (zrestS q L S)).at_ w W := by
  obtain ⟨W1, W2, ⟨a, c, Z, e1, e2, h1⟩, h2, hd, hW⟩ := h
  exact ⟨a, c, Z, e1, e2, W1, W2, h1, h2, hd, hW⟩
theorem ztz_set {a : Option Addr} {c : Nat} {Z : List ZpZ} (e1 : Z.map (·.1) = S.T.map (·.nm)) (e2 : Z.map (·.2.2.2) = L) (h : ((zzT s q a c Z).sep (zrestS q L S)).at_ w W) : (setT zhT zT zXT s q L S).at_ w W := by
  obtain ⟨W1, W2, h1, h2, hd, hW⟩ := h
  exact ⟨W1, W2, ⟨a, c, Z, e1, e2, h1⟩, h2, hd, hW⟩
theorem zzip_rep {α β : Type} (M : β) : ∀ (xs : List α), xs.zip (List.replicate xs.length M) = xs.map fun x => (x, M)
  | [] => rfl
  | x :: xs => by rw [List.length_cons, List.replicate_succ, List.zip_cons_cons, zzip_rep M xs]; rfl
/-- A topic's partitions, while they are made: the struct's box, their row, and they. -/
abbrev zmadeT (q b : Nat) (l : Txt) (a : Option Addr) (c : Nat) (M : RM) (xs : List Nat) : Thing :=
  (blkT b [tx l, .slice a xs.length c] 93).sep ((ownT 50 1 a xs.length c (zprtsV xs)).sep (allT (fun z : Nat × RM => zXT z.1 q z.2) (xs.map fun x => (x, M))))
theorem zmade_step {Q0 : Nat → Prop} {w0 w1 w2 w6 : World} {R : Thing} {b n c c' x : Nat} {l : Txt} {a a' : Option Addr} {M : RM} {xs : List Nat} {o : Obj} (hn : n = xs.length) (H : Sit Q0 w0 w1 (R.sep (zmadeT q b l a c M xs))) (hx : ∃ V, (zXT x q M).at_ w2 V ∧ Still w1 w2 ∧ ∀ k, V k → w1.heap.size ≤ k)
    (hown : w6.ownsRow 0 50 1 (.slice a' (n + 1) c') (n + 1) (zprtsV xs ++ [.pointer (some ⟨x, 0, none⟩)])) (hg : (w2.alloc o).grownBy w6 (Value.slice a n c).ownBlock)
    (hat : (Value.slice a' (n + 1) c').ownBlock = (Value.slice a n c).ownBlock ∨ (Value.slice a' (n + 1) c').ownBlock = some (w2.alloc o).heap.size) :
    (w6.cell? ⟨b, 1, none⟩ = some (.slice a n c) ∧ w6.frozen? ⟨b, 1, none⟩ = false) ∧ Hid (Sit Q0 w0 (w6.setCell ⟨b, 1, none⟩ (.slice a' (n + 1) c')) (R.sep (zmadeT q b l a' c' M (xs ++ [x])))) := by
  subst hn
  have H1 := H.new hx
  have H2 := H1.imp (B := (ownT 50 1 a xs.length c (zprtsV xs)).sep ((blkT b [tx l, .slice a xs.length c] 93).sep (R.sep ((allT (fun z : Nat × RM => zXT z.1 q z.2) (xs.map fun x => (x, M))).sep (zXT x q M))))) (fun h => by
    have h1 := sep_assoc h
    have h2 := sep_imp2 (fun h => h) (fun h => sep_assoc h) h1
    have h3 := sep_imp2 (fun h => h) (fun h => sep_imp2 (fun h => h) (fun h => sep_assoc h) h) h2
    have h4 := sep_imp2 (fun h => h) (fun h => sep_turn h) h3
    exact sep_imp2 (fun h => h) (fun h => sep_turn h) (sep_turn h4))
  obtain ⟨U, h1, h2⟩ := H2.fst
  have H3 := (h2 _ _ (ownT_grown h1 hown hg hat)).turn
  obtain ⟨U2, ⟨hb, hU⟩, h3⟩ := H3.fst
  refine ⟨⟨hb.cell rfl, hb.free _⟩, Lib.hid ?_⟩
  have H4 := h3 (blkT b [tx l, .slice a' (xs.length + 1) c'] 93) (w6.setCell ⟨b, 1, none⟩ (.slice a' (xs.length + 1) c')) ⟨U2, ⟨by have := hb.set 1 (.slice a' (xs.length + 1) c'); simpa using this, hU⟩, (Turned.refl U2 w6).setCell (p := ⟨b, 1, none⟩) (.inl ((hU b).2 rfl)) _, fun _ h => .inl h⟩
  have e1 : (xs ++ [x]).length = xs.length + 1 := by simp
  have e2 : zprtsV (xs ++ [x]) = zprtsV xs ++ [.pointer (some ⟨x, 0, none⟩)] := by simp [zprtsV]
  refine H4.imp (fun h => ?_)
  unfold zmadeT
  rw [e1, e2, List.map_append]
  have g1 := sep_imp2 (fun h => h) (fun h => sep_turn h) h
  have g2 := sep_turn g1
  refine sep_imp2 (fun h => h) (fun h => sep_imp2 (fun h => h) (fun h => sep_imp2 (fun h => h) (fun h => ?_) h) h) g2
  exact all_snoc (sep_swap h)
/-- The topics' row, ahead of all else. -/
theorem ztop_row {a : Option Addr} {c : Nat} {Z : List ZpZ} {R : Thing} (h : ((zzT s q a c Z).sep R).at_ w W) :
    ((ownT 93 2 a Z.length c (rowOf encZp Z)).sep ((blkT s [.pointer (some ⟨q, 0, none⟩), .slice a Z.length c] 82).sep ((zzonesT Z).sep R))).at_ w W :=
  sep_turn (sep_imp2 (fun h => h) (fun h => sep_assoc h) (sep_assoc h))
theorem ztop_shut {a : Option Addr} {c n b : Nat} {Z : List ZpZ} {z : ZpZ} {M : RM} {nps : Nat} (hn : n = (Z ++ [z]).length) (hf : Fits L S.T) (hz : z.2.2.2.length = nps)
    (h : ((blkT s [.pointer (some ⟨q, 0, none⟩), .slice a n c] 82).sep ((ownT 93 2 a n c (rowOf encZp Z ++ encZp z)).sep ((zzonesT Z).sep ((zrestS q L S).sep (zmadeT q b z.1 z.2.1 z.2.2.1 M z.2.2.2))))).at_ w W) :
    (((zzT s q a c (Z ++ [z])).sep (zrestS q (L ++ [z.2.2.2]) ⟨S.P, S.T ++ [⟨z.1, List.replicate nps M⟩]⟩)).sep (blkT b [tx z.1, .slice z.2.1 z.2.2.2.length z.2.2.1] 93)).at_ w W := by
  subst hn
  have hl : L.length = (S.T.map (·.ps)).length := by have := congrArg List.length hf; simpa [List.length_map] using this
  have e2 : (L ++ [z.2.2.2]).zip ((S.T ++ [(⟨z.1, List.replicate nps M⟩ : TpM)]).map (·.ps)) = L.zip (S.T.map (·.ps)) ++ [(z.2.2.2, List.replicate nps M)] := by
    rw [List.map_append, List.zip_append hl]; rfl
  have e3 : rowOf encZp (Z ++ [z]) = rowOf encZp Z ++ encZp z := by rw [rowOf_append, rowOf_cons, rowOf_nil, List.append_nil]
  unfold zrestS zzT
  rw [e2, e3]
  -- the box ahead of all
  have k1 := sep_imp2 (fun h => h) (fun h => sep_imp2 (fun h => h) (fun h => sep_imp2 (fun h => h) (fun h => sep_turn h) h) h) h
  have k2 := sep_imp2 (fun h => h) (fun h => sep_imp2 (fun h => h) (fun h => sep_turn h) h) k1
  have k3 := sep_turn (sep_imp2 (fun h => h) (fun h => sep_turn h) k2)
  refine sep_swap (sep_imp2 (fun h => h) (fun h => ?_) k3)
  refine sep_assoc' (sep_imp2 (fun h => h) (fun h => sep_assoc' (sep_imp2 (fun h => h) (fun h => ?_) h)) h)
  -- zones, rest, the row of partitions, the partitions
  have h1 := sep_assoc' (sep_imp2 (fun h => h) (fun h => sep_assoc (sep_swap h)) (sep_imp2 (fun h => h) (fun h => h) h))
  refine sep_imp2 (fun h => ?_) (fun h => ?_) h1
  · exact all_snoc (sep_swap h)
  · refine sep_imp2 (fun h => h) (fun h => ?_) (sep_turn h)
    refine all_snoc (sep_imp2 (fun h => ?_) (fun h => h) h)
    show (allT (fun z : Nat × RM => zXT z.1 q z.2) (z.2.2.2.zip (List.replicate nps M))).at_ _ _
    rw [← hz, zzip_rep]
    exact h
/-- One more topic. -/
theorem ztop_new {a a' : Option Addr} {b c c' n : Nat} {Z : List ZpZ} {z : ZpZ} {M : RM} {nps : Nat} {Q0 : Nat → Prop} {w0 V w6 : World} {o : Obj} (hn : n = Z.length) (hf : Fits L S.T) (hz : z.2.2.2.length = nps) (e1 : Z.map (·.1) = S.T.map (·.nm)) (e2 : Z.map (·.2.2.2) = L)
    (H : Sit Q0 w0 V (((zzT s q a c Z).sep (zrestS q L S)).sep (zmadeT q b z.1 z.2.1 z.2.2.1 M z.2.2.2))) (hown : w6.ownsRow 0 93 2 (.slice a' (n + 1) c') (n + 1) (rowOf encZp Z ++ encZp z)) (hg : (V.alloc o).grownBy w6 (Value.slice a n c).ownBlock)
    (hat : (Value.slice a' (n + 1) c').ownBlock = (Value.slice a n c).ownBlock ∨ (Value.slice a' (n + 1) c').ownBlock = some (V.alloc o).heap.size) :
    w6.cell? ⟨s, 1, none⟩ = some (.slice a n c) ∧ w6.frozen? ⟨s, 1, none⟩ = false ∧ Hid (Sit Q0 w0 (w6.setCell ⟨s, 1, none⟩ (.slice a' (n + 1) c')) (setT zhT zT zXT s q (L ++ [z.2.2.2]) ⟨S.P, S.T ++ [⟨z.1, List.replicate nps M⟩]⟩)) := by
  subst hn
  have H1 := H.imp (fun h => ztop_row (sep_assoc h))
  obtain ⟨U, h1, h2⟩ := H1.fst
  have H2 := (h2 _ _ (ownT_grown h1 hown hg hat)).turn
  obtain ⟨U2, ⟨hb, hU⟩, h3⟩ := H2.fst
  refine ⟨hb.cell rfl, hb.free _, Lib.hid ?_⟩
  have H3 := h3 (blkT s [.pointer (some ⟨q, 0, none⟩), .slice a' (Z.length + 1) c'] 82) (w6.setCell ⟨s, 1, none⟩ (.slice a' (Z.length + 1) c')) ⟨U2, ⟨by have := hb.set 1 (.slice a' (Z.length + 1) c'); simpa using this, hU⟩, (Turned.refl U2 w6).setCell (p := ⟨s, 1, none⟩) (.inl ((hU s).2 rfl)) _, fun _ h => .inl h⟩
  refine (H3.imp (fun h => ztop_shut (n := Z.length + 1) (by simp) hf hz h)).drop.imp (fun h => ztz_set (a := a') (c := c') (Z := Z ++ [z]) ?_ ?_ h)
  · show (Z ++ [z]).map (·.1) = (S.T ++ [(⟨z.1, List.replicate nps M⟩ : TpM)]).map (·.nm)
    rw [List.map_append, List.map_append, e1]; rfl
  · rw [List.map_append, e2]; rfl

set_option maxHeartbeats 4000000 in
theorem zztopen_any {X : List Int} {N K : Nat} (h : (setT zhT zT zXT s q L S).at_ w W) (hf : Fits L S.T) (hO : S.Ok X N K) (l : Txt) (hl : l.length ≤ 300) (n r p : Int) :
    Calls Tryz.prog 14 #[.pointer (some ⟨s, 0, none⟩), tx l, .int .i64 n, .int .i64 r, .int .i64 p] w (OpenPost zhT zT zXT w W s q L S l n r p) := by
  obtain ⟨a, c, Z, e1, e2, h'⟩ := zset_tz h
  have hrd : ZRd s q a c Z w := by obtain ⟨W1, W2, h1, _⟩ := h'; exact zzT_rd h1
  have hzl := (zfd_of e1 l).2
  have hfd := (zfd_of e1 l).1
  have HRf := Lib.hid (zncheck_any l w (by omega))
  have HNo := Lib.hid (fun (e : Int) (w' : World) (hs : Still w w') (he : openE S.T l n r p = e) (h0 : e ≠ 0) => show OpenPost zhT zT zXT w W s q L S l n r p (.returned (.tuple #[.int .i64 0, .int .i64 e])) w' from by
    refine ⟨by unfold openN; rw [he, if_pos h0], L, ?_, ?_⟩
    · unfold openT; rw [he, if_pos h0]; exact hf
    · unfold openT; rw [he, if_pos h0]; exact ((Sit.start h).still hs).goes)
  rcases nmE_or l with h0 | h0
  · rw [h0] at HRf
    by_cases hbad : n < 1 ∨ 8 < n ∨ r < 1 ∨ 64 < r ∨ (p ≠ 0 ∧ p ≠ 1)
    · have hoe : openE S.T l n r p = 2 := by unfold openE; rw [if_neg (by simp [h0]), if_pos hbad]
      have HEnd := Lib.hid (fun w' hs => HNo.out 2 w' hs hoe (by omega))
      unfold tx at *
      clear h h' hrd e1 e2 hf hO hoe hzl hfd
      by_cases b1 : n < 1
      · clear hbad
        go_enter Tryz.func14, Tryz.ntmps14
        go_wp2_with (go_at_call 40; ((with_reducible refine HRf.out.mono ?_)); rintro e w1 ⟨rfl, hs⟩; have H1 := Lib.hid hs; clear hs)
        go_ret2
        exact HEnd.out _ H1.out
      · by_cases b2 : 8 < n
        · clear hbad
          go_enter Tryz.func14, Tryz.ntmps14
          go_wp2_with (go_at_call 40; ((with_reducible refine HRf.out.mono ?_)); rintro e w1 ⟨rfl, hs⟩; have H1 := Lib.hid hs; clear hs)
          go_ret2
          exact HEnd.out _ H1.out
        · by_cases b3 : r < 1
          · clear hbad
            go_enter Tryz.func14, Tryz.ntmps14
            go_wp2_with (go_at_call 40; ((with_reducible refine HRf.out.mono ?_)); rintro e w1 ⟨rfl, hs⟩; have H1 := Lib.hid hs; clear hs)
            go_ret2
            exact HEnd.out _ H1.out
          · by_cases b4 : 64 < r
            · clear hbad
              go_enter Tryz.func14, Tryz.ntmps14
              go_wp2_with (go_at_call 40; ((with_reducible refine HRf.out.mono ?_)); rintro e w1 ⟨rfl, hs⟩; have H1 := Lib.hid hs; clear hs)
              go_ret2
              exact HEnd.out _ H1.out
            · have b5 : ¬ p = 0 := by omega
              have b6 : ¬ p = 1 := by omega
              have b7 : (p != 0) = true := by simp [b5]
              have b8 : (p != 1) = true := by simp [b6]
              clear hbad
              go_enter Tryz.func14, Tryz.ntmps14
              go_wp2_with (go_at_call 40; ((with_reducible refine HRf.out.mono ?_)); rintro e w1 ⟨rfl, hs⟩; have H1 := Lib.hid hs; clear hs)
              go_ret2
              exact HEnd.out _ H1.out
    · obtain ⟨m, rfl⟩ : ∃ m : Nat, n = (m : Int) := ⟨n.toNat, by omega⟩
      obtain ⟨rr, rfl⟩ : ∃ rr : Nat, r = (rr : Int) := ⟨r.toNat, by omega⟩
      obtain ⟨ov, rfl⟩ : ∃ ov : Bool, p = polB ov := by
        by_cases hp0 : p = 0
        · exact ⟨false, by rw [hp0]; rfl⟩
        · exact ⟨true, by rw [show p = 1 by omega]; rfl⟩
      have hov : (polB ov == 1) = ov := by cases ov <;> rfl
      have hm1 : ¬ ((m : Int) < 1) := by omega
      have hm8 : ¬ ((8 : Int) < (m : Int)) := by omega
      have hr1 : ¬ ((rr : Int) < 1) := by omega
      have hr64 : ¬ ((64 : Int) < (rr : Int)) := by omega
      have hbn : m ≤ 8 ∧ 1 ≤ m ∧ 1 ≤ rr ∧ rr ≤ 64 := by omega
      have HFd := Lib.hid (fun V (hs : Still w V) => ztpfind_any (by have := hO.len; omega) (hrd.still hs) l)
      rw [hfd, hzl] at HFd
      have HC := Lib.hid (fun V (hs : Still w V) => And.intro (hrd.still hs).c0 (hrd.still hs).c1)
      have hoe : openE S.T l (m : Int) (rr : Int) (polB ov) = if fdN S.T l < S.T.length then 6 else if 16 ≤ S.T.length then 4 else 0 := by unfold openE; rw [if_neg (by simp [h0]), if_neg hbad]
      have hl16 := hO.len
      by_cases hfl : fdN S.T l < S.T.length
      · rw [if_pos hfl] at HFd
        have HEnd := Lib.hid (fun w' hs => HNo.out 6 w' hs (by rw [hoe, if_pos hfl]) (by omega))
        have hdi : ¬ ((fdN S.T l : Int) < 0) := by omega
        generalize fdN S.T l = d at *
        unfold tx at *
        clear h h' hrd e1 e2 hf hO hbad hoe hzl hfd hfl hl16
        cases ov
        all_goals (
          unfold polB at *
          go_enter Tryz.func14, Tryz.ntmps14
          go_wp2_with (first
            | (go_at_call 40; ((with_reducible refine HRf.out.mono ?_)); rintro e w1 ⟨rfl, hs⟩; have H1 := Lib.hid hs; clear hs)
            | (go_at_call 41; ((with_reducible refine (HFd.out _ H1.out).mono ?_)); rintro e w2 ⟨rfl, rfl⟩))
          go_ret2
          exact HEnd.out _ H1.out)
      · rw [if_neg hfl] at HFd
        by_cases h16 : 16 ≤ S.T.length
        · have HEnd := Lib.hid (fun w' hs => HNo.out 4 w' hs (by rw [hoe, if_neg hfl, if_pos h16]) (by omega))
          rw [hzl] at HC
          have hi16 : (16 : Int) ≤ ((S.T.length : Nat) : Int) := by omega
          generalize S.T.length = tn at *
          unfold tx at *
          clear h h' hrd e1 e2 hf hO hbad hoe hzl hfd hfl hl16
          cases ov
          all_goals (
            unfold polB at *
            go_enter Tryz.func14, Tryz.ntmps14
            go_wp2_with (first
              | (go_at_call 40; ((with_reducible refine HRf.out.mono ?_)); rintro e w1 ⟨rfl, hs⟩; have H1 := Lib.hid hs; clear hs)
              | (go_at_call 41; ((with_reducible refine (HFd.out _ H1.out).mono ?_)); rintro e w2 ⟨rfl, rfl⟩; obtain ⟨_, c1⟩ := HC.out w1 H1.out))
            go_ret2
            exact HEnd.out _ H1.out)
        · obtain ⟨i0, hi, hz0, hz1, hz2⟩ := info_parts zinfoTopic
          obtain ⟨i1, ki, kz0, kz1, kz2⟩ := info_parts zinfoPartP
          have ho0 : openE S.T l (m : Int) (rr : Int) (polB ov) = 0 := by rw [hoe, if_neg hfl, if_neg h16]
          obtain ⟨tn, htn⟩ : ∃ tn, tn = S.T.length := ⟨_, rfl⟩
          have hot : openT S.T l (m : Int) (rr : Int) (polB ov) = S.T ++ [⟨l, List.replicate m (RM.new rr ov)⟩] := by
            unfold openT newT
            rw [ho0, if_neg (by simp), hov, Int.toNat_natCast, Int.toNat_natCast]
          have hon : openN S.T l (m : Int) (rr : Int) (polB ov) = (tn : Nat) := by unfold openN; rw [ho0, if_neg (by simp), htn]
          have HEnd := Lib.hid (fun (w' : World) (xs : List Nat) (hx : xs.length = m) (H : Sit W w w' (setT zhT zT zXT s q (L ++ [xs]) ⟨S.P, S.T ++ [⟨l, List.replicate m (RM.new rr ov)⟩]⟩)) => show OpenPost zhT zT zXT w W s q L S l m rr (polB ov) (.returned (.tuple #[.int .i64 (tn : Nat), .int .i64 0])) w' from by
            refine ⟨by rw [hon, ho0], L ++ [xs], ?_, ?_⟩
            · rw [hot]
              unfold Fits
              rw [List.map_append, List.map_append, show L.map (·.length) = S.T.map (·.ps.length) from hf]
              simp [hx]
            · rw [hot]; exact H.goes)
          have HLen := Lib.hid (fun (V : World) (xs : List Nat) (hx : xs.length = m) (H : Sit W w V (setT zhT zT zXT s q (L ++ [xs]) ⟨S.P, S.T ++ [⟨l, List.replicate m (RM.new rr ov)⟩]⟩)) => show ∃ a' c', V.cell? ⟨s, 1, none⟩ = some (.slice a' (tn + 1) c') from by
            obtain ⟨U, ⟨U1, _, h1, _⟩, _⟩ := H
            obtain ⟨a', c', Z', z1, z2, hr⟩ := zhT_rd h1
            have hzn : Z'.length = tn + 1 := by
              have := congrArg List.length z1
              simp only [List.length_map, List.length_append, List.length_singleton] at this
              omega
            exact ⟨a', c', by rw [← hzn]; exact hr.c1⟩)
          have HRdT := Lib.hid (fun (V : World) (R : Thing) (H : Sit W w V (((zzT s q a c Z).sep (zrestS q L S)).sep R)) => show V.cell? ⟨s, 0, none⟩ = some (.pointer (some ⟨q, 0, none⟩)) ∧ V.cell? ⟨s, 1, none⟩ = some (.slice a tn c) from by
            obtain ⟨U, ⟨_, _, ⟨_, _, h1, _⟩, _⟩, _⟩ := H
            have hr := zzT_rd h1
            exact ⟨hr.c0, by rw [htn, ← hzl]; exact hr.c1⟩)
          have HRow := Lib.hid (fun (V : World) (R : Thing) (H : Sit W w V (((zzT s q a c Z).sep (zrestS q L S)).sep R)) => show V.ownsRow 0 93 2 (.slice a tn c) tn (rowOf encZp Z) from by
            obtain ⟨U, h1, _⟩ := (H.imp (fun h => ztop_row (sep_assoc h))).fst
            rw [htn, ← hzl]
            exact h1.1)
          have HMd := Lib.hid (fun (V : World) (R : Thing) (b k : Nat) (a2 : Option Addr) (c2 : Nat) (xs : List Nat) (hx : xs.length = k) (H : Sit W w V (R.sep (zmadeT q b l a2 c2 (RM.new rr ov) xs))) => show (V.cell? ⟨b, 0, none⟩ = some (.string ⟨l.toArray⟩) ∧ V.cell? ⟨b, 1, none⟩ = some (.slice a2 k c2) ∧ V.frozen? ⟨b, 1, none⟩ = false) ∧ V.ownsRow 0 50 1 (.slice a2 k c2) k (zprtsV xs) from by
            subst hx
            obtain ⟨U, ⟨_, _, _, ⟨_, _, ⟨hb, _⟩, ⟨_, _, ⟨ho, _⟩, _⟩, _⟩, _⟩, _⟩ := H
            exact ⟨⟨hb.cell rfl, hb.cell rfl, hb.free _⟩, ho⟩)
          have HBox := Lib.hid (fun (V : World) (hs : Still w V) => show Sit W w (V.alloc (.cells #[.string ⟨l.toArray⟩, .slice none 0 0] 93)) (((zzT s q a c Z).sep (zrestS q L S)).sep (zmadeT q V.heap.size l none 0 (RM.new rr ov) [])) from by
            have h2 := ((Sit.start h').still hs).box [tx l, .slice none 0 0] 93
            refine h2.imp (fun h => ?_)
            obtain ⟨W1, W2, g1, g2, g3, g4⟩ := h
            exact ⟨W1, W2, g1, ⟨W2, fun _ => False, g2, ⟨fun _ => False, fun _ => False, ⟨World.ownsRow_nil _ _ _ _, fun k => ⟨fun h => h.elim, fun h => by cases h⟩⟩, fun _ h => h, fun _ h => h.elim, fun k => ⟨fun h => h.elim, fun h => h.elim id id⟩⟩, fun _ _ h => h, fun k => ⟨.inl, fun h => h.elim id (fun h => h.elim)⟩⟩, g3, g4⟩)
          have HMk := Lib.hid (fun (pv : Int) (hp : polB ov = pv) V => show Calls Tryz.prog 42 #[.pointer (some ⟨q, 0, none⟩), .int .i64 rr, .int .i64 pv] V fun e w' => ∃ x r, e = .returned (.tuple #[.pointer (some ⟨x, 0, none⟩), .int .i64 0]) ∧ ∃ U, (zxT x q r (RM.new rr ov)).at_ w' U ∧ Still V w' ∧ ∀ k, U k → V.heap.size ≤ k from by rw [← hp]; exact zxmake_ok q rr ov V hbn.2.2.1 hbn.2.2.2)
          have HStep := Lib.hid (fun (w1 w2 w6 : World) (b k c2 c3 x : Nat) (a2 a3 : Option Addr) (xs : List Nat) (o : Obj) (hx : xs.length = k) (H : Sit W w w1 (((zzT s q a c Z).sep (zrestS q L S)).sep (zmadeT q b l a2 c2 (RM.new rr ov) xs))) (hV : ∃ r V, (zxT x q r (RM.new rr ov)).at_ w2 V ∧ Still w1 w2 ∧ ∀ k, V k → w1.heap.size ≤ k) hown hg hat =>
            zmade_step (n := k) (c' := c3) (a' := a3) (w6 := w6) (o := o) hx.symm H (by obtain ⟨r, V, v1, v2, v3⟩ := hV; exact ⟨V, ⟨r, v1⟩, v2, v3⟩) hown hg hat)
          have HNew := Lib.hid (fun (V w6 : World) (b c2 : Nat) (a2 : Option Addr) (xs : List Nat) (hx : xs.length = m) (H : Sit W w V (((zzT s q a c Z).sep (zrestS q L S)).sep (zmadeT q b l a2 c2 (RM.new rr ov) xs))) (o : Obj) (a' : Option Addr) (c' : Nat) (hown : w6.ownsRow 0 93 2 (.slice a' (tn + 1) c') (tn + 1) (rowOf encZp Z ++ [.string ⟨l.toArray⟩, .slice a2 m c2])) (hg : (V.alloc o).grownBy w6 (Value.slice a tn c).ownBlock) hat => ztop_new (z := (l, a2, c2, xs)) (n := tn) (a' := a') (c' := c') (by rw [htn, hzl]) hf hx e1 e2 H (by
            rw [show encZp (l, a2, c2, xs) = [.string ⟨l.toArray⟩, .slice a2 m c2] by unfold encZp tx; simp only [hx]]; exact hown) hg hat)
          have HOn := Lib.hid (fun (a2 : Option Addr) (c2 : Nat) => show ∀ u ∈ [Value.string ⟨l.toArray⟩, .slice a2 m c2], u.oneCell' = true from fun u hu => by
            simp at hu
            rcases hu with rfl | rfl <;> rfl)
          have h16' : ¬ ((16 : Int) ≤ (tn : Int)) := by omega
          have htn16 : tn < 16 := by omega
          have hwr : IntKind.i64.wrap (((tn + 1 : Nat) : Int) - 1) = (tn : Nat) := by simp [IntKind.wrap, IntKind.signed, IntKind.bits]; omega
          have HC1 := Lib.hid (fun V (hs : Still w V) => show V.cell? ⟨s, 1, none⟩ = some (.slice a tn c) from by rw [htn, ← hzl]; exact (HC.out V hs).2)
          have q1 : decide ((m : Int) < 1) = false := decide_eq_false hm1
          have q2 : decide ((8 : Int) < (m : Int)) = false := decide_eq_false hm8
          have q3 : decide ((rr : Int) < 1) = false := decide_eq_false hr1
          have q4 : decide ((64 : Int) < (rr : Int)) = false := decide_eq_false hr64
          generalize hM : RM.new rr ov = M at *
          unfold tx at *
          clear h h' hrd e1 e2 hf hO hbad hoe hzl hfd hfl hl16 hot hon ho0 h16 htn HNo HC hM
          cases ov
          all_goals (
            first | rw [show polB false = 0 from rfl] | rw [show polB true = 1 from rfl]
            go_enter Tryz.func14, Tryz.ntmps14
            go_wp2_with (first
              | (go_at_call 40; ((with_reducible refine HRf.out.mono ?_)); rintro e w1 ⟨rfl, hs⟩; have H1 := Lib.hid hs; clear hs)
              | (go_at_call 41; ((with_reducible refine (HFd.out _ H1.out).mono ?_)); rintro e w2 ⟨rfl, rfl⟩; have c1 := HC1.out w1 H1.out; have HB := Lib.hid (HBox.out w1 H1.out)))
            obtain ⟨b, hb⟩ : ∃ b, b = w1.heap.size := ⟨_, rfl⟩
            obtain ⟨W0, hW0⟩ : ∃ W0, W0 = w1.alloc (.cells #[.string ⟨l.toArray⟩, .slice none 0 0] 93) := ⟨_, rfl⟩
            rw [← hb, ← hW0] at HB
            rw [← hb, ← hW0]
            clear hb hW0 c1
            go_loopw [14] (fun i wr => ∃ (k : Nat) (xs : List Nat) (a2 : Option Addr) (c2 : Nat), k ≤ m ∧ i = .int .i64 k ∧ xs.length = k ∧ Sit W w wr (((zzT s q a c Z).sep (zrestS q L S)).sep (zmadeT q b l a2 c2 M xs))) (fun i _ => m - (intOf i).toNat)
            case atStart => exact ⟨0, [], none, 0, Nat.zero_le _, rfl, rfl, HB.out⟩
            case round =>
              clear HB
              obtain ⟨k, xs, a2, c2, hk, rfl, hxl, hS⟩ := hrel
              have HXl := Lib.hid hxl
              have HS := Lib.hid hS
              obtain ⟨c0, c1⟩ := HRdT.out wr _ hS
              clear hxl hS
              by_cases hlt : k < m
              · have hki : (k : Int) < (m : Int) := by omega
                go_wp2_with (first
                  | (go_at_call 42; ((with_reducible refine (HMk.out _ (by decide) _).mono ?_)); rintro e w2 ⟨x, r', rfl, V, hV, hs, hlo⟩; have HV := Lib.hid (show ∃ r V, (zxT x q r M).at_ w2 V ∧ Still wr w2 ∧ ∀ k, V k → wr.heap.size ≤ k from ⟨r', V, hV, hs, hlo⟩); obtain ⟨⟨_, t1, t2⟩, ho⟩ := HMd.out w2 _ b k a2 c2 xs HXl.out (HS.out.still hs); have HO := Lib.hid ho; clear hV hs hlo ho)
                  | (at_builtin; refine wpList_append_own_at _ rfl _ _ 91 rfl 0 50 i1 (.pointer none) 1 8 Tryz.underlying91 ki kz0 kz1 kz2 rfl (by decide) _ _ _ rfl (HO.out.alloc _) ⟨w2.heap.size, 0, none⟩ 1 1 [.pointer (some ⟨x, 0, none⟩)] rfl rfl (ow_cells w2 [.pointer (some ⟨x, 0, none⟩)] 50) (fun u hu => by simp at hu; subst hu; rfl) (by unfold maxLen; omega) (by omega) (by first | (simp; done) | (simp; omega)) ?_; intro v6 w6 hown6 hg6 _ hat6; obtain ⟨a6, c6, rfl⟩ := ow_slice hown6; obtain ⟨⟨t3, t4⟩, HN6⟩ := HStep.out wr w2 w6 b k c2 c6 x a2 a6 xs _ HXl.out HS.out HV.out hown6 hg6 hat6; clear hown6 hg6 hat6))
                go_roundw
                case rel => exact ⟨k + 1, xs ++ [x], a6, c6, by omega, by go_num, by rw [List.length_append, HXl.out]; rfl, HN6.out⟩
                case measure => simp [intOf]; omega
              · obtain rfl : k = m := by omega
                obtain ⟨⟨t0, t1, t2⟩, _⟩ := HMd.out wr _ b k a2 c2 xs HXl.out HS.out
                have HR3 := Lib.hid (HRow.out wr _ HS.out)
                go_wp2_with fail
                have hsl : s < wr.heap.size := cell_lt c1
                have hbl : b < wr.heap.size := cell_lt t1
                have HRA := Lib.hid (ow_still HR3.out ((Turned.refl _ wr).alloc (.cells #[.string ⟨l.toArray⟩, .slice a2 k c2] 93)).drew)
                have HCl := Lib.hid (show ∀ (j : Nat) (u : Value), [Value.string ⟨l.toArray⟩, .slice a2 k c2][j]? = some u → (wr.alloc (.cells #[.string ⟨l.toArray⟩, .slice a2 k c2] 93)).drew.cell? ((⟨wr.heap.size, 0, none⟩ : Addr).add j) = some u from ow_cells wr [.string ⟨l.toArray⟩, .slice a2 k c2] 93)
                have HNw := Lib.hid (fun (w6 : World) (a6 : Option Addr) (c6 : Nat) hown (hg : (wr.alloc (.cells #[.string ⟨l.toArray⟩, .slice a2 k c2] 93)).drew.grownBy w6 (Value.slice a tn c).ownBlock) hat => HNew.out wr w6 b c2 a2 xs HXl.out HS.out (.cells #[.string ⟨l.toArray⟩, .slice a2 k c2] 93) a6 c6 hown ⟨hg.os, hg.tape, hg.output, hg.size, hg.block⟩ hat)
                go_region_law (refine step_app_own rfl (.tmp 81) (.tmp 83) 80 rfl 0 93 i0 (.agg #[.string ⟨#[]⟩, .slice none 0 0]) 2 40 Tryz.underlying80 hi hz0 hz1 hz2 rfl (by decide) (.slice a tn c) tn (rowOf encZp Z) rfl HRA.out ⟨wr.heap.size, 0, none⟩ 1 1 [.string ⟨l.toArray⟩, .slice a2 k c2] rfl rfl HCl.out (HOn.out a2 c2) (by unfold maxLen; omega) (by omega) (by simp) ?_; intro v6 w6 hown6 hg6 hat6; obtain ⟨a6, c6, rfl⟩ := ow_slice hown6; obtain ⟨hc6, hf6, HG6⟩ := HNw.out w6 a6 c6 hown6 hg6 hat6; obtain ⟨a7, c7, hc7⟩ := HLen.out _ xs HXl.out HG6.out; clear hown6 hg6 hat6)
                all_goals (go_wp2_with fail)
                all_goals (go_ret2)
                all_goals (exact HEnd.out _ xs HXl.out HG6.out))
  · have hoe : openE S.T l n r p = 80 := by unfold openE; rw [if_pos (by rw [h0]; omega)]
    rw [h0] at HRf
    have HEnd := Lib.hid (fun w' hs => HNo.out 80 w' hs hoe (by omega))
    unfold tx at *
    clear h h' hrd e1 e2 hf hO hoe hzl hfd
    go_enter Tryz.func14, Tryz.ntmps14
    go_wp2_with (go_at_call 40; ((with_reducible refine HRf.out.mono ?_)); rintro e w1 ⟨rfl, hs⟩; have H1 := Lib.hid hs; clear hs)
    go_ret2
    exact HEnd.out _ H1.out
end
end Go.Proofs.YtmmkcfiecgpkpaaGreat
