import Derived.Test.YtpmkokckjieidaaGreatDoorBdTree
import Derived.RangeFuncNested
import Derived.RangeFuncBound
import Derived.RangeFuncCalls
import Derived.RangeFuncLeaves
import Derived.RangeFuncBox
import Derived.Maps.AppendAt
import Derived.Shelf.Abstract
import Derived.OwnWalkIn
import Derived.TacticsInMore
import Derived.LoopNIn
import Derived.LoopIn
import Derived.Test.YtpmkokckjieidaaGreatDoorBdName
import Derived.Shelf.RegionOpen
import Derived.Stop.RegionWithIn
import Derived.Sort.CutIn
import Derived.Test.YtpmkokckjieidaaGreatDoorTrieApi
import Derived.Maps.OwnIn

/- The iterator over the nodes below one, in the order of their levels. No condition but that the tree is one. -/
namespace Go.Proofs.YtpmkokckjieidaaGreatDoor
open Go.RowKit Go.Shelf Go.Sort Go.Maps
attribute [local go_sem] Oper.semAt_some
set_option linter.unusedVariables false
set_option linter.unusedSimpArgs false
set_option maxRecDepth 100000

theorem sortsT (m : Nat) : AnyZ.SortsIn Tryz.prog Tryz.sorted104_ren Fence.wide m :=
  ⟨fun blk off cap ss W hH hblk hsz => callsIn_wide.2 (AnyM.slices_Sort_string Tryz.sort56 blk off cap ss W hH hblk hsz), fun p cap W => callsIn_wide.2 (AnyM.slices_Sort_string_none Tryz.sort56 p cap W)⟩
theorem keys_any (mb : Option Nat) (W : World) : Calls Tryz.prog 105 #[.map mb] W fun e w' => e = .returned (.func (.func 128) #[] #[.pointer (some ⟨W.heap.size, 0, none⟩)]) ∧ w' = W.alloc (.cells #[.map mb] 70) :=
  callsIn_wide.1 (AnyZ.keys_in Tryz.keys105 Fence.wide 5 trivial rfl mb W)

/-- The levels of the nodes below one, in their order. -/
structure IsKids (f : Txt → Option Nat) (ks : List Txt) : Prop where
  nodup : ks.Nodup
  mem : ∀ l, l ∈ ks ↔ (f l).isSome = true
  srt : ks.mergeSort leB = ks
theorem IsKids.eq {f : Txt → Option Nat} {ks ks' : List Txt} (h : IsKids f ks) (h' : IsKids f ks') : ks = ks' := by
  rw [← h.srt, ← h'.srt]
  exact mergeSort_of_perm ((List.perm_ext_iff_of_nodup h.nodup h'.nodup).2 (fun l => by rw [h.mem, h'.mem]))

set_option maxHeartbeats 1000000 in
theorem sortedKeys_any {w : World} {mb : Nat} {f : Txt → Option Nat} (hM : MapIs w mb f) {K : List Txt} (hK : ∀ l, (f l).isSome = true → l ∈ K) (hKl : K.length ≤ 100000) :
    Calls Tryz.prog 104 #[.func (.func 128) #[] #[.pointer (some ⟨w.heap.size, 0, none⟩)]] (w.alloc (.cells #[.map (some mb)] 70)) fun e w' => ∃ a c ks, e = .returned (.slice a ks.length c) ∧ IsKids f ks ∧ ks.length ≤ 100000 ∧
      w'.ownsRow (w.heap.size + 1) 9 1 (.slice a ks.length c) ks.length (txs ks) ∧ Still (w.alloc (.cells #[.map (some mb)] 70)) w' := by
  obtain ⟨nn, D0, hown, hn, hnK, hnd, hmem⟩ := hM.small hK
  have hbl := hown.lt
  have hseq : SeqGives Fence.wide 2 Tryz.prog 128 #[.pointer (some ⟨w.heap.size, 0, none⟩)] encStr (fun ss => ss.Perm (strKeys D0)) (Maps.size D0) (w.alloc (.cells #[.map (some mb)] 70)) :=
    AnyZ.keys_gives (ρ := Tryz.keys105_ren) { Tryz.keys105 with } Fence.wide _ trivial rfl (by omega) w.heap.size mb nn D0 _ (by simp) (by simp) (by
      obtain ⟨es, clock, hb, Ft, hs, hD⟩ := hown
      exact ⟨es, clock, (Below.heap_alloc _ _ mb hbl).trans hb, Ft, hs, hD⟩)
  have H := callsIn_wide.1 (AnyZ.sorted_in Tryz.sorted104 Fence.wide 5 trivial trivial trivial trivial rfl (by omega) (sortsT _) (enters_of Tryz.func56 (by kernel_rfl) rfl) 128 #[.pointer (some ⟨w.heap.size, 0, none⟩)] trivial (enters_of Tryz.func128 (by kernel_rfl) rfl) _ _ (by unfold maxLen; omega) (by omega) _ hseq)
  refine H.mono ?_
  rintro e w' ⟨v, ss, rfl, hp, hrow, hnil, hb⟩
  have hl : (ss.mergeSort leB).length = ss.length := (List.mergeSort_perm ss leB).length_eq
  have hrow' : w'.ownsRow (w.heap.size + 1) 9 1 v (ss.mergeSort leB).length (txs (ss.mergeSort leB)) := by
    rw [hl]
    have : (w.alloc (.cells #[.map (some mb)] 70)).heap.size = w.heap.size + 1 := by simp
    rw [← this]
    exact hrow
  obtain ⟨a, c, rfl⟩ := ow_slice hrow'
  refine ⟨a, c, ss.mergeSort leB, rfl, ⟨((List.mergeSort_perm ss leB).trans hp).nodup_iff.2 hnd, fun l => ?_, mergeSort_of_perm (List.mergeSort_perm ss leB)⟩, ?_, hrow', below_turned hb (Nat.le_refl _)⟩
  · rw [((List.mergeSort_perm ss leB).trans hp).mem_iff, hmem]
  · rw [hl, hp.length_eq]
    have : (strKeys D0).length ≤ K.length := nodup_sub hnd (fun x hx => hK x ((hmem x).1 hx))
    omega
end Go.Proofs.YtpmkokckjieidaaGreatDoor

/- The iterator over the nodes below one goes through them in the order of their levels. No condition but that the tree is one. -/
namespace Go.Proofs.YtpmkokckjieidaaGreatDoor
open Go.RowKit Go.Shelf
attribute [local go_sem] Oper.semAt_some
set_option linter.unusedVariables false
set_option linter.unusedSimpArgs false
set_option maxRecDepth 100000

theorem RoundIn.any {m : Nat} (m' : Nat) {P : Program} {l : Nat} {f : FuncId} {tmps : Array Value} {assign body : Code} {w : World} {R : Ending → World → Prop} (h : RoundIn Fence.wide m P l f tmps assign body w R) : RoundIn Fence.wide m' P l f tmps assign body w R := ⟨h.1, fun c cs _ => h.2 c cs (roomAny _)⟩

/-- A node's block number. -/
def nbOf (g : Gr) (p : Path) : Nat := match g p with
  | some d => d.nb
  | none => 0
abbrev encN (x : Txt × Nat) : Array Value := #[tx x.1, .pointer (some ⟨x.2, 0, none⟩)]
def kidsL (g : Gr) (p : Path) (ks : List Txt) : List (Txt × Nat) := ks.map fun l => (l, nbOf g (p ++ [l]))
theorem kidsL_length (g : Gr) (p : Path) (ks : List Txt) : (kidsL g p ks).length = ks.length := by simp [kidsL]
theorem kidsL_get (g : Gr) (p : Path) {ks : List Txt} {k : Nat} {x : Txt} (h : ks[k]? = some x) : (kidsL g p ks)[k]? = some (x, nbOf g (p ++ [x])) := by simp [kidsL, h]

/-- What the iterator reads: the nodes, and the box that holds the node. -/
def ordR (g : Gr) (Bn nb : Nat) : Thing := (nodesT g).sep (blkT Bn [.pointer (some ⟨nb, 0, none⟩)] 55)

theorem yordered_any (nb : Nat) (w : World) : Calls Tryz.prog 75 #[.pointer (some ⟨nb, 0, none⟩)] w fun e w' => e = .returned (.func (.func 103) #[] #[.pointer (some ⟨w.heap.size, 0, none⟩)]) ∧ w' = w.alloc (.cells #[.pointer (some ⟨nb, 0, none⟩)] 55) := by
  go_enter Tryz.func75, Tryz.ntmps75
  go_wp2
  go_ret
  exact ⟨rfl, rfl⟩

set_option maxHeartbeats 2000000 in
theorem ordered_it {g : Gr} (hsm : ∀ p, ∃ K : List Txt, K.length ≤ 100000 ∧ ∀ l, (g (p ++ [l])).isSome = true → l ∈ K) (hlen : ∀ p l, (g (p ++ [l])).isSome = true → l.length ≤ 1000000)
    {p : Path} {d : Nd} (hp : g p = some d) {ks : List Txt} (hks : IsKids (kidsOf g p) ks) (Bn : Nat) :
    IterT 103 #[.pointer (some ⟨Bn, 0, none⟩)] encN (kidsL g p ks) (ordR g Bn d.nb) := by
  intro l J W Q S hR h0 hd hY
  obtain ⟨S1, S2, hN, ⟨hbx, hS2⟩, hSS, hSiff⟩ := hR
  have hQlt := (J 0).lt h0
  obtain ⟨K, hKl, hKm⟩ := hsm p
  have hKm' : ∀ l, (kidsOf g p l).isSome = true → l ∈ K := fun l hl => hKm l (by unfold kidsOf at hl; simpa using hl)
  have HKy := Lib.hid (keys_any (some d.mb) W)
  have HSo := Lib.hid ((sortedKeys_any (hN.node hp).map hKm' hKl).mono (R' := fun e w' => ∃ a c, e = .returned (.slice a ks.length c) ∧ Hid (w'.ownsRow (W.heap.size + 1) 9 1 (.slice a ks.length c) ks.length (txs ks)) ∧ ks.length ≤ 100000 ∧ Still W w') (by
    rintro e w' ⟨a, c, ks', rfl, h1, h2, h3, h4⟩
    obtain rfl := h1.eq hks
    exact ⟨a, c, rfl, Lib.hid h3, h2, ((Turned.refl _ W).alloc _).trans h4⟩))
  have hb0 := hbx.cell (o := 0) rfl
  obtain ⟨c0, c1, _⟩ := hN.cells hp
  -- at the worlds of the rounds
  have HW := Lib.hid (fun V (h : ∃ Q', Since Q W Q' V) => show V.cell? ⟨Bn, 0, none⟩ = some (.pointer (some ⟨d.nb, 0, none⟩)) ∧ V.cell? ⟨d.nb, 1, none⟩ = some (.map (some d.mb)) ∧ ∀ l : Txt, l.length ≤ maxLen → (Instr.lookup 70 (.map (some d.mb)) (tx l) false).run Tryz.prog V = .ok (ptrV ((g (p ++ [l])).map Nd.nb)) V from by
    obtain ⟨Q', hs⟩ := h
    have hN' := (hs.stays (A := nodesT g) hN (fun k hk h1 => hd k hk ((hSiff k).2 (.inl h1)))).1
    have hb' := (hs.stays (A := blkT Bn [.pointer (some ⟨d.nb, 0, none⟩)] 55) ⟨hbx, hS2⟩ (fun k hk h1 => hd k hk ((hSiff k).2 (.inr h1)))).1
    exact ⟨hb'.1.cell rfl, (hN'.cells hp).2.1, (hN'.cells hp).2.2⟩)
  have HYd := Lib.hid (fun k x W1 Q1 (hx : (kidsL g p ks)[k]? = some x) (h1 : (J k).at_ W1 Q1) (h2 : Since Q W Q1 W1) => YieldAt.any 8 (hY k x W1 Q1 hx h1 h2))
  have HJ0 := Lib.hid (fun V (h : Still W V) => show (J 0).at_ V Q ∧ Since Q W Q V from ⟨(J 0).keep h0 h (fun _ _ h => h), h.mono (fun _ _ h => h.elim), fun _ h => .inl h⟩)
  have HQl := Lib.hid hQlt
  have HKL := Lib.hid (kidsL_length g p ks)
  have HMm := Lib.hid hks.mem
  have HLn := Lib.hid hlen
  obtain ⟨n, hn⟩ : ∃ n, n = ks.length := ⟨_, rfl⟩
  rw [← hn] at HSo
  have HN := Lib.hid hn
  refine (callsIn_wide (n := 9)).1 (callsIn_of_wp Tryz.func103 rfl trivial ?_ rfl)
  simp only [Tryz.ntmps103, List.size_toArray, List.length_cons, List.length_nil, Nat.reduceAdd, Nat.reduceSub, Array.replicate_succ, Array.replicate_zero, List.push_toArray, List.append_toArray, List.nil_append, List.cons_append]
  clear hN hbx hS2 hSS hSiff hd hQlt hKl hKm hKm' h0 hY hks hlen hn hsm
  have hf1 : Fence.wide.fn 105 := trivial
  have hf2 : Fence.wide.fn 104 := trivial
  gi_wp2_with (first
    | (gi_at_call 105; ((with_reducible refine (callsIn_wide.2 HKy.out).mono ?_)); rintro e w' ⟨rfl, rfl⟩)
    | (gi_at_call 104; ((with_reducible refine (callsIn_wide.2 HSo.out).mono ?_)); rintro e W2 ⟨ao, cc, rfl, hrow, hn5, hS2⟩; obtain ⟨hJ2, hQ2⟩ := HJ0.out _ hS2))
  gi_loopw [12] (fun i wr => ∃ (k : Nat) (Q' : Nat → Prop), k ≤ n ∧ i = .int .i64 k ∧ (J k).at_ wr Q' ∧ Since Q W2 Q' wr) (fun i _ => n - (intOf i).toNat)
  case atStart => exact ⟨0, Q, Nat.zero_le _, rfl, hJ2, Since.refl _ _⟩
  case round =>
    obtain ⟨k, Q', hk, rfl, hJk, hsi⟩ := hrel
    have hsW : Since Q W Q' wr := hQ2.trans hsi
    by_cases hlt : k < n
    · obtain ⟨x, hx⟩ := get_some (l := ks) (i := k) (by rw [← HN.out]; exact hlt)
      obtain ⟨b, o, rfl, hc⟩ := TextsAt.of_own hrow.out HN.out k x hx
      have hcw : wr.cell? ⟨b, o + k, none⟩ = some (tx x) := by
        rw [hsi.turn.cell (p := ⟨b, o + k, none⟩) (cell_lt hc) (fun hq => by
          have h1 := (ow_lt hrow.out _ rfl).1
          have h2 := HQl.out _ hq
          have h3 : W.heap.size + 1 ≤ b := h1
          have h4 : b < W.heap.size := h2
          omega)]
        exact hc
      obtain ⟨e0, e1, hlook⟩ := HW.out wr ⟨Q', hsW⟩
      have hsome : (g (p ++ [x])).isSome = true := by
        have := (HMm.out x).1 (List.mem_of_getElem? hx)
        unfold kidsOf at this
        simpa using this
      have hlk := hlook x (by have := HLn.out p x hsome; unfold maxLen; omega)
      obtain ⟨d', hd'⟩ := Option.isSome_iff_exists.1 hsome
      have hnb : nbOf g (p ++ [x]) = d'.nb := by unfold nbOf; rw [hd']
      rw [hd'] at hlk
      simp only [Option.map_some, ptrV] at hlk
      have hget := kidsL_get g p hx
      rw [hnb] at hget
      obtain ⟨fn, tmps, assign, body, hy, hRo⟩ := HYd.out k _ wr Q' hget hJk hsW
      have HRo := Lib.hid hRo
      have HSi := Lib.hid hsi
      dsimp only [encN] at hy
      clear hx hc hlook hsome hd' hnb hget hRo hsi hJk hsW
      unfold tx at hcw hlk hy
      gi_wp2
      refine (RoundIn.any _ HRo.out).mono ?_
      rintro e W3 ⟨rfl, Q3, hJ3, hT3, hG3⟩
      gi_wp2
      go_roundw
      case rel => exact ⟨k + 1, Q3, by omega, by go_num, hJ3, HSi.out.trans ⟨hT3, hG3⟩⟩
      case measure => simp [intOf]; omega
    · obtain rfl : k = n := by omega
      have HEnd := Lib.hid (show Goes (J (kidsL g p ks).length) Q W wr from by rw [HKL.out, ← HN.out]; exact hsW.goes hJk)
      clear hJk hsi hsW
      gi_wp2
      go_end0
      exact ⟨⟨_, rfl⟩, HEnd.out⟩
end Go.Proofs.YtpmkokckjieidaaGreatDoor

/- The iterator over a node and all below it goes through them, each with the text that leads to it. No condition but that the tree is one, and that texts are not too long. -/
namespace Go.Proofs.YtpmkokckjieidaaGreatDoor
open Go.RowKit Go.Shelf
attribute [local go_sem] Oper.semAt_some
set_option linter.unusedVariables false
set_option linter.unusedSimpArgs false
set_option maxRecDepth 100000

/-- What the iterator reads: the nodes, the box of the node, the box of its levels, and they. -/
def allR (g : Gr) (Bl Bn : Nat) (a : Option Addr) (n c : Nat) (p : Path) (nb : Nat) : Thing :=
  ((nodesT g).sep (blkT Bn [.pointer (some ⟨nb, 0, none⟩)] 55)).sep ((blkT Bl [.slice a n c] 23).sep (ownT 9 1 a n c (txs p)))

theorem yall_any (nb : Nat) (a : Option Addr) (n c : Nat) (w : World) : Calls Tryz.prog 55 #[.pointer (some ⟨nb, 0, none⟩), .slice a n c] w fun e w' => e = .returned (.func (.func 73) #[] #[.pointer (some ⟨w.heap.size + 1, 0, none⟩), .pointer (some ⟨w.heap.size, 0, none⟩)]) ∧ w' = (w.alloc (.cells #[.pointer (some ⟨nb, 0, none⟩)] 55)).alloc (.cells #[.slice a n c] 23) := by
  go_enter Tryz.func55, Tryz.ntmps55
  go_wp2
  go_ret
  exact ⟨by simp, rfl⟩

/-- What lies in memory for it, taken apart. -/
theorem allR_parts {g : Gr} {Bl Bn : Nat} {a : Option Addr} {n c : Nat} {p : Path} {nb : Nat} {w : World} {S : Nat → Prop} (h : (allR g Bl Bn a n c p nb).at_ w S) :
    ∃ S1, NodesAt w g S1 ∧ (∀ k, S1 k → S k) ∧ Blk w Bn [.pointer (some ⟨nb, 0, none⟩)] 55 ∧ S Bn ∧ ¬ S1 Bn ∧ Blk w Bl [.slice a n c] 23 ∧ S Bl ∧ w.ownsRow 0 9 1 (.slice a n c) n (txs p) := by
  obtain ⟨X, Y, ⟨S1, S2, h1, ⟨h2, h2'⟩, hd1, hX⟩, ⟨S3, S4, ⟨h3, h3'⟩, ⟨h4, _⟩, hd2, hY⟩, hd3, hS⟩ := h
  exact ⟨S1, h1, fun k hk => (hS k).2 (.inl ((hX k).2 (.inl hk))), h2, (hS _).2 (.inl ((hX _).2 (.inr ((h2' _).2 rfl)))), fun hh => hd1 _ hh ((h2' _).2 rfl), h3, (hS _).2 (.inr ((hY _).2 (.inl ((h3' _).2 rfl)))), h4⟩

/-- A copy of texts. -/
theorem cloneS_any {w : World} {B n c : Nat} {a : Option Addr} {p : List Txt} (h : w.ownsRow B 9 1 (.slice a n c) n (txs p)) (hn : n = p.length) (hs : n ≤ 1000) : Calls Tryz.prog 76 #[.slice a n c] w fun e w' => ∃ a' c', e = .returned (.slice a' n c') ∧ w'.ownsRow w.heap.size 9 1 (.slice a' n c') n (txs p) ∧ Still w w' := by
  rcases ox_some h with ⟨rfl, h0, h1⟩ | ⟨g, rfl⟩
  · subst h0; subst h1
    have e : p = [] := List.eq_nil_of_length_eq_zero hn.symm
    subst e
    refine (Tryz.slices_Clone_string_nil 0 0 w).mono ?_
    rintro e w' ⟨rfl, rfl⟩
    exact ⟨none, 0, rfl, World.ownsRow_nil _ _ _ _, Turned.refl _ _⟩
  · have H := Tryz.slices_Clone_string g 0 n c (p.map fun t => ByteArray.mk t.toArray) w (by rw [List.length_map]; omega) (by omega) (by
      intro j hj
      rw [List.length_map] at hj
      obtain ⟨x, hx⟩ := get_some hj
      obtain ⟨b', o', e, hc⟩ := TextsAt.of_own h hn j x hx
      cases e
      rw [hc, List.getD_eq_getElem?_getD, List.getElem?_map, hx]
      rfl)
    refine H.mono fun e w' ⟨v, h1, h2, _, h3⟩ => ?_
    obtain ⟨a, cc, rfl⟩ := ow_slice h2
    have e : ((p.map fun t => ByteArray.mk t.toArray).take n).map Value.string = txs p := by
      rw [List.take_of_length_le (by rw [List.length_map]; omega), List.map_map]; rfl
    rw [e] at h2
    exact ⟨a, cc, h1, h2, below_turned h3 (Nat.le_refl _)⟩

/-- How many stand ahead of a child's own. -/
def cnt (sub : Txt → List (Txt × Nat)) (ks : List Txt) (k : Nat) : Nat := ((ks.take k).flatMap sub).length
theorem cnt_succ (sub : Txt → List (Txt × Nat)) {ks : List Txt} {k : Nat} {x : Txt} (h : ks[k]? = some x) : cnt sub ks (k + 1) = cnt sub ks k + (sub x).length := by
  unfold cnt
  rw [List.take_add_one, h]
  simp [List.flatMap_append]
theorem cnt_get (sub : Txt → List (Txt × Nat)) : ∀ {ks : List Txt} {k j : Nat} {x : Txt} {y : Txt × Nat}, ks[k]? = some x → (sub x)[j]? = some y → (ks.flatMap sub)[cnt sub ks k + j]? = some y
  | [], k, j, x, y, h, _ => by simp at h
  | z :: ks, 0, j, x, y, h, hy => by
    obtain rfl : z = x := by simpa using h
    have hj : j < (sub z).length := (List.getElem?_eq_some_iff.1 hy).1
    simp only [cnt, List.take_zero, List.flatMap_nil, List.length_nil, Nat.zero_add, List.flatMap_cons]
    rw [List.getElem?_append_left hj]; exact hy
  | z :: ks, k + 1, j, x, y, h, hy => by
    have h' : ks[k]? = some x := by simpa using h
    have ih := cnt_get sub h' hy
    have e : cnt sub (z :: ks) (k + 1) = (sub z).length + cnt sub ks k := by simp [cnt]
    rw [e, Nat.add_assoc, List.flatMap_cons, List.getElem?_append_right (by omega), Nat.add_sub_cancel_left]
    exact ih

theorem RoundIn.inRound {F : Fence} {m : Nat} {P : Program} {l : Nat} {f : FuncId} {tmps : Array Value} {assign body : Code} {w : World} {R : Ending → World → Prop} (l' : Nat) (h : RoundIn F m P l f tmps assign body w R) : RoundIn (F.inRound l') m P l f tmps assign body w R := h

section
variable {α : Type} {g : Operand} {ps : Array Tmp} {assign body : Code} {Qx : Exit → Act → World → Prop} {a : Act} {w : World} {gf : Nat} {lb : Array Value} {encs : α → Array Value} {xs : List α} {R : Thing}
theorem loopT_innerE {l0 : Nat} {r0 : Loop} (hl0 : w.heap[l0]? = some (.loop r0)) (hg : a.eval g = .func (.func gf) #[] lb) (eg : ∀ args w, (callFunc gf args).run Tryz.prog w = .ok (.enter gf args) w)
    (hseq : IterT gf lb encs xs R) (hps : ∀ x, (encs x).size = ps.size) (I : Nat → Thing) {Q0 S0 : Nat → Prop} (hR : R.at_ w S0) (h0 : (I 0).at_ w Q0) (hd : ∀ k, Q0 k → ¬ S0 k)
    (hround : ∀ x, ∃ a1, (∀ (l : Nat) (W : World) (K : Act → World → Prop), K a1 W → assign.wpIn (Fence.wide.inRound l) 9 Tryz.prog (Exit.then K (fun _ _ _ => False)) { tmps := (ps.zip (encs x)).foldl (fun t (p, v) => t.setIfInBounds p v) a.tmps, defers := [] } W) ∧
      (∀ (l k : Nat) (W : World) (Q : Nat → Prop), (∃ r, W.heap[l]? = some (.loop r)) → w.heap.size ≤ l → xs[k]? = some x → (I k).at_ W Q → ¬ Q l → Since Q0 w Q W → body.wpIn (Fence.wide.inRound l) 9 Tryz.prog (roundT (I (k + 1)) Q W) a1 W))
    (hdone : ∀ W', Goes (I xs.length) Q0 w W' → Qx .normal a W') :
    (Code.rangeFunc g ps assign body).wpIn (Fence.wide.inRound l0) 9 Tryz.prog Qx a w :=
  loopT_inner hl0 hg eg hseq hps I hR h0 hd (fun x => (hround x).choose) (fun l x W K hK => (hround x).choose_spec.1 l W K hK) (fun l k x W Q h1 h2 h3 h4 h5 h6 => (hround x).choose_spec.2 l k W Q h1 h2 h3 h4 h5 h6) hdone
theorem loopT_outerE (hg : a.eval g = .func (.func gf) #[] lb) (eg : ∀ args w, (callFunc gf args).run Tryz.prog w = .ok (.enter gf args) w)
    (hseq : IterT gf lb encs xs R) (hps : ∀ x, (encs x).size = ps.size) (I : Nat → Thing) {Q0 S0 : Nat → Prop} (hR : R.at_ w S0) (h0 : (I 0).at_ w Q0) (hd : ∀ k, Q0 k → ¬ S0 k)
    (hround : ∀ x, ∃ a1, (∀ (l : Nat) (W : World) (K : Act → World → Prop), K a1 W → assign.wpIn (Fence.wide.inRound l) 9 Tryz.prog (Exit.then K (fun _ _ _ => False)) { tmps := (ps.zip (encs x)).foldl (fun t (p, v) => t.setIfInBounds p v) a.tmps, defers := [] } W) ∧
      (∀ (l k : Nat) (W : World) (Q : Nat → Prop), (∃ r, W.heap[l]? = some (.loop r)) → w.heap.size ≤ l → xs[k]? = some x → (I k).at_ W Q → ¬ Q l → Since Q0 w Q W → body.wpIn (Fence.wide.inRound l) 9 Tryz.prog (roundT (I (k + 1)) Q W) a1 W))
    (hdone : ∀ (D : Nat) (W' : World) (Q : Nat → Prop), w.heap.size ≤ D → W'.heap[D]? = some (.deferred (some [])) → ¬ Q D → (I xs.length).at_ W' Q → Since Q0 w Q W' → Qx .normal { a with defers := { target := .collected D, args := #[] } :: a.defers } W') :
    (Code.rangeFunc g ps assign body).wpIn Fence.wide 9 Tryz.prog Qx a w :=
  loopT_outer hg eg hseq hps I hR h0 hd (fun x => (hround x).choose) (fun l x W K hK => (hround x).choose_spec.1 l W K hK) (fun l k x W Q h1 h2 h3 h4 h5 h6 => (hround x).choose_spec.2 l k W Q h1 h2 h3 h4 h5 h6) hdone
end

/-- What a node's iterator reads, once it is made. -/
theorem allR_new {g : Gr} {S1 : Nat → Prop} {V : World} {a : Option Addr} {n c nb : Nat} {p : Path} (hN : NodesAt V g S1) (hrow : V.ownsRow 0 9 1 (.slice a n c) n (txs p)) (hrd : ∀ k, (Value.slice a n c).ownBlock = some k → ¬ S1 k) (hrl : ∀ k, (Value.slice a n c).ownBlock = some k → k < V.heap.size) :
    (allR g (V.heap.size + 1) V.heap.size a n c p nb).at_ ((V.alloc (.cells #[.pointer (some ⟨nb, 0, none⟩)] 55)).alloc (.cells #[.slice a n c] 23)) (fun k => (S1 k ∨ k = V.heap.size) ∨ k = V.heap.size + 1 ∨ (Value.slice a n c).ownBlock = some k) := by
  have t1 : Still V (V.alloc (.cells #[.pointer (some ⟨nb, 0, none⟩)] 55)) := (Turned.refl _ _).alloc _
  have t2 : Still V ((V.alloc (.cells #[.pointer (some ⟨nb, 0, none⟩)] 55)).alloc (.cells #[.slice a n c] 23)) := t1.alloc _
  have hb1 := (Blk.new V [.pointer (some ⟨nb, 0, none⟩)] 55).turned ((Turned.refl (fun _ => False) (V.alloc (.cells #[.pointer (some ⟨nb, 0, none⟩)] 55))).alloc (.cells #[.slice a n c] 23)) (fun h => h)
  have hb2 := Blk.new (V.alloc (.cells #[.pointer (some ⟨nb, 0, none⟩)] 55)) [.slice a n c] 23
  rw [World.size_alloc] at hb2
  have hNl := (nodesT g).lt hN
  refine ⟨_, _, ⟨S1, (· = V.heap.size), (nodesT g).keep hN t2 (fun _ _ h => h), ⟨hb1, fun _ => Iff.rfl⟩, fun k hk e => ?_, fun _ => Iff.rfl⟩, ⟨(· = V.heap.size + 1), _, ⟨hb2, fun _ => Iff.rfl⟩, ⟨ow_still hrow t2, fun _ => Iff.rfl⟩, fun k e hk => ?_, fun _ => Iff.rfl⟩, ?_, fun _ => Iff.rfl⟩
  · have := hNl k hk; omega
  · have := hrl k hk; omega
  · rintro k (hk | hk) (e | e)
    · have := hNl k hk; omega
    · exact hrd k e hk
    · omega
    · have := hrl k e; omega

set_option maxHeartbeats 8000000 in
theorem all_step {g : Gr} (hsm : ∀ p, ∃ K : List Txt, K.length ≤ 100000 ∧ ∀ l, (g (p ++ [l])).isSome = true → l ∈ K) (hlen : ∀ p l, (g (p ++ [l])).isSome = true → l.length ≤ 300)
    {p : Path} {d : Nd} (hp : g p = some d) (hpl : p.length ≤ 50) (hp3 : ∀ x ∈ p, x.length ≤ 300) {ks : List Txt} (hks : IsKids (kidsOf g p) ks) (sub : Txt → List (Txt × Nat))
    (hsub : ∀ x ∈ ks, ∀ Bl Bn a n c, n = p.length + 1 → IterT 73 #[.pointer (some ⟨Bl, 0, none⟩), .pointer (some ⟨Bn, 0, none⟩)] encN (sub x) (allR g Bl Bn a n c (p ++ [x]) (nbOf g (p ++ [x]))))
    (Bl Bn : Nat) (a : Option Addr) (n c : Nat) (hn : n = p.length) :
    IterT 73 #[.pointer (some ⟨Bl, 0, none⟩), .pointer (some ⟨Bn, 0, none⟩)] encN ((jn p, d.nb) :: ks.flatMap sub) (allR g Bl Bn a n c p d.nb) := by
  intro l J W Q S hR h0 hd hY
  obtain ⟨S1, hN, hS1, hbn, hSn, hnot, hbl, hSl, hrow⟩ := allR_parts hR
  obtain ⟨i0, hi, hz0, hz1, hz2⟩ := info_parts infoStr
  have HJn := Lib.hid (fun V (h : Still W V) => join_any p V a n c hn (TextsAt.of_own (ow_still hrow h) hn) (SlW.of_own hrow) (by omega) hp3)
  have hn100 : n ≤ 50 := by omega
  have hcl := hbl.cell (o := 0) rfl
  have hcn := hbn.cell (o := 0) rfl
  have HW := Lib.hid (fun V (h : Still W V) => show V.cell? ⟨Bl, 0, none⟩ = some (.slice a n c) ∧ V.cell? ⟨Bn, 0, none⟩ = some (.pointer (some ⟨d.nb, 0, none⟩)) from ⟨(hbl.turned h (fun h => h)).cell rfl, (hbn.turned h (fun h => h)).cell rfl⟩)
  -- behind the box of the yield
  obtain ⟨W1, hW1⟩ : ∃ W1, W1 = W.alloc (.cells #[.func (.yield l) #[] #[]] 96) := ⟨_, rfl⟩
  have hs1 : Still W W1 := by rw [hW1]; exact (Turned.refl _ _).alloc _
  have hbY : Blk W1 W.heap.size [.func (.yield l) #[] #[]] 96 := by rw [hW1]; exact Blk.new W [.func (.yield l) #[] #[]] 96
  have HS1 : Since Q W Q W1 := ⟨hs1.mono (fun _ _ h => h.elim), fun _ h => .inl h⟩
  have HE := Lib.hid (fun (A : Thing) V Q' (h : Since Q W1 Q' V) (hA : A.at_ V Q') => (HS1.trans h).goes hA)
  have HJ0 := Lib.hid (show (J 0).at_ W1 Q from (J 0).keep h0 hs1 (fun _ _ h => h))
  have HY := Lib.hid (fun k x V Q1 (hx : ((jn p, d.nb) :: ks.flatMap sub)[k]? = some x) (hJ : (J k).at_ V Q1) (h : Since Q W1 Q1 V) => show YieldAt Fence.wide 9 Tryz.prog l (encN x) V (fun e W' => e = .returned (.bool true) ∧ Hid (Goes (J (k + 1)) Q1 V W')) from by
    obtain ⟨fn, tmps, assign, body, hy, hr⟩ := hY k x V Q1 hx hJ (HS1.trans h)
    exact ⟨fn, tmps, assign, body, hy, hr.mono (fun e W' h => ⟨h.1, Lib.hid h.2⟩)⟩)
  have HY0 := Lib.hid (fun V (h : Still W1 V) => show YieldAt Fence.wide 8 Tryz.prog l (encN (jn p, d.nb)) V (fun e W' => e = .returned (.bool true) ∧ Hid (Goes (J 1) Q V W')) from
    YieldAt.any 8 (HY.out 0 (jn p, d.nb) V Q rfl ((J 0).keep HJ0.out h (fun _ _ h => h)) ⟨h.mono (fun _ _ h => h.elim), fun _ h => .inl h⟩))
  have hSlt := (allR g Bl Bn a n c p d.nb).lt hR
  have hQlt := (J 0).lt h0
  have HR := Lib.hid (fun V Q' (h : Since Q W1 Q' V) => show (allR g Bl Bn a n c p d.nb).at_ V S ∧ (∀ k, Q' k → ¬ S k) ∧ V.cell? ⟨W.heap.size, 0, none⟩ = some (.func (.yield l) #[] #[]) from by
    have h1 := h.stays (A := allR g Bl Bn a n c p d.nb) ((allR g Bl Bn a n c p d.nb).keep hR hs1 (fun _ _ h => h)) hd
    have h2 := h.stays (A := blkT W.heap.size [.func (.yield l) #[] #[]] 96) ⟨hbY, fun _ => Iff.rfl⟩ (fun k hk e => by have := hQlt k hk; omega)
    exact ⟨h1.1, h1.2, h2.1.1.cell rfl⟩)
  refine (callsIn_wide (n := 9)).1 (callsIn_of_wp_marks Tryz.func73 rfl trivial ?_ rfl)
  simp only [Tryz.ntmps73, List.size_toArray, List.length_cons, List.length_nil, Nat.reduceAdd, Nat.reduceSub, Array.replicate_succ, Array.replicate_zero, List.push_toArray, List.append_toArray, List.nil_append, List.cons_append]
  have hf1 : Fence.wide.fn 74 := trivial
  have hf2 : Fence.wide.fn 75 := trivial
  have hf3 : Fence.wide.fn 55 := trivial
  have hf4 : Fence.wide.fn 76 := trivial
  have HNn := Lib.hid hn
  clear hn
  gi_upto_region 1 with fail
  have hsd : Still W W1.drew := hs1.drew
  have k1 := (HW.out _ hsd).1
  have k2 := (HW.out _ hsd).2
  have hs1d : Still W1 W1.drew := (Turned.refl _ _).drew
  have HBY := Lib.hid (fun V (h : Still W1 V) => show V.cell? ⟨W.heap.size, 0, none⟩ = some (.func (.yield l) #[] #[]) from (hbY.turned h (fun h => h)).cell rfl)
  have k3 := HBY.out W1.drew hs1d
  rw [← hW1]
  unfold tx at HJn
  dsimp only [encN] at HY0
  unfold tx at HY0
  clear hW1 hN hS1 hbn hSn hbl hSl hrow hR hY hnot h0 hd hbY HS1 hSlt hQlt
  have hmx : Tryz.prog.follows .mixedOrders = true := by kernel_rfl
  gi_cut [13] from 8 (fun s13 wx => s13 = .bool false ∧ Hid (∃ Q1, (J 1).at_ wx Q1 ∧ Since Q W1 Q1 wx))
  case first =>
    clear hks hsub hsm hlen HJ0 HE HR
    first | gi_region_with_o (first
      | (gi_at_call 74; ((with_reducible refine (callsIn_wide.2 (HJn.out _ hsd)).mono ?_)); rintro e w2 ⟨rfl, hT2⟩; have hs2 : Still W w2 := hsd.trans hT2; have hs12 : Still W1 w2 := hs1d.trans hT2; have q1 := (HW.out _ hs2).1; have q2 := (HW.out _ hs2).2; have q3 := HBY.out _ hs12; obtain ⟨fn, tmps, assign, body, hy, hRo⟩ := HY0.out w2 hs12)
      | ((with_reducible refine (RoundIn.any _ hRo).mono ?_); rintro e W3 ⟨rfl, hgo⟩)) | fail
    all_goals (
      have HSi3 := Lib.hid (show ∃ Q1, (J 1).at_ W3 Q1 ∧ Since Q W1 Q1 W3 from by
        obtain ⟨Q1, h1, h2, h3⟩ := hgo.out
        exact ⟨Q1, h1, Since.trans ⟨hs12.mono (fun _ _ h => h.elim), fun _ h => .inl h⟩ ⟨h2, h3⟩⟩)
      clear hgo hRo hy q1 q2 q3 hs2 hs12 hT2 k1 k2 k3
      gi_wp2_with fail
      gi_meet
      case rel => exact ⟨rfl, HSi3⟩)
  case rest =>
    obtain ⟨rfl, H3⟩ := hcut
    obtain ⟨Q1, hJ1, hsi⟩ := H3.out
    obtain ⟨hA3, hd3, _⟩ := HR.out wc Q1 hsi
    obtain ⟨S1, hN3, hS13, hbn3, hSn3, hnot3, hbl3, hSl3, hrow3⟩ := allR_parts hA3
    have c1 := hbn3.cell (o := 0) rfl
    have hQ1l := (J 1).lt hJ1
    have hS1l := (nodesT g).lt hN3
    have ht4 : Still wc (wc.alloc (.cells #[.pointer (some ⟨d.nb, 0, none⟩)] 55)) := (Turned.refl _ _).alloc _
    have HOr := Lib.hid (yordered_any d.nb wc)
    have HSe := Lib.hid (ordered_it hsm (fun p l h => by have := hlen p l h; omega) hp hks wc.heap.size)
    have HRo := Lib.hid (show (ordR g wc.heap.size d.nb).at_ (wc.alloc (.cells #[.pointer (some ⟨d.nb, 0, none⟩)] 55)) (fun k => S1 k ∨ k = wc.heap.size) from
      ⟨S1, (· = wc.heap.size), (nodesT g).keep hN3 ht4 (fun _ _ h => h), ⟨Blk.new wc [.pointer (some ⟨d.nb, 0, none⟩)] 55, fun _ => Iff.rfl⟩, fun k hk e => by have := hS1l k hk; omega, fun _ => Iff.rfl⟩)
    have HJ1 := Lib.hid (show (J (1 + cnt sub ks 0)).at_ (wc.alloc (.cells #[.pointer (some ⟨d.nb, 0, none⟩)] 55)) Q1 from (J 1).keep hJ1 ht4 (fun _ _ h => h))
    have HDd := Lib.hid (show ∀ k, Q1 k → ¬ (S1 k ∨ k = wc.heap.size) from fun k hk h => by
      rcases h with h | h
      · exact hd3 k hk (hS13 k h)
      · have := hQ1l k hk; omega)
    have HSi := Lib.hid (show Since Q W1 Q1 (wc.alloc (.cells #[.pointer (some ⟨d.nb, 0, none⟩)] 55)) from hsi.trans ⟨ht4.mono (fun _ _ h => h.elim), fun _ h => .inl h⟩)
    have hme := hks.mem
    clear hA3 hd3 hN3 hS13 hbn3 hSn3 hnot3 hbl3 hSl3 hrow3 hQ1l hS1l ht4 hJ1 hsi HJn HY0 HW k1 k2 k3 hsd hs1d hcl hcn
    gi_wp2_with (gi_at_call 75; ((with_reducible refine (callsIn_wide.2 HOr.out).mono ?_)); rintro e w4 ⟨rfl, rfl⟩)
    refine loopT_outerE rfl (enters_of Tryz.func103 (by kernel_rfl) rfl) HSe.out (by exact fun _ => rfl) (fun k => J (1 + cnt sub ks k)) HRo.out HJ1.out HDd.out ?_ ?_
    · rintro ⟨x, nbx⟩
      apply Exists.intro
      apply And.intro
      · intro l1 V K hK
        dsimp only [encN]
        unfold tx
        gi_wp2
        exact hK
      · intro l1 k V Q' hr hl1 hx hJk hQl hsk
        obtain ⟨hxk, hnx⟩ : ks[k]? = some x ∧ nbOf g (p ++ [x]) = nbx := by
          obtain ⟨y, hy, e⟩ : ∃ y, ks[k]? = some y ∧ (y, nbOf g (p ++ [y])) = (x, nbx) := by
            unfold kidsL at hx; rw [List.getElem?_map] at hx
            cases h : ks[k]? with
            | none => rw [h] at hx; simp at hx
            | some y => rw [h] at hx; exact ⟨y, rfl, by simpa using hx⟩
          obtain ⟨rfl, e2⟩ := Prod.mk.inj e
          exact ⟨hy, e2⟩
        have hs := HSi.out.trans hsk
        obtain ⟨hAV, hdV, _⟩ := HR.out V Q' hs
        obtain ⟨S1, hNV, hS1V, _, _, _, hblV, _, hrowV⟩ := allR_parts hAV
        have c2 := hblV.cell (o := 0) rfl
        have HClo := Lib.hid (cloneS_any hrowV HNn.out (by omega))
        have HPost := Lib.hid (show ∀ V1 V2 a1 c1 a2 c2, V1.ownsRow V.heap.size 9 1 (.slice a1 n c1) n (txs p) → Still V V1 → V2.ownsRow V.heap.size 9 1 (.slice a2 (n + 1) c2) (n + 1) (txs p ++ [.string ⟨x.toArray⟩]) → (V1.alloc (.cells #[.string ⟨x.toArray⟩] 9)).grownBy V2 (Value.slice a1 n c1).ownBlock →
            Hid (Still V ((V2.alloc (.cells #[.pointer (some ⟨nbx, 0, none⟩)] 55)).alloc (.cells #[.slice a2 (n + 1) c2] 23)) ∧ ∃ S5, (∀ k, Q' k → ¬ S5 k) ∧ (allR g (V2.heap.size + 1) V2.heap.size a2 (n + 1) c2 (p ++ [x]) nbx).at_ ((V2.alloc (.cells #[.pointer (some ⟨nbx, 0, none⟩)] 55)).alloc (.cells #[.slice a2 (n + 1) c2] 23)) S5) from by
          intro V1 V2 a1 c1 a2 c2 h1 h2 h3 h4
          have hlow : ∀ k, (Value.slice a1 n c1).ownBlock = some k → V.heap.size ≤ k := fun k hk => (h1.lt k hk).1
          have hSt : Still V V2 := (h2.alloc _).grown h4 (fun k hk => .inr (hlow k hk))
          have hl2 : ∀ k, (Value.slice a2 (n + 1) c2).ownBlock = some k → V.heap.size ≤ k := fun k hk => (h3.lt k hk).1
          have h6 := (nodesT g).lt hNV
          have h5 := (J (1 + cnt sub ks k)).lt hJk
          have h7 := hSt.size
          refine Lib.hid ⟨(hSt.alloc _).alloc _, _, fun b hq => ?_, allR_new (S1 := S1) ((nodesT g).keep hNV hSt (fun _ _ h => h)) (ow_base (by unfold txs at *; rw [List.map_append]; exact h3) (Nat.zero_le _)) (fun b hb hh => by have := hl2 b hb; have := h6 b hh; omega) (fun b hb => (h3.lt b hb).2)⟩
          have h8 := h5 b hq
          rintro ((h | h) | h | h)
          · exact hdV b hq (hS1V b h)
          · omega
          · omega
          · have := hl2 b h; omega)
        have hxm : x ∈ ks := List.mem_of_getElem? hxk
        have HSub := Lib.hid (fun Bl Bn a2 c2 => by have := hsub x hxm Bl Bn a2 (n + 1) c2 (by rw [HNn.out]); rw [hnx] at this; exact this)
        have HCn := Lib.hid (cnt_succ sub hxk)
        have HGet := Lib.hid (fun j y (h : (sub x)[j]? = some y) => show ((jn p, d.nb) :: ks.flatMap sub)[1 + cnt sub ks k + j]? = some y from by
          rw [show 1 + cnt sub ks k + j = (cnt sub ks k + j) + 1 by omega, List.getElem?_cons_succ]
          exact cnt_get sub hxk h)
        have HS := Lib.hid hs
        have HJk := Lib.hid hJk
        obtain ⟨r0, hr0⟩ := hr
        have HL0 := Lib.hid (fun V' (h : Still V V') => show V'.heap[l1]? = some (.loop r0) from (h.block l1 (Array.getElem?_eq_some_iff.1 hr0).1 (fun h => h)).trans hr0)
        clear hxk hnx hs hAV hdV hNV hS1V hblV hrowV hxm hJk hr0 hsk hx hQl hsub hsm hlen hks hme HSe HRo HJ1 HDd HOr c1
        gi_wp2_with (first
          | (gi_at_call 76; ((with_reducible refine (CallsIn.inRound l1 (callsIn_wide.2 HClo.out)).mono ?_)); rintro e V1 ⟨a1, c1, rfl, hown1, hT1⟩)
          | (gi_at_builtin; refine wpListIn_append_own _ rfl _ _ 23 rfl V.heap.size 9 i0 (.string ⟨#[]⟩) 1 16 Tryz.underlying23 hi hz0 hz1 hz2 rfl (by decide) _ _ _ rfl (hown1.alloc _) ⟨V1.heap.size, 0, none⟩ 1 1 [.string ⟨x.toArray⟩] rfl rfl (cell_one_new _ _ _) (by simp [Value.oneCell']) (by unfold maxLen; omega) (by omega) (by have := hT1.size; simp; omega) ?_; intro v' V2 hown2 hgrow _; obtain ⟨a2, c3, rfl⟩ := ow_slice hown2; have HP := HPost.out V1 V2 a1 c1 a2 c3 hown1 hT1 hown2 hgrow; clear hown1 hown2 hgrow)
          | (gi_at_call 55; ((with_reducible refine (CallsIn.inRound l1 (callsIn_wide.2 (yall_any nbx a2 (n + 1) c3 V2))).mono ?_)); rintro e V3 ⟨rfl, rfl⟩))
        obtain ⟨hT3, S5, hd5, hR5⟩ := HP.out
        obtain ⟨W3, hW3⟩ : ∃ W3, W3 = (V2.alloc (.cells #[.pointer (some ⟨nbx, 0, none⟩)] 55)).alloc (.cells #[.slice a2 (n + 1) c3] 23) := ⟨_, rfl⟩
        rw [← hW3] at hT3 hR5 ⊢
        have HT3 := Lib.hid hT3
        have hJ5 : (J (1 + cnt sub ks k + 0)).at_ W3 Q' := (J (1 + cnt sub ks k)).keep HJk.out hT3 (fun _ _ h => h)
        refine loopT_innerE (HL0.out W3 hT3) rfl (enters_of Tryz.func73 (by kernel_rfl) rfl) (HSub.out _ _ a2 c3) (by exact fun _ => rfl) (fun j => J (1 + cnt sub ks k + j)) hR5 hJ5 hd5 ?_ ?_
        · rintro ⟨y, nby⟩
          apply Exists.intro
          apply And.intro
          · intro l2 V4 K hK
            dsimp only [encN]
            unfold tx
            gi_wp2
            exact hK
          · intro l2 j V4 Q4 hr4 hl4 hy hJ4 hQl4 hs4
            have hs5 : Since Q W1 Q4 V4 := HS.out.trans (Since.trans ⟨HT3.out.mono (fun _ _ h => h.elim), fun _ h => .inl h⟩ hs4)
            have hcy := (HR.out V4 Q4 hs5).2.2
            obtain ⟨fn, tmps, assign, body, hyv, hRo⟩ := HY.out _ (y, nby) V4 Q4 (HGet.out j (y, nby) hy) hJ4 hs5
            have HRd := Lib.hid hRo
            dsimp only [encN] at hyv
            unfold tx at hyv
            clear hRo hs5 hy hJ4 hs4 hQl4 hr4 hJ5 hR5 hd5 hT3
            gi_wp2
            refine (RoundIn.inRound l2 (RoundIn.any _ HRd.out)).mono ?_
            rintro e V5 ⟨rfl, hgo⟩
            gi_wp2
            exact hgo.out
        · intro W' hg'
          have hfin : Goes (J (1 + cnt sub ks (k + 1))) Q' V W' := by
            obtain ⟨Q5, h1, h2⟩ := hg'.since
            have h1' : (J (1 + cnt sub ks (k + 1))).at_ W' Q5 := by rw [HCn.out, ← Nat.add_assoc]; exact h1
            exact (Since.trans ⟨HT3.out.mono (fun _ _ h => h.elim), fun _ h => .inl h⟩ h2).goes h1'
          gi_wp2
          exact hfin
    · intro D V Q' hD hK hQD hJk hsk
      have hlk : (kidsL g p ks).length = ks.length := kidsL_length g p ks
      rw [hlk] at hJk
      have hce : cnt sub ks ks.length = (ks.flatMap sub).length := by unfold cnt; rw [List.take_length]
      rw [hce, Nat.add_comm] at hJk
      have hfin : ∀ V', Turned (· = D) V V' → Goes (J ((ks.flatMap sub).length + 1)) Q W V' := fun V' hT => by
        have hQl : ∀ k, Q' k → ¬ k = D := fun k hk e => hQD (e ▸ hk)
        refine HE.out _ V' Q' ⟨(HSi.out.trans hsk).turn.past hT (fun i e => .inr ?_), (HSi.out.trans hsk).grow⟩ ((J _).keep hJk hT hQl)
        have := HSi.out.turn.size
        omega
      gi_wp2
      refine ⟨by simp, .inl ⟨_, _, rfl, run_takeDeferred hK, ?_⟩⟩
      refine ⟨_, results_none rfl _ _ _, ⟨_, rfl⟩, hfin _ (putObj_since _ (Array.getElem?_eq_some_iff.1 hK).1)⟩
end Go.Proofs.YtpmkokckjieidaaGreatDoor

/- The iterator over all nodes goes through them all, each once. No condition but that the tree is one, and of few levels. -/
namespace Go.Proofs.YtpmkokckjieidaaGreatDoor
open Go.RowKit Go.Shelf Go.Sort Go.Maps
set_option linter.unusedVariables false
set_option linter.unusedSimpArgs false
set_option maxRecDepth 100000

/-- The nodes from one on, each ahead of those below. -/
def preP (K : Path → List Txt) : Nat → Path → List Path
  | 0, p => [p]
  | n + 1, p => p :: (K p).flatMap fun l => preP K n (p ++ [l])
def namP (g : Gr) (p : Path) : Txt × Nat := (jn p, nbOf g p)

theorem kids_exist {w : World} {g : Gr} {S : Nat → Prop} (hN : NodesAt w g S) (hsm : ∀ p, ∃ K : List Txt, K.length ≤ 100000 ∧ ∀ l, (g (p ++ [l])).isSome = true → l ∈ K) (p : Path) (hp : (g p).isSome = true) : ∃ ks, IsKids (kidsOf g p) ks := by
  obtain ⟨d, hd⟩ := Option.isSome_iff_exists.1 hp
  obtain ⟨K, _, hKm⟩ := hsm p
  obtain ⟨nn, D0, hown, hn, hnK, hnd, hmem⟩ := (hN.node hd).map.small (fun l hl => hKm l (by unfold kidsOf at hl; simpa using hl))
  exact ⟨(strKeys D0).mergeSort leB, (List.mergeSort_perm _ leB).nodup_iff.2 hnd, fun l => by rw [(List.mergeSort_perm _ leB).mem_iff, hmem], mergeSort_of_perm (List.mergeSort_perm _ leB)⟩

/-- The tree's shape: few levels, each short; the children of each. -/
structure Shape (g : Gr) (K : Path → List Txt) : Prop where
  kids : ∀ p, (g p).isSome = true → IsKids (kidsOf g p) (K p)
  deep : ∀ p, (g p).isSome = true → p.length ≤ 8
  short : ∀ p, (g p).isSome = true → ∀ x ∈ p, x.length ≤ 300
  up : ∀ p l, (g (p ++ [l])).isSome = true → (g p).isSome = true

theorem Shape.kid {g : Gr} {K : Path → List Txt} (h : Shape g K) {p : Path} (hp : (g p).isSome = true) (l : Txt) : l ∈ K p ↔ (g (p ++ [l])).isSome = true := by
  rw [(h.kids p hp).mem]; unfold kidsOf; simp
theorem Shape.leaf {g : Gr} {K : Path → List Txt} (h : Shape g K) {p : Path} (hp : (g p).isSome = true) (h8 : 8 ≤ p.length) : K p = [] := by
  cases hK : K p with
  | nil => rfl
  | cons l r =>
    have h1 := (h.kid hp l).1 (by rw [hK]; simp)
    have h2 := h.deep _ h1
    simp at h2; omega
theorem Shape.pre {g : Gr} {K : Path → List Txt} (h : Shape g K) : ∀ (r p : Path), (g (p ++ r)).isSome = true → (g p).isSome = true
  | [], p, hr => by rwa [List.append_nil] at hr
  | x :: r, p, hr => h.up p x (h.pre r (p ++ [x]) (by rwa [List.append_assoc]))

theorem Shape.mem {g : Gr} {K : Path → List Txt} (h : Shape g K) : ∀ (n : Nat) (p : Path), (g p).isSome = true → 8 ≤ p.length + n → ∀ q, q ∈ preP K n p ↔ p <+: q ∧ (g q).isSome = true
  | 0, p, hp, h8, q => by
    simp only [preP, List.mem_singleton]
    constructor
    · rintro rfl; exact ⟨List.prefix_refl _, hp⟩
    · rintro ⟨⟨r, rfl⟩, hq⟩
      have := h.deep _ hq
      rw [List.length_append] at this
      rw [List.eq_nil_of_length_eq_zero (show r.length = 0 by omega), List.append_nil]
  | n + 1, p, hp, h8, q => by
    simp only [preP, List.mem_cons, List.mem_flatMap]
    constructor
    · rintro (rfl | ⟨l, hl, hq⟩)
      · exact ⟨List.prefix_refl _, hp⟩
      · have hs := (h.kid hp l).1 hl
        obtain ⟨h1, h2⟩ := (h.mem n (p ++ [l]) hs (by simp; omega) q).1 hq
        exact ⟨(List.prefix_append _ _).trans h1, h2⟩
    · rintro ⟨⟨r, rfl⟩, hq⟩
      cases r with
      | nil => exact .inl (List.append_nil _)
      | cons l r =>
        have e : p ++ l :: r = (p ++ [l]) ++ r := by simp
        rw [e] at hq
        have hs := h.pre r (p ++ [l]) hq
        refine .inr ⟨l, (h.kid hp l).2 hs, (h.mem n (p ++ [l]) hs (by simp; omega) _).2 ⟨by rw [e]; exact List.prefix_append _ _, by rw [e]; exact hq⟩⟩

theorem Shape.nodup {g : Gr} {K : Path → List Txt} (h : Shape g K) : ∀ (n : Nat) (p : Path), (g p).isSome = true → 8 ≤ p.length + n → (preP K n p).Nodup
  | 0, p, hp, h8 => by simp [preP]
  | n + 1, p, hp, h8 => by
    simp only [preP, List.nodup_cons]
    refine ⟨fun hm => ?_, ?_⟩
    · obtain ⟨l, hl, hq⟩ := List.mem_flatMap.1 hm
      have := ((h.mem n (p ++ [l]) ((h.kid hp l).1 hl) (by simp; omega) p).1 hq).1.length_le
      rw [List.length_append] at this
      exact Nat.not_succ_le_self _ this
    · have hk : ∀ l ∈ K p, (g (p ++ [l])).isSome = true := fun l hl => (h.kid hp l).1 hl
      have hnd := (h.kids p hp).nodup
      generalize K p = ks at hk hnd
      induction ks with
      | nil => simp
      | cons l r ih =>
        rw [List.flatMap_cons]
        have h1 := hk l (by simp)
        refine List.nodup_append.2 ⟨h.nodup n (p ++ [l]) h1 (by simp; omega), ih (fun x hx => hk x (List.mem_cons_of_mem _ hx)) (List.nodup_cons.1 hnd).2, ?_⟩
        intro a ha b hb hab
        subst hab
        obtain ⟨l', hl', hb⟩ := List.mem_flatMap.1 hb
        have p1 := ((h.mem n (p ++ [l]) h1 (by simp; omega) a).1 ha).1
        have p2 := ((h.mem n (p ++ [l']) (hk l' (List.mem_cons_of_mem _ hl')) (by simp; omega) a).1 hb).1
        obtain ⟨r1, e1⟩ := p1
        obtain ⟨r2, e2⟩ := p2
        rw [← e1, List.append_assoc, List.append_assoc] at e2
        have e3 := List.append_cancel_left e2
        simp at e3
        exact (List.nodup_cons.1 hnd).1 (e3.1 ▸ hl')

theorem all_it {g : Gr} {K : Path → List Txt} (h : Shape g K) (hsm : ∀ p, ∃ K : List Txt, K.length ≤ 100000 ∧ ∀ l, (g (p ++ [l])).isSome = true → l ∈ K) :
    ∀ (n : Nat) (p : Path) (d : Nd), g p = some d → 8 ≤ p.length + n → ∀ (Bl Bn : Nat) (a : Option Addr) (m c : Nat), m = p.length →
      IterT 73 #[.pointer (some ⟨Bl, 0, none⟩), .pointer (some ⟨Bn, 0, none⟩)] encN ((preP K n p).map (namP g)) (allR g Bl Bn a m c p d.nb) := by
  have hlen : ∀ p l, (g (p ++ [l])).isSome = true → l.length ≤ 300 := fun p l hs => h.short _ hs l (by simp)
  intro n
  induction n with
  | zero =>
    intro p d hp h8 Bl Bn a m c hm
    have hp' : (g p).isSome = true := by rw [hp]; rfl
    have hk := h.kids p hp'
    have := all_step hsm hlen hp (by have := h.deep p hp'; omega) (h.short p hp') hk (fun _ => []) (fun x hx => by rw [h.leaf hp' (by omega)] at hx; cases hx) Bl Bn a m c hm
    rw [h.leaf hp' (by omega)] at this
    have hnb : nbOf g p = d.nb := by unfold nbOf; rw [hp]
    simpa [preP, namP, hnb] using this
  | succ n ih =>
    intro p d hp h8 Bl Bn a m c hm
    have hp' : (g p).isSome = true := by rw [hp]; rfl
    have hk := h.kids p hp'
    have hnb : nbOf g p = d.nb := by unfold nbOf; rw [hp]
    have := all_step hsm hlen hp (by have := h.deep p hp'; omega) (h.short p hp') hk (fun l => (preP K n (p ++ [l])).map (namP g)) (fun x hx Bl Bn a m c hm => by
      obtain ⟨d', hd'⟩ := Option.isSome_iff_exists.1 ((h.kid hp' x).1 hx)
      have hnb' : nbOf g (p ++ [x]) = d'.nb := by unfold nbOf; rw [hd']
      rw [hnb']
      exact ih (p ++ [x]) d' hd' (by simp; omega) Bl Bn a m c (by simp; omega)) Bl Bn a m c hm
    simpa [preP, namP, hnb, List.map_flatMap] using this

/-- The tree's shape, from its pairs. -/
theorem TreeIn.shape {w : World} {q : Nat} {L : List Pr} {g : Gr} {d0 : Nd} {S : Nat → Prop} (h : TreeIn w q L g d0 S) (hL : TOk L) (hf : ∀ p ∈ L, (spl p.1).length ≤ 8 ∧ ∀ x ∈ spl p.1, x.length ≤ 300) : ∃ K, Shape g K := by
  have hsm := fun p => h.gl.small hL p
  have hex : ∀ p : Path, ∃ ks : List Txt, (g p).isSome = true → IsKids (kidsOf g p) ks := fun p => by
    by_cases hp : (g p).isSome = true
    · obtain ⟨ks, hk⟩ := kids_exist h.nodes hsm p hp; exact ⟨ks, fun _ => hk⟩
    · exact ⟨[], fun hh => absurd hh hp⟩
  obtain ⟨K, hK⟩ := Classical.axiomOfChoice hex
  refine ⟨K, hK, fun p hp => ?_, fun p hp x hx => ?_, h.wf.up⟩
  · rcases (h.gl.node p).1 hp with rfl | ⟨q, hq, hpr⟩
    · simp
    · exact Nat.le_trans hpr.length_le (hf q hq).1
  · rcases (h.gl.node p).1 hp with rfl | ⟨q, hq, hpr⟩
    · simp at hx
    · exact (hf q hq).2 x (hpr.subset hx)
end Go.Proofs.YtpmkokckjieidaaGreatDoor

/- How many nodes the tree has. No condition but that the tree is one. -/
namespace Go.Proofs.YtpmkokckjieidaaGreatDoor
open Go.RowKit Go.Shelf
attribute [local go_sem] Oper.semAt_some
set_option linter.unusedVariables false
set_option linter.unusedSimpArgs false
set_option maxRecDepth 100000

theorem jn_mem_len : ∀ {ls : List Txt} {x : Txt}, x ∈ ls → x.length ≤ (jn ls).length
  | [], x, h => by cases h
  | [y], x, h => by simp at h; subst h; exact Nat.le_refl _
  | y :: z :: r, x, h => by
    simp only [jn, List.length_append, List.length_cons]
    rcases List.mem_cons.1 h with rfl | h
    · omega
    · have := jn_mem_len (ls := z :: r) h; omega
theorem TOk.few {L : List Pr} (hL : TOk L) : ∀ p ∈ L, (spl p.1).length ≤ 8 ∧ ∀ x ∈ spl p.1, x.length ≤ 300 := fun p hp => by
  have h := fcE_iff.1 (hL.ok p hp).1
  refine ⟨h.2.2.2.1, fun x hx => ?_⟩
  have := jn_mem_len hx
  rw [jn_spl] at this
  omega

/-- All nodes, each once, and the iterator that goes through them. -/
theorem tree_it {w : World} {q : Nat} {L : List Pr} {g : Gr} {d0 : Nd} {S : Nat → Prop} (h : TreeIn w q L g d0 S) (hL : TOk L) : ∃ ps : List Path, ps.Nodup ∧ (∀ p, p ∈ ps ↔ (g p).isSome = true) ∧
    ∀ Bl Bn a c, IterT 73 #[.pointer (some ⟨Bl, 0, none⟩), .pointer (some ⟨Bn, 0, none⟩)] encN (ps.map (namP g)) (allR g Bl Bn a 0 c [] d0.nb) := by
  obtain ⟨K, hK⟩ := h.shape hL hL.few
  have h0 : (g []).isSome = true := by rw [h.root]; rfl
  exact ⟨preP K 8 [], hK.nodup 8 [] h0 (by simp), fun p => by rw [hK.mem 8 [] h0 (by simp)]; simp, fun Bl Bn a c => all_it hK (fun p => h.gl.small hL p) 8 [] d0 h.root (by simp) Bl Bn a 0 c rfl⟩

set_option maxHeartbeats 4000000 in
theorem ynodes_ps {w : World} {q : Nat} {L : List Pr} {g : Gr} {d0 : Nd} {S : Nat → Prop} (h : TreeIn w q L g d0 S) {ps : List Path} (hlen : ps.length ≤ 100000)
    (hit : ∀ Bl Bn a c, IterT 73 #[.pointer (some ⟨Bl, 0, none⟩), .pointer (some ⟨Bn, 0, none⟩)] encN (ps.map (namP g)) (allR g Bl Bn a 0 c [] d0.nb)) :
    Calls Tryz.prog 29 #[.pointer (some ⟨q, 0, none⟩)] w fun e w' => e = .returned (.int .i64 (ps.length : Nat)) ∧ Still w w' := by
  have c0 := h.blk.cell (o := 0) rfl
  have HM := Lib.hid (ymade_any c0)
  obtain ⟨W1, hW1⟩ : ∃ W1, W1 = w.alloc (.cells #[.int .i64 0] 3) := ⟨_, rfl⟩
  have hs1 : Still w W1 := by rw [hW1]; exact (Turned.refl _ _).alloc _
  have hb1 : Blk W1 w.heap.size [.int .i64 0] 3 := by rw [hW1]; exact Blk.new w [.int .i64 0] 3
  have hz1 : W1.heap.size = w.heap.size + 1 := by rw [hW1]; simp
  have hSl := (nodesT g).lt h.nodes
  have HA := Lib.hid (yall_any d0.nb none 0 0 W1)
  have HR := Lib.hid (allR_new (nb := d0.nb) (p := []) ((nodesT g).keep h.nodes hs1 (fun _ _ h => h)) (a := none) (n := 0) (c := 0) (World.ownsRow_nil _ _ _ _) (fun k hk => by simp [Value.ownBlock] at hk) (fun k hk => by simp [Value.ownBlock] at hk))
  have ht2 : Still W1 ((W1.alloc (.cells #[.pointer (some ⟨d0.nb, 0, none⟩)] 55)).alloc (.cells #[.slice none 0 0] 23)) := ((Turned.refl _ _).alloc _).alloc _
  have HB := Lib.hid (show (blkT w.heap.size [.int .i64 (0 : Nat)] 3).at_ ((W1.alloc (.cells #[.pointer (some ⟨d0.nb, 0, none⟩)] 55)).alloc (.cells #[.slice none 0 0] 23)) (· = w.heap.size) from ⟨hb1.turned ht2 (fun h => h), fun _ => Iff.rfl⟩)
  have HD := Lib.hid (show ∀ k, k = w.heap.size → ¬ ((S k ∨ k = W1.heap.size) ∨ k = W1.heap.size + 1 ∨ (Value.slice none 0 0).ownBlock = some k) from by
    rintro k rfl ((hk | hk) | hk | hk)
    · have := hSl _ hk; omega
    · omega
    · omega
    · simp [Value.ownBlock] at hk)
  have HSt := Lib.hid (hs1.trans ht2)
  have HIt := Lib.hid (hit (W1.heap.size + 1) W1.heap.size none 0)
  have c1 : W1.cell? ⟨q, 0, none⟩ = some (.pointer (some ⟨d0.nb, 0, none⟩)) := (h.blk.turned hs1 (fun h => h)).cell rfl
  have hf1 : Fence.wide.fn 46 := trivial
  have hf2 : Fence.wide.fn 55 := trivial
  obtain ⟨m, hm⟩ : ∃ m, m = ps.length := ⟨_, rfl⟩
  rw [← hm] at hlen
  have HL := Lib.hid (show (ps.map (namP g)).length = m by rw [hm]; simp)
  rw [← hm]
  have HZ1 := Lib.hid hz1
  clear h hit hSl ht2 hm hb1 hz1
  refine (callsIn_wide (n := 9)).1 (callsIn_of_wp_marks Tryz.func29 rfl trivial ?_ rfl)
  simp only [Tryz.ntmps29, List.size_toArray, List.length_cons, List.length_nil, Nat.reduceAdd, Nat.reduceSub, Array.replicate_succ, Array.replicate_zero, List.push_toArray, List.append_toArray, List.nil_append, List.cons_append]
  gi_upto_region 4 with (gi_at_call 46; ((with_reducible refine (callsIn_wide.2 HM.out).mono ?_)); rintro e w1 ⟨rfl, e0⟩; rw [e0]; clear e0)
  rw [← hW1]
  have HW1 := Lib.hid hW1
  clear hW1
  gi_wp2_with (gi_at_call 55; ((with_reducible refine (callsIn_wide.2 HA.out).mono ?_)); rintro e w2 ⟨rfl, rfl⟩)
  refine loopT_outerE rfl (enters_of Tryz.func73 (by kernel_rfl) rfl) HIt.out (by exact fun _ => rfl) (fun k => blkT w.heap.size [.int .i64 (k : Nat)] 3) HR.out HB.out HD.out ?_ ?_
  · rintro ⟨y, nby⟩
    apply Exists.intro
    apply And.intro
    · intro l1 V K hK
      dsimp only [encN]
      unfold tx
      gi_wp2
      exact hK
    · intro l1 k V Q' hr hl1 hx hI hQl hsk
      obtain ⟨hB, hQ⟩ := hI
      have hk : k < m := by rw [← HL.out]; exact (List.getElem?_eq_some_iff.1 hx).1
      have cc := hB.cell (o := 0) rfl
      have cf := hB.free 0
      have HF := Lib.hid (show Goes (blkT w.heap.size [.int .i64 ((k + 1 : Nat) : Int)] 3) Q' V (V.setCell ⟨w.heap.size, 0, none⟩ (.int .i64 ((k : Int) + 1))) from
        ⟨(· = w.heap.size), ⟨by have := hB.set 0 (.int .i64 ((k : Int) + 1)); simpa using this, fun _ => Iff.rfl⟩, (Turned.refl _ _).setCell (p := ⟨w.heap.size, 0, none⟩) (.inl ((hQ _).2 rfl)) _, fun i hi => .inl ((hQ i).2 hi)⟩)
      clear hr hl1 hx hQl hsk hB hQ
      gi_wp2
      exact HF.out
  · intro D V Q' hD hK hQD hI hsk
    rw [HL.out] at hI
    obtain ⟨hB, hQ⟩ := hI
    have cc := hB.cell (o := 0) rfl
    have HT := Lib.hid (show Still w (V.putObj D (.deferred none)) from by
      have h1 := HSt.out
      have h2 : Turned (fun k => k = w.heap.size ∨ k = D) w (V.putObj D (.deferred none)) := (h1.mono (fun _ _ h => h.elim)).trans ((hsk.turn.mono (fun k _ h => Or.inl h)).trans ((putObj_since (.deferred none) (Array.getElem?_eq_some_iff.1 hK).1).mono (fun k _ e => Or.inr e)))
      refine h2.mono (fun k hk h => ?_)
      have hz1 := HZ1.out
      rcases h with rfl | rfl
      · omega
      · have := h1.size; omega)
    clear hQ hsk hB
    gi_wp2
    refine ⟨by simp, .inl ⟨_, _, rfl, run_takeDeferred hK, ?_⟩⟩
    exact ⟨_, results_tmp rfl _ _ _, rfl, HT.out⟩
end Go.Proofs.YtpmkokckjieidaaGreatDoor

/- The texts of the nodes that have numbers, sorted. No condition but that the tree is one. -/
namespace Go.Proofs.YtpmkokckjieidaaGreatDoor
open Go.RowKit Go.Shelf Go.Sort
attribute [local go_sem] Oper.semAt_some
set_option linter.unusedVariables false
set_option linter.unusedSimpArgs false
set_option maxRecDepth 100000

theorem holds_rowS {w : World} {B g n c : Nat} {l : List Txt} (h : w.ownsRow B 9 1 (.slice (some ⟨g, 0, none⟩) n c) n (txs l)) : Sort.Holds encStr w g 0 l.toArray := by
  obtain ⟨r, hb, hx, hc, hn, hmx, hB⟩ := ox_parts h
  intro j hj
  have hj' : j < l.length := by simpa using hj
  rw [Nat.zero_add]
  refine ⟨hb.cell ?_, hb.free _⟩
  rw [List.getElem?_append_left (by rw [txs_length]; exact hj'), txs_get (List.getElem?_eq_getElem hj'), getElem!_pos l.toArray j hj]
  simp [tx, encStr]
theorem put_rowS {w : World} {B g n c : Nat} {l : List Txt} (h : w.ownsRow B 9 1 (.slice (some ⟨g, 0, none⟩) n c) n (txs l)) (hn : n = l.length) (q : Nat) {ys : List Txt} (hy : ys.length = l.length) :
    (Sort.putRow encStr (Sort.ahead w q) g 0 ys.toArray).ownsRow B 9 1 (.slice (some ⟨g, 0, none⟩) n c) n (txs ys) ∧ Turned (· = g) w (Sort.putRow encStr (Sort.ahead w q) g 0 ys.toArray) := by
  have hle := ow_le h
  rw [Lib.putRow_eq_setCells encStr w g 0 l.toArray ys q (holds_rowS h) (by simpa using hy)]
  refine row_laid h q 0 (by simp; omega) (by omega) (by rw [txs_length]; omega) (fun r hr => ?_)
  have e1 : laid (txs l ++ r) 0 (ys.map encStr) = ys.map encStr ++ r := by
    have := laid_split (A := []) (Z := txs l ++ r) (vs := ys.map encStr) (o := 0) rfl
    rw [List.nil_append, List.nil_append] at this
    rw [this, List.drop_append, List.drop_eq_nil_of_le (by rw [txs_length]; simp; omega), List.nil_append, List.length_map, txs_length, hy, Nat.sub_self, List.drop_zero]
  rw [e1, List.take_append_of_le_length (by simp; omega), List.take_of_length_le (by simp; omega)]
  rfl
def srtS (l : List Txt) : List Txt := l.mergeSort leB
theorem srtS_length (l : List Txt) : (srtS l).length = l.length := (List.mergeSort_perm l leB).length_eq
theorem sortS_any {w : World} {B n c : Nat} {a : Option Addr} {l : List Txt} (h : w.ownsRow B 9 1 (.slice a n c) n (txs l)) (hn : n = l.length) (hs : n ≤ 10000000) :
    Calls Tryz.prog 56 #[.slice a n c] w fun e w' => e = .returned (.tuple #[]) ∧ w'.ownsRow B 9 1 (.slice a n c) n (txs (srtS l)) ∧ Turned (fun k => ∃ y, a = some y ∧ k = y.block) w w' := by
  cases h0 : n with
  | zero =>
    have e : l = [] := List.eq_nil_of_length_eq_zero (by omega)
    subst e
    subst h0
    refine (AnyM.slices_Sort_string_none Tryz.sort56 a c w).mono ?_
    rintro e w' ⟨h1, rfl⟩
    exact ⟨h1, by simpa [srtS] using h, Turned.refl _ _⟩
  | succ m =>
    rw [← h0]
    obtain ⟨b, r, rfl, _, hb⟩ := ow_blk h (by omega)
    have H := AnyM.slices_Sort_string Tryz.sort56 b 0 c l w (holds_rowS h) hb.lt (by omega)
    rw [← hn] at H
    refine H.mono ?_
    rintro e w' ⟨h1, q, os, h2⟩
    obtain ⟨g1, g2⟩ := put_rowS h hn q (ys := srtS l) (srtS_length l)
    subst h2
    exact ⟨h1, row_growS g1 os, turned_growS (g2.mono (fun k _ e => ⟨_, rfl, e⟩)) os⟩

/-- Texts in a box: the box, and the row. -/
def namesT (B : Nat) (l : List Txt) : Thing where
  at_ w W := ∃ a c, ((blkT B [.slice a l.length c] 23).sep (ownT 9 1 a l.length c (txs l))).at_ w W
  lt := by rintro w W ⟨a, c, h⟩; exact Thing.lt _ h
  keep := by rintro w w' W S ⟨a, c, h⟩ ht hs; exact ⟨a, c, Thing.keep _ h ht hs⟩

theorem names_parts {B : Nat} {l : List Txt} {w : World} {W : Nat → Prop} (h : (namesT B l).at_ w W) : ∃ a c, Blk w B [.slice a l.length c] 23 ∧ w.ownsRow 0 9 1 (.slice a l.length c) l.length (txs l) ∧ (Value.slice a l.length c).ownBlock ≠ some B ∧ ∀ k, W k ↔ k = B ∨ (Value.slice a l.length c).ownBlock = some k := by
  obtain ⟨a, c, W1, W2, ⟨h1, hW1⟩, ⟨h2, hW2⟩, hd, hW⟩ := h
  refine ⟨a, c, h1, h2, fun e => hd B ((hW1 B).2 rfl) ((hW2 B).2 e), fun k => ?_⟩
  rw [hW, hW1, hW2]
theorem names_of {B : Nat} {l : List Txt} {w : World} {a : Option Addr} {c : Nat} (h1 : Blk w B [.slice a l.length c] 23) (h2 : w.ownsRow 0 9 1 (.slice a l.length c) l.length (txs l)) (h3 : (Value.slice a l.length c).ownBlock ≠ some B) : (namesT B l).at_ w (fun k => k = B ∨ (Value.slice a l.length c).ownBlock = some k) :=
  ⟨a, c, (· = B), _, ⟨h1, fun _ => Iff.rfl⟩, ⟨h2, fun _ => Iff.rfl⟩, fun k e hk => h3 (e ▸ hk), fun _ => Iff.rfl⟩

/-- A text more. -/
theorem names_app {B : Nat} {l : List Txt} {V w6 : World} {Q : Nat → Prop} {a a' : Option Addr} {c n c' : Nat} {o : Obj} {x : Txt} (hn : n = l.length) (hB : Blk V B [.slice a n c] 23) (hne : (Value.slice a n c).ownBlock ≠ some B) (hQ : ∀ k, Q k ↔ k = B ∨ (Value.slice a n c).ownBlock = some k)
    (hown : w6.ownsRow 0 9 1 (.slice a' (n + 1) c') (n + 1) (txs l ++ [.string ⟨x.toArray⟩])) (hg : (V.alloc o).grownBy w6 (Value.slice a n c).ownBlock) (hat : (Value.slice a' (n + 1) c').ownBlock = (Value.slice a n c).ownBlock ∨ (Value.slice a' (n + 1) c').ownBlock = some (V.alloc o).heap.size) :
    w6.cell? ⟨B, 0, none⟩ = some (.slice a n c) ∧ w6.frozen? ⟨B, 0, none⟩ = false ∧ Hid (Goes (namesT B (l ++ [x])) Q V (w6.setCell ⟨B, 0, none⟩ (.slice a' (n + 1) c'))) := by
  subst hn
  have hBl := hB.lt
  have hT : Turned (fun k => (Value.slice a l.length c).ownBlock = some k) V w6 := ((Turned.refl _ _).alloc o).grown hg (fun k hk => .inl hk)
  have hB6 : Blk w6 B [.slice a l.length c] 23 := hB.turned hT hne
  have hne' : (Value.slice a' (l.length + 1) c').ownBlock ≠ some B := fun e => by
    rcases hat with h | h
    · exact hne (h ▸ e)
    · rw [h] at e
      rw [World.size_alloc] at e
      have := Option.some.inj e; omega
  refine ⟨hB6.cell rfl, hB6.free _, Lib.hid ?_⟩
  have hT2 : Turned (· = B) w6 (w6.setCell ⟨B, 0, none⟩ (.slice a' (l.length + 1) c')) := turned_set (Turned.refl _ _) 0 _
  have hlen : (l ++ [x]).length = l.length + 1 := by simp
  have hr : (namesT B (l ++ [x])).at_ (w6.setCell ⟨B, 0, none⟩ (.slice a' (l.length + 1) c')) _ := names_of (a := a') (c := c') (by rw [hlen]; have := hB6.set 0 (.slice a' (l.length + 1) c'); simpa using this) (by
    rw [hlen, show txs (l ++ [x]) = txs l ++ [.string ⟨x.toArray⟩] by simp [txs, tx]]
    exact ow_turned hown hT2 (fun b hb e => hne' (e ▸ hb))) (by rw [hlen]; exact hne')
  refine ⟨_, hr, ?_, fun k hk => ?_⟩
  · exact (hT.mono (fun k _ h => (hQ k).2 (.inr h))).trans (hT2.mono (fun k _ h => (hQ k).2 (.inl h)))
  · rcases hk with hk | hk
    · exact .inl ((hQ k).2 (.inl hk))
    · rw [hlen] at hk
      rcases hat with h | h
      · exact .inl ((hQ k).2 (.inr (h ▸ hk)))
      · rw [h, World.size_alloc] at hk
        have := Option.some.inj hk
        exact .inr (by omega)

/-- Has the node numbers? -/
def hasNs (g : Gr) (p : Path) : Bool := match g p with
  | some d => decide (d.ns ≠ [])
  | none => false
def namL (g : Gr) (ps : List Path) : List Txt := (ps.filter (hasNs g)).map jn
theorem namL_step (g : Gr) {ps : List Path} {k : Nat} {p : Path} (h : ps[k]? = some p) : namL g (ps.take (k + 1)) = namL g (ps.take k) ++ if hasNs g p = true then [jn p] else [] := by
  unfold namL
  rw [List.take_add_one, h, List.filter_append, List.map_append]
  cases hh : hasNs g p <;> simp [hh]
theorem namL_len (g : Gr) (ps : List Path) (k : Nat) : (namL g (ps.take k)).length ≤ ps.length := by
  unfold namL
  rw [List.length_map]
  refine Nat.le_trans (List.length_filter_le _ _) ?_
  rw [List.length_take]; omega

set_option maxHeartbeats 2000000 in
theorem yfilters_ps {w : World} {q : Nat} {L : List Pr} {g : Gr} {d0 : Nd} {S : Nat → Prop} (h : TreeIn w q L g d0 S) {ps : List Path} (hps : ∀ p ∈ ps, (g p).isSome = true) (hlen : ps.length ≤ 100000)
    (hit : ∀ Bl Bn a c, IterT 73 #[.pointer (some ⟨Bl, 0, none⟩), .pointer (some ⟨Bn, 0, none⟩)] encN (ps.map (namP g)) (allR g Bl Bn a 0 c [] d0.nb)) :
    Calls Tryz.prog 28 #[.pointer (some ⟨q, 0, none⟩)] w (OutT w (srtS (namL g ps))) := by
  have c0 := h.blk.cell (o := 0) rfl
  have HM := Lib.hid (ymade_any c0)
  obtain ⟨i0, hi, hz0, hz1, hz2⟩ := info_parts infoStr
  obtain ⟨W1, hW1⟩ : ∃ W1, W1 = w.alloc (.cells #[.slice none 0 0] 23) := ⟨_, rfl⟩
  have hs1 : Still w W1 := by rw [hW1]; exact (Turned.refl _ _).alloc _
  have hb1 : Blk W1 w.heap.size [.slice none 0 0] 23 := by rw [hW1]; exact Blk.new w [.slice none 0 0] 23
  have hz1' : W1.heap.size = w.heap.size + 1 := by rw [hW1]; simp
  have hSl := (nodesT g).lt h.nodes
  have HA := Lib.hid (yall_any d0.nb none 0 0 W1)
  have HR := Lib.hid (allR_new (nb := d0.nb) (p := []) ((nodesT g).keep h.nodes hs1 (fun _ _ h => h)) (a := none) (n := 0) (c := 0) (World.ownsRow_nil _ _ _ _) (fun k hk => by simp [Value.ownBlock] at hk) (fun k hk => by simp [Value.ownBlock] at hk))
  have ht2 : Still W1 ((W1.alloc (.cells #[.pointer (some ⟨d0.nb, 0, none⟩)] 55)).alloc (.cells #[.slice none 0 0] 23)) := ((Turned.refl _ _).alloc _).alloc _
  have HB := Lib.hid (show (namesT w.heap.size (namL g (ps.take 0))).at_ ((W1.alloc (.cells #[.pointer (some ⟨d0.nb, 0, none⟩)] 55)).alloc (.cells #[.slice none 0 0] 23)) (fun k => k = w.heap.size ∨ (Value.slice none 0 0).ownBlock = some k) from
    names_of (l := []) (hb1.turned ht2 (fun h => h)) (World.ownsRow_nil _ _ _ _) (by simp [Value.ownBlock]))
  have hD' : ∀ k, k = w.heap.size ∨ (Value.slice none 0 0).ownBlock = some k → k = w.heap.size := fun k hk => hk.elim id (fun hk => by simp [Value.ownBlock] at hk)
  have HD := Lib.hid (show ∀ k, (k = w.heap.size ∨ (Value.slice none 0 0).ownBlock = some k) → ¬ ((S k ∨ k = W1.heap.size) ∨ k = W1.heap.size + 1 ∨ (Value.slice none 0 0).ownBlock = some k) from by
    intro k hk0
    obtain rfl := hD' k hk0
    rintro ((hk | hk) | hk | hk)
    · have := hSl _ hk; omega
    · omega
    · omega
    · simp [Value.ownBlock] at hk)
  have HSt := Lib.hid (hs1.trans ht2)
  have HNd := Lib.hid (fun V Q' (hS : Since (fun k => k = w.heap.size ∨ (Value.slice none 0 0).ownBlock = some k) ((W1.alloc (.cells #[.pointer (some ⟨d0.nb, 0, none⟩)] 55)).alloc (.cells #[.slice none 0 0] 23)) Q' V) => show NodesAt V g S from
    (hS.stays (A := nodesT g) ((nodesT g).keep h.nodes (hs1.trans ht2) (fun _ _ h => h)) (fun k hk hh => by have := hD' k hk; have := hSl k hh; omega)).1)
  have HD2 := Lib.hid hD'
  have HIt := Lib.hid (hit (W1.heap.size + 1) W1.heap.size none 0)
  have c1 : W1.cell? ⟨q, 0, none⟩ = some (.pointer (some ⟨d0.nb, 0, none⟩)) := (h.blk.turned hs1 (fun h => h)).cell rfl
  have hf1 : Fence.wide.fn 46 := trivial
  have hf2 : Fence.wide.fn 55 := trivial
  have hf3 : Fence.wide.fn 56 := trivial
  have HGet := Lib.hid (fun k y nby (hx : (ps.map (namP g))[k]? = some (y, nby)) => show ∃ p d, ps[k]? = some p ∧ g p = some d ∧ y = jn p ∧ nby = d.nb from by
    rw [List.getElem?_map] at hx
    cases hp : ps[k]? with
    | none => rw [hp] at hx; simp at hx
    | some p =>
      rw [hp] at hx
      obtain ⟨d, hd⟩ := Option.isSome_iff_exists.1 (hps p (List.mem_of_getElem? hp))
      have e : namP g p = (y, nby) := by simpa using hx
      unfold namP nbOf at e
      rw [hd] at e
      obtain ⟨e1, e2⟩ := Prod.mk.inj e
      exact ⟨p, d, hp, hd, e1.symm, e2.symm⟩)
  have HLn := Lib.hid (fun k => namL_len g ps k)
  have HAll := Lib.hid (show namL g (ps.take (ps.map (namP g)).length) = namL g ps from by rw [List.length_map, List.take_length])
  have HZ1 := Lib.hid hz1'
  clear h hit hSl ht2 hb1 hz1' hps hD'
  refine (callsIn_wide (n := 9)).1 (callsIn_of_wp_marks Tryz.func28 rfl trivial ?_ rfl)
  simp only [Tryz.ntmps28, List.size_toArray, List.length_cons, List.length_nil, Nat.reduceAdd, Nat.reduceSub, Array.replicate_succ, Array.replicate_zero, List.push_toArray, List.append_toArray, List.nil_append, List.cons_append]
  gi_upto_region 4 with (gi_at_call 46; ((with_reducible refine (callsIn_wide.2 HM.out).mono ?_)); rintro e w1 ⟨rfl, e0⟩; rw [e0]; clear e0)
  rw [← hW1]
  have HW1 := Lib.hid hW1
  clear hW1
  gi_wp2_with (gi_at_call 55; ((with_reducible refine (callsIn_wide.2 HA.out).mono ?_)); rintro e w2 ⟨rfl, rfl⟩)
  refine loopT_outerE rfl (enters_of Tryz.func73 (by kernel_rfl) rfl) HIt.out (by exact fun _ => rfl) (fun k => namesT w.heap.size (namL g (ps.take k))) HR.out HB.out HD.out ?_ ?_
  · rintro ⟨y, nby⟩
    apply Exists.intro
    apply And.intro
    · intro l1 V K hK
      dsimp only [encN]
      unfold tx
      gi_wp2
      exact hK
    · intro l1 k V Q' hr hl1 hx hI hQl hsk
      obtain ⟨p, d, hp, hd, rfl, rfl⟩ := HGet.out k y nby hx
      obtain ⟨c2, _, _⟩ := (HNd.out V Q' hsk).cells hd
      have HSm := Lib.hid (namL_step g hp)
      have HI := Lib.hid hI
      have hln := HLn.out k
      obtain ⟨a, c, hB, hrow, hne, hQ⟩ := names_parts hI
      have cc := hB.cell (o := 0) rfl
      have HHs : hasNs g p = decide (d.ns ≠ []) := by unfold hasNs; rw [hd]
      by_cases hns : d.ns = []
      · have HF := Lib.hid (show Goes (namesT w.heap.size (namL g (ps.take (k + 1)))) Q' V V from by
          rw [HSm.out, HHs, hns]
          simp only [ne_eq, not_true_eq_false, decide_false, Bool.false_eq_true, if_false, List.append_nil]
          exact (Since.refl _ _).goes HI.out)
        rw [hns] at c2
        simp only [List.length_nil] at c2
        clear hr hl1 hx hQl hsk hB hQ hI hp hd hrow hne HHs hns hln cc
        gi_wp2
        exact HF.out
      · have hpos : 0 < d.ns.length := List.length_pos_iff.2 hns
        have hdec : hasNs g p = true := by rw [HHs]; simp [hns]
        have HF := Lib.hid (fun V' (hg : Goes (namesT w.heap.size (namL g (ps.take k) ++ [jn p])) Q' V V') => show Goes (namesT w.heap.size (namL g (ps.take (k + 1)))) Q' V V' from by
          rw [HSm.out, hdec, if_pos rfl]; exact hg)
        have HAp := Lib.hid (fun w6 a' c' o hown hg hat => names_app (w6 := w6) (a' := a') (c' := c') (o := o) (x := jn p) rfl hB hne hQ hown hg hat)
        have HRow := Lib.hid hrow
        generalize d.ns.length = m at c2 hpos
        obtain ⟨n, hn⟩ : ∃ n, n = (namL g (ps.take k)).length := ⟨_, rfl⟩
        rw [← hn] at HAp HRow cc hln
        clear hr hl1 hx hQl hsk hB hQ hI hp hd hrow hne HHs hns hdec hn
        gi_wp2_with (gi_at_builtin; refine wpListIn_append_own_at _ rfl _ _ 23 rfl 0 9 i0 (.string ⟨#[]⟩) 1 16 Tryz.underlying23 hi hz0 hz1 hz2 rfl (by decide) _ _ _ rfl (HRow.out.alloc _) ⟨V.heap.size, 0, none⟩ 1 1 [.string ⟨(jn p).toArray⟩] rfl rfl (cell_one_new _ _ _) (by simp [Value.oneCell']) (by unfold maxLen; omega) (by omega) (Nat.zero_le _) ?_; intro v' w6 hown6 hg6 _ hat6; obtain ⟨a6, c6, rfl⟩ := ow_slice hown6; obtain ⟨hc6, hf6, HG6⟩ := HAp.out w6 a6 c6 _ hown6 hg6 hat6; clear hown6 hg6 hat6)
        exact HF.out _ HG6.out
  · intro D V Q' hD hK hQD hI hsk
    rw [HAll.out] at hI
    have HI := Lib.hid hI
    obtain ⟨a, c, hB, hrow, hne, hQ⟩ := names_parts hI
    have cc := hB.cell (o := 0) rfl
    have HSo := Lib.hid (sortS_any hrow rfl (by have := HLn.out ps.length; rw [List.take_length] at this; omega))
    have hB1 : ∀ k, Q' k → w.heap.size ≤ k := fun k hk => by
      have h1 := HSt.out.size
      rcases hsk.grow k hk with h | h
      · have := HD2.out k h; omega
      · omega
    have hD1 : w.heap.size ≤ D := Nat.le_trans HSt.out.size hD
    have hT0 : Turned (fun k => w.heap.size ≤ k) w V := (HSt.out.mono (fun _ _ h => h.elim)).trans (hsk.turn.mono (fun k _ h => by have := HD2.out k h; omega))
    have HP := Lib.hid (fun w5 (h5 : w5.ownsRow 0 9 1 (.slice a (namL g ps).length c) (namL g ps).length (txs (srtS (namL g ps)))) (hT5 : Turned (fun k => ∃ y, a = some y ∧ k = y.block) V w5) =>
      show w5.cell? ⟨w.heap.size, 0, none⟩ = some (.slice a (namL g ps).length c) ∧ w5.heap[D]? = some (.deferred (some [])) ∧ OutT w (srtS (namL g ps)) (.returned (.slice a (namL g ps).length c)) (w5.putObj D (.deferred none)) from by
        have hrb : ∀ k, (∃ y, a = some y ∧ k = y.block) → Q' k ∧ k ≠ w.heap.size := by
          rintro k ⟨y, rfl, rfl⟩
          exact ⟨(hQ _).2 (.inr rfl), fun e => hne (by rw [← e]; rfl)⟩
        have hD5 : w5.heap[D]? = some (.deferred (some [])) := (hT5.block D (Array.getElem?_eq_some_iff.1 hK).1 (fun hh => hQD (hrb D hh).1)).trans hK
        have hp := putObj_since (.deferred none) (Array.getElem?_eq_some_iff.1 hD5).1
        have hr5 : (w5.putObj D (.deferred none)).ownsRow 0 9 1 (.slice a (namL g ps).length c) (namL g ps).length (txs (srtS (namL g ps))) := ow_turned h5 hp (fun b hb e => by
          obtain rfl := e
          exact hQD ((hQ _).2 (.inr hb)))
        refine ⟨(hB.turned hT5 (fun hh => (hrb _ hh).2 rfl)).cell rfl, hD5, a, _, c, rfl, (srtS_length _).symm, TextsAt.of_own hr5 (srtS_length _).symm, SlW.of_own hr5, ?_, fun x hx _ => hB1 _ (hrb _ ⟨x, hx, rfl⟩).1⟩
        refine ((hT0.trans (hT5.mono (fun k _ hh => hB1 k (hrb k hh).1))).trans (hp.mono (fun k _ e => by rw [e]; exact hD1))).mono (fun k hk hh => by omega))
    generalize (namL g ps).length = n at *
    generalize srtS (namL g ps) = F at *
    clear hB hrow hne hQ hB1 hT0 hsk hI HI hK hQD
    gi_wp2_with (gi_at_call 56; ((with_reducible refine (callsIn_wide.2 HSo.out).mono ?_)); rintro e w5 ⟨rfl, h5, hT5⟩; obtain ⟨hc5, hK5, hO5⟩ := HP.out w5 h5 hT5; have HO := Lib.hid hO5; clear h5 hT5 hO5)
    refine ⟨by simp, .inl ⟨_, _, rfl, run_takeDeferred hK5, ?_⟩⟩
    refine ⟨_, results_tmp rfl _ _ _, ?_⟩
    exact HO.out
end Go.Proofs.YtpmkokckjieidaaGreatDoor

/- Filters in their order; how many nodes there are: lists alone. No condition. -/
namespace Go.Proofs.YtpmkokckjieidaaGreatDoor
open Go.RowKit Go.Shelf Go.Sort
set_option linter.unusedVariables false
set_option linter.unusedSimpArgs false

/-! Filters -/
theorem addT_iff {x s : Txt} : ∀ {l : List Txt}, x ∈ addT l s ↔ x ∈ l ∨ x = s
  | [] => by simp [addT]
  | y :: l => by
    unfold addT
    split
    · rw [List.mem_cons, addT_iff, List.mem_cons, or_assoc]
    · split
      · rename_i h1 h2
        subst h2
        rw [List.mem_cons]
        constructor
        · exact .inl
        · rintro (h | h)
          · exact h
          · exact .inl h
      · rw [List.mem_cons, List.mem_cons]
        constructor
        · rintro (h | h | h)
          · exact .inr h
          · exact .inl (.inl h)
          · exact .inl (.inr h)
        · rintro ((h | h) | h)
          · exact .inr (.inl h)
          · exact .inr (.inr h)
          · exact .inl h
theorem addT_up {s : Txt} : ∀ {l : List Txt}, l.Pairwise (fun a b => Op.bytesLess a b = true) → (addT l s).Pairwise (fun a b => Op.bytesLess a b = true)
  | [], _ => by simp [addT]
  | y :: l, h => by
    obtain ⟨h1, h2⟩ := List.pairwise_cons.1 h
    unfold addT
    split
    · rename_i hy
      refine List.pairwise_cons.2 ⟨fun z hz => ?_, addT_up h2⟩
      rcases addT_iff.1 hz with hz | rfl
      · exact h1 z hz
      · exact hy
    · split
      · exact h
      · rename_i hy hne
        have hs : Op.bytesLess s y = true := by
          rcases bl_total y s with h | h | h
          · exact absurd h hy
          · exact absurd h hne
          · exact h
        refine List.pairwise_cons.2 ⟨fun z hz => ?_, h⟩
        rcases List.mem_cons.1 hz with rfl | hz
        · exact hs
        · exact bl_trans _ _ _ hs (h1 z hz)
theorem flL_gen : ∀ (L : List Pr) (out : List Txt), out.Pairwise (fun a b => Op.bytesLess a b = true) → (L.foldl (fun out p => addT out p.1) out).Pairwise (fun a b => Op.bytesLess a b = true) ∧ ∀ x, x ∈ L.foldl (fun out p => addT out p.1) out ↔ x ∈ out ∨ ∃ p ∈ L, p.1 = x
  | [], out, h => ⟨h, fun x => by simp⟩
  | p :: L, out, h => by
    obtain ⟨h1, h2⟩ := flL_gen L (addT out p.1) (addT_up h)
    refine ⟨h1, fun x => ?_⟩
    rw [List.foldl_cons, h2, addT_iff]
    constructor
    · rintro ((h | rfl) | ⟨q, hq, h⟩)
      · exact .inl h
      · exact .inr ⟨p, by simp, rfl⟩
      · exact .inr ⟨q, List.mem_cons_of_mem _ hq, h⟩
    · rintro (h | ⟨q, hq, h⟩)
      · exact .inl (.inl h)
      · rcases List.mem_cons.1 hq with rfl | hq
        · exact .inl (.inr h.symm)
        · exact .inr ⟨q, hq, h⟩
theorem flL_up (L : List Pr) : (flL L).Pairwise (fun a b => Op.bytesLess a b = true) := (flL_gen L [] List.Pairwise.nil).1
theorem flL_iff (L : List Pr) (x : Txt) : x ∈ flL L ↔ ∃ n, (x, n) ∈ L := by
  have := (flL_gen L [] List.Pairwise.nil).2 x
  unfold flL
  rw [this]
  constructor
  · rintro (h | ⟨⟨y, n⟩, hq, rfl⟩)
    · cases h
    · exact ⟨n, hq⟩
  · rintro ⟨n, h⟩; exact .inr ⟨_, h, rfl⟩
theorem flL_nodup (L : List Pr) : (flL L).Nodup := (flL_up L).imp fun {a b} h e => by
  subst e; rw [bl_irrefl] at h; cases h
theorem srtS_up (l l' : List Txt) (hp : l.Perm l') (hu : l'.Pairwise (fun a b => Op.bytesLess a b = true)) : srtS l = l' := by
  have tr : ∀ a b c : List UInt8, leB a b = true → leB b c = true → leB a c = true := fun a b c h1 h2 => by simp only [leB, decide_eq_true_eq] at *; exact List.le_trans h1 h2
  have tot : ∀ a b : List UInt8, (leB a b || leB b a) = true := fun a b => by simp only [leB, Bool.or_eq_true, decide_eq_true_eq]; exact List.le_total a b
  refine List.Perm.eq_of_pairwise (le := fun a b => leB a b = true) (fun a b _ _ h1 h2 => ?_) (List.pairwise_mergeSort tr tot l) (hu.imp fun {a b} h => ?_) ((List.mergeSort_perm l leB).trans hp)
  · simp only [leB, decide_eq_true_eq] at h1 h2
    exact List.le_antisymm h1 h2
  · rw [bytesLess_eq] at h
    simp only [decide_eq_true_eq] at h
    simp only [leB, decide_eq_true_eq]
    exact List.le_of_lt h

theorem hasNs_iff {g : Gr} {L : List Pr} (h : GL g L) (p : Path) : hasNs g p = true ↔ (g p).isSome = true ∧ ∃ f n, spl f = p ∧ (f, n) ∈ L := by
  unfold hasNs
  cases hg : g p with
  | none => simp
  | some d =>
    simp only [decide_eq_true_eq, Option.isSome_some, true_and]
    constructor
    · intro hne
      obtain ⟨n, hn⟩ := List.exists_mem_of_ne_nil _ hne
      obtain ⟨f, e, hm⟩ := ((h.nums p d hg).2 n).1 hn
      exact ⟨f, n, e, hm⟩
    · rintro ⟨f, n, e, hm⟩ hne
      have := ((h.nums p d hg).2 n).2 ⟨f, e, hm⟩
      rw [hne] at this; cases this
theorem namL_is {g : Gr} {L : List Pr} (h : GL g L) {ps : List Path} (hnd : ps.Nodup) (hps : ∀ p, p ∈ ps ↔ (g p).isSome = true) : srtS (namL g ps) = flL L := by
  have hsp : ∀ p, p ∈ ps.filter (hasNs g) → spl (jn p) = p := fun p hp => by
    obtain ⟨_, f, n, e, _⟩ := (hasNs_iff h p).1 (List.mem_filter.1 hp).2
    rw [← e, jn_spl]
  refine srtS_up _ _ ((List.perm_ext_iff_of_nodup ?_ (flL_nodup L)).2 fun x => ?_) (flL_up L)
  · unfold namL
    refine List.pairwise_map.2 ((hnd.filter (hasNs g)).imp_of_mem fun {a b} ha hb hne e => hne ?_)
    rw [← hsp a ha, ← hsp b hb, e]
  · rw [flL_iff]
    unfold namL
    rw [List.mem_map]
    constructor
    · rintro ⟨p, hp, rfl⟩
      obtain ⟨_, f, n, e, hm⟩ := (hasNs_iff h p).1 (List.mem_filter.1 hp).2
      rw [← e, jn_spl]
      exact ⟨n, hm⟩
    · rintro ⟨n, hm⟩
      have hs := (h.node (spl x)).2 (.inr ⟨_, hm, List.prefix_refl _⟩)
      exact ⟨spl x, List.mem_filter.2 ⟨(hps _).2 hs, (hasNs_iff h _).2 ⟨hs, x, n, rfl, hm⟩⟩, jn_spl x⟩

/-! Nodes -/
theorem stroke_pre : ∀ {x y R1 R2 : Txt}, (47 : UInt8) ∉ x → (47 : UInt8) ∉ y → (x ++ 47 :: R1 <+: y ++ 47 :: R2 ↔ x = y ∧ R1 <+: R2)
  | [], [], R1, R2, _, _ => by simp
  | [], b :: y, R1, R2, _, hy => by
    have : (47 : UInt8) ≠ b := fun e => hy (by simp [e])
    simp [this]
  | b :: x, [], R1, R2, hx, _ => by
    have : b ≠ (47 : UInt8) := fun e => hx (by simp [e])
    simp [this]
  | b :: x, c :: y, R1, R2, hx, hy => by
    have := stroke_pre (x := x) (y := y) (R1 := R1) (R2 := R2) (fun h => hx (List.mem_cons_of_mem _ h)) (fun h => hy (List.mem_cons_of_mem _ h))
    rw [List.cons_append, List.cons_append, List.cons_prefix_cons, this]
    simp [and_assoc]
theorem flat_pre : ∀ {A B : List Txt}, (∀ x ∈ A, (47 : UInt8) ∉ x) → (∀ x ∈ B, (47 : UInt8) ∉ x) → (A.flatMap (fun x => x ++ [47]) <+: B.flatMap (fun x => x ++ [47]) ↔ A <+: B)
  | [], B, _, _ => by simp
  | x :: A, [], _, _ => by simp
  | x :: A, y :: B, hA, hB => by
    have := flat_pre (A := A) (B := B) (fun z hz => hA z (List.mem_cons_of_mem _ hz)) (fun z hz => hB z (List.mem_cons_of_mem _ hz))
    rw [List.flatMap_cons, List.flatMap_cons, List.append_assoc, List.append_assoc, List.singleton_append, List.singleton_append, stroke_pre (hA x (by simp)) (hB y (by simp)), this, List.cons_prefix_cons]
theorem front_pre (s t : Txt) (k : Nat) : (t ++ [47]).take (frontT s k).length = frontT s k ↔ (spl s).take k <+: spl t := by
  have h1 := jn_flat (spl t) (spl_ne t)
  rw [jn_spl] at h1
  rw [← h1, ← flat_pre (A := (spl s).take k) (B := spl t) (fun x hx => spl_pure s x (List.mem_of_mem_take hx)) (spl_pure t)]
  show List.take (frontT s k).length _ = frontT s k ↔ frontT s k <+: _
  rw [List.prefix_iff_eq_take]
  exact eq_comm
theorem metB_iff (all : List Txt) (i : Nat) (s : Txt) (k : Nat) : metB all i (frontT s k) = true ↔ ∃ t ∈ all.take i, (spl s).take k <+: spl t := by
  unfold metB
  rw [List.any_eq_true]
  simp only [decide_eq_true_eq, front_pre]

/-- The beginnings that text i brings. -/
def newP (all : List Txt) (i : Nat) : List Path := ((List.range (spl (all[i]?.getD [])).length).filter fun k => !metB all i (frontT (all[i]?.getD []) (k + 1))).map fun k => (spl (all[i]?.getD [])).take (k + 1)
theorem newP_mem {all : List Txt} {i : Nat} {s : Txt} (hs : all[i]? = some s) (p : Path) : p ∈ newP all i ↔ p ≠ [] ∧ p <+: spl s ∧ ∀ t ∈ all.take i, ¬ p <+: spl t := by
  unfold newP
  rw [hs, Option.getD_some, List.mem_map]
  constructor
  · rintro ⟨k, hk, rfl⟩
    obtain ⟨h1, h2⟩ := List.mem_filter.1 hk
    rw [List.mem_range] at h1
    refine ⟨fun e => ?_, List.take_prefix _ _, fun t ht hp => ?_⟩
    · have := congrArg List.length e
      rw [List.length_take, List.length_nil] at this
      omega
    · rw [(metB_iff all i s (k + 1)).2 ⟨t, ht, hp⟩] at h2
      simp at h2
  · rintro ⟨h1, h2, h3⟩
    have hl := h2.length_le
    have h0 : 0 < p.length := List.length_pos_iff.2 h1
    have e : (spl s).take (p.length - 1 + 1) = p := by
      rw [show p.length - 1 + 1 = p.length by omega]
      exact (List.prefix_iff_eq_take.1 h2).symm
    refine ⟨p.length - 1, List.mem_filter.2 ⟨List.mem_range.2 (by omega), ?_⟩, e⟩
    rw [Bool.not_eq_true']
    cases hm : metB all i (frontT s (p.length - 1 + 1)) with
    | false => rfl
    | true =>
      obtain ⟨t, ht, hp⟩ := (metB_iff _ _ _ _).1 hm
      rw [e] at hp
      exact absurd hp (h3 t ht)
theorem newP_nodup {all : List Txt} {i : Nat} {s : Txt} (hs : all[i]? = some s) : (newP all i).Nodup := by
  unfold newP
  rw [hs, Option.getD_some]
  refine List.pairwise_map.2 ((List.nodup_range.filter _).imp_of_mem fun {a b} ha hb hne e => hne ?_)
  have h1 := List.mem_range.1 (List.mem_filter.1 ha).1
  have h2 := List.mem_range.1 (List.mem_filter.1 hb).1
  have := congrArg List.length e
  rw [List.length_take, List.length_take] at this
  omega
theorem newP_length (all : List Txt) (i : Nat) : (newP all i).length = newN all i (all[i]?.getD []) := by unfold newP newN; rw [List.length_map]

/-- The beginnings that the first so many texts bring. -/
def allP (all : List Txt) (n : Nat) : List Path := (List.range n).flatMap (newP all)
theorem allP_succ (all : List Txt) (n : Nat) : allP all (n + 1) = allP all n ++ newP all n := by unfold allP; rw [List.range_succ, List.flatMap_append]; simp
theorem allP_is (all : List Txt) : ∀ n, n ≤ all.length → (allP all n).Nodup ∧ ∀ p, p ∈ allP all n ↔ p ≠ [] ∧ ∃ t ∈ all.take n, p <+: spl t
  | 0, _ => ⟨by simp [allP], fun p => by simp [allP]⟩
  | n + 1, hn => by
    obtain ⟨h1, h2⟩ := allP_is all n (by omega)
    obtain ⟨s, hs⟩ := get_some (l := all) (i := n) (by omega)
    have ht : all.take (n + 1) = all.take n ++ [s] := by rw [List.take_add_one, hs]; rfl
    rw [allP_succ, ht]
    refine ⟨List.nodup_append.2 ⟨h1, newP_nodup hs, fun a ha b hb e => ?_⟩, fun p => ?_⟩
    · subst e
      obtain ⟨_, t, ht, hp⟩ := (h2 a).1 ha
      exact ((newP_mem hs a).1 hb).2.2 t ht hp
    · rw [List.mem_append, h2, newP_mem hs]
      constructor
      · rintro (⟨h, t, ht, hp⟩ | ⟨h, hp, _⟩)
        · exact ⟨h, t, List.mem_append_left _ ht, hp⟩
        · exact ⟨h, s, by simp, hp⟩
      · rintro ⟨h, t, ht, hp⟩
        by_cases hh : ∃ t ∈ all.take n, p <+: spl t
        · exact .inl ⟨h, hh⟩
        · rcases List.mem_append.1 ht with ht | ht
          · exact absurd ⟨t, ht, hp⟩ hh
          · simp at ht
            subst ht
            exact .inr ⟨h, hp, fun t ht hp => hh ⟨t, ht, hp⟩⟩
theorem allP_length (all : List Txt) : (allP all all.length).length = ((List.range all.length).map fun i => newN all i (all[i]?.getD [])).sum := by
  unfold allP
  rw [List.length_flatMap]
  congr 1
  exact List.map_congr_left fun i _ => newP_length all i
theorem nodes_is {g : Gr} {L : List Pr} (h : GL g L) {ps : List Path} (hnd : ps.Nodup) (hps : ∀ p, p ∈ ps ↔ (g p).isSome = true) : ps.length = ndL L := by
  obtain ⟨h1, h2⟩ := allP_is (flL L) _ (Nat.le_refl _)
  rw [List.take_length] at h2
  have hp : ps.Perm ([] :: allP (flL L) (flL L).length) := (List.perm_ext_iff_of_nodup hnd (List.nodup_cons.2 ⟨fun hm => ((h2 _).1 hm).1 rfl, h1⟩)).2 fun p => by
    rw [hps, h.node, List.mem_cons, h2]
    constructor
    · rintro (h | ⟨q, hq, hp⟩)
      · exact .inl h
      · by_cases e : p = []
        · exact .inl e
        · exact .inr ⟨e, q.1, (flL_iff L _).2 ⟨q.2, hq⟩, hp⟩
    · rintro (h | ⟨_, t, ht, hp⟩)
      · exact .inl h
      · obtain ⟨n, hm⟩ := (flL_iff L t).1 ht
        exact .inr ⟨_, hm, hp⟩
  rw [hp.length_eq, List.length_cons, allP_length]
  unfold ndL ndN
  omega
theorem ndL_le {L : List Pr} (hL : TOk L) : ndL L ≤ 100000 := by
  have h1 := ndTo_le (all := flL L) (fun x hx => (fcE_iff.1 (flL_ok hL hx)).2.2.2.1) (Nat.le_refl _)
  have h2 := flL_len L
  have h3 := hL.len
  have e : ndL L = ndTo (flL L) (flL L).length := rfl
  omega

/-! The program's answers -/
theorem ynodes_any {w : World} {W : Nat → Prop} {q : Nat} {L : List Pr} (H : (tT q L).at_ w W) (hL : TOk L) : Calls Tryz.prog 29 #[.pointer (some ⟨q, 0, none⟩)] w fun e w' => e = .returned (.int .i64 (ndL L : Nat)) ∧ Still w w' := by
  obtain ⟨g, d0, S, h, hW⟩ := H
  obtain ⟨ps, hnd, hps, hit⟩ := tree_it h hL
  have e := nodes_is h.gl hnd hps
  have := ynodes_ps h (ps := ps) (by rw [e]; exact ndL_le hL) hit
  rwa [e] at this
theorem yfilters_any {w : World} {W : Nat → Prop} {q : Nat} {L : List Pr} (H : (tT q L).at_ w W) (hL : TOk L) : Calls Tryz.prog 28 #[.pointer (some ⟨q, 0, none⟩)] w (OutT w (flL L)) := by
  obtain ⟨g, d0, S, h, hW⟩ := H
  obtain ⟨ps, hnd, hps, hit⟩ := tree_it h hL
  have := yfilters_ps h (ps := ps) (fun p hp => (hps p).1 hp) (by rw [nodes_is h.gl hnd hps]; exact ndL_le hL) hit
  rwa [namL_is h.gl hnd hps] at this
end Go.Proofs.YtpmkokckjieidaaGreatDoor

/- Dropping a number from all filters; the program's tree keeps its words. No condition. -/
namespace Go.Proofs.YtpmkokckjieidaaGreatDoor
open Go.RowKit Go.Shelf
attribute [local go_sem] Oper.semAt_some
set_option linter.unusedVariables false
set_option linter.unusedSimpArgs false
set_option maxRecDepth 100000

/-- What is left when the number is taken from the first so many filters; how many had it. -/
def dpL (L : List Pr) (F : List Txt) (n : Int) (k : Nat) : List Pr := L.filter fun p => !(decide ((p.2 : Int) = n) && decide (p.1 ∈ F.take k))
def dpN (L : List Pr) (F : List Txt) (n : Int) (k : Nat) : Nat := L.length - (dpL L F n k).length
theorem dpL_zero (L : List Pr) (F : List Txt) (n : Int) : dpL L F n 0 = L := by unfold dpL; simp
theorem dpL_len (L : List Pr) (F : List Txt) (n : Int) (k : Nat) : (dpL L F n k).length ≤ L.length := List.length_filter_le _ _
theorem dpL_ok {L : List Pr} (h : TOk L) (F : List Txt) (n : Int) (k : Nat) : TOk (dpL L F n k) :=
  ⟨h.nodup.filter _, fun p hp => h.ok p (List.mem_filter.1 hp).1, Nat.le_trans (dpL_len L F n k) h.len⟩
theorem dpL_all (L : List Pr) (n : Int) : dpL L (flL L) n (flL L).length = dropL L n := by
  unfold dpL dropL
  rw [List.take_length]
  refine List.filter_congr fun p hp => ?_
  have : p.1 ∈ flL L := (flL_iff L _).2 ⟨p.2, hp⟩
  by_cases e : (p.2 : Int) = n <;> simp [e, this]
theorem dpL_step {L : List Pr} (hL : TOk L) {F : List Txt} (hF : F.Nodup) (n : Int) {k : Nat} {f : Txt} (hk : F[k]? = some f) (hf : fcE f = 0) :
    takeL (dpL L F n k) f n = dpL L F n (k + 1) ∧ ((tkE (dpL L F n k) f n = 0 ∧ dpN L F n (k + 1) = dpN L F n k + 1) ∨ ((tkE (dpL L F n k) f n = 2 ∨ tkE (dpL L F n k) f n = 5) ∧ dpN L F n (k + 1) = dpN L F n k)) := by
  have ht : F.take (k + 1) = F.take k ++ [f] := by rw [List.take_add_one, hk]; rfl
  have hmem : ∀ x, x ∈ F.take (k + 1) ↔ x ∈ F.take k ∨ x = f := fun x => by rw [ht]; simp
  have hno : f ∉ F.take k := fun hh => by
    have h1 : (F.take (k + 1)).Nodup := hF.sublist (List.take_sublist _ _)
    rw [ht] at h1
    exact (List.nodup_append.1 h1).2.2 f hh f (by simp) rfl
  have same : (∀ p ∈ L, (p.2 : Int) = n → p.1 ≠ f) → dpL L F n (k + 1) = dpL L F n k := fun h => by
    unfold dpL
    refine List.filter_congr fun p hp => ?_
    by_cases e : (p.2 : Int) = n
    · have h1 := h p hp e
      by_cases h2 : p.1 ∈ F.take k
      · simp [e, h2, (hmem p.1).2 (.inl h2)]
      · have h3 : p.1 ∉ F.take (k + 1) := fun hh => by
          rcases (hmem _).1 hh with hh | hh
          · exact h2 hh
          · exact h1 hh
        simp [e, h2, h3]
    · simp [e]
  rcases tkE_cases (dpL L F n k) f n with ⟨_, h⟩ | ⟨h1, _, h2⟩ | ⟨h1, _, h2, h3, h4⟩ | ⟨h1, _, h2, h3, h4⟩
  · omega
  · have hs := same (fun p hp e => by have := (hL.ok p hp).2; omega)
    refine ⟨by unfold takeL; rw [if_neg (by omega), hs], .inr ⟨.inl h1, by unfold dpN; rw [hs]⟩⟩
  · have hs := same (fun p hp e e2 => by
      have hm : p ∈ dpL L F n k := List.mem_filter.2 ⟨hp, by rw [e2]; simp [hno]⟩
      have : hasP (dpL L F n k) f n = true := by
        unfold hasP
        refine decide_eq_true ⟨h2, ?_⟩
        have ep : p = (f, n.toNat) := by
          cases p with
          | mk a b =>
            simp only at e e2
            subst e2; subst e; simp
        rwa [← ep]
      rw [h4] at this; cases this)
    refine ⟨by unfold takeL; rw [if_neg (by omega), hs], .inr ⟨.inr h1, by unfold dpN; rw [hs]⟩⟩
  · have hm : (f, n.toNat) ∈ dpL L F n k := (of_decide_eq_true h4).2
    have he : (dpL L F n k).erase (f, n.toNat) = dpL L F n (k + 1) := by
      rw [(dpL_ok hL F n k).nodup.erase_eq_filter]
      unfold dpL
      rw [List.filter_filter]
      refine List.filter_congr fun p hp => ?_
      by_cases e : (p.2 : Int) = n
      · by_cases e2 : p.1 = f
        · have ep : p = (f, n.toNat) := by
            cases p with
            | mk a b =>
              simp only at e e2
              subst e2; subst e; simp
          simp [ep, h2, (hmem f).2 (.inr rfl)]
          omega
        · have ep : p ≠ (f, n.toNat) := fun ep => e2 (by rw [ep])
          have h5 : p.1 ∈ F.take (k + 1) ↔ p.1 ∈ F.take k := by rw [hmem]; simp [e2]
          simp [e, ep, h5]
      · have ep : p ≠ (f, n.toNat) := fun ep => e (by rw [ep]; simp; omega)
        simp [e, ep]
    refine ⟨by unfold takeL; rw [if_pos h1, he], .inl ⟨h1, ?_⟩⟩
    have hl := List.length_erase_of_mem hm
    rw [he] at hl
    have hpos : 0 < (dpL L F n k).length := List.length_pos_of_mem hm
    have := dpL_len L F n k
    unfold dpN
    omega

set_option maxHeartbeats 1000000 in
theorem ydrop_any {w : World} {W : Nat → Prop} {q : Nat} {L : List Pr} (H : (tT q L).at_ w W) (hL : TOk L) (n : Int) (hn : i64w n) :
    Calls Tryz.prog 17 #[.pointer (some ⟨q, 0, none⟩), .int .i64 n] w fun e w' => e = .returned (.int .i64 (dropN L n : Nat)) ∧ Goes (tT q (dropL L n)) W w w' := by
  have HF := Lib.hid (yfilters_any H hL)
  have hWl := (tT q L).lt H
  obtain ⟨F, hF⟩ : ∃ F, F = flL L := ⟨_, rfl⟩
  obtain ⟨m, hm⟩ : ∃ m, m = F.length := ⟨_, rfl⟩
  have hnd : F.Nodup := hF ▸ flL_nodup L
  have hfc : ∀ f ∈ F, fcE f = 0 := fun f h => flL_ok hL (hF ▸ h)
  have HSt := Lib.hid (fun k f (h : F[k]? = some f) => dpL_step hL hnd n h (hfc f (List.mem_of_getElem? h)))
  have HTk := Lib.hid (fun k f (h : F[k]? = some f) V V' (hA : (tT q (dpL L F n k)).at_ V V') => ytake_any hA (dpL_ok hL F n k) f n (by have := (fcE_iff.1 (hfc f (List.mem_of_getElem? h))).2.1; omega) hn)
  have H1 := Lib.hid (fun V (h : Still w V) => show (tT q (dpL L F n 0)).at_ V W from by rw [dpL_zero]; exact (tT q L).keep H h (fun _ _ h => h))
  have HEnd := Lib.hid (fun V V' (h : Still w V) (hg : Goes (tT q (dpL L F n m)) W V V') => show Goes (tT q (dropL L n)) W w V' ∧ dpN L F n m = dropN L n from by
    rw [hm, hF, dpL_all] at hg
    obtain ⟨Q', h1, h2⟩ := hg.since
    exact ⟨(Since.trans ⟨h.mono (fun _ _ h => h.elim), fun _ h => .inl h⟩ h2).goes h1, by unfold dpN dropN; rw [hm, hF, dpL_all]⟩)
  have HN0 := Lib.hid (show dpN L F n 0 = 0 from by unfold dpN; rw [dpL_zero]; omega)
  have HNl := Lib.hid (fun k => show dpN L F n k ≤ 256 from by have := hL.len; unfold dpN; omega)
  have HWl := Lib.hid hWl
  have HFl := Lib.hid hm
  have hmm : m ≤ 256 := by have := flL_len L; have := hL.len; rw [hm, hF]; omega
  rw [← hF] at HF
  have HFO := Lib.hid (show ∀ e V, OutT w F e V → ∃ a c, e = .returned (.slice a m c) ∧ Hid (TextsAt V a F ∧ Still w V ∧ ∀ x, a = some x → F ≠ [] → w.heap.size ≤ x.block) from fun e V ⟨a, k, c, h1, h2, h3, _, h4, h5⟩ => ⟨a, c, by rw [h1, h2, hm], Lib.hid ⟨h3, h4, h5⟩⟩)
  clear H hWl hnd hfc hL hm hF
  go_enter Tryz.func17, Tryz.ntmps17
  go_wp2_with (go_at_call 28; ((with_reducible refine HF.out.mono ?_)); intro e w1 h1; obtain ⟨a, c, rfl, HO⟩ := HFO.out e w1 h1; clear h1)
  go_loopw [5, 11] (fun h i wr => ∃ k : Nat, k ≤ m ∧ i = .int .i64 k ∧ h = .int .i64 (dpN L F n k : Nat) ∧ Hid (Goes (tT q (dpL L F n k)) W w1 wr)) (fun _ i _ => m - (intOf i).toNat)
  case atStart => exact ⟨0, Nat.zero_le _, rfl, by rw [HN0.out]; rfl, Lib.hid ((Since.refl _ _).goes (H1.out w1 HO.out.2.1))⟩
  case round =>
    obtain ⟨k, hk, rfl, rfl, HG⟩ := hrel
    by_cases hlt : k < m
    · obtain ⟨f, hf⟩ := get_some (l := F) (i := k) (by rw [← HFl.out]; exact hlt)
      obtain ⟨Q, hQ, hT, hGr⟩ := HG.out
      obtain ⟨b, o, hab, hc⟩ := HO.out.1 k f hf
      have hb := HO.out.2.2 _ hab (fun e => by rw [e] at hf; simp at hf)
      have hcw : wr.cell? ⟨b, o + k, none⟩ = some (tx f) := by
        rw [hT.cell (p := ⟨b, o + k, none⟩) (cell_lt hc) (fun hq => by
          have h2 := HWl.out _ hq
          have h3 : w.heap.size ≤ b := hb
          have h4 : b < w.heap.size := h2
          omega)]
        exact hc
      obtain rfl := hab
      have HT := Lib.hid ((HTk.out k f hf wr Q hQ).mono (R' := fun e V => e = .returned (.int .i64 (tkE (dpL L F n k) f n)) ∧ Hid (Goes (tT q (dpL L F n (k + 1))) W w1 V)) (by
        rintro e V ⟨h1, h2⟩
        rw [(HSt.out k f hf).1] at h2
        obtain ⟨Q2, h3, h4⟩ := h2.since
        exact ⟨h1, Lib.hid ((Since.trans ⟨hT, hGr⟩ h4).goes h3)⟩))
      have hst := (HSt.out k f hf).2
      have hN := HNl.out k
      unfold tx at hcw HT
      generalize hN1 : dpN L F n k = N at *
      generalize hN2 : dpN L F n (k + 1) = N' at *
      generalize tkE (dpL L F n k) f n = t at *
      have HN2 := Lib.hid hN2
      clear hN1 hN2 hf hQ hT hGr hc hb
      rcases hst with ⟨rfl, h2⟩ | ⟨rfl | rfl, h2⟩
      · have h2' := Lib.hid h2
        clear h2
        go_wp2_with (go_at_call 15; ((with_reducible refine HT.out.mono ?_)); rintro e w2 ⟨rfl, hG2⟩)
        go_roundw
        case rel => exact ⟨k + 1, by omega, by go_num, by rw [HN2.out, h2'.out]; go_num, hG2⟩
        case measure => simp [intOf]; omega
      · have h2' := Lib.hid h2
        clear h2
        go_wp2_with (go_at_call 15; ((with_reducible refine HT.out.mono ?_)); rintro e w2 ⟨rfl, hG2⟩)
        go_roundw
        case rel => exact ⟨k + 1, by omega, by go_num, by rw [HN2.out, h2'.out], hG2⟩
        case measure => simp [intOf]; omega
      · have h2' := Lib.hid h2
        clear h2
        go_wp2_with (go_at_call 15; ((with_reducible refine HT.out.mono ?_)); rintro e w2 ⟨rfl, hG2⟩)
        go_roundw
        case rel => exact ⟨k + 1, by omega, by go_num, by rw [HN2.out, h2'.out], hG2⟩
        case measure => simp [intOf]; omega
    · obtain rfl : k = m := by omega
      have HE := Lib.hid (HEnd.out w1 wr HO.out.2.1 HG.out)
      clear hlt
      go_wp2_with fail
      go_ret
      exact ⟨by rw [← HE.out.2]; rfl, HE.out.1⟩

/-- The program's tree keeps its words. -/
theorem trie_api : TrieApi tT where
  make := ymake_any
  put := fun H hL f n hf hn => yput_any H hL f n hf hn
  take := fun H hL f n hf hn => ytake_any H hL f n hf hn
  drop := fun H hL n hn => ydrop_any H hL n hn
  of := fun H hL f hf => yof_any H hL f hf
  mtch := fun H hL s hs => ymatch_any H hL s hs
  filters := fun H hL => yfilters_any H hL
  pairs := fun H hL => ypairs_any H
  nodes := fun H hL => ynodes_any H hL
end Go.Proofs.YtpmkokckjieidaaGreatDoor
