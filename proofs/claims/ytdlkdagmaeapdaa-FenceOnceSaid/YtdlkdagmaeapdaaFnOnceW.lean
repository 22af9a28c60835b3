/- FenceOnce: the walk. No condition but the words. -/
import Derived.Test.YtdlkdagmaeapdaaFnAscW
import Derived.Test.YtdlkdagmaeapdaaLgApi
import Derived.Deep.RegionHeld3
namespace Go.Proofs.Ytdlkdagmaeapdaa
open Go.RowKit
set_option linter.unusedVariables false
set_option linter.unusedSimpArgs false
set_option maxRecDepth 100000

theorem ownT_grown0 {e : TypeId} {m : Nat} {ao a' : Option Addr} {n cc n' c' : Nat} {xs ys : List Value} {W : Nat → Prop} {w w' : World} (h : (ownT e m ao n cc xs).at_ w W)
    (hown : w'.ownsRow 0 e m (.slice a' n' c') n' ys) (hg : w.grownBy w' (Value.slice ao n cc).ownBlock)
    (hat : (Value.slice a' n' c').ownBlock = (Value.slice ao n cc).ownBlock ∨ (Value.slice a' n' c').ownBlock = some w.heap.size) : Goes (ownT e m a' n' c' ys) W w w' := by
  obtain ⟨h1, hW⟩ := h
  refine ⟨fun k => (Value.slice a' n' c').ownBlock = some k, ⟨hown, fun k => Iff.rfl⟩, (Turned.refl W w).grown hg (fun k hk => .inl ((hW k).2 hk)), fun k hk => ?_⟩
  rcases hat with h | h
  · exact .inl ((hW k).2 (h ▸ hk))
  · rw [h] at hk
    have : w.heap.size = k := by simpa using hk
    exact .inr (by omega)
theorem row_cellsSp {w : World} {b o : Nat} {xs : List (Int × Int)} (h : SpAt w (some ⟨b, o, none⟩) xs) : ∀ (j : Nat) (u : Value), (rowOf sp2V xs)[j]? = some u → w.cell? ((⟨b, o, none⟩ : Addr).add j) = some u := by
  intro j u hj
  have hlen : ∀ x, (sp2V x).length = 2 := fun _ => rfl
  have hl : j < xs.length * 2 := by
    have := (List.getElem?_eq_some_iff.1 hj).1
    rwa [rowOf_length hlen] at this
  obtain ⟨x, hx⟩ := get_some (l := xs) (i := j / 2) (by omega)
  obtain ⟨b', o', e, hc⟩ := h (j / 2) x hx
  cases e
  obtain ⟨v, hv⟩ := get_some (l := sp2V x) (i := j % 2) (by rw [hlen]; omega)
  have h1 := rowOf_get hlen hx hv
  rw [show j / 2 * 2 + j % 2 = j by omega, hj] at h1
  obtain rfl := Option.some.inj h1
  have h2 := hc (j % 2) u hv
  rw [Addr.add_lit]
  rw [show o + (j / 2 * 2 + j % 2) = o + j by omega] at h2
  exact h2
theorem oneSp (l : List (Int × Int)) : ∀ u ∈ rowOf sp2V l, u.oneCell' = true := by
  intro u hu
  unfold rowOf at hu
  obtain ⟨x, _, hx⟩ := List.mem_flatMap.1 hu
  unfold sp2V at hx
  simp at hx
  rcases hx with rfl | rfl <;> rfl
/-- append of spans to spans of one's own. -/
theorem wpList_app_sp {ops : Array Oper} {rest : List Oper} {o : Oper} {a : Act} {w w0 : World} {X : Thing} {Q : Exit → Act → World → Prop} (hgd : o.guard = none) (s x : Operand)
    (ho : o.op = .call { callee := .builtin .append, args := #[s, x], argTypes := #[48, 48] })
    (so : Option Addr) (n c : Nat) (xs : List (Int × Int)) (hs : a.eval s = .slice so n c) (H : Held w0 w (X.sep (ownT 51 2 so n c (rowOf sp2V xs))))
    (ao : Option Addr) (m cm : Nat) (l : List (Int × Int)) (hx : a.eval x = .slice ao m cm) (hm : m = l.length) (hR : SpAt w ao l) (h0 : ao = none → m = 0 ∧ cm = 0) (L : Nat) (hL : L = n + m) (h63 : L ≤ 1000000)
    (h : ∀ a' c' w', Held w0 w' (X.sep (ownT 51 2 a' L c' (rowOf sp2V (xs ++ l)))) → wpList Try.prog ops Q rest (a.put o.dst (.slice a' L c')) w') :
    wpList Try.prog ops Q (o :: rest) a w := by
  obtain ⟨pi, qi, pz0, pz1, pz2⟩ := info_parts infoSpan
  subst hL
  cases ao with
  | none =>
    obtain ⟨rfl, rfl⟩ := h0 rfl
    obtain rfl : l = [] := by cases l with
      | nil => rfl
      | cons _ _ => simp at hm
    refine wpList_append_own_none hgd s x 48 ho 0 51 pi 2 Try.underlying48 qi (.slice so n c) n (rowOf sp2V xs) hs H.own hx ?_
    have := h so c w (by rw [List.append_nil, Nat.add_zero]; exact H)
    rwa [Nat.add_zero] at this
  | some ad =>
    refine wpList_append_own_at _ hgd s x 48 ho 0 51 pi (.agg #[.int .i64 0, .int .i64 0]) 2 16 Try.underlying48 qi pz0 pz1 pz2 rfl (by decide) (.slice so n c) n (rowOf sp2V xs) hs H.own ad m cm (rowOf sp2V l) hx (by rw [rowOf_length (m := 2) (fun _ => rfl), hm]) (fun j u hj => ?_) (oneSp l) (by unfold maxLen; omega) (by omega) (Nat.zero_le _) ?_
    · cases l with
      | nil => cases hj
      | cons y r =>
        obtain ⟨b, p, e, _⟩ := hR 0 y rfl
        cases e
        exact row_cellsSp hR j u hj
    · intro v' w' g1 g2 _ g4
      obtain ⟨a', c', rfl⟩ := ow_slice g1
      obtain ⟨W, q1, q2⟩ := H.swap.fst
      refine h a' c' w' ?_
      rw [rowOf_append]
      exact (q2 _ _ (ownT_grown0 q1 g1 g2 g4)).swap

section
variable {a last : Int} {M : FnM} {had : List Int} {i : Nat}
theorem asc_del (h : Asc a M had last i) (hh t : Int) : ∃ had' last', Asc a (M.del hh t) had' last' (i + 1) := by
  by_cases he : M.delE hh t = 0
  · exact ⟨_, _, (h.del he).1⟩
  · refine ⟨had, last, ?_⟩
    have : M.del hh t = M := by unfold FnM.del; rw [if_neg he]
    rw [this]; exact h.no
theorem asc_com (h : Asc a M had last i) (x : Int) : ∃ had' last', Asc a (M.com x) had' last' (i + 1) := by
  by_cases he : M.comE x = 0
  · exact ⟨_, _, (h.com he).1⟩
  · refine ⟨had, last, ?_⟩
    rw [h.com_no he]; exact h.no
theorem asc_seek (h : Asc a M had last i) (x hh t : Int) : ∃ had' last', Asc a (M.seek x hh t) had' last' (i + 1) := by
  by_cases he : M.seekE x hh t = 0
  · exact ⟨_, _, h.seek he⟩
  · refine ⟨had, last, ?_⟩
    rw [h.seek_no he]; exact h.no
end
/-- What holds between two acts. -/
structure OnceIn (FT : Nat → FnM → Thing) (w wr : World) (q : Nat) (a : Int) (k : Nat) (h t : Int) (M : FnM) : Prop where
  held : Held w wr ((FT q M).sep Thing.none)
  asc : ∃ had last, Asc a M had last k
  h0 : 0 ≤ h
  ht : h ≤ t
  hi : t ≤ 49 + 3 * k

set_option maxHeartbeats 16000000 in
theorem fonce_walk {FT : Nat → FnM → Thing} {LT : Nat → LgM → Thing} (A : FenceApi FT LT) (AL : LedgerApi LT) (n0 : Int) (t : Sl Act18) (w : World) (h0 : (Lit.int .i64 n0).wf = true) (h1 : SlOk encAct18 okAct18 5 w t) :
    Calls Try.prog 5 #[.int .i64 n0, .slice t.a t.len t.cap] w fun e w' => e = .returned (.bool true) ∧ Still w w' := by
  have HWk := Lib.hid (works18 A w)
  obtain ⟨a, ha⟩ : ∃ a, a = am n0 50 := ⟨_, rfl⟩
  have hal : a < 50 := by rw [ha]; exact am_lt _ (by omega)
  have B0 := Lib.hid (fun W => among_lit n0 50 50 a rfl ha (by omega) (by omega) W)
  have HMk := Lib.hid (fun W => A.make_ok (a : Int) W (by omega) (by omega))
  have HAs := Lib.hid (Asc.new (a := (a : Int)) (by omega) (by omega))
  obtain ⟨ta, tl, tc, tx⟩ := t
  have htcap : tl ≤ tc := h1.le
  have htmax : tc ≤ maxLen := h1.max
  unfold maxLen at htmax
  have HTX := Lib.hid h1
  have HTL : Hid (tx.length = tl) := Lib.hid h1.len
  dsimp only
  clear h1 h0 ha
  go_enter Try.func5, Try.ntmps5
  go_wp2_with (first
    | (go_at_call 10; ((with_reducible refine HWk.out.mono ?_)); rintro e w1 ⟨rfl, hs⟩; have S1 := Lib.hid hs; clear hs)
    | (go_at_call 12; ((with_reducible refine (B0.out _).mono ?_)); rintro e wb ⟨rfl, hwb⟩; subst hwb)
    | (go_at_call 8; ((with_reducible refine (HMk.out _).mono ?_)); rintro e w2 ⟨q, rfl, hN⟩; have K2 := Lib.hid ((Held.start S1.out).new hN); clear hN))
  go_loopw [7, 8, 9] (fun hv tv i wr => ∃ (k : Nat) (h t : Int) (M : FnM), k ≤ tl ∧ k ≤ 150 ∧ hv = .int .i64 h ∧ tv = .int .i64 t ∧ i = .int .i64 k ∧ OnceIn FT w wr q (a : Int) k h t M) (fun _ _ i _ => tl - (intOf i).toNat)
  case atStart => exact ⟨0, 0, (a : Int), FnM.new a, Nat.zero_le _, Nat.zero_le _, rfl, rfl, rfl, ⟨K2.out, ⟨_, _, HAs.out⟩, Int.le_refl _, by omega, by omega⟩⟩
  case round =>
    clear K2 HAs B0 HMk
    obtain ⟨k, h, t, M, hk, hk1, rfl, rfl, rfl, hI⟩ := hrel
    by_cases hin : k < tl ∧ k < 150
    · obtain ⟨hlt, h150⟩ := hin
      obtain ⟨x, hx⟩ := get_some (l := tx) (i := k) (by rw [HTL.out]; exact hlt)
      obtain ⟨b, o, rfl, hc⟩ := HTX.out.row k x hx
      have hT := hI.held.ground
      obtain ⟨d, nn, hh, tt, near⟩ := x
      have c0 := still_cell hT (hc 0 _ rfl) rfl
      have c1 := still_cell hT (hc 1 _ rfl) rfl
      have c2 := still_cell hT (hc 2 _ rfl) rfl
      have c3 := still_cell hT (hc 3 _ rfl) rfl
      have c4 := still_cell hT (hc 4 _ rfl) rfl
      rw [show o + (k * 5 + 0) = o + k * 5 from rfl] at c0
      rw [← Nat.add_assoc] at c1 c2 c3 c4
      obtain ⟨B, hB⟩ : ∃ B, B = wr.heap.size := ⟨_, rfl⟩
      have HG := Lib.hid (hI.held.actIn (d := d) (nn := nn) (hh := hh) (tt := tt) (near := near) B hB)
      have hki : (k : Int) < (tl : Int) := by omega
      have HBw := Lib.hid hB
      obtain ⟨a0, a1, a2, a3⟩ := HG.out.actAt
      obtain ⟨ut, hut⟩ : ∃ u, u = am tt 4 := ⟨_, rfl⟩
      have hutl : ut < 4 := by rw [hut]; exact am_lt _ (by omega)
      have B4 := Lib.hid (fun W => among_lit tt 4 4 ut rfl hut (by omega) (by omega) W)
      obtain ⟨uh, huh⟩ : ∃ u, u = am hh 12 := ⟨_, rfl⟩
      have huhl : uh < 12 := by rw [huh]; exact am_lt _ (by omega)
      have B12 := Lib.hid (fun W => among_lit hh 12 12 uh rfl huh (by omega) (by omega) W)
      obtain ⟨v, hv⟩ : ∃ v, v = am d 9 := ⟨_, rfl⟩
      have hvl : v < 9 := by rw [hv]; exact am_lt _ (by omega)
      have B9 := Lib.hid (fun W => among_lit d 9 9 v rfl hv (by omega) (by omega) W)
      obtain ⟨i1, ⟨had, last, i4⟩, i5, i6, i7⟩ := hI
      obtain ⟨T, hTT⟩ : ∃ T, T = t + (ut : Int) := ⟨_, rfl⟩
      obtain ⟨m1, hm1⟩ : ∃ m1, m1 = max h (T - 1 - (uh : Int)) := ⟨_, rfl⟩
      have w1 : 0 ≤ m1 ∧ m1 ≤ T ∧ T ≤ 49 + 3 * ((k + 1 : Nat) : Int) := by omega
      have hmx : (if h < T - 1 - (uh : Int) then T - 1 - (uh : Int) else h) = m1 := by rw [hm1]; split <;> omega
      have htu : t + (ut : Int) = T := hTT.symm
      obtain ⟨w2, w3, w4⟩ := w1
      have hT9 : T ≤ 600 := by omega
      obtain ⟨N, hN⟩ : ∃ N, N = M.N := ⟨_, rfl⟩
      have hNb : 0 ≤ N ∧ N ≤ 1099511627776 := by
        have h7 := (endF_le i4.ok.led.ch).1
        have h8 := i4.ok.led.lo
        have h9 := i4.ok.lo
        have h10 := i4.ok.hi
        rw [hN]; unfold LgM.fin at h9; omega
      have HAs := Lib.hid i4
      have HNx := Lib.hid (fun V (hs : Held w V ((FT q M).sep ((actT B d nn hh tt near).sep Thing.none))) => (Held.nextF A hs i4.ok (f := N) hN.symm))
      clear hx hc hT hB hut huh hv i1 i4 hTT hm1 hN
      rw [HBw.out] at a0 a1 a2 a3
      go_upto_block 2 with (first
        | (go_at_call 12; ((with_reducible refine (B4.out _).mono ?_)); rintro e wb ⟨rfl, hwb⟩; subst hwb)
        | (go_at_call 12; ((with_reducible refine (B12.out _).mono ?_)); rintro e wb ⟨rfl, hwb⟩; subst hwb)
        | (go_at_call 12; ((with_reducible refine (B9.out _).mono ?_)); rintro e wb ⟨rfl, hwb⟩; subst hwb))
      obtain ⟨W0, hW0⟩ : ∃ W0, W0 = wr.alloc (.cells #[.int .i64 d, .int .i64 nn, .int .i64 hh, .int .i64 tt, .bool near] 32) := ⟨_, rfl⟩
      rw [← hW0] at HG a0 a1 a2 a3 ⊢
      rw [← HBw.out] at a0 a1 a2 a3 ⊢
      clear hW0 HBw c0 c1 c2 c3 c4 B4 B12 B9 hmx htu a0 a2 a3
      obtain ⟨un, hun⟩ : ∃ u, u = am nn 3 := ⟨_, rfl⟩
      have hunl : un < 3 := by rw [hun]; exact am_lt _ (by omega)
      have B3 := Lib.hid (fun W => among_lit nn 3 3 un rfl hun (by omega) (by omega) W)
      obtain ⟨us, hus⟩ : ∃ u, u = am nn 5 := ⟨_, rfl⟩
      have husl : us < 5 := by rw [hus]; exact am_lt _ (by omega)
      have B5 := Lib.hid (fun W => among_lit nn 5 5 us rfl hus (by omega) (by omega) W)
      have HNx2 := Lib.hid (fun V (hs : Still W0 V) => (HNx.out V (HG.out.still hs)).mono fun e w' ⟨he, ht⟩ => (⟨he, hs.trans ht⟩ : e = Ending.returned (.int .i64 N) ∧ Still W0 w'))
      have HC := Lib.hid (fun V (hs : Still W0 V) => (HG.out.still hs).actAt.2.1)
      have HT9 := Lib.hid (show T ≤ 49 + 3 * ((k + 1 : Nat) : Int) from by omega)
      have hok := HAs.out.ok
      clear hun hus HNx w4
      rcases (show (v = 0 ∨ v = 1 ∨ v = 2 ∨ v = 3 ∨ v = 8) ∨ (v = 4 ∨ v = 5) ∨ v = 6 ∨ v = 7 by omega) with hv | hv | rfl | rfl
      · have HD := Lib.hid (Held.delF A HG.out hok (h := m1) (t := T) (by omega) (by omega) (by omega) (by omega) rfl rfl rfl)
        have hA := asc_del HAs.out m1 T
        generalize M.del m1 T = M' at *
        generalize M.delV m1 T = vv at *
        generalize M.delE m1 T = ee at *
        have HA := Lib.hid hA
        clear hA hok HAs
        rcases hv with rfl | rfl | rfl | rfl | rfl
        all_goals (as_aux_lemma =>
          go_wp2_with (go_at_call 13; ((with_reducible refine HD.out.mono ?_)); rintro e w5 ⟨rfl, h5⟩; have HO := Lib.hid h5.actOut; clear h5)
          go_roundw
          case rel => exact ⟨k + 1, m1, T, M', by omega, by omega, rfl, rfl, by go_num, ⟨HO.out, HA.out, w2, w3, HT9.out⟩⟩
          case measure => simp [intOf]; omega)
      · have hwr : IntKind.i64.wrap (N - (un : Int)) = N - (un : Int) := by simp only [IntKind.wrap_i64]; omega
        have HD := Lib.hid (fun V (hs : Still W0 V) => Held.comF A (HG.out.still hs) hok (x := IntKind.i64.wrap (N - (un : Int))) (by rw [hwr]; omega) (by rw [hwr]; omega) rfl rfl)
        have hA := asc_com HAs.out (IntKind.i64.wrap (N - (un : Int)))
        generalize M.com (IntKind.i64.wrap (N - (un : Int))) = M' at *
        generalize M.comE (IntKind.i64.wrap (N - (un : Int))) = ee at *
        have HA := Lib.hid hA
        have hT0 : Still W0 W0 := Turned.refl _ _
        have hTd : Still W0 W0.drew := hT0.drew
        clear hA hok HAs hwr
        rcases hv with rfl | rfl
        all_goals (as_aux_lemma =>
          go_wp2_with fail
          go_region_held3 (fun V => V.cell? ⟨B, 1, none⟩ = some (.int .i64 nn)) (first | assumption | go_keep) (first
            | (go_at_call 25; ((with_reducible refine ((HNx2.out _ (by assumption)).mono ?_)); rintro e wn ⟨rfl, hT3⟩; have g1 := HC.out wn hT3))
            | (go_at_call 12; ((with_reducible refine (B3.out _).mono ?_)); rintro e wb ⟨rfl, hwb⟩; subst hwb)
            | (go_at_call 15; ((with_reducible refine ((HD.out _ (by assumption)).mono ?_)); rintro e w5 ⟨rfl, h5⟩; have g5 := h5.actAt.2.1; have HO := Lib.hid h5.actOut; clear h5)))
          all_goals (
            go_wp2_with fail
            go_roundw
            case rel => exact ⟨k + 1, m1, T, M', by omega, by omega, rfl, rfl, by go_num, ⟨HO.out, HA.out, w2, w3, HT9.out⟩⟩
            case measure => simp [intOf]; omega))
      · have hwr : IntKind.i64.wrap (IntKind.i64.wrap (N + (us : Int)) - 2) = N + (us : Int) - 2 := by simp only [IntKind.wrap_i64]; omega
        have HD := Lib.hid (fun V (hs : Still W0 V) => Held.seekF A (HG.out.still hs) hok (x := IntKind.i64.wrap (IntKind.i64.wrap (N + (us : Int)) - 2)) (h := m1) (t := T) (by rw [hwr]; omega) (by rw [hwr]; omega) (by omega) (by omega) (by omega) (by omega) rfl rfl)
        have hA := asc_seek HAs.out (IntKind.i64.wrap (IntKind.i64.wrap (N + (us : Int)) - 2)) m1 T
        generalize M.seek (IntKind.i64.wrap (IntKind.i64.wrap (N + (us : Int)) - 2)) m1 T = M' at *
        generalize M.seekE (IntKind.i64.wrap (IntKind.i64.wrap (N + (us : Int)) - 2)) m1 T = ee at *
        have HA := Lib.hid hA
        have hT0 : Still W0 W0 := Turned.refl _ _
        have hTd : Still W0 W0.drew := hT0.drew
        clear hA hok HAs hwr
        as_aux_lemma =>
          go_wp2_with fail
          go_region_held3 (fun V => V.cell? ⟨B, 1, none⟩ = some (.int .i64 nn)) (first | assumption | go_keep) (first
            | (go_at_call 25; ((with_reducible refine ((HNx2.out _ (by assumption)).mono ?_)); rintro e wn ⟨rfl, hT3⟩; have g1 := HC.out wn hT3))
            | (go_at_call 12; ((with_reducible refine (B5.out _).mono ?_)); rintro e wb ⟨rfl, hwb⟩; subst hwb)
            | (go_at_call 17; ((with_reducible refine ((HD.out _ (by assumption)).mono ?_)); rintro e w5 ⟨rfl, h5⟩; have g5 := h5.actAt.2.1; have HO := Lib.hid h5.actOut; clear h5)))
          all_goals (
            go_wp2_with fail
            go_roundw
            case rel => exact ⟨k + 1, m1, T, M', by omega, by omega, rfl, rfl, by go_num, ⟨HO.out, HA.out, w2, w3, HT9.out⟩⟩
            case measure => simp [intOf]; omega)
      · have HD := Lib.hid (Held.backF A HG.out hok)
        have HA := Lib.hid (show ∃ had last, Asc (a : Int) M.back had last (k + 1) from ⟨_, _, HAs.out.back⟩)
        generalize M.back = M' at *
        clear hok HAs
        as_aux_lemma =>
          go_wp2_with (go_at_call 19; ((with_reducible refine HD.out.mono ?_)); rintro e w5 ⟨rfl, h5⟩; have HO := Lib.hid h5.actOut; clear h5)
          go_roundw
          case rel => exact ⟨k + 1, m1, T, M', by omega, by omega, rfl, rfl, by go_num, ⟨HO.out, HA.out, w2, w3, HT9.out⟩⟩
          case measure => simp [intOf]; omega
    · obtain ⟨i1, ⟨had, last, i4⟩, _, _, _⟩ := hI
      obtain ⟨f, hf⟩ : ∃ f, f = M.L.fin := ⟨_, rfl⟩
      obtain ⟨bb, hbb⟩ : ∃ bb, bb = M.L.b := ⟨_, rfl⟩
      have hba : bb = (a : Int) := by rw [hbb]; exact i4.b
      have hok := i4.ok
      have hlen := i4.len
      obtain ⟨la, hla⟩ : ∃ la, la = spOf M.L.L true := ⟨_, rfl⟩
      obtain ⟨ls, hls⟩ : ∃ ls, ls = spOf M.L.L false := ⟨_, rfl⟩
      obtain ⟨m, hm⟩ : ∃ m, m = la.length := ⟨_, rfl⟩
      obtain ⟨n, hn⟩ : ∃ n, n = ls.length := ⟨_, rfl⟩
      have hm1 : m ≤ 150 := by
        have : (spOf M.L.L true).length ≤ M.L.L.length := by unfold spOf; rw [List.length_map]; exact List.length_filter_le _ _
        rw [← hla] at this; omega
      have hn1 : n ≤ 150 := by
        have : (spOf M.L.L false).length ≤ M.L.L.length := by unfold spOf; rw [List.length_map]; exact List.length_filter_le _ _
        rw [← hls] at this; omega
      have HOnce := Lib.hid (fun (y : Int) (h1 : (a : Int) ≤ y) (h2 : y < f) => show cntSp y (la ++ ls) = 1 from by
        have := i4.once y
        rw [← hla, ← hls, if_pos ⟨h1, by rw [← hf]; exact h2⟩] at this
        exact this)
      have hf1 : f ≤ 1099511627776 := by rw [hf]; exact hok.led.hi
      have HLd := Lib.hid (Held.ledF A i1 hok)
      have HFr := Lib.hid (fun V q' (H : Held w V ((LT q' M.L).sep ((FT q M).sep Thing.none))) => Held.fromL AL H hok.led hbb.symm)
      have HEn := Lib.hid (fun V q' (H : Held w V ((LT q' M.L).sep ((FT q M).sep Thing.none))) => Held.endL AL H hok.led hf.symm)
      have HCd := Lib.hid (fun V (H : Held w V ((FT q M).sep Thing.none)) => Held.cmdF A H hok (f := f) hf.symm)
      have HAc := Lib.hid (fun V q' (H : Held w V ((LT q' M.L).sep ((FT q M).sep Thing.none))) => show Calls Try.prog 29 #[.pointer (some ⟨q', 0, none⟩)] V (OutSp V la m) from by
        obtain ⟨_, h, _⟩ := H.fst
        rw [hla]; exact AL.accepted h hok.led m (by rw [hm, hla]))
      have HSk := Lib.hid (fun V q' X (H : Held w V (((LT q' M.L).sep ((FT q M).sep Thing.none)).sep X)) => show Calls Try.prog 30 #[.pointer (some ⟨q', 0, none⟩)] V (OutSp V ls n) from by
        obtain ⟨_, h, _⟩ := H.drop.fst
        rw [hls]; exact AL.skipped h hok.led n (by rw [hn, hls]))
      have HM := Lib.hid hm
      have HN := Lib.hid hn
      have HB := Lib.hid hba
      clear i1 i4 hok hlen hf hbb hla hls hm hn
      subst hba
      have hend : ((k : Int) < (tl : Int) ∧ ¬ (k : Int) < 150) ∨ ¬ (k : Int) < (tl : Int) := by omega
      clear hin
      rcases hend with ⟨e1, e2⟩ | e1
      all_goals (
        go_wp2_with (first
          | (go_at_call 26; ((with_reducible refine HLd.out.mono ?_)); rintro e w3 ⟨q', rfl, h3⟩; have K := Lib.hid h3; clear h3)
          | (go_at_call 27; ((with_reducible refine (HFr.out _ _ K.out).mono ?_)); rintro e w4 ⟨rfl, hs⟩; have K := Lib.hid (K.out.still hs); clear hs)
          | (go_at_call 28; ((with_reducible refine (HEn.out _ _ K.out).mono ?_)); rintro e w4 ⟨rfl, hs⟩; have K := Lib.hid (K.out.still hs); clear hs)
          | (go_at_call 23; ((with_reducible refine (HCd.out _ K.out.snd).mono ?_)); rintro e w4 ⟨rfl, hs⟩; have K := Lib.hid (K.out.still hs); clear hs))
        clear HLd HFr HEn
        obtain ⟨L, hL⟩ : ∃ L, L = m + n := ⟨_, rfl⟩
        have hL1 : L ≤ 300 := by omega
        have HLe := Lib.hid hL
        clear hL
        go_wp2_with (first
          | (go_at_call 29; ((with_reducible refine (HAc.out _ _ K.out).mono ?_)); intro e w5 ho; obtain ⟨aa, ca, rfl, hr, hs⟩ := ho; have KA := Lib.hid (K.out.got hr hs); clear hr hs)
          | (go_at_call 30; ((with_reducible refine (HSk.out _ _ _ KA.out).mono ?_)); intro e w6 ho; obtain ⟨ab, cb, rfl, hr, hs⟩ := ho; have KB := Lib.hid (KA.out.still hs); have SB := Lib.hid (SpAt.of_own hr HN.out); have NB := Lib.hid (ow_le hr).2.2; clear hr hs)
          | (at_builtin; refine wpList_app_sp rfl (.tmp 110) (.tmp 112) rfl aa m ca la rfl KB.out ab n cb ls rfl HN.out SB.out NB.out L HLe.out (by omega) ?_; intro a8 c8 w8 h8; have K8 := Lib.hid h8; clear h8))
        have HSp := Lib.hid (show SpAt w8 a8 (la ++ ls) from SpAt.of_own (B := 0) K8.out.own (by rw [List.length_append, ← HM.out, ← HN.out]; exact HLe.out))
        have HLl := Lib.hid (show (la ++ ls).length = L from by rw [List.length_append, ← HM.out, ← HN.out]; exact HLe.out.symm)
        have HF := Lib.hid (fun V (hs : Still w8 V) => (HCd.out V (K8.out.still hs).drop.snd).mono fun e w' ⟨he, ht⟩ => (⟨he, hs.trans ht⟩ : e = Ending.returned (.int .i64 f) ∧ Still w8 w'))
        have HGr := Lib.hid K8.out.ground
        clear HCd HAc HSk HM HN HLe KA KB SB NB K
        generalize la ++ ls = al at *
        go_loopw [13] (fun kv wq => ∃ y : Int, kv = .int .i64 y ∧ (a : Int) ≤ y ∧ Still w8 wq) (fun kv _ => (f - intOf kv).toNat)
        case atStart => exact ⟨(a : Int), rfl, Int.le_refl _, Turned.refl _ _⟩
        case round =>
          obtain ⟨y, rfl, hy, hst⟩ := hrel
          obtain ⟨U, hU⟩ : ∃ U, U = wr := ⟨_, rfl⟩
          subst hU
          by_cases hyf : y < f
          · have h1 := HOnce.out y hy hyf
            go_wp2_with (go_at_call 23; ((with_reducible refine (HF.out _ hst).mono ?_)); rintro e w9 ⟨rfl, hs9⟩; have H9 := Lib.hid hs9; clear hs9)
            go_loopw [14, 15] (fun nv jv wq => ∃ j : Nat, j ≤ L ∧ jv = .int .i64 j ∧ nv = .int .i64 ((cntSp y (al.take j) : Nat) : Int) ∧ wq = w9) (fun _ jv _ => L - (intOf jv).toNat)
            case atStart => exact ⟨0, Nat.zero_le _, rfl, rfl, rfl⟩
            case round =>
              obtain ⟨j, hj, rfl, rfl, rfl⟩ := hrel
              have HO1 := Lib.hid h1
              clear h1
              by_cases hjl : j < L
              · obtain ⟨⟨p1, p2⟩, hp⟩ := get_some (l := al) (i := j) (by rw [HLl.out]; exact hjl)
                obtain ⟨b8, o8, rfl, hc⟩ := HSp.out j _ hp
                have c0 := still_cell H9.out (hc 0 _ rfl) rfl
                have c1 := still_cell H9.out (hc 1 _ rfl) rfl
                rw [show o8 + (j * 2 + 0) = o8 + j * 2 from rfl] at c0
                rw [← Nat.add_assoc] at c1
                dsimp only at c0 c1
                have hstp := cntSp_step (n := y) hp
                have hcl : cntSp y (al.take j) ≤ 300 := by
                  have : cntSp y (al.take j) ≤ (al.take j).length := List.countP_le_length
                  rw [List.length_take] at this
                  omega
                have hji : (j : Int) < (L : Int) := by omega
                obtain ⟨cn, hcn⟩ : ∃ cn, cn = cntSp y (al.take j) := ⟨_, rfl⟩
                rw [← hcn] at hstp hcl ⊢
                clear hp hc hcn
                by_cases h2 : p1 ≤ y
                · by_cases h3 : y < p2
                  · have HS := Lib.hid (show ((cntSp y (al.take (j + 1)) : Nat) : Int) = (cn : Int) + 1 from by
                      rw [hstp, if_pos (by unfold inP; simp [h2, h3])]; omega)
                    clear hstp
                    go_wp2_with fail
                    go_roundw
                    case rel => exact ⟨j + 1, by omega, by go_num, by rw [HS.out], trivial⟩
                    case measure => simp [intOf]; omega
                  · have HS := Lib.hid (show ((cntSp y (al.take (j + 1)) : Nat) : Int) = (cn : Int) from by
                      rw [hstp, if_neg (by unfold inP; simp [h3])]; omega)
                    clear hstp
                    go_wp2_with fail
                    go_roundw
                    case rel => exact ⟨j + 1, by omega, by go_num, by rw [HS.out], trivial⟩
                    case measure => simp [intOf]; omega
                · have HS := Lib.hid (show ((cntSp y (al.take (j + 1)) : Nat) : Int) = (cn : Int) from by
                    rw [hstp, if_neg (by unfold inP; simp [h2])]; omega)
                  clear hstp
                  go_wp2_with fail
                  go_roundw
                  case rel => exact ⟨j + 1, by omega, by go_num, by rw [HS.out], trivial⟩
                  case measure => simp [intOf]; omega
              · obtain rfl : j = L := by omega
                have hall : cntSp y (al.take j) = 1 := by rw [List.take_of_length_le (by rw [HLl.out]; exact Nat.le_refl _)]; exact HO1.out
                rw [hall]
                clear hall
                go_wp2_with fail
                go_roundw
                case rel => exact ⟨y + 1, by go_num, by omega, H9.out⟩
                case measure => simp [intOf]; omega
          · go_wp2_with (go_at_call 23; ((with_reducible refine (HF.out _ hst).mono ?_)); rintro e w9 ⟨rfl, hs9⟩; have H9 := Lib.hid hs9; clear hs9)
            go_ret
            exact ⟨rfl, HGr.out.trans H9.out⟩)
end Go.Proofs.Ytdlkdagmaeapdaa
