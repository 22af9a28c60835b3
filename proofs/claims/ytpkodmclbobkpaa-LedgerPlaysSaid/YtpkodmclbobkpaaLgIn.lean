/- What Is of the program's ledger answers: the iterator's spans are looked through. No condition but that the ledger is one. -/
import Derived.Test.YtpkodmclbobkpaaLgOut
import Derived.Test.YtpkodmclbobkpaaLgMath
namespace Go.Proofs.Ytpkodmclbobkpaa
open Go.RowKit Go.Shelf
attribute [local go_sem] Oper.semAt_some
set_option linter.unusedVariables false
set_option linter.unusedSimpArgs false
set_option maxRecDepth 100000

/-- How a function ends whose result, a Bool, lies in a cell, where a loop lies behind it. -/
theorem cell_endB {F : Fence} {n : Nat} {V : World} {D B : Nat} {y : Bool} {p : Tmp} {a : Act} {fn : Func} {R : Ending → World → Prop} (hfn : fn.results = #[.cell p 4])
    (h4 : a.tmps.getD p undef = .pointer (some ⟨B, 0, none⟩)) (hd : a.defers = [{ target := .collected D, args := #[] }]) (hB : Blk V B [.bool y] 4) (hne : B ≠ D) (hK : V.heap[D]? = some (.deferred (some [])))
    (hR : ∀ W', Turned (· = D) V W' → R (.returned (.bool y)) W') : bodyPostM F n Try.prog fn R .ret a V := by
  show LeavesInM F n Try.prog fn a.tmps R a.defers .returning V
  rw [hd]
  refine ⟨by simp, .inl ⟨_, _, rfl, run_takeDeferred hK, ?_⟩⟩
  have hP : Turned (· = D) V (V.putObj D (.deferred none)) := putObj_since _ (Array.getElem?_eq_some_iff.1 hK).1
  have b1 : (V.putObj D (.deferred none)).cell? ⟨B, 0, none⟩ = some (.bool y) := (hB.turned hP hne).cell rfl
  refine ⟨.bool y, ?_, hR _ hP⟩
  have hr : ∀ (tmps : Array Value) (P : Program) (w : World), (results fn tmps).run P w = ((asAddr (tmps.getD p undef)).run P w).andThen fun a w₁ => (loadVar 4 a).run P w₁ := fun tmps P w => by
    simp only [results, hfn]
    simp [Sem.run_bind, Result.andThen]
  rw [hr, h4]
  go_simp

/-- What holds between two rounds; and where one has left. -/
def inI (B : Nat) (L : List (Int × Int)) (x : Int) (k : Nat) : Thing where
  at_ w W := (blkT B [.bool false] 4).at_ w W ∧ ∀ j z, j < k → L[j]? = some z → inP x z = false
  lt := fun h => (blkT B [.bool false] 4).lt h.1
  keep := fun h ht hs => ⟨(blkT B [.bool false] 4).keep h.1 ht hs, h.2⟩
def inX (B : Nat) (L : List (Int × Int)) (x : Int) (k : Nat) : Thing where
  at_ w W := (∃ z, L[k]? = some z ∧ inP x z = true) ∧ (blkT B [.bool true] 4).at_ w W
  lt := fun h => (blkT B [.bool true] 4).lt h.2
  keep := fun h ht hs => ⟨h.1, (blkT B [.bool true] 4).keep h.2 ht hs⟩

set_option maxHeartbeats 4000000 in
theorem lgin_any {S : Nat → Prop} {R : Thing} {gf : Nat} {lb : Array Value} {L : List (Int × Int)} {w : World} (HI0 : IterS gf lb encSpA L R) (eg : ∀ args w, (callFunc gf args).run Try.prog w = .ok (.enter gf args) w) (hR : R.at_ w S) (x : Int) :
    Calls Try.prog 34 #[.int .i64 x, .func (.func gf) #[] lb] w fun e w' => e = .returned (.bool (L.any (inP x))) ∧ Still w w' := by
  obtain ⟨W1, hW1⟩ : ∃ W1, W1 = (w.alloc (.cells #[.int .i64 x] 3)).alloc (.cells #[.bool false] 4) := ⟨_, rfl⟩
  have hs1 : Still w W1 := by rw [hW1]; exact ((Turned.refl _ _).alloc _).alloc _
  have hz1 : W1.heap.size = w.heap.size + 2 := by rw [hW1]; simp
  have hb0 : Blk W1 w.heap.size [.int .i64 x] 3 := by rw [hW1]; exact (Blk.new w [.int .i64 x] 3).alloc _
  have hb1 : Blk W1 (w.heap.size + 1) [.bool false] 4 := by
    rw [hW1]
    have := Blk.new (w.alloc (.cells #[.int .i64 x] 3)) [.bool false] 4
    rwa [World.size_alloc] at this
  have HIt := Lib.hid HI0
  have HEg := Lib.hid eg
  have hSl := R.lt hR
  have HR := Lib.hid (R.keep hR hs1 (fun _ _ h => h))
  have HB := Lib.hid (show (inI (w.heap.size + 1) L x 0).at_ W1 (fun k => k = w.heap.size + 1) from ⟨⟨hb1, fun _ => Iff.rfl⟩, fun j _ hj => by omega⟩)
  have HD := Lib.hid (show ∀ k, k = w.heap.size + 1 → ¬ S k from by
    rintro k rfl hk
    have := hSl _ hk; omega)
  have HA := Lib.hid (fun V Q' (hS : Since (fun k => k = w.heap.size + 1) W1 Q' V) => show Blk V w.heap.size [.int .i64 x] 3 from hb0.turned hS.turn (by omega))
  have HSt := Lib.hid hs1
  have HZ := Lib.hid (show w.heap.size + 2 ≤ W1.heap.size from by omega)
  have HYes := Lib.hid (fun (k : Nat) (z : Int × Int) (hz : L[k]? = some z) (e : inP x z = true) => show L.any (inP x) = true from List.any_eq_true.2 ⟨z, List.mem_of_getElem? hz, e⟩)
  have HNo := Lib.hid (fun (hn : ∀ j z, j < L.length → L[j]? = some z → inP x z = false) => show L.any (inP x) = false from by
    rw [List.any_eq_false]
    intro z hz
    obtain ⟨j, hj, e⟩ := List.mem_iff_getElem.1 hz
    rw [hn j z hj (by rw [List.getElem?_eq_getElem hj, e])]; simp)
  generalize L.any (inP x) = ans at *
  clear hR hSl hb0 hb1 HI0 eg
  refine (callsIn_wide (n := 9)).1 (callsIn_of_wp_marks Try.func34 rfl trivial ?_ rfl)
  simp only [Try.ntmps34, List.size_toArray, List.length_cons, List.length_nil, Nat.reduceAdd, Nat.reduceSub, Array.replicate_succ, Array.replicate_zero, List.push_toArray, List.append_toArray, List.nil_append, List.cons_append]
  gi_wp2
  rw [← hW1]
  clear hW1 hz1
  refine loopA_outer rfl HEg.out HIt.out (by exact fun _ => rfl) (inI (w.heap.size + 1) L x) (inX (w.heap.size + 1) L x) HR.out HB.out HD.out ?_ ?_ ?_
  · rintro ⟨t, i⟩ y k V Q' hr hl1 hx hI hQl hsk
    obtain ⟨rr, hrr⟩ := hr
    have hyV : y < V.heap.size := (Array.getElem?_eq_some_iff.1 hrr).1
    have hVb := Blk.new V [.int .i64 t, .int .i64 i] 47
    have b1 : (V.alloc (.cells #[.int .i64 0, .int .i64 0] 47)).cell? ⟨V.heap.size, 0, none⟩ = some (.int .i64 0) := (Blk.new V [.int .i64 0, .int .i64 0] 47).cell rfl
    have HBx := Lib.hid (fun W2 (hT2 : Turned (· = y) (V.alloc (.cells #[.int .i64 t, .int .i64 i] 47)) W2) => show Blk W2 V.heap.size [.int .i64 t, .int .i64 i] 47 from hVb.turned hT2 (by omega))
    have HI2 := Lib.hid (fun W2 (hT2 : Turned (· = y) (V.alloc (.cells #[.int .i64 t, .int .i64 i] 47)) W2) => show (inI (w.heap.size + 1) L x k).at_ W2 Q' from
      Thing.keep _ (Thing.keep _ hI ((Turned.refl _ V).alloc _) (fun _ _ h => h)) hT2 (fun j hj e => hQl (e ▸ hj)))
    have HX2 := Lib.hid (fun W2 (hT2 : Turned (· = y) (V.alloc (.cells #[.int .i64 t, .int .i64 i] 47)) W2) => show Blk W2 w.heap.size [.int .i64 x] 3 from
      ((HA.out V Q' hsk).alloc _).turned hT2 (by have := HZ.out; omega))
    have HX := Lib.hid hx
    clear hl1 hx hI hQl hsk hVb hrr hyV
    dsimp only [encSpA]
    gi_wp2
    refine ⟨(Turned.refl _ _).alloc _, fun W2 _ hT2 => ?_⟩
    obtain ⟨⟨hB, hQ⟩, hno⟩ := HI2.out W2 hT2
    have hbx := HBx.out W2 hT2
    have p0 := hbx.cell (o := 0) rfl
    have p1 := hbx.cell (o := 1) rfl
    have px := (HX2.out W2 hT2).cell (o := 0) rfl
    have cB := hB.cell (o := 0) rfl
    have cF := hB.free 0
    have HYs := Lib.hid (fun (hin : inP x (t, i) = true) => show Goes (inX (w.heap.size + 1) L x k) Q' W2 (W2.setCell ⟨w.heap.size + 1, 0, none⟩ (.bool true)) from
      ⟨Q', ⟨⟨(t, i), HX.out, hin⟩, hB.set 0 _, hQ⟩, (Turned.refl _ W2).setCell (p := ⟨w.heap.size + 1, 0, none⟩) (.inl ((hQ _).2 rfl)) _, fun _ h => .inl h⟩)
    have HNs := Lib.hid (fun (hin : inP x (t, i) = false) => show Goes (inI (w.heap.size + 1) L x (k + 1)) Q' W2 W2 from
      ⟨Q', ⟨⟨hB, hQ⟩, fun j z' hj hz' => by
        rcases Nat.lt_succ_iff_lt_or_eq.1 hj with hj | rfl
        · exact hno j z' hj hz'
        · rw [HX.out] at hz'
          obtain rfl := Option.some.inj hz'
          exact hin⟩, Turned.refl _ _, fun _ h => .inl h⟩)
    clear hB hQ hno hbx hT2
    by_cases h1 : t ≤ x
    · by_cases h2 : x < i
      · have HG := Lib.hid (HYs.out (by simp [inP, h1, h2]))
        clear HNs HYs
        gi_wp2
        exact HG.out
      · have HG := Lib.hid (HNs.out (by simp [inP, h2]))
        clear HNs HYs
        gi_wp2
        exact HG.out
    · have HG := Lib.hid (HNs.out (by simp [inP, h1]))
      clear HNs HYs
      gi_wp2
      exact HG.out
  · intro D V Q' hD hK hQD hI hsk
    obtain ⟨⟨hB, hQ⟩, hn⟩ := hI
    have HAns := Lib.hid (HNo.out hn)
    have cF := hB.free 0
    have cB := hB.cell (o := 0) rfl
    have hDw : w.heap.size + 1 ≠ D := fun e => hQD ((hQ D).2 e.symm)
    have HK := Lib.hid (show (V.setCell ⟨w.heap.size + 1, 0, none⟩ (.bool false)).heap[D]? = some (.deferred (some [])) from by rw [Below.heap_setCell _ _ _ _ (fun e => hDw e.symm)]; exact hK)
    have HB2 := Lib.hid (show Blk (V.setCell ⟨w.heap.size + 1, 0, none⟩ (.bool false)) (w.heap.size + 1) [.bool false] 4 from hB.set 0 _)
    have HT := Lib.hid (fun W' (ht : Turned (· = D) (V.setCell ⟨w.heap.size + 1, 0, none⟩ (.bool false)) W') => show Still w W' from by
      have h0 := HZ.out
      have t1 : Turned (fun k => w.heap.size ≤ k) w V := (HSt.out.mono (fun _ _ h => h.elim)).trans (hsk.turn.mono (fun k _ e => by omega))
      have t2 : Turned (fun k => w.heap.size ≤ k) V (V.setCell ⟨w.heap.size + 1, 0, none⟩ (.bool false)) := (Turned.refl _ V).setCell (p := ⟨w.heap.size + 1, 0, none⟩) (.inl (by simp)) _
      exact ((t1.trans t2).trans (ht.mono (fun k _ e => by omega))).mono (fun k hk hh => by omega))
    clear hB hQ hn hsk hK hQD
    gi_wp2
    exact cell_endB rfl rfl rfl HB2.out hDw HK.out (fun W' ht => ⟨by rw [HAns.out], HT.out W' ht⟩)
  · intro D k V Q' hD hK hQD hk hI hsk
    obtain ⟨⟨z, hz, hza⟩, hB, hQ⟩ := hI
    have HAns := Lib.hid (HYes.out k z hz hza)
    have hDw : w.heap.size + 1 ≠ D := fun e => hQD ((hQ D).2 e.symm)
    have HB2 := Lib.hid hB
    have HK := Lib.hid hK
    have HT := Lib.hid (fun W' (ht : Turned (· = D) V W') => show Still w W' from by
      have h0 := HZ.out
      have t1 : Turned (fun k => w.heap.size ≤ k) w V := (HSt.out.mono (fun _ _ h => h.elim)).trans (hsk.turn.mono (fun k _ e => by omega))
      exact (t1.trans (ht.mono (fun k _ e => by omega))).mono (fun k hk hh => by omega))
    clear hB hQ hsk hK hQD hz hza
    gi_wp2
    try rw [Exit.noGoto_ret]
    exact cell_endB rfl rfl rfl HB2.out hDw HK.out (fun W' ht => ⟨by rw [HAns.out], HT.out W' ht⟩)

section
variable {q : Nat} {M : LgM} {w : World} {W : Nat → Prop} {n : Nat}
/-- Is an offset in a span of a kind? -/
theorem lgin_kind (h : (lgT q M).at_ w W) (hM : M.Ok) (kd : Bool) (x : Int) {r : Bool} (hr : (decide (lgiE M.L x = 0) && (lgiV M.L x == kd)) = r) :
    Calls Try.prog 34 #[.int .i64 x, .func (.func 40) #[] #[.pointer (some ⟨w.heap.size, 0, none⟩), .pointer (some ⟨w.heap.size + 1, 0, none⟩)]] ((w.alloc (.cells #[.pointer (some ⟨q, 0, none⟩)] 23)).alloc (.cells #[.bool kd] 4)) fun e w' => e = .returned (.bool r) ∧ Still w w' := by
  obtain ⟨R, S, h1, h2, _⟩ := lgit_any h hM kd
  refine (lgin_any h1 (enters_of Try.func40 (by kernel_rfl) rfl) h2 x).mono fun e w' ⟨he, hs⟩ => ⟨?_, (((Turned.refl _ w).alloc _).alloc _).trans hs⟩
  rw [he, sp_any x kd hM.ch, hr]
theorem lgis_any (h : (lgT q M).at_ w W) (hM : M.Ok) (x : Int) :
    Calls Try.prog 20 #[.pointer (some ⟨q, 0, none⟩), .int .i64 x] w fun e w' => e = .returned (.tuple #[.bool (lgiV M.L x), .int .i64 (lgiE M.L x)]) ∧ Still w w' := by
  have HMd := Lib.hid (show Calls Try.prog 32 #[.pointer (some ⟨q, 0, none⟩)] w fun e w' => e = .returned (.bool true) ∧ w = w' from by
    obtain ⟨a, c, f, hr, _⟩ := lgT_rd h
    exact lgmade_any hr.c0 (by omega))
  have HS1 := Lib.hid (fun V kd => lgspans_any q kd V)
  have HI1 := Lib.hid (fun V (hs : Still w V) kd r hr => lgin_kind (Thing.keep _ h hs (fun _ _ h => h)) hM kd x (r := r) hr)
  have hO := lgiE_or M.L x
  generalize lgiE M.L x = re at *
  generalize lgiV M.L x = rv at *
  clear h hM
  rcases hO with rfl | ⟨rfl, rfl⟩
  · cases rv with
    | true =>
      have HA := Lib.hid (HI1.out w (Turned.refl _ _) true true rfl)
      clear HI1
      go_enter Try.func20, Try.ntmps20
      go_wp2_with (first
        | (go_at_call 32; ((with_reducible refine HMd.out.mono ?_)); rintro e w1 ⟨rfl, rfl⟩)
        | (go_at_call 35; ((with_reducible refine (HS1.out _ _).mono ?_)); rintro e w2 ⟨rfl, rfl⟩)
        | (go_at_call 34; ((with_reducible refine HA.out.mono ?_)); rintro e w3 ⟨rfl, hs3⟩; have H3 := Lib.hid hs3; clear hs3))
      go_ret2
      exact ⟨rfl, H3.out⟩
    | false =>
      have HA := Lib.hid (HI1.out w (Turned.refl _ _) true false rfl)
      have HB := Lib.hid (fun V (hs : Still w V) => HI1.out V hs false true rfl)
      clear HI1
      go_enter Try.func20, Try.ntmps20
      go_wp2_with (first
        | (go_at_call 32; ((with_reducible refine HMd.out.mono ?_)); rintro e w1 ⟨rfl, rfl⟩)
        | (go_at_call 35; ((with_reducible refine (HS1.out _ _).mono ?_)); rintro e w2 ⟨rfl, rfl⟩)
        | (go_at_call 34; ((with_reducible refine HA.out.mono ?_)); rintro e w3 ⟨rfl, hs3⟩; have H3 := Lib.hid hs3; have HBx := Lib.hid (HB.out w3 hs3); clear hs3)
        | (go_at_call 34; ((with_reducible refine HBx.out.mono ?_)); rintro e w5 ⟨rfl, hs5⟩; have H5 := Lib.hid (H3.out.trans hs5); clear hs5))
      go_ret2
      exact ⟨rfl, H5.out⟩
  · have HA := Lib.hid (HI1.out w (Turned.refl _ _) true false rfl)
    have HB := Lib.hid (fun V (hs : Still w V) => HI1.out V hs false false rfl)
    clear HI1
    go_enter Try.func20, Try.ntmps20
    go_wp2_with (first
      | (go_at_call 32; ((with_reducible refine HMd.out.mono ?_)); rintro e w1 ⟨rfl, rfl⟩)
      | (go_at_call 35; ((with_reducible refine (HS1.out _ _).mono ?_)); rintro e w2 ⟨rfl, rfl⟩)
      | (go_at_call 34; ((with_reducible refine HA.out.mono ?_)); rintro e w3 ⟨rfl, hs3⟩; have H3 := Lib.hid hs3; have HBx := Lib.hid (HB.out w3 hs3); clear hs3)
      | (go_at_call 34; ((with_reducible refine HBx.out.mono ?_)); rintro e w5 ⟨rfl, hs5⟩; have H5 := Lib.hid (H3.out.trans hs5); clear hs5))
    go_ret2
    exact ⟨rfl, H5.out⟩
end
end Go.Proofs.Ytpkodmclbobkpaa
