/- The spans that the program's ledger hands out: slices.Collect over the iterator. No condition but that the ledger is one. -/
import Derived.Test.YtdlkdagmaeapdaaLgEach
import Derived.Test.YtdlkdagmaeapdaaIterA
import Derived.Maps.OwnIn
namespace Go.Proofs.Ytdlkdagmaeapdaa
open Go.RowKit Go.Shelf
attribute [local go_sem] Oper.semAt_some
set_option linter.unusedVariables false
set_option linter.unusedSimpArgs false
set_option maxRecDepth 100000

/-- Spans in a box, made since: the box, and the row. -/
def spHand (b0 B : Nat) (l : List (Int × Int)) : Thing where
  at_ w W := ∃ a c, Blk w B [.slice a l.length c] 48 ∧ w.ownsRow b0 51 2 (.slice a l.length c) l.length (rowOf sp2V l) ∧ (Value.slice a l.length c).ownBlock ≠ some B ∧ ∀ k, W k ↔ k = B ∨ (Value.slice a l.length c).ownBlock = some k
  lt := by
    rintro w W ⟨a, c, h1, h2, h3, hW⟩ k hk
    rcases (hW k).1 hk with rfl | hk
    · exact h1.lt
    · cases a with
      | none => cases hk
      | some z =>
        have h4 := (ow_lt h2 z rfl).2
        have h5 : z.block = k := by simpa [Value.ownBlock] using hk
        omega
  keep := by
    rintro w w' W S ⟨a, c, h1, h2, h3, hW⟩ ht hs
    exact ⟨a, c, h1.turned ht (hs _ ((hW B).2 (.inl rfl))), ow_turned h2 ht (fun b hb => hs b ((hW b).2 (.inr hb))), h3, hW⟩

/-- A span more. -/
theorem sph_app {b0 B : Nat} {l : List (Int × Int)} {V U w6 : World} {Q : Nat → Prop} {a a' : Option Addr} {c n c' : Nat} {x : Int × Int} (hn : n = l.length) (hB : Blk V B [.slice a n c] 48) (hne : (Value.slice a n c).ownBlock ≠ some B) (hQ : ∀ k, Q k ↔ k = B ∨ (Value.slice a n c).ownBlock = some k)
    (hU : Still V U) (hown : w6.ownsRow b0 51 2 (.slice a' (n + 1) c') (n + 1) (rowOf sp2V l ++ sp2V x)) (hg : U.grownBy w6 (Value.slice a n c).ownBlock) (hat : (Value.slice a' (n + 1) c').ownBlock = (Value.slice a n c).ownBlock ∨ (Value.slice a' (n + 1) c').ownBlock = some U.heap.size) :
    w6.cell? ⟨B, 0, none⟩ = some (.slice a n c) ∧ w6.frozen? ⟨B, 0, none⟩ = false ∧ Hid (Goes (spHand b0 B (l ++ [x])) Q V (w6.setCell ⟨B, 0, none⟩ (.slice a' (n + 1) c'))) := by
  subst hn
  have hBl := hB.lt
  have hUs := hU.size
  have hT : Turned (fun k => (Value.slice a l.length c).ownBlock = some k) V w6 := (hU.mono (fun _ _ h => h.elim)).grown hg (fun k hk => .inl hk)
  have hB6 : Blk w6 B [.slice a l.length c] 48 := hB.turned hT hne
  have hne' : (Value.slice a' (l.length + 1) c').ownBlock ≠ some B := fun e => by
    rcases hat with h | h
    · exact hne (h ▸ e)
    · rw [h] at e
      have := Option.some.inj e; omega
  refine ⟨hB6.cell rfl, hB6.free _, Lib.hid ?_⟩
  have hT2 : Turned (· = B) w6 (w6.setCell ⟨B, 0, none⟩ (.slice a' (l.length + 1) c')) := turned_set (Turned.refl _ _) 0 _
  have hlen : (l ++ [x]).length = l.length + 1 := by simp
  have hr : (spHand b0 B (l ++ [x])).at_ (w6.setCell ⟨B, 0, none⟩ (.slice a' (l.length + 1) c')) (fun k => k = B ∨ (Value.slice a' (l ++ [x]).length c').ownBlock = some k) := by
    refine ⟨a', c', ?_, ?_, ?_, fun _ => Iff.rfl⟩
    · rw [hlen]; have := hB6.set 0 (.slice a' (l.length + 1) c'); simpa using this
    · rw [hlen, rowOf_append, rowOf_cons, rowOf_nil, List.append_nil]
      exact ow_turned hown hT2 (fun b hb e => hne' (e ▸ hb))
    · rw [hlen]; exact hne'
  refine ⟨_, hr, ?_, fun k hk => ?_⟩
  · exact (hT.mono (fun k _ h => (hQ k).2 (.inr h))).trans (hT2.mono (fun k _ h => (hQ k).2 (.inl h)))
  · rcases hk with hk | hk
    · exact .inl ((hQ k).2 (.inl hk))
    · rw [hlen] at hk
      rcases hat with h | h
      · exact .inl ((hQ k).2 (.inr (h ▸ hk)))
      · rw [h] at hk
        have := Option.some.inj hk
        exact .inr (by omega)

set_option maxHeartbeats 4000000 in
theorem lgapp_any {S : Nat → Prop} {R : Thing} {gf : Nat} {lb : Array Value} {L : List (Int × Int)} {n : Nat} {w : World} (HI0 : IterS gf lb encSpA L R) (eg : ∀ args w, (callFunc gf args).run Try.prog w = .ok (.enter gf args) w) (hR : R.at_ w S) (hn : n = L.length) (hn1 : n ≤ 10000) :
    Calls Try.prog 73 #[.slice none 0 0, .func (.func gf) #[] lb] w (OutSp w L n) := by
  obtain ⟨i0, hi, hz0, hz1, hz2⟩ := info_parts infoSpan
  obtain ⟨W1, hW1⟩ : ∃ W1, W1 = w.alloc (.cells #[.slice none 0 0] 48) := ⟨_, rfl⟩
  have hs1 : Still w W1 := by rw [hW1]; exact (Turned.refl _ _).alloc _
  have hb1 : Blk W1 w.heap.size [.slice none 0 0] 48 := by rw [hW1]; exact Blk.new w [.slice none 0 0] 48
  have hz1' : W1.heap.size = w.heap.size + 1 := by rw [hW1]; simp
  have HIt := Lib.hid HI0
  have HEg := Lib.hid eg
  have hSl := R.lt hR
  have HR := Lib.hid (R.keep hR hs1 (fun _ _ h => h))
  have HB := Lib.hid (show (spHand w.heap.size w.heap.size (L.take 0)).at_ W1 (fun k => k = w.heap.size ∨ (Value.slice none 0 0).ownBlock = some k) from
    ⟨none, 0, hb1, World.ownsRow_nil _ _ _ _, by simp [Value.ownBlock], fun _ => Iff.rfl⟩)
  have hD' : ∀ k, k = w.heap.size ∨ (Value.slice none 0 0).ownBlock = some k → k = w.heap.size := fun k hk => hk.elim id (fun hk => by simp [Value.ownBlock] at hk)
  have HD := Lib.hid (show ∀ k, (k = w.heap.size ∨ (Value.slice none 0 0).ownBlock = some k) → ¬ S k from by
    intro k hk0 hk
    obtain rfl := hD' k hk0
    have := hSl _ hk; omega)
  have HSt := Lib.hid hs1
  have HD2 := Lib.hid hD'
  have HAll := Lib.hid (show L.take L.length = L from List.take_length)
  have HRn := Lib.hid (show L.length = n from hn.symm)
  have HLk := Lib.hid (fun k => show (L.take k).length ≤ 10000 from by rw [List.length_take]; omega)
  have HGet := Lib.hid (fun k (z : Int × Int) (hz : L[k]? = some z) => show L.take (k + 1) = L.take k ++ [z] from by rw [List.take_add_one, hz]; rfl)
  clear hR hSl hb1 hz1' hD' hn HI0 eg
  refine (callsIn_wide (n := 9)).1 (callsIn_of_wp_marks Try.func73 rfl trivial ?_ rfl)
  simp only [Try.ntmps73, List.size_toArray, List.length_cons, List.length_nil, Nat.reduceAdd, Nat.reduceSub, Array.replicate_succ, Array.replicate_zero, List.push_toArray, List.append_toArray, List.nil_append, List.cons_append]
  gi_wp2
  rw [← hW1]
  clear hW1
  refine loopA_outer rfl HEg.out HIt.out (by exact fun _ => rfl) (fun k => spHand w.heap.size w.heap.size (L.take k)) (fun _ => noT) HR.out HB.out HD.out ?_ ?_ ?_
  · rintro ⟨t, i⟩ y k V Q' hr hl1 hx hI hQl hsk
    obtain ⟨rr, hrr⟩ := hr
    have hyV : y < V.heap.size := (Array.getElem?_eq_some_iff.1 hrr).1
    have hVb := Blk.new V [.int .i64 t, .int .i64 i] 51
    have b1 : (V.alloc (.cells #[.int .i64 0, .int .i64 0] 51)).cell? ⟨V.heap.size, 0, none⟩ = some (.int .i64 0) := (Blk.new V [.int .i64 0, .int .i64 0] 51).cell rfl
    have HBx := Lib.hid (fun W2 (hT2 : Turned (· = y) (V.alloc (.cells #[.int .i64 t, .int .i64 i] 51)) W2) => show Blk W2 V.heap.size [.int .i64 t, .int .i64 i] 51 from hVb.turned hT2 (by omega))
    have HI2 := Lib.hid (fun W2 (hT2 : Turned (· = y) (V.alloc (.cells #[.int .i64 t, .int .i64 i] 51)) W2) => show (spHand w.heap.size w.heap.size (L.take k)).at_ W2 Q' ∧ V.heap.size < W2.heap.size from
      ⟨Thing.keep _ (Thing.keep _ hI ((Turned.refl _ V).alloc _) (fun _ _ h => h)) hT2 (fun j hj e => hQl (e ▸ hj)), by have := hT2.size; rw [World.size_alloc] at this; omega⟩)
    have hsz : w.heap.size ≤ V.heap.size := by
      have := hsk.turn.size
      have := HSt.out.size
      omega
    have HG := Lib.hid (HGet.out k _ hx)
    have hln := HLk.out k
    clear hl1 hx hI hQl hsk hVb hrr hyV
    dsimp only [encSpA]
    gi_wp2
    refine ⟨(Turned.refl _ _).alloc _, fun W2 _ hT2 => ?_⟩
    obtain ⟨hI2, hlt2⟩ := HI2.out W2 hT2
    have hbx := HBx.out W2 hT2
    have p0 := hbx.cell (o := 0) rfl
    have p1 := hbx.cell (o := 1) rfl
    obtain ⟨a1, c1, hB, hrow, hne, hQ⟩ := hI2
    have cc := hB.cell (o := 0) rfl
    have HF := Lib.hid (fun V' (hg : Goes (spHand w.heap.size w.heap.size (L.take k ++ [(t, i)])) Q' W2 V') => show Goes (spHand w.heap.size w.heap.size (L.take (k + 1))) Q' W2 V' from by
      rw [HG.out]; exact hg)
    have HAp := Lib.hid (fun U hU w6 a' c' hown hg hat => sph_app (b0 := w.heap.size) (U := U) (w6 := w6) (a' := a') (c' := c') (x := (t, i)) rfl hB hne hQ hU hown hg hat)
    have HRow := Lib.hid hrow
    obtain ⟨m, hm⟩ : ∃ m, m = (L.take k).length := ⟨_, rfl⟩
    rw [← hm] at HAp HRow cc hln
    have hsz2 : w.heap.size ≤ W2.heap.size := by omega
    clear hB hQ hrow hne hm hbx hT2
    gi_wp2_with (gi_at_builtin; refine wpListIn_append_own_at _ rfl _ _ 48 rfl w.heap.size 51 i0 (.agg #[.int .i64 0, .int .i64 0]) 2 16 Try.underlying48 hi hz0 hz1 hz2 rfl (by decide) _ _ _ rfl (HRow.out.alloc _) ⟨W2.heap.size, 0, none⟩ 1 1 [.int .i64 t, .int .i64 i] rfl rfl (ow_cells W2 [.int .i64 t, .int .i64 i] 51) (ow_ints rfl) (by unfold maxLen; omega) (by omega) (by simp; omega) ?_; intro v' w6 hown6 hg6 _ hat6; obtain ⟨a6, c6, rfl⟩ := ow_slice hown6; obtain ⟨hc6, hf6, HG6⟩ := HAp.out _ ((Turned.refl _ _).alloc _) w6 a6 c6 hown6 hg6 hat6; clear hown6 hg6 hat6)
    exact HF.out _ HG6.out
  · intro D V Q' hD hK hQD hI hsk
    rw [HAll.out] at hI
    obtain ⟨a, c, hB, hrow, hne, hQ⟩ := hI
    have cc := hB.cell (o := 0) rfl
    rw [HRn.out] at cc
    have hD1 : w.heap.size ≤ D := Nat.le_trans HSt.out.size hD
    have hT0 : Turned (fun k => w.heap.size ≤ k) w V := (HSt.out.mono (fun _ _ h => h.elim)).trans (hsk.turn.mono (fun k _ h => by have := HD2.out k h; omega))
    have hp := putObj_since (.deferred none) (Array.getElem?_eq_some_iff.1 hK).1
    have HP := Lib.hid (show OutSp w L n (.returned (.slice a n c)) (V.putObj D (.deferred none)) from by
      rw [HRn.out] at hrow hQ
      refine ⟨a, c, rfl, ow_turned hrow hp (fun b hb e => ?_), ?_⟩
      · obtain rfl := e
        exact hQD ((hQ _).2 (.inr hb))
      · exact (hT0.trans (hp.mono (fun k _ e => by rw [e]; exact hD1))).mono (fun k hk hh => by omega))
    clear hB hrow hne hQ hT0 hsk hp
    gi_wp2
    refine ⟨by simp, .inl ⟨_, _, rfl, run_takeDeferred hK, ?_⟩⟩
    refine ⟨_, results_tmp rfl _ _ _, ?_⟩
    exact HP.out
  · intro D k V Q' hD hK hQD hk hI hsk
    exact hI.elim

theorem OutSp.lower {w w1 w' : World} {l : List (Int × Int)} {n : Nat} {e : Ending} (hs : Still w w1) (h : OutSp w1 l n e w') : OutSp w l n e w' := by
  obtain ⟨a, c, he, ho, ht⟩ := h
  exact ⟨a, c, he, ow_base ho hs.size, hs.trans ht⟩
theorem lgcoll_any {S : Nat → Prop} {R : Thing} {gf : Nat} {lb : Array Value} {L : List (Int × Int)} {n : Nat} {w : World} (HI0 : IterS gf lb encSpA L R) (eg : ∀ args w, (callFunc gf args).run Try.prog w = .ok (.enter gf args) w) (hR : R.at_ w S) (hn : n = L.length) (hn1 : n ≤ 10000) :
    Calls Try.prog 53 #[.func (.func gf) #[] lb] w (OutSp w L n) := by
  have HA := Lib.hid (lgapp_any HI0 eg hR hn hn1)
  clear HI0 eg hR hn hn1
  go_enter Try.func53, Try.ntmps53
  go_wp2_with (go_at_call 73; ((with_reducible refine HA.out.mono ?_)); rintro e w1 ⟨a1, c1, rfl, ho, hs⟩; have HO := Lib.hid (show OutSp w L n (.returned (.slice a1 n c1)) w1 from ⟨a1, c1, rfl, ho, hs⟩); clear ho hs)
  go_ret
  exact HO.out

section
variable {q : Nat} {M : LgM} {w : World} {W : Nat → Prop} {n : Nat}
theorem lgit_any (h : (lgT q M).at_ w W) (hM : M.Ok) (kd : Bool) : ∃ (R : Thing) (S : Nat → Prop), IterS 74 #[.pointer (some ⟨w.heap.size, 0, none⟩), .pointer (some ⟨w.heap.size + 1, 0, none⟩)] encSpA (spOf M.L kd) R ∧
    R.at_ ((w.alloc (.cells #[.pointer (some ⟨q, 0, none⟩)] 46)).alloc (.cells #[.bool kd] 4)) S ∧ ∀ k, S k → k = w.heap.size ∨ k = w.heap.size + 1 ∨ W k := by
  obtain ⟨a, c, f, h, hf⟩ := h
  exact ⟨_, _, lgspans_it rfl rfl hM hf kd w.heap.size (w.heap.size + 1), evLg_new kd h, fun k h => h⟩
theorem lgaccepted_any (h : (lgT q M).at_ w W) (hM : M.Ok) (hn : n = (spOf M.L true).length) : Calls Try.prog 29 #[.pointer (some ⟨q, 0, none⟩)] w (OutSp w (spOf M.L true) n) := by
  obtain ⟨R, S, h1, h2, _⟩ := lgit_any h hM true
  have HS := Lib.hid (lgspans_any q true w)
  have HC := Lib.hid (lgcoll_any h1 (enters_of Try.func74 (by kernel_rfl) rfl) h2 hn (by have := spOf_len M.L true; have := hM.len; omega))
  have HL := Lib.hid (fun (e : Ending) (w' : World) (ho : OutSp _ (spOf M.L true) n e w') => OutSp.lower (w := w) (((Turned.refl _ w).alloc (.cells #[.pointer (some ⟨q, 0, none⟩)] 46)).alloc (.cells #[.bool true] 4)) ho)
  clear h h1 h2 hM hn
  go_enter Try.func29, Try.ntmps29
  go_wp2_with (first
    | (go_at_call 54; ((with_reducible refine HS.out.mono ?_)); rintro e w1 ⟨rfl, rfl⟩)
    | (go_at_call 53; ((with_reducible refine HC.out.mono ?_)); rintro e w2 ho; have HO := Lib.hid (HL.out _ _ ho); obtain ⟨a2, c2, rfl, _, _⟩ := ho))
  go_ret
  exact HO.out
theorem lgskipped_any (h : (lgT q M).at_ w W) (hM : M.Ok) (hn : n = (spOf M.L false).length) : Calls Try.prog 30 #[.pointer (some ⟨q, 0, none⟩)] w (OutSp w (spOf M.L false) n) := by
  obtain ⟨R, S, h1, h2, _⟩ := lgit_any h hM false
  have HS := Lib.hid (lgspans_any q false w)
  have HC := Lib.hid (lgcoll_any h1 (enters_of Try.func74 (by kernel_rfl) rfl) h2 hn (by have := spOf_len M.L false; have := hM.len; omega))
  have HL := Lib.hid (fun (e : Ending) (w' : World) (ho : OutSp _ (spOf M.L false) n e w') => OutSp.lower (w := w) (((Turned.refl _ w).alloc (.cells #[.pointer (some ⟨q, 0, none⟩)] 46)).alloc (.cells #[.bool false] 4)) ho)
  clear h h1 h2 hM hn
  go_enter Try.func30, Try.ntmps30
  go_wp2_with (first
    | (go_at_call 54; ((with_reducible refine HS.out.mono ?_)); rintro e w1 ⟨rfl, rfl⟩)
    | (go_at_call 53; ((with_reducible refine HC.out.mono ?_)); rintro e w2 ho; have HO := Lib.hid (HL.out _ _ ho); obtain ⟨a2, c2, rfl, _, _⟩ := ho))
  go_ret
  exact HO.out
end
end Go.Proofs.Ytdlkdagmaeapdaa
