/- Texts that lie next to one another, laid into one: each says what it holds. No condition but what each states. -/
import Derived.Test.YtmmkcfiecgpkpaaGreatBdTp
import Derived.Test.YtmmkcfiecgpkpaaGreatTpVoidW

/- The program's set that no call made: what its calls answer. No condition. -/
namespace Go.Proofs.YtmmkcfiecgpkpaaGreat
open Go.RowKit Go.Shelf
attribute [local go_sem] Oper.semAt_some
set_option linter.unusedVariables false
set_option linter.unusedSimpArgs false
set_option maxRecDepth 100000

/-- A pointer to a set that no call made. -/
def NilS (p : Option Addr) (W : World) : Prop := p = none ∨ ∃ b, p = some ⟨b, 0, none⟩ ∧ Blk W b [.pointer none, .slice none 0 0] 74
theorem NilS.still {p : Option Addr} {W W' : World} (h : NilS p W) (ht : Still W W') : NilS p W' := by
  rcases h with rfl | ⟨b, rfl, hb⟩
  · exact .inl rfl
  · exact .inr ⟨b, rfl, hb.turned ht (fun h => h)⟩

theorem nsmade {p : Option Addr} {W : World} (hp : NilS p W) : Calls Tryz.prog 50 #[.pointer p] W fun e w' => e = .returned (.bool false) ∧ W = w' := by
  rcases hp with rfl | ⟨b, rfl, hb⟩
  · go_enter Tryz.func50, Tryz.ntmps50
    go_wp2
    go_ret
    exact ⟨rfl, rfl⟩
  · have c0 : W.cell? ⟨b, 0, none⟩ = some (.pointer none) := hb.cell rfl
    clear hb
    go_enter Tryz.func50, Tryz.ntmps50
    go_wp2
    go_ret
    exact ⟨rfl, rfl⟩

section
variable {p : Option Addr} {W : World}
theorem nstopics (hp : NilS p W) : Calls Tryz.prog 33 #[.pointer p] W fun e w' => e = .returned (.int .i64 0) ∧ W = w' := by
  have HM := Lib.hid (nsmade hp)
  clear hp
  go_enter Tryz.func33, Tryz.ntmps33
  go_wp2_with (go_at_call 50; ((with_reducible refine HM.out.mono ?_)); rintro e w' ⟨rfl, rfl⟩)
  go_ret
  exact ⟨rfl, rfl⟩
theorem nspool (hp : NilS p W) : Calls Tryz.prog 35 #[.pointer p] W fun e w' => e = .returned (.pointer none) ∧ Still W w' := by
  have HM := Lib.hid (nsmade hp)
  clear hp
  go_enter Tryz.func35, Tryz.ntmps35
  go_wp2_with (go_at_call 50; ((with_reducible refine HM.out.mono ?_)); rintro e w' ⟨rfl, rfl⟩)
  go_ret
  exact ⟨rfl, Turned.refl _ _⟩
theorem nsrefuse (s : ByteArray) (hp : NilS p W) : Calls Tryz.prog 38 #[.pointer p, .string s] W fun e w' => e = .returned (.int .i64 1) ∧ W = w' := by
  have HM := Lib.hid (nsmade hp)
  clear hp
  go_enter Tryz.func38, Tryz.ntmps38
  go_wp2_with (go_at_call 50; ((with_reducible refine HM.out.mono ?_)); rintro e w' ⟨rfl, rfl⟩)
  go_ret
  exact ⟨rfl, rfl⟩
theorem nsat (t : Int) (hp : NilS p W) : Calls Tryz.prog 46 #[.pointer p, .int .i64 t] W fun e w' => e = .returned (.agg #[.string ⟨#[]⟩, .slice none 0 0]) ∧ Still W w' := by
  have hw1 : Still W (W.alloc (.cells #[.string ⟨#[]⟩, .slice none 0 0] 89)) := (Turned.refl _ _).alloc _
  have HT := Lib.hid (nstopics (hp.still hw1))
  have hb := Blk.new W [.string ⟨#[]⟩, .slice none 0 0] 89
  have b1 := hb.cell (o := 0) rfl
  have b2 := hb.cell (o := 1) rfl
  have b3 := hb.free 0
  have b4 := hb.free 1
  clear hp hw1 hb
  by_cases h0 : t < 0
  · go_enter Tryz.func46, Tryz.ntmps46
    go_wp2_with fail
    exact bodyPost_ret (v := .agg #[.string ⟨#[]⟩, .slice none 0 0]) (by simp [results, Tryz.results46, go_sem]) rfl ⟨rfl, (Turned.refl _ _).alloc _⟩
  · have h1 : (0 : Int) ≤ t := by omega
    go_enter Tryz.func46, Tryz.ntmps46
    go_wp2_with (go_at_call 33; ((with_reducible refine HT.out.mono ?_)); rintro e w2 ⟨rfl, rfl⟩)
    exact bodyPost_ret (v := .agg #[.string ⟨#[]⟩, .slice none 0 0]) (by simp [results, Tryz.results46, go_sem]) rfl ⟨rfl, (Turned.refl _ _).alloc _⟩
theorem nsname (t : Int) (hp : NilS p W) : Calls Tryz.prog 30 #[.pointer p, .int .i64 t] W fun e w' => e = .returned (.string ⟨#[]⟩) ∧ Still W w' := by
  have HA := Lib.hid (nsat t hp)
  clear hp
  go_enter Tryz.func30, Tryz.ntmps30
  go_wp2_with (go_at_call 46; ((with_reducible refine HA.out.mono ?_)); rintro e w1 ⟨rfl, hs⟩; have H1 := Lib.hid hs; clear hs)
  go_ret
  exact ⟨rfl, H1.out⟩
theorem nsopen (s : ByteArray) (n r q : Int) (hp : NilS p W) : Calls Tryz.prog 13 #[.pointer p, .string s, .int .i64 n, .int .i64 r, .int .i64 q] W fun e w' => e = .returned (.tuple #[.int .i64 0, .int .i64 1]) ∧ Still W w' := by
  have HR := Lib.hid (nsrefuse s hp)
  clear hp
  go_enter Tryz.func13, Tryz.ntmps13
  go_wp2_with (go_at_call 38; ((with_reducible refine HR.out.mono ?_)); rintro e w1 ⟨rfl, rfl⟩)
  go_ret2
  exact ⟨rfl, Turned.refl _ _⟩
theorem nsfind (s : ByteArray) (hp : NilS p W) : Calls Tryz.prog 15 #[.pointer p, .string s] W fun e w' => e = .returned (.tuple #[.int .i64 0, .int .i64 1]) ∧ Still W w' := by
  have hw1 : Still W (W.alloc (.cells #[.string s] 9)) := (Turned.refl _ _).alloc _
  have HR := Lib.hid (nsrefuse s (hp.still hw1))
  have HW := Lib.hid hw1
  have c0 := (Blk.new W [.string s] 9).cell (o := 0) rfl
  clear hp hw1
  go_enter Tryz.func15, Tryz.ntmps15
  go_wp2_with (go_at_call 38; ((with_reducible refine HR.out.mono ?_)); rintro e w1 ⟨rfl, rfl⟩)
  go_ret2
  exact ⟨rfl, HW.out⟩
theorem nsroute (s : ByteArray) (a : Option Addr) (n c : Nat) (hp : NilS p W) : Calls Tryz.prog 17 #[.pointer p, .string s, .slice a n c] W fun e w' => e = .returned (.tuple #[.agg #[.int .i64 0, .int .i64 0], .int .i64 1]) ∧ Still W w' := by
  have hw1 : Still W (W.alloc (.cells #[.int .i64 0, .int .i64 0] 25)) := (Turned.refl _ _).alloc _
  have HF := Lib.hid (nsfind s (hp.still hw1))
  have HB := Lib.hid (fun V hs => plbx (w := W) (V := V) hs)
  clear hp hw1
  go_enter Tryz.func17, Tryz.ntmps17
  go_wp2_with (go_at_call 15; ((with_reducible refine HF.out.mono ?_)); rintro e w1 ⟨rfl, hs⟩; have H1 := Lib.hid hs; obtain ⟨⟨b1, b2, b3, b4⟩, _⟩ := HB.out w1 hs; clear hs)
  obtain ⟨_, b5⟩ := HB.out w1 H1.out
  obtain ⟨d1, d2, d3⟩ := b5 0 0
  exact bodyPost_ret (v := .tuple #[.agg #[.int .i64 0, .int .i64 0], .int .i64 1]) (by simp [results, Tryz.results17, go_sem, d1, d2]) rfl ⟨rfl, d3⟩
theorem nsclaim (s : ByteArray) (a : Option Addr) (n c : Nat) (m : Int) (hp : NilS p W) : Calls Tryz.prog 20 #[.pointer p, .string s, .slice a n c, .int .i64 m] W fun e w' => e = .returned (.tuple #[.agg #[.int .i64 0, .int .i64 0], .int .i64 0, .int .i64 0, .int .i64 1]) ∧ Still W w' := by
  have hw1 : Still W (W.alloc (.cells #[.int .i64 0, .int .i64 0] 25)) := (Turned.refl _ _).alloc _
  have HR := Lib.hid (nsroute s a n c (hp.still hw1))
  have HB := Lib.hid (fun V (hs : Still (W.alloc (.cells #[.int .i64 0, .int .i64 0] 25)) V) => plbx (w := W) (V := V.alloc (.cells #[.int .i64 0, .int .i64 0] 25)) (hs.alloc _))
  clear hp hw1
  go_enter Tryz.func20, Tryz.ntmps20
  go_wp2_with (go_at_call 17; ((with_reducible refine HR.out.mono ?_)); rintro e w1 ⟨rfl, hs⟩; have H1 := Lib.hid hs; obtain ⟨⟨b1, b2, b3, b4⟩, _⟩ := HB.out w1 hs; clear hs)
  obtain ⟨_, b5⟩ := HB.out w1 H1.out
  obtain ⟨d1, d2, d3⟩ := b5 0 0
  exact bodyPost_ret (v := .tuple #[.agg #[.int .i64 0, .int .i64 0], .int .i64 0, .int .i64 0, .int .i64 1]) (by simp [results, Tryz.results20, go_sem, d1, d2]) rfl ⟨rfl, d3⟩
theorem nspart (hp : NilS p W) : Calls Tryz.prog 22 #[.pointer p, .agg #[.int .i64 0, .int .i64 0]] W fun e w' => e = .returned (.tuple #[.pointer none, .int .i64 1]) ∧ Still W w' := by
  obtain ⟨W1, hW1⟩ : ∃ W1, W1 = ((W.alloc (.cells #[.int .i64 0, .int .i64 0] 25)).alloc (.cells #[.pointer none] 47)).alloc (.cells #[.int .i64 0] 27) := ⟨_, rfl⟩
  have hs1 : Still W W1 := by rw [hW1]; exact (((Turned.refl _ _).alloc _).alloc _).alloc _
  have hb1 : Blk W1 (W.heap.size + 1) [.pointer none] 47 := by
    rw [hW1]
    have := (Blk.new (W.alloc (.cells #[.int .i64 0, .int .i64 0] 25)) [.pointer none] 47).alloc (.cells #[.int .i64 0] 27)
    rwa [World.size_alloc] at this
  have hb2 : Blk W1 (W.heap.size + 1 + 1) [.int .i64 0] 27 := by
    rw [hW1]
    have := Blk.new ((W.alloc (.cells #[.int .i64 0, .int .i64 0] 25)).alloc (.cells #[.pointer none] 47)) [.int .i64 0] 27
    rwa [World.size_alloc, World.size_alloc] at this
  have HM := Lib.hid (nsmade (hp.still hs1))
  rw [hW1] at HM
  clear hp hW1 hs1 hb1 hb2
  go_enter Tryz.func22, Tryz.ntmps22
  go_wp2_with (go_at_call 50; ((with_reducible refine HM.out.mono ?_)); rintro e w' ⟨rfl, rfl⟩)
  exact bodyPost_ret (v := .tuple #[.pointer none, .int .i64 1]) (by simp [results, Tryz.results22, go_sem]) rfl ⟨rfl, (((Turned.refl _ _).alloc _).alloc _).alloc _⟩
end

/-- A pointer to such a set, as a thing that can be read. -/
def nilT (p : Option Addr) : Thing where
  at_ w W := NilS p w ∧ ∀ k, W k ↔ ∃ x, p = some x ∧ x.block = k
  lt := by
    rintro w W ⟨h, hW⟩ k hk
    obtain ⟨x, rfl, rfl⟩ := (hW k).1 hk
    rcases h with h | ⟨b, h, hb⟩
    · cases h
    · obtain rfl := Option.some.inj h
      exact hb.lt
  keep := by
    rintro w w' W S ⟨h, hW⟩ ht hs
    refine ⟨?_, hW⟩
    rcases h with rfl | ⟨b, rfl, hb⟩
    · exact .inl rfl
    · exact .inr ⟨b, rfl, hb.turned ht (hs b ((hW b).2 ⟨_, rfl, rfl⟩))⟩
abbrev evN (Bs Bt : Nat) (p : Option Addr) (ao : Option Addr) (n cap : Nat) (l : List Int) : Thing :=
  (blkT Bs [.pointer p] 26).with_ ((blkT Bt [.slice ao n cap] 23).with_ ((nilT p).with_ (readT ao l)))
theorem evN_new {p : Option Addr} {ao : Option Addr} {n cap : Nat} {l : List Int} {w : World} {W : Nat → Prop} (h : (nilT p).at_ w W) (hA : NumsAt w ao l) :
    ∃ S, (evN w.heap.size (w.heap.size + 1) p ao n cap l).at_ ((w.alloc (.cells #[.pointer p] 26)).alloc (.cells #[.slice ao n cap] 23)) S ∧ ∀ k, S k → k = w.heap.size ∨ k = w.heap.size + 1 ∨ W k ∨ (l ≠ [] ∧ ∃ x, ao = some x ∧ x.block = k) := by
  have ht : Still w ((w.alloc (.cells #[.pointer p] 26)).alloc (.cells #[.slice ao n cap] 23)) := ((Turned.refl _ _).alloc _).alloc _
  have hr : (readT ao l).at_ w (fun k => l ≠ [] ∧ ∃ x, ao = some x ∧ x.block = k) := ⟨hA, fun _ => Iff.rfl⟩
  have b1 : Blk ((w.alloc (.cells #[.pointer p] 26)).alloc (.cells #[.slice ao n cap] 23)) w.heap.size [.pointer p] 26 := (Blk.new w [.pointer p] 26).alloc _
  have b2 : Blk ((w.alloc (.cells #[.pointer p] 26)).alloc (.cells #[.slice ao n cap] 23)) (w.heap.size + 1) [.slice ao n cap] 23 := by
    have := Blk.new (w.alloc (.cells #[.pointer p] 26)) [.slice ao n cap] 23
    rwa [World.size_alloc] at this
  exact ⟨_, with_at (W1 := (· = w.heap.size)) ⟨b1, fun _ => Iff.rfl⟩ (with_at (W1 := (· = w.heap.size + 1)) ⟨b2, fun _ => Iff.rfl⟩ (with_at ((nilT p).keep h ht (fun _ _ h => h)) ((readT ao l).keep hr ht (fun _ _ h => h)))), fun k hk => hk⟩

set_option maxHeartbeats 4000000 in
theorem nsprts_it (p : Option Addr) (ao : Option Addr) (n cap : Nat) (l : List Int) (hn : n = l.length) (hn100 : n ≤ 100) (Bs Bt : Nat) :
    IterS 79 #[.pointer (some ⟨Bt, 0, none⟩), .pointer (some ⟨Bs, 0, none⟩)] encPl [] (evN Bs Bt p ao n cap l) := by
  intro y J Jx W Q S hR h0 hd hY
  have HX := Lib.hid (fun V (h : Still W V) => show V.cell? ⟨Bs, 0, none⟩ = some (.pointer p) ∧ V.cell? ⟨Bt, 0, none⟩ = some (.slice ao n cap) ∧ NilS p V ∧ NumsAt V ao l from by
    obtain ⟨U1, U2, ⟨u1, _⟩, ⟨U3, U4, ⟨u3, _⟩, ⟨U5, U6, ⟨u5, _⟩, ⟨u6, _⟩, _⟩, _⟩, _⟩ := (evN Bs Bt p ao n cap l).keep hR h (fun _ _ h => h)
    exact ⟨u1.cell rfl, u3.cell rfl, u5, u6⟩)
  have HAt := Lib.hid (fun V (h : Still W V) t => nsat t (HX.out V h).2.2.1)
  have HEnd := Lib.hid (fun V (h : Still W V) => (Goes.still h0 h))
  have HN := Lib.hid hn
  obtain ⟨e1, e2, _, _⟩ := HX.out W (Turned.refl _ _)
  have hro : Fence.wide.round = none := rfl
  have hf1 : Fence.wide.fn 46 := trivial
  clear hR h0 hd hY hn
  refine (callsIn_wide (n := 9)).1 (callsIn_of_wp Tryz.func79 rfl trivial ?_ rfl)
  simp only [Tryz.ntmps79, List.size_toArray, List.length_cons, List.length_nil, Nat.reduceAdd, Nat.reduceSub, Array.replicate_succ, Array.replicate_zero, List.push_toArray, List.append_toArray, List.nil_append, List.cons_append]
  gi_wp2
  gi_loopw [10] (fun i wr => ∃ (k : Nat), k ≤ n ∧ i = .int .i64 k ∧ Still W wr) (fun i _ => n - (intOf i).toNat)
  case atStart => exact ⟨0, Nat.zero_le _, rfl, Turned.refl _ _⟩
  case round =>
    clear e1 e2
    obtain ⟨k, hk, rfl, hst⟩ := hrel
    by_cases hlt : k < n
    · obtain ⟨t, ht⟩ := get_some (l := l) (i := k) (by rw [← HN.out]; exact hlt)
      obtain ⟨g1, g2, _, g4⟩ := HX.out wr hst
      obtain ⟨b, o, rfl, hc⟩ := g4 k t ht
      have HAk := Lib.hid (HAt.out wr hst t)
      have HSt := Lib.hid hst
      have hki : (k : Int) < (n : Int) := by omega
      clear hst g4 ht
      obtain ⟨U, hU⟩ : ∃ U, U = wr := ⟨_, rfl⟩
      subst hU
      gi_wp2_with (gi_at_call 46; ((with_reducible refine (callsIn_wide.2 HAk.out).mono ?_)); rintro e w6 ⟨rfl, hs6⟩; have H6 := Lib.hid hs6; clear hs6)
      clear g1 g2 hc
      gi_loopw [19] (fun i wr => i = .int .i64 0 ∧ wr = w6) (fun i _ => 0)
      case atStart => exact ⟨rfl, rfl⟩
      case round =>
        obtain ⟨rfl, rfl⟩ := hrel
        gi_wp2
        go_roundw
        case rel => exact ⟨k + 1, by omega, by go_num, HSt.out.trans H6.out⟩
        case measure => simp [intOf]; omega
    · obtain rfl : k = n := by omega
      have HE := Lib.hid (HEnd.out wr hst)
      clear hst
      gi_wp2
      go_end0
      exact ⟨⟨_, rfl⟩, .inl HE.out⟩

set_option maxHeartbeats 4000000 in
theorem nsplaces {p : Option Addr} {w : World} (n : Int) (b : Nat) (hp : NilS p w) (hc : w.cell? ⟨b, 0, none⟩ = some (.int .i64 n)) :
    Calls Tryz.prog 27 #[.pointer p, .slice (some ⟨b, 0, none⟩) 1 1] w fun e w' => (∃ a c, e = .returned (.slice a 0 c)) ∧ Still w w' := by
  have hA : NumsAt w (some ⟨b, 0, none⟩) [n] := fun i x hi => ⟨b, 0, rfl, by
    match i, hi with
    | 0, hi => obtain rfl : n = x := by simpa using hi
               exact hc
    | i + 1, hi => simp at hi⟩
  obtain ⟨W1, hW1⟩ : ∃ W1, W1 = w.alloc (.cells #[.slice none 0 0] 59) := ⟨_, rfl⟩
  have hs1 : Still w W1 := by rw [hW1]; exact (Turned.refl _ _).alloc _
  have hb1 : Blk W1 w.heap.size [.slice none 0 0] 59 := by rw [hW1]; exact Blk.new w [.slice none 0 0] 59
  have hz1' : W1.heap.size = w.heap.size + 1 := by rw [hW1]; simp
  have HIt := Lib.hid (nsprts_it p (some ⟨b, 0, none⟩) 1 1 [n] rfl (by omega) W1.heap.size (W1.heap.size + 1))
  have hx1 : (nilT p).at_ W1 (fun k => ∃ x, p = some x ∧ x.block = k) := ⟨hp.still hs1, fun _ => Iff.rfl⟩
  have hSl := (nilT p).lt (w := w) (W := fun k => ∃ x, p = some x ∧ x.block = k) ⟨hp, fun _ => Iff.rfl⟩
  obtain ⟨S, hS, hSb⟩ := evN_new (n := 1) (cap := 1) hx1 (hA.still hs1)
  have HE := Lib.hid (tpprts_any p (some ⟨b, 0, none⟩) 1 1 W1)
  have HR := Lib.hid hS
  have ht2 : Still W1 ((W1.alloc (.cells #[.pointer p] 26)).alloc (.cells #[.slice (some ⟨b, 0, none⟩) 1 1] 23)) := ((Turned.refl _ _).alloc _).alloc _
  have HB := Lib.hid (show (blkT w.heap.size [.slice none 0 0] 59).at_ ((W1.alloc (.cells #[.pointer p] 26)).alloc (.cells #[.slice (some ⟨b, 0, none⟩) 1 1] 23)) (fun k => k = w.heap.size) from
    ⟨hb1.turned ht2 (fun h => h), fun _ => Iff.rfl⟩)
  have HD := Lib.hid (show ∀ k, k = w.heap.size → ¬ S k from by
    rintro k rfl hk
    rcases hSb _ hk with hk | hk | hk | hk
    · omega
    · omega
    · have := hSl _ hk; omega
    · have := nums_lt hA hk; omega)
  have HSt := Lib.hid (hs1.trans ht2)
  have HZ1 := Lib.hid hz1'
  clear hp hc hSl hS hSb ht2 hb1 hz1' hx1 hA
  refine (callsIn_wide (n := 9)).1 (callsIn_of_wp_marks Tryz.func27 rfl trivial ?_ rfl)
  simp only [Tryz.ntmps27, List.size_toArray, List.length_cons, List.length_nil, Nat.reduceAdd, Nat.reduceSub, Array.replicate_succ, Array.replicate_zero, List.push_toArray, List.append_toArray, List.nil_append, List.cons_append]
  have hf1 : Fence.wide.fn 51 := trivial
  gi_wp2_with (gi_at_call 51; rw [← hW1]; ((with_reducible refine (callsIn_wide.2 HE.out).mono ?_)); rintro e w2 ⟨rfl, rfl⟩)
  rw [← hW1, show w.heap.size + 1 = W1.heap.size from HZ1.out.symm]
  clear hW1
  refine loopA_outer rfl (enters_of Tryz.func79 (by kernel_rfl) rfl) HIt.out (by exact fun _ => rfl) (fun _ => blkT w.heap.size [.slice none 0 0] 59) (fun _ => noT) HR.out HB.out HD.out ?_ ?_ ?_
  · intro x y k V Q' hr hl1 hx
    cases hx
  · intro D V Q' hD hK hQD hI hsk
    have cc := hI.1.cell (o := 0) rfl
    have hD1 : w.heap.size ≤ D := Nat.le_trans HSt.out.size hD
    have hT0 : Turned (fun k => w.heap.size ≤ k) w V := (HSt.out.mono (fun _ _ h => h.elim)).trans (hsk.turn.mono (fun k _ h => by omega))
    have hp := putObj_since (.deferred none) (Array.getElem?_eq_some_iff.1 hK).1
    have HP := Lib.hid (show Still w (V.putObj D (.deferred none)) from
      (hT0.trans (hp.mono (fun k _ e => by rw [e]; exact hD1))).mono (fun k hk hh => by omega))
    clear hI hT0 hsk hp hQD
    gi_wp2
    refine ⟨by simp, .inl ⟨_, _, rfl, run_takeDeferred hK, ?_⟩⟩
    refine ⟨_, results_tmp rfl _ _ _, ?_⟩
    exact ⟨⟨none, 0, rfl⟩, HP.out⟩
  · intro D k V Q' hD hK hQD hk hI hsk
    exact hI.elim

theorem void_topic : VoidTopic NilS zeroSet where
  nil_ := fun W => .inl rfl
  zero := fun W => .inr ⟨W.heap.size, rfl, Blk.new W [.pointer none, .slice none 0 0] 74⟩
  still := fun h ht => h.still ht
  open_ := fun h => nsopen _ 1 1 0 h
  find := fun h => nsfind _ h
  part := fun h => nspart h
  route := fun h => nsroute _ none 0 0 h
  claim := fun n h => nsclaim _ none 0 0 n h
  name := fun n h => nsname n h
  places := fun n b h hc => nsplaces n b h hc
  topics := fun h => (nstopics h).mono fun e w' ⟨h1, h2⟩ => ⟨h1, by rw [h2]; exact Turned.refl _ _⟩
  pool := fun h => nspool h
end Go.Proofs.YtmmkcfiecgpkpaaGreat
