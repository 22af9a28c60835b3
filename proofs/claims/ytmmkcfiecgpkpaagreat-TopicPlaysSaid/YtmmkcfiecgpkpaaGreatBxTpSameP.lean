/- Texts that lie next to one another, laid into one: each says what it holds. No condition but what each states. -/
import Derived.Test.YtmmkcfiecgpkpaaGreatBxTpWorks
import Derived.Test.YtmmkcfiecgpkpaaGreatBxTpZOpen
import Derived.Test.YtmmkcfiecgpkpaaGreatBxTpZPl
import Derived.Test.YtmmkcfiecgpkpaaGreatBxTpHeld

/- What one partition of a set answers, and the document's; what both sets answer that are alike. No condition but that the program's sets, partitions and pool keep their words. -/
namespace Go.Proofs.YtmmkcfiecgpkpaaGreat
open Go.RowKit
set_option linter.unusedVariables false
set_option linter.unusedSimpArgs false
set_option maxRecDepth 100000

theorem sameI_yes13 (w : World) (ao bo : Option Addr) (l : List Int) (n m ca cb : Nat) (hn : n = l.length) (hm : m = l.length) (hl : l.length ≤ 1000000) (hA : NumsAt w ao l) (hB : NumsAt w bo l) :
    Calls Tryz.prog 55 #[.slice ao n ca, .slice bo m cb] w fun e w' => e = .returned (.bool true) ∧ Still w w' := by
  subst hn; subst hm
  refine (sameInts_any w ao bo l l ca cb rfl (by omega) hA hB).mono fun e w' ⟨h1, k, h2⟩ => ⟨by rw [h1, decide_eq_true rfl], by rw [h2]; exact (Turned.refl _ _).drewN k⟩

/-- One partition, and the document's. -/
structure SameP (w : World) (x y r : Nat) (M : RM) (n : Nat) : Prop where
  cells : ∀ V, Still w V → V.cell? ⟨y, 1, none⟩ = some (.pointer (some ⟨r, 0, none⟩)) ∧ V.cell? ⟨r, 2, none⟩ = some (.int .i64 M.h)
  head : ∀ V, Still w V → Calls Tryz.prog 57 #[.pointer (some ⟨x, 0, none⟩)] V fun e w' => e = .returned (.int .i64 M.h) ∧ Still V w'
  tail : ∀ V, Still w V → Calls Tryz.prog 32 #[.pointer (some ⟨x, 0, none⟩)] V fun e w' => e = .returned (.int .i64 M.tail) ∧ Still V w'
  ztail : ∀ V, Still w V → Calls Tryz.prog 58 #[.pointer (some ⟨r, 0, none⟩)] V fun e w' => e = .returned (.int .i64 M.tail) ∧ Still V w'
  refs : ∀ V, Still w V → Calls Tryz.prog 59 #[.pointer (some ⟨x, 0, none⟩)] V fun e w' => ∃ a c, e = .returned (.slice a n c) ∧ (∀ V', Still w' V' → NumsAt V' a M.refs) ∧ Still V w'
  zrefs : ∀ V, Still w V → Calls Tryz.prog 60 #[.pointer (some ⟨r, 0, none⟩)] V fun e w' => ∃ a c, e = .returned (.slice a n c) ∧ (∀ V', Still w' V' → NumsAt V' a M.refs) ∧ Still V w'
  len : M.refs.length = n
  small : n ≤ 64

/-- Two sets that are alike: the program's, and the document's. -/
abbrev TwoS (HT : Nat → Nat → List Txt → List (List Nat) → Thing) (PT : Nat → PM → Thing) (XT : Nat → Nat → RM → Thing) (s q z zq : Nat) (L L2 : List (List Nat)) (S : StM) : Thing := (setT HT PT XT s q L S).sep (setT zhT zT zXT z zq L2 S)

section
variable {HT : Nat → Nat → List Txt → List (List Nat) → Thing} {PT : Nat → PM → Thing} {XT : Nat → Nat → RM → Thing} {w0 w : World} {s q z zq : Nat} {L L2 : List (List Nat)} {S : StM} {X : List Int} {N K : Nat} {R : Thing}
theorem Held.prog13 (H : Held w0 w ((TwoS HT PT XT s q z zq L L2 S).sep R)) : ∃ W, (setT HT PT XT s q L S).at_ w W := by
  obtain ⟨W, ⟨W1, _, ⟨W2, _, h1, _⟩, _⟩, _⟩ := H; exact ⟨W2, h1⟩
theorem Held.docu13 (H : Held w0 w ((TwoS HT PT XT s q z zq L L2 S).sep R)) : ∃ W, (setT zhT zT zXT z zq L2 S).at_ w W := by
  obtain ⟨W, ⟨W1, _, ⟨_, W2, _, h1, _⟩, _⟩, _⟩ := H; exact ⟨W2, h1⟩

theorem same_part (B : PartActs PT XT) (H : Held w0 w ((TwoS HT PT XT s q z zq L L2 S).sep R)) (hf : Fits L S.T) (hf2 : Fits L2 S.T) (hO : S.Ok X N K) (hN : N < 800000) (hK : K < 800000) {t p : Nat} {M : RM} (hm : prt S.T t p = some M) :
    ∃ (xs ys : List Nat) (x y r : Nat), L[t]? = some xs ∧ xs[p]? = some x ∧ L2[t]? = some ys ∧ ys[p]? = some y ∧ SameP w x y r M M.l.length := by
  obtain ⟨xs, x, _, g1, g2, _, _⟩ := fits_at hf hm
  obtain ⟨ys, y, _, k1, k2, _, _⟩ := fits_at hf2 hm
  obtain ⟨hM, _⟩ := hO.at hm
  obtain ⟨W, hd⟩ := H.docu13
  obtain ⟨_, _, ⟨_, U2, _, ⟨r, hz⟩, _⟩, _⟩ := set_open hf2 hm k1 k2 hd
  have hp : ∀ V, Still w V → ∃ W, ((PT q S.P).sep (XT x q M)).at_ V W := fun V h => by
    obtain ⟨W, hp⟩ := (H.still h).prog13
    obtain ⟨W1, _, h1, _⟩ := set_open hf hm g1 g2 hp
    exact ⟨W1, h1⟩
  have hz' : ∀ V, Still w V → (zxT y zq r M).at_ V U2 := fun V h => Thing.keep _ hz h (fun _ _ h => h)
  refine ⟨xs, ys, x, y, r, g1, g2, k1, k2, fun V h => ?_, fun V h => ?_, fun V h => ?_, fun V h => ?_, fun V h => ?_, fun V h => ?_, by simp [RM.refs], by have := hM.len; have := hM.max; omega⟩
  · obtain ⟨_, _, ⟨h1, _⟩, ⟨la, lc, h3⟩, _⟩ := hz' V h
    exact ⟨h1.cell rfl, h3.cells.2.2.1⟩
  · obtain ⟨_, h1⟩ := hp V h
    exact B.head h1 hO.ok hM (by omega) (by omega)
  · obtain ⟨_, h1⟩ := hp V h
    exact B.tail h1 hO.ok hM (by omega) (by omega)
  · obtain ⟨_, _, _, ⟨la, lc, h3⟩, _⟩ := hz' V h
    exact zrtail_any h3 hM (by omega)
  · obtain ⟨_, h1⟩ := hp V h
    refine (B.handles h1 hO.ok hM (by omega) (by omega) _ rfl).mono ?_
    rintro e w' ⟨a, c, h1, h2, h3⟩
    exact ⟨a, c, h1, fun V' h' => (NumsAt.of_own h2 (by simp [RM.refs])).turned h' (fun _ _ hs => hs), h3⟩
  · obtain ⟨_, _, _, h3, _⟩ := hz' V h
    refine (zrrefs_any h3 hM _ rfl).mono ?_
    rintro e w' ⟨a, c, h1, h2, h3⟩
    exact ⟨a, c, h1, fun V' h' => (NumsAt.of_own h2 (by simp [RM.refs])).turned h' (fun _ _ hs => hs), h3⟩

/-- What both sets answer. -/
structure SameS (HT : Nat → Nat → List Txt → List (List Nat) → Thing) (w : World) (s q z zq : Nat) (za : Option Addr) (zc : Nat) (T : List TpM) (fr : List Nat) : Prop where
  topics : ∀ V, Still w V → Calls Tryz.prog 33 #[.pointer (some ⟨s, 0, none⟩)] V fun e w' => e = .returned (.int .i64 T.length) ∧ Still V w'
  pool : ∀ V, Still w V → Calls Tryz.prog 35 #[.pointer (some ⟨s, 0, none⟩)] V fun e w' => e = .returned (.pointer (some ⟨q, 0, none⟩)) ∧ Still V w'
  free : ∀ V, Still w V → Calls Tryz.prog 56 #[.pointer (some ⟨q, 0, none⟩)] V fun e w' => ∃ a c, e = .returned (.slice a fr.length c) ∧ (∀ V', Still w' V' → NumsAt V' a (nums fr)) ∧ Still V w'
  name : ∀ V, Still w V → ∀ (i : Nat) (t : TpM), T[i]? = some t → Calls Tryz.prog 30 #[.pointer (some ⟨s, 0, none⟩), .int .i64 (i : Nat)] V fun e w' => e = .returned (tx t.nm) ∧ Still V w'
  cells : ∀ V, Still w V → V.cell? ⟨z, 0, none⟩ = some (.pointer (some ⟨zq, 0, none⟩)) ∧ V.cell? ⟨z, 1, none⟩ = some (.slice za T.length zc)
  fcell : ∃ fa fc, ∀ V, Still w V → V.cell? ⟨zq, 3, none⟩ = some (.slice (some fa) fr.length fc) ∧ NumsAt V (some fa) (nums fr)
  zname : ∀ V, Still w V → ∀ (i : Nat) (t : TpM), T[i]? = some t → ∃ g, za = some ⟨g, 0, none⟩ ∧ V.cell? ⟨g, i * 2, none⟩ = some (tx t.nm)
  places : ∀ V, Still w V → ∀ (ao : Option Addr) (l : List Int) (m cap n : Nat), m = l.length → NumsAt V ao l → SlW ao m cap → m ≤ 100 → n = (plcs T l).length → Calls Tryz.prog 27 #[.pointer (some ⟨s, 0, none⟩), .slice ao m cap] V (OutPl V (plcs T l) n)
  zplaces : ∀ V, Still w V → ∀ (ao : Option Addr) (l : List Int) (m cap n : Nat), m = l.length → NumsAt V ao l → m ≤ 100 → n = (plcs T l).length → Calls Tryz.prog 29 #[.pointer (some ⟨z, 0, none⟩), .slice ao m cap] V (OutPl V (plcs T l) n)
  part : ∀ (t p : Nat) (M : RM), prt T t p = some M → ∃ x y r n, SameP w x y r M n ∧ (∀ V, Still w V → Calls Tryz.prog 22 #[.pointer (some ⟨s, 0, none⟩), .agg #[.int .i64 (t : Nat), .int .i64 (p : Nat)]] V fun e w' => e = .returned (.tuple #[.pointer (some ⟨x, 0, none⟩), .int .i64 0]) ∧ Still V w') ∧
    (∀ V, Still w V → Calls Tryz.prog 23 #[.pointer (some ⟨z, 0, none⟩), .agg #[.int .i64 (t : Nat), .int .i64 (p : Nat)]] V fun e w' => e = .returned (.tuple #[.pointer (some ⟨y, 0, none⟩), .int .i64 0]) ∧ Still V w')
  nopart : ∀ (t p : Int), w64 t → w64 p → partE T t p ≠ 0 → (∀ V, Still w V → Calls Tryz.prog 22 #[.pointer (some ⟨s, 0, none⟩), .agg #[.int .i64 t, .int .i64 p]] V fun e w' => e = .returned (.tuple #[.pointer none, .int .i64 5]) ∧ Still V w') ∧
    (∀ V, Still w V → Calls Tryz.prog 23 #[.pointer (some ⟨z, 0, none⟩), .agg #[.int .i64 t, .int .i64 p]] V fun e w' => e = .returned (.tuple #[.pointer none, .int .i64 5]) ∧ Still V w')
  len : T.length ≤ 16
  nps : ∀ t ∈ T, 1 ≤ t.ps.length ∧ t.ps.length ≤ 8
  frl : fr.length ≤ 128

theorem two_same13 (A : TopicApi HT PT XT) (B : PartActs PT XT) (C : PoolActs PT) (H : Held w0 w ((TwoS HT PT XT s q z zq L L2 S).sep R)) (hf : Fits L S.T) (hf2 : Fits L2 S.T) (hO : S.Ok X N K) (hN : N < 800000) (hK : K < 800000) :
    ∃ za zc, SameS HT w s q z zq za zc S.T S.P.fr := by
  obtain ⟨W, hd⟩ := H.docu13
  obtain ⟨a, c, Z, e1, e2, h'⟩ := zset_tz hd
  have hrd : ZRd z zq a c Z w := by obtain ⟨W1, W2, h1, _⟩ := h'; exact zzT_rd h1
  have hzl := (zfd_of e1 []).2
  have hhd : ∀ V, Still w V → ∃ W, (HT s q (S.T.map (·.nm)) L).at_ V W := fun V h => by
    obtain ⟨W, W1, _, h1, _⟩ := (H.still h).prog13; exact ⟨W1, h1⟩
  have h8 : ∀ t ∈ S.T, t.ps.length ≤ 8 := fun t ht => (hO.nps t ht).2
  have hz8 : ∀ z ∈ Z, z.2.2.2.length ≤ 8 := fun z hz => by
    obtain ⟨i, hi, rfl⟩ := List.mem_iff_getElem.1 hz
    obtain ⟨y, h3, h4, _⟩ := zz_len e2 hf2 (List.getElem?_eq_getElem hi)
    rw [h4]
    exact h8 y (List.mem_of_getElem? h3)
  refine ⟨a, c, fun V h => ?_, fun V h => ?_, fun V h => ?_, fun V h i t ht => ?_, fun V h => ?_, ?_, fun V h i t ht => ?_, fun V h ao l m cap n hm hA hW hmx hn => ?_, fun V h ao l m cap n hm hA hmx hn => ?_, fun t p M hm => ?_, fun t p ht hp he => ?_, hO.len, hO.nps, ?_⟩
  · obtain ⟨_, h1⟩ := hhd V h
    exact A.topics h1 hf hO.len
  · obtain ⟨_, h1⟩ := hhd V h
    exact A.pool h1 hf hO.len
  · obtain ⟨_, _, _, _, ⟨_, _, hp, _⟩, _⟩ := (H.still h).prog13
    refine (C.free hp hO.ok (by omega) _ rfl).mono ?_
    rintro e w' ⟨a, c, h1, h2, h3⟩
    exact ⟨a, c, h1, fun V' h' => (NumsAt.of_own h2 (nums_length _).symm).turned h' (fun _ _ hs => hs), h3⟩
  · obtain ⟨_, h1⟩ := hhd V h
    have hlt := (List.getElem?_eq_some_iff.1 ht).1
    have hl := hO.len
    have := A.name h1 hf hO.len (i : Nat) ⟨by omega, by omega⟩
    rwa [show nmAt S.T (i : Nat) = t.nm from by unfold nmAt; rw [if_pos (by omega), Int.toNat_natCast, ht]; rfl] at this
  · have hr := hrd.still h
    exact ⟨hr.c0, by rw [← hzl]; exact hr.c1⟩
  · obtain ⟨_, _, _, ⟨_, _, ⟨LZ, hz⟩, _⟩, _⟩ := h'
    exact ⟨LZ.fa, LZ.fc, fun V h => ⟨still_cell h (hz.hd.cell rfl) rfl, hz.ff.still h⟩⟩
  · have e : (Z.map (·.1))[i]? = some t.nm := by rw [e1, List.getElem?_map, ht]; rfl
    rw [List.getElem?_map] at e
    cases hz : Z[i]? with
    | none => rw [hz] at e; cases e
    | some y =>
      rw [hz] at e
      have ey : y.1 = t.nm := by simpa using e
      obtain ⟨g, hg, r1, _⟩ := (hrd.still h).row i y hz
      exact ⟨g, hg, by rw [← ey]; exact r1⟩
  · obtain ⟨_, h1⟩ := hhd V h
    exact A.places h1 hf hO.len h8 ao l m cap n hm hA hW hmx hn
  · exact zztplaces_any (hrd.still h) e1 e2 hf2 hO.len h8 ao l m cap n hm hA hmx hn
  · obtain ⟨xs, ys, x, y, r, g1, g2, k1, k2, hS⟩ := same_part B H hf hf2 hO hN hK hm
    refine ⟨x, y, r, _, hS, fun V h => ?_, fun V h => ?_⟩
    · obtain ⟨_, h1⟩ := hhd V h
      exact A.part_ok h1 hf hO.len h8 t p x xs g1 g2
    · have e0 : (Z.map (·.2.2.2))[t]? = some ys := by rw [e2]; exact k1
      rw [List.getElem?_map] at e0
      cases hz : Z[t]? with
      | none => rw [hz] at e0; cases e0
      | some y' =>
        rw [hz] at e0
        have ez : y'.2.2.2 = ys := by simpa using e0
        exact zztpart_ok (hrd.still h) (by rw [hzl]; exact hO.len) hz8 hz (by rw [ez]; exact k2)
  · refine ⟨fun V h => ?_, fun V h => ?_⟩
    · obtain ⟨_, h1⟩ := hhd V h
      exact A.part_no h1 hf hO.len h8 t p ht hp he
    · refine zztpart_no (hrd.still h) (by rw [hzl]; exact hO.len) hz8 t p ?_
      by_cases h1 : t < 0
      · exact .inl h1
      · by_cases h2 : (Z.length : Int) ≤ t
        · exact .inr (.inl h2)
        · by_cases h3 : p < 0
          · exact .inr (.inr (.inl h3))
          · obtain ⟨y', hz⟩ := get_some (l := Z) (i := t.toNat) (by omega)
            refine .inr (.inr (.inr ⟨y', hz, ?_⟩))
            obtain ⟨x', hx, hxl, _⟩ := zz_len e2 hf2 hz
            rw [hxl]
            rcases Int.lt_or_le p (x'.ps.length : Int) with h4 | h4
            · exfalso
              apply he
              unfold partE prt
              rw [if_pos]
              refine ⟨by omega, by omega, ?_⟩
              rw [hx, Option.bind_some, List.getElem?_eq_getElem (by omega : p.toNat < x'.ps.length)]; rfl
            · exact h4
  · exact hO.ok.frlen
end
end Go.Proofs.YtmmkcfiecgpkpaaGreat
