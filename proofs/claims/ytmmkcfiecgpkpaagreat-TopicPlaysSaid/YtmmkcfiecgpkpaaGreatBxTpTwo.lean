/- Texts that lie next to one another, laid into one: each says what it holds. No condition but what each states. -/
import Derived.Test.YtmmkcfiecgpkpaaGreatBxTpSameP

/- Two sets that are alike, the program's and the document's: what one call on each leaves of both. No condition but that the program's sets, partitions and pool keep their words. -/
namespace Go.Proofs.YtmmkcfiecgpkpaaGreat
open Go.RowKit
set_option linter.unusedVariables false
set_option linter.unusedSimpArgs false
set_option maxRecDepth 100000

section
variable {HT : Nat → Nat → List Txt → List (List Nat) → Thing} {PT : Nat → PM → Thing} {XT : Nat → Nat → RM → Thing} {w0 w : World} {s q z zq : Nat} {L L2 : List (List Nat)} {S S1 : StM} {X : List Int} {N K : Nat} {R P D : Thing}

theorem Held.into (H : Held w0 w ((P.sep D).sep R)) : Held w0 w (P.sep (D.sep R)) := H.assoc
theorem Held.outof (H : Held w0 w (P.sep (D.sep R))) : Held w0 w ((P.sep D).sep R) := H.assoc'
theorem Held.zinto (H : Held w0 w ((P.sep D).sep R)) : Held w0 w (D.sep (P.sep R)) := Held.turn H.assoc
theorem Held.zoutof (H : Held w0 w (D.sep (P.sep R))) : Held w0 w ((P.sep D).sep R) := (Held.turn H).assoc'

theorem two_open (A : TopicApi HT PT XT) (H : Held w0 w (((setT HT PT XT s q L S).sep D).sep R)) (hf : Fits L S.T) (hO : S.Ok X N K) (hN : N < 900000) (hK : K < 900000) (l : Txt) (hl : l.length ≤ 300) (n r p : Int) (hn : w64 n) (hr : w64 r) (hp : w64 p) :
    Calls Tryz.prog 13 #[.pointer (some ⟨s, 0, none⟩), tx l, .int .i64 n, .int .i64 r, .int .i64 p] w fun e w' => e = .returned (.tuple #[.int .i64 (openN S.T l n r p), .int .i64 (openE S.T l n r p)]) ∧ ∃ L', Fits L' (openT S.T l n r p) ∧ Held w0 w' (((setT HT PT XT s q L' ⟨S.P, openT S.T l n r p⟩).sep D).sep R) :=
  (Held.openS A H.into hf hO hN hK l hl n r p hn hr hp).mono fun e w' ⟨he, L', hf', h⟩ => ⟨he, L', hf', h.outof⟩
theorem two_zopen (H : Held w0 w ((P.sep (setT zhT zT zXT z zq L2 S)).sep R)) (hf : Fits L2 S.T) (hO : S.Ok X N K) (l : Txt) (hl : l.length ≤ 300) (n r p : Int) :
    Calls Tryz.prog 14 #[.pointer (some ⟨z, 0, none⟩), tx l, .int .i64 n, .int .i64 r, .int .i64 p] w fun e w' => e = .returned (.tuple #[.int .i64 (openN S.T l n r p), .int .i64 (openE S.T l n r p)]) ∧ ∃ L', Fits L' (openT S.T l n r p) ∧ Held w0 w' ((P.sep (setT zhT zT zXT z zq L' ⟨S.P, openT S.T l n r p⟩)).sep R) := by
  obtain ⟨W, h1, h2⟩ := H.zinto.fst
  exact (zztopen_any h1 hf hO l hl n r p).mono fun e w' ⟨he, L', hf', hg⟩ => ⟨he, L', hf', (h2 _ _ hg).zoutof⟩
theorem two_claim (A : TopicApi HT PT XT) (H : Held w0 w (((setT HT PT XT s q L S).sep D).sep R)) (hf : Fits L S.T) (hO : S.Ok X N K) (hN : N < 900000) (hK : K < 900000) (l : Txt) (hl : l.length ≤ 300)
    (k : List UInt8) (ao : Option Addr) (m cap : Nat) (hm : m = k.length) (hA : BytesAt w ao k) (hW : SlW ao m cap) (hmx : m ≤ 100) (n : Int) (hn : w64 n) :
    Calls Tryz.prog 20 #[.pointer (some ⟨s, 0, none⟩), tx l, .slice ao m cap, .int .i64 n] w fun e w' => e = .returned (.tuple #[plcA (tclT S l k n) (tclP S l k n), .int .i64 (tclA S l k n), .int .i64 (tclH S l k n), .int .i64 (tclE S l k n)]) ∧ Held w0 w' (((setT HT PT XT s q L (tclM S l k n)).sep D).sep R) :=
  (Held.claimS A H.into hf hO hN hK l hl k ao m cap hm hA hW hmx n hn).mono fun e w' h => ⟨h.1, h.2.outof⟩
theorem two_zclaim (H : Held w0 w ((P.sep (setT zhT zT zXT z zq L2 S)).sep R)) (hf : Fits L2 S.T) (hO : S.Ok X N K) (hN : N < 900000) (hK : K < 900000) (l : Txt) (hl : l.length ≤ 300)
    (k : List UInt8) (ao : Option Addr) (m cap : Nat) (hm : m = k.length) (hA : BytesAt w ao k) (hW : SlW ao m cap) (hmx : m ≤ 100) (n : Int) (hn : w64 n) :
    Calls Tryz.prog 21 #[.pointer (some ⟨z, 0, none⟩), tx l, .slice ao m cap, .int .i64 n] w fun e w' => e = .returned (.tuple #[plcA (tclT S l k n) (tclP S l k n), .int .i64 (tclA S l k n), .int .i64 (tclH S l k n), .int .i64 (tclE S l k n)]) ∧ Held w0 w' ((P.sep (setT zhT zT zXT z zq L2 (tclM S l k n))).sep R) :=
  (Held.call H.zinto (fun _ h => zztclaim_any h hf hO hN hK l hl k ao m cap hm hA hW hmx n hn)).mono fun e w' h => ⟨h.1, h.2.zoutof⟩
theorem two_find (A : TopicApi HT PT XT) (H : Held w0 w (((setT HT PT XT s q L S).sep D).sep R)) (hf : Fits L S.T) (hO : S.Ok X N K) (l : Txt) (hl : l.length ≤ 300) {V : World} (hV : Still w V) :
    Calls Tryz.prog 15 #[.pointer (some ⟨s, 0, none⟩), tx l] V fun e w' => e = .returned (.tuple #[.int .i64 (findN S.T l), .int .i64 (findE S.T l)]) ∧ Still V w' := by
  obtain ⟨_, h⟩ := (H.still hV).into.headS
  exact A.find h hf hO.len l hl
theorem two_zfind (H : Held w0 w ((P.sep (setT zhT zT zXT z zq L2 S)).sep R)) (hO : S.Ok X N K) (l : Txt) (hl : l.length ≤ 300) {V : World} (hV : Still w V) :
    Calls Tryz.prog 16 #[.pointer (some ⟨z, 0, none⟩), tx l] V fun e w' => e = .returned (.tuple #[.int .i64 (findN S.T l), .int .i64 (findE S.T l)]) ∧ Still V w' := by
  obtain ⟨_, h⟩ := Held.headS (H.still hV).zinto
  obtain ⟨a, c, Z, e1, e2, hr⟩ := zhT_rd h
  exact zztfind_any hr e1 hO.len l hl
theorem two_route (A : TopicApi HT PT XT) (H : Held w0 w (((setT HT PT XT s q L S).sep D).sep R)) (hf : Fits L S.T) (hO : S.Ok X N K) (l : Txt) (hl : l.length ≤ 300) {V : World} (hV : Still w V)
    (k : List UInt8) (ao : Option Addr) (m cap : Nat) (hm : m = k.length) (hA : BytesAt V ao k) (hW : SlW ao m cap) (hmx : m ≤ 100) :
    Calls Tryz.prog 17 #[.pointer (some ⟨s, 0, none⟩), tx l, .slice ao m cap] V fun e w' => e = .returned (.tuple #[plcA (routT S.T l k) (routP S.T l k), .int .i64 (routE S.T l k)]) ∧ Still V w' := by
  obtain ⟨_, h⟩ := (H.still hV).into.headS
  exact A.route h hf hO.len hO.nps l hl k ao m cap hm hA hW hmx
theorem two_zroute (H : Held w0 w ((P.sep (setT zhT zT zXT z zq L2 S)).sep R)) (hf : Fits L2 S.T) (hO : S.Ok X N K) (l : Txt) (hl : l.length ≤ 300) {V : World} (hV : Still w V)
    (k : List UInt8) (ao : Option Addr) (m cap : Nat) (hm : m = k.length) (hA : BytesAt V ao k) (hmx : m ≤ 100) :
    Calls Tryz.prog 19 #[.pointer (some ⟨z, 0, none⟩), tx l, .slice ao m cap] V fun e w' => e = .returned (.tuple #[plcA (routT S.T l k) (routP S.T l k), .int .i64 (routE S.T l k)]) ∧ Still V w' := by
  obtain ⟨_, h⟩ := Held.headS (H.still hV).zinto
  obtain ⟨a, c, Z, e1, e2, hr⟩ := zhT_rd h
  exact zztroute_any hr e1 e2 hf hO.len hO.nps l hl k ao m cap hm hA hmx

/-- The document's set, one of its partitions told of by its ring. -/
abbrev zopT (z zq : Nat) (L2 : List (List Nat)) (T : List TpM) (t p y r : Nat) (P : PM) (M : RM) : Thing := ((zT zq P).sep (zxT y zq r M)).sep (elseT zhT zXT z zq L2 T t p)
theorem zop_in {W : Nat → Prop} {y r t p : Nat} {T : List TpM} {PP : PM} {M : RM} {Q : Thing} (h : ((zopT z zq L2 T t p y r PP M).sep Q).at_ w W) :
    ((zrT r M).sep ((blkT y [.pointer (some ⟨zq, 0, none⟩), .pointer (some ⟨r, 0, none⟩)] 57).sep ((zT zq PP).sep ((elseT zhT zXT z zq L2 T t p).sep Q)))).at_ w W := by
  have h2 := sep_assoc (sep_assoc h)
  have h3 := sep_imp2 (fun h => h) (fun h => sep_assoc h) h2
  have h5 := sep_imp2 (fun h => h) (fun h => sep_turn h) (sep_turn h3)
  exact sep_turn h5
theorem zop_out {W : Nat → Prop} {y r t p : Nat} {T : List TpM} {PP : PM} {M : RM} {Q : Thing} (h : ((zrT r M).sep ((blkT y [.pointer (some ⟨zq, 0, none⟩), .pointer (some ⟨r, 0, none⟩)] 57).sep ((zT zq PP).sep ((elseT zhT zXT z zq L2 T t p).sep Q)))).at_ w W) :
    ((zopT z zq L2 T t p y r PP M).sep Q).at_ w W := by
  have h2 := sep_imp2 (fun h => h) (fun h => sep_turn h) (sep_turn h)
  have h3 := sep_imp2 (fun h => h) (fun h => sep_assoc' h) (sep_turn h2)
  exact sep_assoc' (sep_assoc' h3)

/-- A place where both sets have a partition: what both Parts answer, and what both publishes do. -/
theorem two_pub (B : PartActs PT XT) (H : Held w0 w ((TwoS HT PT XT s q z zq L L2 S).sep R)) (A : TopicApi HT PT XT) (hf : Fits L S.T) (hf2 : Fits L2 S.T) (hO : S.Ok X N K) (hN : N < 800000) (hK : K < 800000) {t p : Nat} {M : RM} (hm : prt S.T t p = some M) (a : Int) (ha : w64 a) :
    ∃ x y r, (∀ V, Still w V → Calls Tryz.prog 22 #[.pointer (some ⟨s, 0, none⟩), .agg #[.int .i64 (t : Nat), .int .i64 (p : Nat)]] V fun e w' => e = .returned (.tuple #[.pointer (some ⟨x, 0, none⟩), .int .i64 0]) ∧ Still V w') ∧
      (∀ V, Still w V → Calls Tryz.prog 23 #[.pointer (some ⟨z, 0, none⟩), .agg #[.int .i64 (t : Nat), .int .i64 (p : Nat)]] V fun e w' => e = .returned (.tuple #[.pointer (some ⟨y, 0, none⟩), .int .i64 0]) ∧ Still V w') ∧
      (∀ V, Still w V → V.cell? ⟨y, 1, none⟩ = some (.pointer (some ⟨r, 0, none⟩))) ∧
      (∀ V, Still w V → Calls Tryz.prog 24 #[.pointer (some ⟨x, 0, none⟩), .int .i64 a] V fun e w' => e = .returned (.int .i64 (M.pubE a)) ∧ w'.cell? ⟨y, 1, none⟩ = some (.pointer (some ⟨r, 0, none⟩)) ∧
        (∀ V', Still w' V' → V'.cell? ⟨y, 1, none⟩ = some (.pointer (some ⟨r, 0, none⟩)) ∧ Calls Tryz.prog 25 #[.pointer (some ⟨r, 0, none⟩), .int .i64 a] V' fun e w'' => e = .returned (.int .i64 (M.pubE a)) ∧ w''.cell? ⟨y, 1, none⟩ = some (.pointer (some ⟨r, 0, none⟩)) ∧ Held w0 w'' ((TwoS HT PT XT s q z zq L L2 ⟨S.P, putP S.T t p (M.pubM a)⟩).sep R))) := by
  obtain ⟨xs, x, _, g1, g2, _, _⟩ := fits_at hf hm
  obtain ⟨ys, y, _, k1, k2, _, _⟩ := fits_at hf2 hm
  obtain ⟨hM, _⟩ := hO.at hm
  obtain ⟨W, hd⟩ := H.docu13
  obtain ⟨r, hR, U2, hz⟩ : ∃ r, Held w0 w (((setT HT PT XT s q L S).sep (zopT z zq L2 S.T t p y r S.P M)).sep R) ∧ ∃ U2, (zxT y zq r M).at_ w U2 := by
    obtain ⟨W0, ⟨V1, V2, ⟨V3, V4, v3, v4, v5, v6⟩, v2, v7, v8⟩, hlo, ht⟩ := H
    obtain ⟨W3, W4, ⟨W5, W6, w5, ⟨r, w6⟩, w7, w8⟩, w4, w9, w10⟩ := set_open hf2 hm k1 k2 v4
    exact ⟨r, ⟨W0, ⟨V1, V2, ⟨V3, V4, v3, ⟨W3, W4, ⟨W5, W6, w5, w6, w7, w8⟩, w4, w9, w10⟩, v5, v6⟩, v2, v7, v8⟩, hlo, ht⟩, W6, w6⟩
  obtain ⟨a', c', Z, e1, e2, h'⟩ := zset_tz hd
  have hrd : ZRd z zq a' c' Z w := by obtain ⟨W1, W2, h1, _⟩ := h'; exact zzT_rd h1
  have hzl := (zfd_of e1 []).2
  have h8 : ∀ t ∈ S.T, t.ps.length ≤ 8 := fun t ht => (hO.nps t ht).2
  have hz8 : ∀ z ∈ Z, z.2.2.2.length ≤ 8 := fun z hz => by
    obtain ⟨i, hi, rfl⟩ := List.mem_iff_getElem.1 hz
    obtain ⟨y, h3, h4, _⟩ := zz_len e2 hf2 (List.getElem?_eq_getElem hi)
    rw [h4]
    exact h8 y (List.mem_of_getElem? h3)
  have hcell : ∀ V, Still w V → V.cell? ⟨y, 1, none⟩ = some (.pointer (some ⟨r, 0, none⟩)) := fun V h => by
    obtain ⟨_, _, ⟨h1, _⟩, _⟩ := hz
    exact still_cell h (h1.cell rfl) rfl
  refine ⟨x, y, r, fun V h => ?_, fun V h => ?_, hcell, fun V h => ?_⟩
  · obtain ⟨_, h1⟩ := (H.still h).into.headS
    exact A.part_ok h1 hf hO.len h8 t p x xs g1 g2
  · have e0 : (Z.map (·.2.2.2))[t]? = some ys := by rw [e2]; exact k1
    rw [List.getElem?_map] at e0
    cases hzz : Z[t]? with
    | none => rw [hzz] at e0; cases e0
    | some y' =>
      rw [hzz] at e0
      have ez : y'.2.2.2 = ys := by simpa using e0
      exact zztpart_ok (hrd.still h) (by rw [hzl]; exact hO.len) hz8 hzz (by rw [ez]; exact k2)
  · have hop : ∀ {V : World} {P : Thing}, Held w0 V ((P.sep (zopT z zq L2 S.T t p y r S.P M)).sep R) → V.cell? ⟨y, 1, none⟩ = some (.pointer (some ⟨r, 0, none⟩)) := fun h => by
      obtain ⟨_, ⟨_, _, _, ⟨_, _, h1, _⟩, _⟩, _⟩ := h.zinto.imp zop_in
      exact h1.1.cell rfl
    refine (Held.pubS B (hR.still h).into hf hO (by omega) (by omega) hm g1 g2 a ha).mono fun e w' k => ⟨k.1, hop k.2.outof, fun V' h' => ⟨hop (k.2.outof.still h'), ?_⟩⟩
    have H2 := ((k.2.outof.still h').zinto).imp zop_in
    refine (Held.call H2 (fun _ h1 => zrpub_any h1 hM (by omega) a)).mono fun e2 w2 k2' => ⟨k2'.1, (by obtain ⟨_, ⟨_, _, _, ⟨_, _, h1, _⟩, _⟩, _⟩ := k2'.2; exact h1.1.cell rfl), ?_⟩
    have H3 := k2'.2.imp zop_out
    refine Held.zoutof (H3.imp (fun h => sep_imp2 (fun h => ?_) (fun h => h) h))
    refine set_shut (HT := zhT) (PT := zT) (XT := zXT) (P' := S.P) (M' := M.pubM a) hf2 hm k1 k2 ?_
    exact sep_imp2 (fun h => sep_imp2 (fun h => h) (fun h => ⟨r, h⟩) h) (fun h => h) h
end
end Go.Proofs.YtmmkcfiecgpkpaaGreat
