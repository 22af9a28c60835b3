/- Texts that lie next to one another, laid into one: each says what it holds. No condition but what each states. -/
import Derived.Test.YtmmkcfiecgpkpaaGreatBxTpWorks

/- A set that is held: its partitions, one by one. No condition but that the program's sets and partitions keep their words. -/
namespace Go.Proofs.YtmmkcfiecgpkpaaGreat
open Go.RowKit
set_option linter.unusedVariables false
set_option linter.unusedSimpArgs false

section
variable {HT : Nat → Nat → List Txt → List (List Nat) → Thing} {PT : Nat → PM → Thing} {XT : Nat → Nat → RM → Thing} {w0 w : World} {R : Thing} {s q : Nat} {S : StM} {L : List (List Nat)} {X : List Int} {N K t p x : Nat} {M : RM} {xs : List Nat}
theorem Held.partS (A : TopicApi HT PT XT) (H : Held w0 w ((setT HT PT XT s q L S).sep R)) (hf : Fits L S.T) (hO : S.Ok X N K) (hm : prt S.T t p = some M) :
    ∃ (xs : List Nat) (x : Nat), L[t]? = some xs ∧ xs[p]? = some x ∧ ∀ V, Still w V → Calls Tryz.prog 22 #[.pointer (some ⟨s, 0, none⟩), plcA (t : Nat) (p : Nat)] V fun e w' => e = .returned (.tuple #[.pointer (some ⟨x, 0, none⟩), .int .i64 0]) ∧ Still V w' := by
  obtain ⟨xs, x, _, h1, h2, _, _⟩ := fits_at hf hm
  refine ⟨xs, x, h1, h2, fun V hV => ?_⟩
  obtain ⟨_, h⟩ := (H.still hV).headS
  exact A.part_ok h hf hO.len (fun t ht => (hO.nps t ht).2) t p x xs h1 h2
/-- A set seen from one of its partitions. -/
theorem Held.atS (H : Held w0 w ((setT HT PT XT s q L S).sep R)) (hf : Fits L S.T) (hm : prt S.T t p = some M) (h1 : L[t]? = some xs) (h2 : xs[p]? = some x) :
    Held w0 w (((PT q S.P).sep (XT x q M)).sep ((elseT HT XT s q L S.T t p).sep R)) :=
  Held.assoc (H.imp (fun h => sep_mono2 (fun h => set_open hf hm h1 h2 h) (fun h => h) h))
theorem Held.ofS {P' : PM} {M' : RM} (hf : Fits L S.T) (hm : prt S.T t p = some M) (h1 : L[t]? = some xs) (h2 : xs[p]? = some x) (H : Held w0 w (((PT q P').sep (XT x q M')).sep ((elseT HT XT s q L S.T t p).sep R))) :
    Held w0 w ((setT HT PT XT s q L ⟨P', putP S.T t p M'⟩).sep R) :=
  (Held.assoc' H).imp (fun h => sep_mono2 (fun h => set_shut hf hm h1 h2 h) (fun h => h) h)
theorem Held.pubS (B : PartActs PT XT) (H : Held w0 w ((setT HT PT XT s q L S).sep R)) (hf : Fits L S.T) (hO : S.Ok X N K) (hN : N < 900000) (hK : K < 900000) (hm : prt S.T t p = some M) (h1 : L[t]? = some xs) (h2 : xs[p]? = some x) (a : Int) (ha : w64 a) :
    Calls Tryz.prog 24 #[.pointer (some ⟨x, 0, none⟩), .int .i64 a] w fun e w' => e = .returned (.int .i64 (M.pubE a)) ∧ Held w0 w' ((setT HT PT XT s q L ⟨S.P, putP S.T t p (M.pubM a)⟩).sep R) := by
  obtain ⟨oM, oI⟩ := hO.at hm
  exact (Held.call (H.atS hf hm h1 h2) (fun _ h => B.pub h oI hO.ok oM hN hK a ha)).mono fun e w' k => ⟨k.1, Held.ofS hf hm h1 h2 k.2⟩
theorem Held.tailS (B : PartActs PT XT) (H : Held w0 w ((setT HT PT XT s q L S).sep R)) (hf : Fits L S.T) (hO : S.Ok X N K) (hN : N < 900000) (hK : K < 900000) (hm : prt S.T t p = some M) (h1 : L[t]? = some xs) (h2 : xs[p]? = some x) (V : World) (hV : Still w V) :
    Calls Tryz.prog 32 #[.pointer (some ⟨x, 0, none⟩)] V fun e w' => e = .returned (.int .i64 M.tail) ∧ Still V w' := by
  obtain ⟨oM, oI⟩ := hO.at hm
  obtain ⟨_, h, _⟩ := ((H.still hV).atS hf hm h1 h2).fst
  exact B.tail h hO.ok oM hN hK
end
end Go.Proofs.YtmmkcfiecgpkpaaGreat
