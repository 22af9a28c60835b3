/- Something more beside the pool that the acts leave alone. No condition but that the program's partitions and pool keep their words. -/
import Derived.Test.YtbljjmehjkmjaaaGreatBdAct2
namespace Go.Proofs.YtbljjmehjkmjaaaGreat
open Go.RowKit
set_option linter.unusedVariables false

theorem sep3 {A B C : Thing} {w : World} {W : Nat → Prop} (h : ((A.sep B).sep C).at_ w W) : ((A.sep C).sep B).at_ w W := sep_assoc' (sep_mono id sep_swap (sep_assoc h))
abbrev andT (PT : Nat → PM → Thing) (L : Thing) : Nat → PM → Thing := fun q P => (PT q P).sep L

theorem goes3 {A L X A2 X2 : Thing} {w : World} {W : Nat → Prop} {f : FuncId} {args : Array Value} {v : Value} (h : ((A.sep L).sep X).at_ w W)
    (hc : ∀ W1, (A.sep X).at_ w W1 → Calls Tryz.prog f args w fun e w' => e = .returned v ∧ Goes (A2.sep X2) W1 w w') : Calls Tryz.prog f args w fun e w' => e = .returned v ∧ Goes ((A2.sep L).sep X2) W w w' := by
  obtain ⟨W1, h1, _, go⟩ := goes_fst (sep3 h)
  exact (hc W1 h1).mono fun e w' ⟨he, hg⟩ => ⟨he, (go _ _ hg).turn sep3⟩
theorem reads3 {A L X : Thing} {w : World} {W : Nat → Prop} (h : ((A.sep L).sep X).at_ w W) : ∃ W1, (A.sep X).at_ w W1 := by
  obtain ⟨W1, h1, _⟩ := goes_fst (sep3 h)
  exact ⟨W1, h1⟩

theorem PartActs.frame {PT : Nat → PM → Thing} {XT : Nat → Nat → RM → Thing} (A : PartActs PT XT) (L : Thing) : PartActs (andT PT L) XT where
  claim := fun h hI h1 h2 h3 h4 n hn => goes3 h fun _ g => A.claim g hI h1 h2 h3 h4 n hn
  fill := fun h hI h1 h2 h3 h4 a ha ao b m cap hm hB hb hc hc2 hn => by
    obtain ⟨W1, g1, _, go⟩ := goes_fst (sep3 h)
    exact (A.fill g1 hI h1 h2 h3 h4 a ha ao b m cap hm hB hb hc hc2 hn).mono fun e w' ⟨he, hg⟩ => ⟨he, (go _ _ hg).turn sep3⟩
  pub := fun h hI h1 h2 h3 h4 a ha => goes3 h fun _ g => A.pub g hI h1 h2 h3 h4 a ha
  read := fun h hI h1 h2 h3 h4 a ha => goes3 h fun _ g => A.read g hI h1 h2 h3 h4 a ha
  peek := fun h hI h1 h2 h3 h4 a ha => by obtain ⟨_, g⟩ := reads3 h; exact A.peek g hI h1 h2 h3 h4 a ha
  trim := fun h hI h1 h2 h3 h4 a ha => goes3 h fun _ g => A.trim g hI h1 h2 h3 h4 a ha
  head := fun h h1 h2 h3 h4 => by obtain ⟨_, g⟩ := reads3 h; exact A.head g h1 h2 h3 h4
  tail := fun h h1 h2 h3 h4 => by obtain ⟨_, g⟩ := reads3 h; exact A.tail g h1 h2 h3 h4
  ready := fun h h1 h2 h3 h4 a ha => by obtain ⟨_, g⟩ := reads3 h; exact A.ready g h1 h2 h3 h4 a ha
  handles := fun h h1 h2 h3 h4 n hn => by obtain ⟨_, g⟩ := reads3 h; exact A.handles g h1 h2 h3 h4 n hn

theorem PoolActs.frame {PT : Nat → PM → Thing} (B : PoolActs PT) (L : Thing) : PoolActs (andT PT L) where
  drop := fun h h1 h2 k hk => by
    obtain ⟨W1, g1, _, go⟩ := goes_fst h
    exact (B.drop g1 h1 h2 k hk).mono fun e w' ⟨he, hg⟩ => ⟨he, go _ _ hg⟩
  bytes := fun h h1 h2 k hk => by obtain ⟨_, g, _⟩ := goes_fst h; exact B.bytes g h1 h2 k hk
  count := fun h h1 h2 k hk => by obtain ⟨_, g, _⟩ := goes_fst h; exact B.count g h1 h2 k hk
  free := fun h h1 h2 n hn => by obtain ⟨_, g, _⟩ := goes_fst h; exact B.free g h1 h2 n hn

theorem sys_frame {A X Z Y X' Y' R L : Thing} {w : World} {W : Nat → Prop} (h : ((sysT A X Z Y X' Y' R).sep L).at_ w W) : (sysT (A.sep L) X Z Y X' Y' R).at_ w W :=
  sep_mono sep3 id (sep_assoc' (sep_mono id sep_swap (sep_assoc h)))

/-- The row of handles that was handed out, beside all of it. -/
theorem Two.frame {PT : Nat → PM → Thing} {XT : Nat → Nat → RM → Thing} {w wr w' : World} {t q zq i xi xj yi yj ri rj : Nat} {P : PM} {Mi Mj : RM} {had : List Int} {ao : Option Addr} {n cc N K : Nat} (H : Two PT XT w wr t q zq i xi xj yi yj ri rj P Mi Mj had ao n cc N K) {L : Thing}
    (hL : ∃ W, L.at_ w' W ∧ Still wr w' ∧ ∀ k, W k → wr.heap.size ≤ k) :
    Two (andT PT L) XT w w' t q zq i xi xj yi yj ri rj P Mi Mj had ao n cc N K := by
  exact ⟨((H.held.new hL).swap).imp sys_frame, H.len, H.inv, H.ok, H.mi, H.mj⟩
theorem ownT_got {w w' : World} {e : TypeId} {m : Nat} {a : Option Addr} {n c : Nat} {xs : List Value} (hown : w'.ownsRow w.heap.size e m (.slice a n c) n xs) (hT : Still w w') : ∃ W, (ownT e m a n c xs).at_ w' W ∧ Still w w' ∧ ∀ k, W k → w.heap.size ≤ k := by
  refine ⟨fun k => (Value.slice a n c).ownBlock = some k, ⟨ow_base hown (Nat.zero_le _), fun k => Iff.rfl⟩, hT, fun k hk => ?_⟩
  cases a with
  | none => cases hk
  | some x => have := (ow_lt hown x rfl).1
              have e : x.block = k := by simpa [Value.ownBlock] using hk
              omega
theorem Two.unframe {PT : Nat → PM → Thing} {XT : Nat → Nat → RM → Thing} {w wr : World} {t q zq i xi xj yi yj ri rj : Nat} {P : PM} {Mi Mj : RM} {had : List Int} {ao : Option Addr} {n cc N K : Nat} {L : Thing} (H : Two (andT PT L) XT w wr t q zq i xi xj yi yj ri rj P Mi Mj had ao n cc N K) : ∃ W, L.at_ wr W := by
  obtain ⟨_, _, _, ⟨_, W2, _, h, _⟩, _⟩ := H.held.prog
  exact ⟨W2, h⟩
end Go.Proofs.YtbljjmehjkmjaaaGreat
