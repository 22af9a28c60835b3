/- Trees with the same pairs, in whatever order they came, answer alike. No condition. -/
import Derived.Test.YtpmkokckjieidaaGreatDoorTriePrunesW
namespace Go.Proofs.YtpmkokckjieidaaGreatDoor
open Go.RowKit
set_option linter.unusedVariables false
set_option linter.unusedSimpArgs false

theorem mem_putL {L : List Pr} {f : Txt} {t : Nat} (ht : t < 256) (hl : L.length < 256) {p : Pr} : p ∈ putL L f (t : Int) ↔ p ∈ L ∨ (fcE f = 0 ∧ p = (f, t)) := by
  rcases ptE_cases L f (t : Int) with ⟨h0, h1⟩ | ⟨h0, h1, h2⟩ | ⟨h0, h1, h2, h3, h4⟩ | ⟨h0, h1, h2, h3, h4, h5⟩ | ⟨h0, h1, h2, h3, h4, h5⟩
  · rw [show putL L f (t : Int) = L from if_neg (by omega)]
    exact ⟨.inl, fun h => h.elim id (fun h => by omega)⟩
  · omega
  · rw [show putL L f (t : Int) = L from if_neg (by omega)]
    refine ⟨.inl, fun h => h.elim id (fun ⟨_, h⟩ => ?_)⟩
    unfold hasP at h4
    have := (of_decide_eq_true h4).2
    rw [Int.toNat_natCast] at this
    rw [h]; exact this
  · omega
  · rw [show putL L f (t : Int) = L ++ [(f, t)] by unfold putL; rw [if_pos h0, Int.toNat_natCast]]
    simp [h1]
theorem putL_len_le (L : List Pr) (f : Txt) (n : Int) : (putL L f n).length ≤ L.length + 1 := by
  unfold putL; split <;> simp
theorem bldL_len (l : List A10) : (bldL l).length ≤ l.length := by
  suffices h : ∀ (l : List A10) (L : List Pr), (l.foldl (fun L a => putL L a.2.1 ((am a.2.2 20 : Nat) : Int)) L).length ≤ L.length + l.length by
    have := h l []; simpa [bldL] using this
  intro l
  induction l with
  | nil => intro L; simp
  | cons a l ih =>
    intro L
    have h1 := ih (putL L a.2.1 ((am a.2.2 20 : Nat) : Int))
    have h2 := putL_len_le L a.2.1 ((am a.2.2 20 : Nat) : Int)
    simp only [List.foldl_cons, List.length_cons]
    omega
/-- The pairs that acts put. -/
def inActs (l : List A10) (p : Pr) : Prop := ∃ a ∈ l, fcE a.2.1 = 0 ∧ p = (a.2.1, am a.2.2 20)
theorem bldL_mem {l : List A10} (h : l.length ≤ 200) (p : Pr) : p ∈ bldL l ↔ inActs l p := by
  suffices hs : ∀ (l : List A10) (L : List Pr), L.length + l.length ≤ 200 → (p ∈ l.foldl (fun L a => putL L a.2.1 ((am a.2.2 20 : Nat) : Int)) L ↔ p ∈ L ∨ inActs l p) by
    have := hs l [] (by simpa using h)
    rw [show bldL l = l.foldl (fun L a => putL L a.2.1 ((am a.2.2 20 : Nat) : Int)) [] from rfl, this]
    simp
  intro l
  induction l with
  | nil => intro L _; simp [inActs]
  | cons a l ih =>
    intro L hl
    have h2 := putL_len_le L a.2.1 ((am a.2.2 20 : Nat) : Int)
    simp only [List.length_cons] at hl
    rw [List.foldl_cons, ih _ (by omega), mem_putL (by have := am_lt a.2.2 (n := 20) (by omega); omega) (by omega)]
    unfold inActs
    simp only [List.mem_cons, exists_eq_or_imp]
    constructor
    · rintro ((h | h) | h)
      · exact .inl h
      · exact .inr (.inl h)
      · exact .inr (.inr h)
    · rintro (h | h | h)
      · exact .inl (.inl h)
      · exact .inl (.inr h)
      · exact .inr h
theorem len_le_of_sub {α : Type} [BEq α] [LawfulBEq α] : ∀ {L L' : List α}, L.Nodup → (∀ x ∈ L, x ∈ L') → L.length ≤ L'.length
  | [], _, _, _ => Nat.zero_le _
  | x :: L, L', hn, hs => by
    rw [List.nodup_cons] at hn
    have hx : x ∈ L' := hs x (by simp)
    have h1 := len_le_of_sub (L' := L'.erase x) hn.2 (fun y hy => (List.mem_erase_of_ne (fun (e : y = x) => hn.1 (by rw [← e]; exact hy))).2 (hs y (by simp [hy])))
    rw [List.length_erase_of_mem hx] at h1
    have := List.length_pos_of_mem hx
    simp only [List.length_cons]; omega

/-- A rising list. -/
def Rise (l : List Txt) : Prop := l.Pairwise fun x y => Op.bytesLess x y = true
theorem mem_addT {l : List Txt} {s x : Txt} : x ∈ addT l s ↔ x ∈ l ∨ x = s := by
  refine ⟨addT_mem, ?_⟩
  induction l with
  | nil => simp [addT]
  | cons y l ih =>
    intro h
    unfold addT
    split
    · rcases h with h | h
      · rcases List.mem_cons.1 h with h | h
        · simp [h]
        · exact List.mem_cons_of_mem _ (ih (.inl h))
      · exact List.mem_cons_of_mem _ (ih (.inr h))
    · split
      · rename_i _ e
        rcases h with h | h
        · exact h
        · simp [h, e]
      · rcases h with h | h
        · exact List.mem_cons_of_mem _ h
        · simp [h]
theorem Rise.add {l : List Txt} (h : Rise l) (s : Txt) : Rise (addT l s) := by
  induction l with
  | nil => simp [addT, Rise]
  | cons y l ih =>
    unfold Rise at h
    rw [List.pairwise_cons] at h
    unfold addT
    split
    · rename_i hy
      unfold Rise
      rw [List.pairwise_cons]
      refine ⟨fun z hz => ?_, ih h.2⟩
      rcases addT_mem hz with hz | hz
      · exact h.1 z hz
      · rw [hz]; exact hy
    · split
      · unfold Rise; rw [List.pairwise_cons]; exact h
      · rename_i h1 h2
        unfold Rise
        rw [List.pairwise_cons]
        have hsy : Op.bytesLess s y = true := by
          rcases bl_total y s with h' | h' | h'
          · exact absurd h' h1
          · exact absurd h' h2
          · exact h'
        refine ⟨fun z hz => ?_, List.pairwise_cons.2 h⟩
        rcases List.mem_cons.1 hz with hz | hz
        · rw [hz]; exact hsy
        · exact bl_trans _ _ _ hsy (h.1 z hz)
theorem rise_ext : ∀ {l m : List Txt}, Rise l → Rise m → (∀ x, x ∈ l ↔ x ∈ m) → l = m
  | [], [], _, _, _ => rfl
  | [], y :: m, _, _, h => by have := (h y).2 (by simp); cases this
  | x :: l, [], _, _, h => by have := (h x).1 (by simp); cases this
  | x :: l, y :: m, hl, hm, h => by
    unfold Rise at hl hm
    rw [List.pairwise_cons] at hl hm
    have hxy : x = y := by
      rcases List.mem_cons.1 ((h x).1 (by simp)) with e | e
      · exact e
      · rcases List.mem_cons.1 ((h y).2 (by simp)) with e' | e'
        · exact e'.symm
        · have h1 := hm.1 x e
          have h2 := hl.1 y e'
          rw [bl_asymm h1] at h2; cases h2
    subst hxy
    rw [rise_ext hl.2 hm.2 (fun z => ⟨fun hz => ?_, fun hz => ?_⟩)]
    · rcases List.mem_cons.1 ((h z).1 (by simp [hz])) with e | e
      · have := hl.1 z hz; rw [e, bl_irrefl] at this; cases this
      · exact e
    · rcases List.mem_cons.1 ((h z).2 (by simp [hz])) with e | e
      · have := hm.1 z hz; rw [e, bl_irrefl] at this; cases this
      · exact e
theorem flL_rise (L : List Pr) : Rise (flL L) := by
  suffices h : ∀ (L : List Pr) (out : List Txt), Rise out → Rise (L.foldl (fun out p => addT out p.1) out) from h L [] (by simp [Rise])
  intro L
  induction L with
  | nil => intro out h; exact h
  | cons p L ih => intro out h; exact ih _ (h.add _)
theorem mem_flL {L : List Pr} {x : Txt} : x ∈ flL L ↔ ∃ p ∈ L, p.1 = x := by
  suffices h : ∀ (L : List Pr) (out : List Txt), x ∈ L.foldl (fun out p => addT out p.1) out ↔ x ∈ out ∨ ∃ p ∈ L, p.1 = x by
    have := h L []; simpa [flL] using this
  intro L
  induction L with
  | nil => intro out; simp
  | cons p L ih =>
    intro out
    rw [List.foldl_cons, ih, mem_addT]
    simp only [List.mem_cons, exists_eq_or_imp]
    constructor
    · rintro ((h | h) | h)
      · exact .inl h
      · exact .inr (.inl h.symm)
      · exact .inr (.inr h)
    · rintro (h | h | h)
      · exact .inl (.inl h)
      · exact .inl (.inr h.symm)
      · exact .inr h

theorem same_len {L L' : List Pr} (h1 : L.Nodup) (h2 : L'.Nodup) (h : ∀ p, p ∈ L ↔ p ∈ L') : L.length = L'.length :=
  Nat.le_antisymm (len_le_of_sub h1 (fun p hp => (h p).1 hp)) (len_le_of_sub h2 (fun p hp => (h p).2 hp))
theorem same_fl {L L' : List Pr} (h : ∀ p, p ∈ L ↔ p ∈ L') : flL L = flL L' :=
  rise_ext (flL_rise _) (flL_rise _) (fun x => by
    rw [mem_flL, mem_flL]
    exact ⟨fun ⟨p, hp, e⟩ => ⟨p, (h p).1 hp, e⟩, fun ⟨p, hp, e⟩ => ⟨p, (h p).2 hp, e⟩⟩)
theorem same_nd {L L' : List Pr} (h : ∀ p, p ∈ L ↔ p ∈ L') : ndL L = ndL L' := by unfold ndL; rw [same_fl h]
theorem hit_iff {L : List Pr} {s : Txt} {n : Nat} : hitB L s n = true ↔ ∃ f, (f, n) ∈ L ∧ isB f s = true := by
  unfold hitB
  rw [List.any_eq_true]
  constructor
  · rintro ⟨⟨f, k⟩, hp, h⟩
    rw [Bool.and_eq_true, decide_eq_true_iff] at h
    obtain ⟨rfl, h⟩ := h
    exact ⟨f, hp, h⟩
  · rintro ⟨f, hp, h⟩
    exact ⟨(f, n), hp, by simp [h]⟩
theorem same_mt {L L' : List Pr} (h : ∀ p, p ∈ L ↔ p ∈ L') (s : Txt) : mtL L s = mtL L' s := by
  have : ∀ n, hitB L s n = hitB L' s n := fun n => by
    rw [Bool.eq_iff_iff, hit_iff, hit_iff]
    exact ⟨fun ⟨f, hp, e⟩ => ⟨f, (h _).1 hp, e⟩, fun ⟨f, hp, e⟩ => ⟨f, (h _).2 hp, e⟩⟩
  unfold mtL
  simp only [this]
theorem inActs_turn {l : List A10} (k : Nat) (p : Pr) : inActs (l.drop k ++ l.take k) p ↔ inActs l p := by
  unfold inActs
  have : ∀ a : A10, a ∈ l.drop k ++ l.take k ↔ a ∈ l := fun a => by
    rw [List.mem_append, or_comm, ← List.mem_append, List.take_append_drop]
  simp only [this]
end Go.Proofs.YtpmkokckjieidaaGreatDoor
