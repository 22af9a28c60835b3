/- What Make of the program's pool does. No condition. -/
import Derived.Test.YtinfckoaphgmkaaPoolFind
import Derived.Test.YtinfckoaphgmkaaSlices
namespace Go.Proofs.Ytinfckoaphgmkaa
open Go.RowKit
set_option linter.unusedVariables false
set_option linter.unusedSimpArgs false
set_option maxRecDepth 100000

theorem infoEnv : (Try.prog.info? 66).map (fun i => (i.zero, i.size, i.bytes)) = some (some (.agg #[.int .i64 0, .int .i64 0, .slice none 0 0]), 3, 40) := by kernel_rfl

/-- The envelopes of so many slots. -/
def envRow (bl : Nat → Nat) (size : Nat) : Nat → List Value
  | 0 => []
  | k + 1 => envRow bl size k ++ [.int .i64 (k : Nat), .int .i64 0, .slice (some ⟨bl k, 0, none⟩) 0 size]
theorem envRow_length (bl : Nat → Nat) (size : Nat) : ∀ k, (envRow bl size k).length = k * 3
  | 0 => rfl
  | k + 1 => by simp [envRow, envRow_length bl size k]; omega
theorem envRow_congr {bl bl' : Nat → Nat} {size : Nat} : ∀ {k : Nat}, (∀ i, i < k → bl i = bl' i) → envRow bl size k = envRow bl' size k
  | 0, _ => rfl
  | k + 1, h => by rw [envRow, envRow, envRow_congr (fun i hi => h i (by omega)), h k (by omega)]
theorem envRow_get {bl : Nat → Nat} {size : Nat} : ∀ {k i : Nat}, i < k → (envRow bl size k)[i * 3]? = some (.int .i64 (i : Nat)) ∧ (envRow bl size k)[i * 3 + 1]? = some (.int .i64 0) ∧ (envRow bl size k)[i * 3 + 2]? = some (.slice (some ⟨bl i, 0, none⟩) 0 size)
  | k + 1, i, h => by
    have hl := envRow_length bl size k
    by_cases e : i = k
    · subst e
      unfold envRow
      refine ⟨?_, ?_, ?_⟩
      · rw [List.getElem?_append_right (by omega), hl, Nat.sub_self]; rfl
      · rw [List.getElem?_append_right (by omega), hl, show i * 3 + 1 - i * 3 = 1 by omega]; rfl
      · rw [List.getElem?_append_right (by omega), hl, show i * 3 + 2 - i * 3 = 2 by omega]; rfl
    · obtain ⟨h1, h2, h3⟩ := envRow_get (bl := bl) (size := size) (k := k) (i := i) (by omega)
      unfold envRow
      refine ⟨?_, ?_, ?_⟩ <;> rw [List.getElem?_append_left (by omega)] <;> assumption

/-- The stack of so many, as it is laid. -/
def stkI (n k : Nat) : List Int := (List.range k).map fun i : Nat => (n : Int) - 1 - (i : Nat)
theorem stkI_step (n k : Nat) : stkI n (k + 1) = stkI n k ++ [(n : Int) - 1 - (k : Nat)] := by simp [stkI, List.range_succ]
theorem stkI_end (n : Nat) : stkI n n = nums (List.range n).reverse := by
  apply List.ext_getElem?
  intro i
  by_cases hi : i < n
  · rw [nums_get (k := n - 1 - i) (by rw [List.getElem?_reverse (by simpa using hi), List.length_range, List.getElem?_range (by omega)])]
    simp only [stkI, List.getElem?_map, List.getElem?_range hi, Option.map_some]
    congr 1
    omega
  · rw [List.getElem?_eq_none (by simp [stkI]; omega), List.getElem?_eq_none (by simp [nums]; omega)]

structure PMk (w wr : World) (q gb : Nat) (bl : Nat → Nat) (n size : Nat) (ea : Option Addr) (ec ke kb : Nat) (sa : Option Addr) (sc ks : Nat) : Prop where
  hd : Blk wr q [.int .i64 (size : Nat), .slice (some ⟨gb, 0, none⟩) n n, .slice ea ke ec, .slice sa ks sc] 63
  gg : Blk wr gb (ints (nums (List.replicate n 0))) 3
  env : wr.ownsRow w.heap.size 66 3 (.slice ea ke ec) ke (envRow bl size ke)
  stk : wr.ownsRow w.heap.size 3 1 (.slice sa ks sc) ks (ints (stkI n ks))
  bb : ∀ i, i < kb → Blk wr (bl i) (byt (List.replicate size 0)) 5
  blo : ∀ i, i < kb → w.heap.size ≤ bl i ∧ bl i ≠ q ∧ bl i ≠ gb
  inj : ∀ i j, i < kb → j < kb → i ≠ j → bl i ≠ bl j
  ne : q ≠ gb ∧ w.heap.size ≤ q ∧ w.heap.size ≤ gb
  efar : ∀ x, ea = some x → x.block ≠ q ∧ x.block ≠ gb ∧ (∀ i, i < kb → bl i ≠ x.block) ∧ ∀ y, sa = some y → x.block ≠ y.block
  sfar : ∀ y, sa = some y → y.block ≠ q ∧ y.block ≠ gb ∧ ∀ i, i < kb → bl i ≠ y.block
  st : Still w wr

theorem PMk.still {w wr wr' : World} {q gb : Nat} {bl : Nat → Nat} {n size ec ke kb sc ks : Nat} {ea sa : Option Addr} (h : PMk w wr q gb bl n size ea ec ke kb sa sc ks) (ht : Still wr wr') : PMk w wr' q gb bl n size ea ec ke kb sa sc ks :=
  ⟨h.hd.turned ht (fun h => h), h.gg.turned ht (fun h => h), ow_still h.env ht, ow_still h.stk ht, fun i hi => (h.bb i hi).turned ht (fun h => h), h.blo, h.inj, h.ne, h.efar, h.sfar, h.st.trans ht⟩

/-- A new slot's bytes. -/
theorem PMk.bytes {w wr : World} {q gb : Nat} {bl : Nat → Nat} {n size ec ke sc ks : Nat} {ea sa : Option Addr} (h : PMk w wr q gb bl n size ea ec ke ke sa sc ks) {wr' : World} (ht : Still wr wr') (hb : Blk wr' wr.heap.size (byt (List.replicate size 0)) 5) :
    PMk w wr' q gb (fun i => if i = ke then wr.heap.size else bl i) n size ea ec ke (ke + 1) sa sc ks := by
  have hS := h.still ht
  have e : ∀ i, i < ke → (fun i => if i = ke then wr.heap.size else bl i) i = bl i := fun i hi => by simp; intro hh; omega
  have hlt : ∀ i, i < ke → bl i < wr.heap.size := fun i hi => (h.bb i hi).lt
  have hq := h.hd.lt
  have hg := h.gg.lt
  have hx : ∀ x, ea = some x → x.block < wr.heap.size := by rintro x rfl; exact (ow_lt h.env x rfl).2
  have hy : ∀ x, sa = some x → x.block < wr.heap.size := by rintro x rfl; exact (ow_lt h.stk x rfl).2
  have hlo := h.st.size
  refine ⟨hS.hd, hS.gg, ?_, hS.stk, fun i hi => ?_, fun i hi => ?_, fun i j hi hj hij => ?_, h.ne, fun x hx' => ?_, fun y hy' => ?_, hS.st⟩
  · rw [envRow_congr e]; exact hS.env
  · by_cases hi' : i = ke
    · subst hi'; simp only [if_pos]; exact hb
    · simp only [if_neg hi']; exact hS.bb i (by omega)
  · by_cases hi' : i = ke
    · subst hi'; simp only [if_pos]; exact ⟨hlo, by omega, by omega⟩
    · simp only [if_neg hi']; exact h.blo i (by omega)
  · by_cases hi' : i = ke <;> by_cases hj' : j = ke
    · omega
    · simp only [if_pos hi', if_neg hj']; have := hlt j (by omega); omega
    · simp only [if_neg hi', if_pos hj']; have := hlt i (by omega); omega
    · simp only [if_neg hi', if_neg hj']; exact h.inj i j (by omega) (by omega) hij
  · obtain ⟨a1, a2, a3, a4⟩ := h.efar x hx'
    refine ⟨a1, a2, fun i hi => ?_, a4⟩
    by_cases hi' : i = ke
    · simp only [if_pos hi']; have := hx x hx'; omega
    · simp only [if_neg hi']; exact a3 i (by omega)
  · obtain ⟨a1, a2, a3⟩ := h.sfar y hy'
    refine ⟨a1, a2, fun i hi => ?_⟩
    by_cases hi' : i = ke
    · simp only [if_pos hi']; have := hy y hy'; omega
    · simp only [if_neg hi']; exact a3 i (by omega)

/-- What append of an envelope leaves: its row, in its block or in a new one. -/
theorem PMk.env_step {w wr w6 : World} {q gb : Nat} {bl : Nat → Nat} {n size ec ke sc ks : Nat} {ea sa : Option Addr} (h : PMk w wr q gb bl n size ea ec ke (ke + 1) sa sc ks) {o : Obj} {a6 : Option Addr} {c6 : Nat}
    (hown : w6.ownsRow w.heap.size 66 3 (.slice a6 (ke + 1) c6) (ke + 1) (envRow bl size (ke + 1))) (hg : (wr.alloc o).grownBy w6 (Value.slice ea ke ec).ownBlock)
    (hat : (Value.slice a6 (ke + 1) c6).ownBlock = (Value.slice ea ke ec).ownBlock ∨ (Value.slice a6 (ke + 1) c6).ownBlock = some (wr.alloc o).heap.size) :
    PMk w (w6.setCell ⟨q, 2, none⟩ (.slice a6 (ke + 1) c6)) q gb bl n size a6 c6 (ke + 1) (ke + 1) sa sc ks ∧ Blk w6 q [.int .i64 (size : Nat), .slice (some ⟨gb, 0, none⟩) n n, .slice ea ke ec, .slice sa ks sc] 63 := by
  have hT : Turned (fun i => (Value.slice ea ke ec).ownBlock = some i) wr w6 := ((Turned.refl _ wr).alloc _).grown hg (fun i e => .inl e)
  have hno : ∀ i, (∀ x, ea = some x → x.block ≠ i) → ¬ (Value.slice ea ke ec).ownBlock = some i := by
    intro i hi he
    cases ea with
    | none => cases he
    | some x => exact hi x rfl (by simpa [Value.ownBlock] using he)
  have n1 : ¬ (Value.slice ea ke ec).ownBlock = some q := hno q (fun x hx => (h.efar x hx).1)
  have n2 : ¬ (Value.slice ea ke ec).ownBlock = some gb := hno gb (fun x hx => (h.efar x hx).2.1)
  have n3 : ∀ i, i < ke + 1 → ¬ (Value.slice ea ke ec).ownBlock = some (bl i) := fun i hi => hno _ (fun x hx e => (h.efar x hx).2.2.1 i hi e.symm)
  have hq := h.hd.lt
  have hgl := h.gg.lt
  have hfar : ∀ x, a6 = some x → x.block ≠ q ∧ x.block ≠ gb ∧ (∀ i, i < ke + 1 → bl i ≠ x.block) ∧ ∀ y, sa = some y → x.block ≠ y.block := by
    rintro x rfl
    rcases hat with e | e
    · have e' : ∀ i, x.block = i → (Value.slice ea ke ec).ownBlock = some i := fun i hi => by rw [← e, ← hi]; rfl
      refine ⟨fun h' => n1 (e' _ h'), fun h' => n2 (e' _ h'), fun i hi h' => n3 i hi (e' _ h'.symm), fun y hy h' => ?_⟩
      have := e' _ h'
      cases ea with
      | none => cases this
      | some z => exact (h.efar z rfl).2.2.2 y hy (by simpa [Value.ownBlock] using this)
    · have e : x.block = (wr.alloc o).heap.size := by simpa [Value.ownBlock] using e
      rw [World.size_alloc] at e
      refine ⟨by omega, by omega, fun i hi h' => ?_, fun y hy h' => ?_⟩
      · have := (h.bb i hi).lt; omega
      · subst hy; have := (ow_lt h.stk y rfl).2; omega
  have hstk : ∀ b, (Value.slice sa ks sc).ownBlock = some b → ¬ (Value.slice ea ke ec).ownBlock = some b := by
    intro b hb
    cases sa with
    | none => cases hb
    | some y =>
      have : y.block = b := by simpa [Value.ownBlock] using hb
      exact hno b (fun x hx e => (h.efar x hx).2.2.2 y rfl (by omega))
  have hq6 := h.hd.turned hT n1
  have htq : Turned (· = q) w6 (w6.setCell ⟨q, 2, none⟩ (.slice a6 (ke + 1) c6)) := turned_set (Turned.refl _ _) _ _
  refine ⟨⟨hq6.set 2 _, (h.gg.turned hT n2).turned htq (Ne.symm h.ne.1), ow_turned hown htq (fun b hb e => ?_), ow_turned (ow_turned h.stk hT hstk) htq (fun b hb e => ?_), fun i hi => ((h.bb i hi).turned hT (n3 i hi)).turned htq (h.blo i hi).2.1, h.blo, h.inj, h.ne, hfar, h.sfar, ?_⟩, hq6⟩
  · cases a6 with
    | none => cases hb
    | some x => exact (hfar x rfl).1 (by simpa [Value.ownBlock, e] using hb)
  · cases sa with
    | none => cases hb
    | some y => exact (h.sfar y rfl).1 (by simpa [Value.ownBlock, e] using hb)
  · refine ((h.st.past hT (fun i hi => ?_)).trans (Turned.refl _ _)).setCell (p := ⟨q, 2, none⟩) (.inr h.ne.2.1) _
    cases ea with
    | none => cases hi
    | some x => have := ow_lt h.env x rfl
                have e : x.block = i := by simpa [Value.ownBlock] using hi
                exact .inr (by omega)

/-- What append to the stack leaves. -/
theorem PMk.stk_step {w wr w6 : World} {q gb : Nat} {bl : Nat → Nat} {n size ec ke kb sc ks : Nat} {ea sa : Option Addr} (h : PMk w wr q gb bl n size ea ec ke kb sa sc ks) {o : Obj} {a6 : Option Addr} {c6 : Nat}
    (hown : w6.ownsRow w.heap.size 3 1 (.slice a6 (ks + 1) c6) (ks + 1) (ints (stkI n (ks + 1)))) (hg : (wr.alloc o).grownBy w6 (Value.slice sa ks sc).ownBlock)
    (hat : (Value.slice a6 (ks + 1) c6).ownBlock = (Value.slice sa ks sc).ownBlock ∨ (Value.slice a6 (ks + 1) c6).ownBlock = some (wr.alloc o).heap.size) :
    PMk w (w6.setCell ⟨q, 3, none⟩ (.slice a6 (ks + 1) c6)) q gb bl n size ea ec ke kb a6 c6 (ks + 1) ∧ Blk w6 q [.int .i64 (size : Nat), .slice (some ⟨gb, 0, none⟩) n n, .slice ea ke ec, .slice sa ks sc] 63 := by
  have hT : Turned (fun i => (Value.slice sa ks sc).ownBlock = some i) wr w6 := ((Turned.refl _ wr).alloc _).grown hg (fun i e => .inl e)
  have hno : ∀ i, (∀ x, sa = some x → x.block ≠ i) → ¬ (Value.slice sa ks sc).ownBlock = some i := by
    intro i hi he
    cases sa with
    | none => cases he
    | some x => exact hi x rfl (by simpa [Value.ownBlock] using he)
  have n1 : ¬ (Value.slice sa ks sc).ownBlock = some q := hno q (fun x hx => (h.sfar x hx).1)
  have n2 : ¬ (Value.slice sa ks sc).ownBlock = some gb := hno gb (fun x hx => (h.sfar x hx).2.1)
  have n3 : ∀ i, i < kb → ¬ (Value.slice sa ks sc).ownBlock = some (bl i) := fun i hi => hno _ (fun x hx e => (h.sfar x hx).2.2 i hi e.symm)
  have hq := h.hd.lt
  have hgl := h.gg.lt
  have hfar : ∀ x, a6 = some x → (x.block ≠ q ∧ x.block ≠ gb ∧ (∀ i, i < kb → bl i ≠ x.block)) ∧ ∀ y, ea = some y → y.block ≠ x.block := by
    rintro x rfl
    rcases hat with e | e
    · have e' : ∀ i, x.block = i → (Value.slice sa ks sc).ownBlock = some i := fun i hi => by rw [← e, ← hi]; rfl
      refine ⟨⟨fun h' => n1 (e' _ h'), fun h' => n2 (e' _ h'), fun i hi h' => n3 i hi (e' _ h'.symm)⟩, fun y hy h' => ?_⟩
      have := e' _ h'.symm
      cases sa with
      | none => cases this
      | some z => exact (h.efar y hy).2.2.2 z rfl (by have : z.block = y.block := by simpa [Value.ownBlock] using this
                                                      exact this.symm)
    · have e : x.block = (wr.alloc o).heap.size := by simpa [Value.ownBlock] using e
      rw [World.size_alloc] at e
      refine ⟨⟨by omega, by omega, fun i hi h' => ?_⟩, fun y hy h' => ?_⟩
      · have := (h.bb i hi).lt; omega
      · subst hy; have := (ow_lt h.env y rfl).2; omega
  have henv : ∀ b, (Value.slice ea ke ec).ownBlock = some b → ¬ (Value.slice sa ks sc).ownBlock = some b := by
    intro b hb
    cases ea with
    | none => cases hb
    | some y =>
      have : y.block = b := by simpa [Value.ownBlock] using hb
      exact hno b (fun x hx e => (h.efar y rfl).2.2.2 x hx (by omega))
  have hq6 := h.hd.turned hT n1
  have htq : Turned (· = q) w6 (w6.setCell ⟨q, 3, none⟩ (.slice a6 (ks + 1) c6)) := turned_set (Turned.refl _ _) _ _
  refine ⟨⟨hq6.set 3 _, (h.gg.turned hT n2).turned htq (Ne.symm h.ne.1), ow_turned (ow_turned h.env hT henv) htq (fun b hb e => ?_), ow_turned hown htq (fun b hb e => ?_), fun i hi => ((h.bb i hi).turned hT (n3 i hi)).turned htq (h.blo i hi).2.1, h.blo, h.inj, h.ne, fun x hx => ?_, fun y hy => (hfar y hy).1, ?_⟩, hq6⟩
  · cases ea with
    | none => cases hb
    | some y => exact (h.efar y rfl).1 (by simpa [Value.ownBlock, e] using hb)
  · cases a6 with
    | none => cases hb
    | some x => exact (hfar x rfl).1.1 (by simpa [Value.ownBlock, e] using hb)
  · obtain ⟨a1, a2, a3, _⟩ := h.efar x hx
    exact ⟨a1, a2, a3, fun y hy => (hfar y hy).2 x hx⟩
  · refine ((h.st.past hT (fun i hi => ?_)).trans (Turned.refl _ _)).setCell (p := ⟨q, 3, none⟩) (.inr h.ne.2.1) _
    cases sa with
    | none => cases hi
    | some x => have := ow_lt h.stk x rfl
                have e : x.block = i := by simpa [Value.ownBlock] using hi
                exact .inr (by omega)

theorem ow_blkm {w : World} {B : Nat} {e : TypeId} {m n cc : Nat} {ao : Option Addr} {xs : List Value} (h : w.ownsRow B e m (.slice ao n cc) n xs) (h0 : 0 < n) : ∃ g r, ao = some ⟨g, 0, none⟩ ∧ B ≤ g ∧ Blk w g (xs ++ r) e := by
  rcases h.2 with ⟨_, rfl⟩ | ⟨g, cap', cur, h', hB, hg, hnc, hcm, hcs, htake⟩
  · omega
  · simp only [Value.slice.injEq, true_and] at h'
    obtain ⟨rfl, rfl⟩ := h'
    refine ⟨g, cur.toList.drop (n * m), rfl, hB, ?_⟩
    have : xs ++ cur.toList.drop (n * m) = cur.toList := by rw [← htake]; exact List.take_append_drop _ _
    rw [this]
    exact hg

theorem PMk.done {w wr : World} {q gb : Nat} {bl : Nat → Nat} {n size ec sc : Nat} {ea sa : Option Addr} (h : PMk w wr q gb bl n size ea ec n n sa sc n) (h0 : 1 ≤ n) :
    ∃ W, (pT q (PM.new n size)).at_ wr W ∧ Still w wr ∧ ∀ k, W k → w.heap.size ≤ k := by
  obtain ⟨eb, er, rfl, hB, hev⟩ := ow_blkm h.env h0
  obtain ⟨sb, sr, rfl, hB2, hst⟩ := ow_blkm h.stk h0
  obtain ⟨a1, a2, a3, a4⟩ := h.efar _ rfl
  obtain ⟨b1, b2, b3⟩ := h.sfar _ rfl
  have a5 := a4 _ rfl
  dsimp only at a1 a2 a3 a5 b1 b2 b3
  have hsl : (PM.new n size).sl.length = n := by simp [PM.new]
  have hfl : (PM.new n size).fr.length = n := by simp [PM.new]
  have key : ∀ (k : Nat) (s : Slt), (PM.new n size).sl[k]? = some s → k < n ∧ s = ⟨0, 0, []⟩ := by
    intro k s hs
    simp only [PM.new, List.getElem?_replicate] at hs
    split at hs
    · exact ⟨by assumption, (Option.some.inj hs).symm⟩
    · cases hs
  refine ⟨fun i => i = q ∨ i = gb ∨ i = eb ∨ i = sb ∨ ∃ j, j < n ∧ i = bl j, ⟨⟨gb, eb, ec, bl, sb, sc⟩, ?_⟩, h.st, ?_⟩
  · refine ⟨fun k hk => ?_, fun k hk => ?_, ⟨.inr (.inr (.inr (.inl rfl))), fun hf => ?_⟩, fun i hi => ⟨.inr (.inr (.inr (.inr ⟨i, by rwa [hsl] at hi, rfl⟩))), fun hf => ?_, ?_⟩, fun i j hi hj => h.inj i j (by rwa [hsl] at hi) (by rwa [hsl] at hj), ?_, ?_, ?_, ⟨_, hev, fun k s hs => ?_⟩, fun k s hs => ?_, ?_⟩
    · rcases hk with rfl | rfl | rfl | rfl | ⟨j, hj, rfl⟩
      · exact h.hd.lt
      · exact h.gg.lt
      · exact hev.lt
      · exact hst.lt
      · exact (h.bb j hj).lt
    · rcases hk with rfl | rfl | rfl
      · exact .inl rfl
      · exact .inr (.inl rfl)
      · exact .inr (.inr (.inl rfl))
    · rcases hf with hf | hf | hf
      · exact b1 hf
      · exact b2 hf
      · exact a5 hf.symm
    · rw [hsl] at hi
      rcases hf with hf | hf | hf
      · exact (h.blo i hi).2.1 hf
      · exact (h.blo i hi).2.2 hf
      · exact a3 i hi hf
    · rw [hsl] at hi; exact b3 i hi
    · exact ⟨h.ne.1, fun e => a1 e.symm, fun e => a2 e.symm⟩
    · have := h.hd; rw [hsl, hfl]; exact this
    · have := h.gg; simpa [PM.new] using this
    · obtain ⟨hk, rfl⟩ := key k s hs
      obtain ⟨e1, e2, e3⟩ := envRow_get (bl := bl) (size := size) hk
      have hl := envRow_length bl size n
      refine ⟨?_, ?_, ?_⟩
      · rw [List.getElem?_append_left (by omega)]; exact e1
      · rw [List.getElem?_append_left (by omega)]; exact e2
      · rw [List.getElem?_append_left (by omega)]; exact e3
    · obtain ⟨hk, rfl⟩ := key k s hs
      exact ⟨List.replicate size 0, h.bb k hk, by simp [PM.new]⟩
    · have := h.stk
      rw [stkI_end] at this
      rw [hfl]
      exact ow_base this (Nat.zero_le _)
  · rintro i (rfl | rfl | rfl | rfl | ⟨j, hj, rfl⟩)
    · exact h.ne.2.1
    · exact h.ne.2.2
    · exact hB
    · exact hB2
    · exact (h.blo j hj).1

theorem pmake_no (n s : Int) (w : World) (h : ¬ (1 ≤ n ∧ n ≤ 128 ∧ 1 ≤ s ∧ s ≤ 256)) :
    Calls Try.prog 9 #[.int .i64 n, .int .i64 s] w fun e w' => e = .returned (.tuple #[.pointer none, .int .i64 2]) ∧ Still w w' := by
  go_enter Try.func9, Try.ntmps9
  go_wp2
  all_goals first | (exfalso; omega) | (exfalso; rename_i q; simp at q; omega) | (go_ret2; exact ⟨rfl, Turned.refl _ _⟩)
end Go.Proofs.Ytinfckoaphgmkaa
