/- What the document's pool.Make does. No condition. -/
import Derived.Test.YtinfckoaphgmkaaPoolRefTake
import Derived.BigRegion
namespace Go.Proofs.Ytinfckoaphgmkaa
open Go.RowKit
set_option linter.unusedVariables false
set_option linter.unusedSimpArgs false
set_option maxRecDepth 100000

theorem infoBytesS : (Try.prog.info? 32).map (fun i => (i.zero, i.size, i.bytes)) = some (some (.slice none 0 0), 1, 24) := by kernel_rfl

theorem made_ints (n : Nat) : madeCells #[.int .i64 0] n = (ints (nums (List.replicate n 0))).toArray := by
  have := made_row (enc := fun x : Int => [Value.int .i64 x]) 0 (z := #[.int .i64 0]) rfl (m := 1) (fun _ => rfl) (by omega) n
  rw [Nat.mul_one] at this
  rw [this]
  have key : ∀ l : List Int, rowOf (fun x : Int => [Value.int .i64 x]) l = ints l := by
    intro l
    induction l with
    | nil => rfl
    | cons a l ih => rw [rowOf_cons, ih]; rfl
  rw [key]
  simp [nums, ints]
theorem made_slices (n : Nat) : madeCells #[.slice none 0 0] n = (List.replicate n (Value.slice none 0 0)).toArray := by
  have := made_row (enc := fun x : Value => [x]) (.slice none 0 0) (z := #[.slice none 0 0]) rfl (m := 1) (fun _ => rfl) (by omega) n
  rw [Nat.mul_one] at this
  rw [this]
  have key : ∀ l : List Value, rowOf (fun x : Value => [x]) l = l := by
    intro l
    induction l with
    | nil => rfl
    | cons a l ih => rw [rowOf_cons, ih]; rfl
  rw [key]

structure ZMk (w wr : World) (q gb cb bb n size : Nat) (ao : Option Addr) (cc k : Nat) : Prop where
  hd : Blk wr q [.slice (some ⟨gb, 0, none⟩) n n, .slice (some ⟨cb, 0, none⟩) n n, .slice (some ⟨bb, 0, none⟩) n n, .slice ao k cc, .int .i64 (size : Int)] 50
  gg : Blk wr gb (ints (nums (List.replicate n 0))) 3
  cc_ : Blk wr cb (ints (nums (List.replicate n 0))) 3
  bb_ : Blk wr bb (List.replicate n (.slice none 0 0)) 32
  own : wr.ownsRow w.heap.size 3 1 (.slice ao k cc) k (ints (nums (List.range k)))
  ne : gb ≠ cb ∧ q ≠ gb ∧ q ≠ cb ∧ q ≠ bb ∧ gb ≠ bb ∧ cb ≠ bb
  lo : w.heap.size ≤ q ∧ w.heap.size ≤ gb ∧ w.heap.size ≤ cb ∧ w.heap.size ≤ bb
  far : ∀ x, ao = some x → x.block ≠ q ∧ x.block ≠ gb ∧ x.block ≠ cb ∧ x.block ≠ bb
  st : Still w wr

theorem ZMk.grown {w wr w6 : World} {q gb cb bb n size : Nat} {ao : Option Addr} {cc k : Nat} {o : Obj} (h : ZMk w wr q gb cb bb n size ao cc k) (hg : (wr.alloc o).grownBy w6 (Value.slice ao k cc).ownBlock) :
    Blk w6 q [.slice (some ⟨gb, 0, none⟩) n n, .slice (some ⟨cb, 0, none⟩) n n, .slice (some ⟨bb, 0, none⟩) n n, .slice ao k cc, .int .i64 (size : Int)] 50 := by
  have hT : Turned (fun i => (Value.slice ao k cc).ownBlock = some i) wr w6 := ((Turned.refl _ wr).alloc _).grown hg (fun i e => .inl e)
  refine h.hd.turned hT (fun he => ?_)
  cases ao with
  | none => cases he
  | some x => exact (h.far x rfl).1 (by simpa [Value.ownBlock] using he)

theorem ZMk.step {w wr w6 : World} {q gb cb bb n size : Nat} {ao a6 : Option Addr} {cc c6 k : Nat} (h : ZMk w wr q gb cb bb n size ao cc k)
    (hown : w6.ownsRow w.heap.size 3 1 (.slice a6 (k + 1) c6) (k + 1) (ints (nums (List.range (k + 1))))) (hg : (wr.alloc (.cells #[.int .i64 (k : Int)] 3)).grownBy w6 (Value.slice ao k cc).ownBlock)
    (hat : (Value.slice a6 (k + 1) c6).ownBlock = (Value.slice ao k cc).ownBlock ∨ (Value.slice a6 (k + 1) c6).ownBlock = some (wr.alloc (.cells #[.int .i64 (k : Int)] 3)).heap.size) :
    ZMk w (w6.setCell ⟨q, 3, none⟩ (.slice a6 (k + 1) c6)) q gb cb bb n size a6 c6 (k + 1) := by
  have hT : Turned (fun i => (Value.slice ao k cc).ownBlock = some i) wr w6 := ((Turned.refl _ wr).alloc _).grown hg (fun i e => .inl e)
  have hno : ∀ i, (i = q ∨ i = gb ∨ i = cb ∨ i = bb) → ¬ (Value.slice ao k cc).ownBlock = some i := by
    intro i hi he
    cases ao with
    | none => cases he
    | some x =>
      have hf := h.far x rfl
      have : x.block = i := by simpa [Value.ownBlock] using he
      omega
  obtain ⟨n1, n2, n3, n4, n5, n6⟩ := h.ne
  have hfar : ∀ x, a6 = some x → x.block ≠ q ∧ x.block ≠ gb ∧ x.block ≠ cb ∧ x.block ≠ bb := by
    rintro x rfl
    rcases hat with e | e
    · refine ⟨fun h' => hno q (.inl rfl) ?_, fun h' => hno gb (.inr (.inl rfl)) ?_, fun h' => hno cb (.inr (.inr (.inl rfl))) ?_, fun h' => hno bb (.inr (.inr (.inr rfl))) ?_⟩ <;> rw [← e, ← h'] <;> rfl
    · have e : x.block = (wr.alloc (.cells #[.int .i64 (k : Int)] 3)).heap.size := by simpa [Value.ownBlock] using e
      have := h.hd.lt
      have := h.gg.lt
      have := h.cc_.lt
      have := h.bb_.lt
      simp only [World.size_alloc] at e
      omega
  refine ⟨(h.hd.turned hT (hno q (.inl rfl))).set 3 _, (h.gg.turned hT (hno _ (.inr (.inl rfl)))).other (p := ⟨q, 3, none⟩) n2 _, (h.cc_.turned hT (hno _ (.inr (.inr (.inl rfl))))).other (p := ⟨q, 3, none⟩) n3 _, (h.bb_.turned hT (hno _ (.inr (.inr (.inr rfl))))).other (p := ⟨q, 3, none⟩) n4 _, ?_, h.ne, h.lo, hfar, ?_⟩
  · exact ow_turned hown (turned_set (Turned.refl _ _) _ _) (fun i hi e => by
      cases a6 with
      | none => cases hi
      | some x => have : x.block = i := by simpa [Value.ownBlock] using hi
                  exact (hfar x rfl).1 (by omega))
  · refine (h.st.past hT (fun i hi => ?_)).setCell (p := ⟨q, 3, none⟩) (.inr h.lo.1) _
    cases ao with
    | none => cases hi
    | some x => have := ow_lt h.own x rfl
                have e : x.block = i := by simpa [Value.ownBlock] using hi
                exact .inr (by omega)

theorem ZMk.done {w wr : World} {q gb cb bb n size : Nat} {ao : Option Addr} {cc : Nat} (h : ZMk w wr q gb cb bb n size ao cc n) (hn : 1 ≤ n) :
    ∃ W, (zT q (PM.new n size)).at_ wr W ∧ Still w wr ∧ ∀ k, W k → w.heap.size ≤ k := by
  obtain ⟨l1, l2, l3⟩ := ow_le h.own
  obtain ⟨x, rfl⟩ : ∃ x, ao = some x := by
    cases ao with
    | none => have := (l3 rfl).1; omega
    | some x => exact ⟨x, rfl⟩
  obtain ⟨f1, f2, f3, f4⟩ := h.far x rfl
  have hlt := ow_lt h.own x rfl
  have hlo := h.lo
  have b1 := h.hd.lt
  have b2 := h.gg.lt
  have b3 := h.cc_.lt
  have b4 := h.bb_.lt
  refine ⟨fun i => i = q ∨ i = gb ∨ i = cb ∨ i = bb ∨ i = x.block, ⟨⟨gb, cb, bb, x, cc⟩, ?_⟩, h.st, fun i hi => by omega⟩
  refine ⟨fun i hi => by omega, fun i hi => ?_, h.ne, ?_, ?_, ?_, ⟨List.replicate n (.slice none 0 0), h.bb_, by simp [PM.new], fun k s hs => ?_⟩, ?_, ?_, ⟨.inr (.inr (.inr (.inr rfl))), fun hf => ?_⟩⟩
  · unfold ZLay.fix at hi; dsimp only at hi; omega
  · have := h.hd; simpa [PM.new] using this
  · have := h.gg; simpa [PM.new] using this
  · have := h.cc_; simpa [PM.new] using this
  · simp only [PM.new, List.getElem?_replicate] at hs
    split at hs
    · rename_i hk
      cases hs
      exact ⟨none, 0, by simp [hk], BytesAt.nil _ _, Nat.le_refl _, Nat.zero_le _, fun _ => rfl, fun x hx => by cases hx⟩
    · cases hs
  · exact NumsAt.of_own h.own (by simp [nums, PM.new])
  · simp only [PM.new, List.length_range]; exact ⟨l1, l2⟩
  · unfold ZLay.fix at hf; dsimp only at hf; omega

def zA (n : Nat) : Obj := .cells (ints (nums (List.replicate n 0))).toArray 3
def zB (n : Nat) : Obj := .cells (List.replicate n (Value.slice none 0 0)).toArray 32
def zO (n z i : Nat) : Obj := if i = z then zB n else zA n

theorem zinit (w : World) (n size : Nat) (x y z : Nat) (hx : x < 3) (hy : y < 3) (hz : z < 3) (hxy : x ≠ y) (hxz : x ≠ z) (hyz : y ≠ z) {S : Nat} (hS : S = w.heap.size) :
    ∃ q gb cb bb, Value.pointer (some ⟨S + 3, 0, none⟩) = .pointer (some ⟨q, 0, none⟩) ∧
      ZMk w ((((w.alloc (zO n z 0)).alloc (zO n z 1)).alloc (zO n z 2)).alloc (.cells #[.slice (some ⟨S + x, 0, none⟩) n n, .slice (some ⟨S + y, 0, none⟩) n n, .slice (some ⟨S + z, 0, none⟩) n n, .slice none 0 0, .int .i64 (size : Int)] 50)).drew q gb cb bb n size none 0 0 := by
  subst hS
  have key : ∀ t, t < 3 → ∀ o : Obj, ((((w.alloc (zO n z 0)).alloc (zO n z 1)).alloc (zO n z 2)).alloc o).heap[w.heap.size + t]? = some (zO n z t) := by
    intro t ht o
    obtain rfl | rfl | rfl : t = 0 ∨ t = 1 ∨ t = 2 := by omega
    · rw [Below.heap_alloc _ _ _ (by simp; omega), Below.heap_alloc _ _ _ (by simp; omega), Below.heap_alloc _ _ _ (by simp)]
      exact heap_alloc_new w _
    · rw [Below.heap_alloc _ _ _ (by simp), Below.heap_alloc _ _ _ (by simp)]
      have := heap_alloc_new (w.alloc (zO n z 0)) (zO n z 1)
      rwa [World.size_alloc] at this
    · rw [Below.heap_alloc _ _ _ (by simp)]
      have := heap_alloc_new ((w.alloc (zO n z 0)).alloc (zO n z 1)) (zO n z 2)
      rwa [World.size_alloc, World.size_alloc] at this
  refine ⟨w.heap.size + 3, w.heap.size + x, w.heap.size + y, w.heap.size + z, rfl, ?_, ?_, ?_, ?_, ⟨rfl, .inl ⟨rfl, rfl⟩⟩, by omega, by omega, fun a ha => (by cases ha), ((((Turned.refl _ _).alloc _).alloc _).alloc _).alloc _ |>.drew⟩
  · exact (Blk.newAt _ _ _ (by simp) rfl).drew
  · have := key x hx (.cells #[.slice (some ⟨w.heap.size + x, 0, none⟩) n n, .slice (some ⟨w.heap.size + y, 0, none⟩) n n, .slice (some ⟨w.heap.size + z, 0, none⟩) n n, .slice none 0 0, .int .i64 (size : Int)] 50)
    unfold zO at this
    rw [if_neg hxz] at this
    exact this
  · have := key y hy (.cells #[.slice (some ⟨w.heap.size + x, 0, none⟩) n n, .slice (some ⟨w.heap.size + y, 0, none⟩) n n, .slice (some ⟨w.heap.size + z, 0, none⟩) n n, .slice none 0 0, .int .i64 (size : Int)] 50)
    unfold zO at this
    rw [if_neg hyz] at this
    exact this
  · have := key z hz (.cells #[.slice (some ⟨w.heap.size + x, 0, none⟩) n n, .slice (some ⟨w.heap.size + y, 0, none⟩) n n, .slice (some ⟨w.heap.size + z, 0, none⟩) n n, .slice none 0 0, .int .i64 (size : Int)] 50)
    unfold zO at this
    rw [if_pos rfl] at this
    exact this

theorem zmake_arg (n s : Int) (w : World) (h : ¬ (1 ≤ n ∧ n ≤ 128 ∧ 1 ≤ s ∧ s ≤ 256)) :
    Calls Try.prog 10 #[.int .i64 n, .int .i64 s] w fun e w' => e = .returned (.tuple #[.pointer none, .int .i64 2]) ∧ w = w' := by
  go_enter Try.func10, Try.ntmps10
  go_wp2
  all_goals first | (exfalso; omega) | (exfalso; rename_i q; simp at q; omega) | (go_ret2; exact ⟨rfl, rfl⟩)

/-- A new pool. -/
def ZNew (w : World) (n size : Nat) (e : Ending) (w' : World) : Prop :=
  ∃ q, e = .returned (.tuple #[.pointer (some ⟨q, 0, none⟩), .int .i64 0]) ∧ ∃ W, (zT q (PM.new n size)).at_ w' W ∧ Still w w' ∧ ∀ k, W k → w.heap.size ≤ k

theorem zmake_ok (n size : Nat) (w : World) (h1 : 1 ≤ n) (h2 : n ≤ 128) (h3 : 1 ≤ size) (h4 : size ≤ 256) :
    Calls Try.prog 10 #[.int .i64 n, .int .i64 size] w (ZNew w n size) := by
  obtain ⟨i0, hi, hz0, hz1, hz2⟩ := info_parts infoIntW
  obtain ⟨i1, ki, kz0, kz1, kz2⟩ := info_parts infoBytesS
  have hb : (i0.bytes : Int) * (n : Int) ≤ 281474976710656 := by rw [hz2]; omega
  have kb : (i1.bytes : Int) * (n : Int) ≤ 281474976710656 := by rw [kz2]; omega
  have hmk := fun W : World => run_make (P := Try.prog) W 31 3 i0 _ Try.underlying31 hi hz0 .i64 .i64 (n : Int) (n : Int) (Int.natCast_nonneg n) (Int.le_refl _) hb (by omega)
  have kmk := fun W : World => run_make (P := Try.prog) W 48 32 i1 _ Try.underlying48 ki kz0 .i64 .i64 (n : Int) (n : Int) (Int.natCast_nonneg n) (Int.le_refl _) kb (by omega)
  simp only [hz1, Int.toNat_natCast, Nat.mul_one, show Value.cells (.int .i64 0) = #[.int .i64 0] from rfl, made_ints] at hmk
  simp only [kz1, Int.toNat_natCast, Nat.mul_one, show Value.cells (.slice none 0 0) = #[.slice none 0 0] from rfl, made_slices] at kmk
  clear ki kz0 kz1 kz2 hb kb
  go_enter Try.func10, Try.ntmps10
  go_upto_region 3 with fail
  go_cut [6] (fun s6 wx => ∃ q gb cb bb, s6 = .pointer (some ⟨q, 0, none⟩) ∧ ZMk w wx q gb cb bb n size none 0 0)
  case first =>
    clear hi hz0 hz1 hz2
    go_region
    all_goals (go_wp2_with fail; go_meet)
    all_goals first
      | exact zinit w n size 0 1 2 (by omega) (by omega) (by omega) (by omega) (by omega) (by omega) rfl
      | exact zinit w n size 0 2 1 (by omega) (by omega) (by omega) (by omega) (by omega) (by omega) rfl
      | exact zinit w n size 1 0 2 (by omega) (by omega) (by omega) (by omega) (by omega) (by omega) rfl
      | exact zinit w n size 1 2 0 (by omega) (by omega) (by omega) (by omega) (by omega) (by omega) rfl
      | exact zinit w n size 2 0 1 (by omega) (by omega) (by omega) (by omega) (by omega) (by omega) rfl
      | exact zinit w n size 2 1 0 (by omega) (by omega) (by omega) (by omega) (by omega) (by omega) rfl
  case rest =>
    obtain ⟨q, gb, cb, bb, rfl, hM0⟩ := hcut
    have HM0 := Lib.hid hM0
    clear hmk kmk hM0
    go_wp2
    go_loopw [7] (fun i wr => ∃ (k : Nat) (ao : Option Addr) (cc : Nat), k ≤ n ∧ i = .int .i64 k ∧ ZMk w wr q gb cb bb n size ao cc k) (fun i _ => n - (intOf i).toNat)
    case atStart => exact ⟨0, none, 0, Nat.zero_le _, rfl, HM0.out⟩
    case round =>
      clear HM0
      obtain ⟨k, ao, cc, hk, rfl, hM⟩ := hrel
      have HM := Lib.hid hM
      by_cases hlt : k < n
      · have c3 : wr.cell? ⟨q, 3, none⟩ = some (.slice ao k cc) := hM.hd.cell rfl
        have f3 := hM.hd.free 3
        have hlo := hM.lo
        have hql : q < wr.heap.size := hM.hd.lt
        clear hM
        go_wp2_with (at_builtin; refine wpList_append_own_at _ rfl (.tmp 40) (.tmp 42) 31 rfl w.heap.size 3 i0 (.int .i64 0) 1 8 Try.underlying31 hi hz0 hz1 hz2 rfl (by decide) (.slice ao k cc) k (ints (nums (List.range k))) rfl (ow_still HM.out.own ((Turned.refl _ _).alloc _)) ⟨wr.heap.size, 0, none⟩ 1 1 [.int .i64 (k : Int)] rfl rfl (ow_cells wr _ _) (ow_ints rfl) (by unfold maxLen; omega) (by omega) (by simp; omega) ?_; intro v6 w6 hown6 hg6 _ hat6; obtain ⟨a6, c6, rfl⟩ := ow_slice hown6; have HS := Lib.hid (HM.out.step (by simpa [List.range_succ, nums, ints] using hown6) hg6 hat6); have b6 := HM.out.grown hg6; have e3 : w6.cell? ⟨q, 3, none⟩ = some (.slice ao k cc) := b6.cell rfl; have f6 := b6.free 3; clear hown6 hg6 hat6)
        go_roundw
        case rel => exact ⟨k + 1, a6, c6, by omega, by go_num, HS.out⟩
        case measure => simp [intOf]; omega
      · obtain rfl : k = n := by omega
        clear hM
        go_wp2
        go_ret2
        exact ⟨q, rfl, HM.out.done h1⟩
end Go.Proofs.Ytinfckoaphgmkaa
