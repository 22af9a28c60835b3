/- PartKeeps: what the calls of a round's end answer, wherever nothing of it has turned. No condition but that the program's partitions and pool keep their words. -/
import Derived.Test.YtbljjmehjkmjaaaPtKeepAt
namespace Go.Proofs.Ytbljjmehjkmjaaa
open Go.RowKit
set_option linter.unusedVariables false
set_option linter.unusedSimpArgs false

structure KpCt (w0 : World) (q x : Nat) (ta ha wa : Option Addr) (tn hn hd : Nat) : Prop where
  head : ∀ V, Still w0 V → Calls Try.prog 14 #[.pointer (some ⟨x, 0, none⟩)] V fun e w' => e = .returned (.int .i64 hd) ∧ Still V w'
  tail : ∀ V, Still w0 V → Calls Try.prog 15 #[.pointer (some ⟨x, 0, none⟩)] V fun e w' => e = .returned (.int .i64 tn) ∧ Still V w'
  le : hd ≤ tn
  peek : ∀ j : Nat, hd ≤ j → j < tn → ∃ (b : List UInt8) (g : Nat) (ya : Option Addr) (yc : Nat), ta = some ⟨g, 0, none⟩ ∧ ∀ V, Still w0 V → V.cell? ⟨g, j, none⟩ = some (.slice ya b.length yc) ∧ BytesAt V ya b ∧
    Calls Try.prog 16 #[.pointer (some ⟨x, 0, none⟩), .int .i64 j] V fun e w' => ∃ a c, e = .returned (.tuple #[.slice a b.length c, .int .i64 0]) ∧ BytesAt w' a b ∧ Still V w'
  bytes : ∀ j : Nat, j < hn → ∃ (y : Int) (k : Nat) (b : List UInt8) (g hg wg : Nat) (ya : Option Addr) (yc : Nat), ta = some ⟨g, 0, none⟩ ∧ ha = some ⟨hg, 0, none⟩ ∧ wa = some ⟨wg, 0, none⟩ ∧ k < tn ∧ ∀ V, Still w0 V → V.cell? ⟨hg, j, none⟩ = some (.int .i64 y) ∧ V.cell? ⟨wg, j, none⟩ = some (.int .i64 k) ∧ V.cell? ⟨g, k, none⟩ = some (.slice ya b.length yc) ∧ BytesAt V ya b ∧
    Calls Try.prog 18 #[.pointer (some ⟨q, 0, none⟩), .int .i64 y] V fun e w' => ∃ a c, e = .returned (.tuple #[.slice a b.length c, .int .i64 0]) ∧ BytesAt w' a b ∧ Still V w'

theorem KpAt.ct {PT : Nat → PM → Thing} {XT : Nat → Nat → RM → Thing} (A : PartActs PT XT) (B : PoolActs PT) {w wr : World} {q x N K T J : Nat} {P : PM} {M : RM} {had : List Int} {which : List Nat} {ks : List (Sl UInt8)} {ta : Option Addr} {tn tc : Nat} {ha : Option Addr} {hn hc : Nat} {wa : Option Addr} {wn wc : Nat} (h : KpAt PT XT w wr q x N K T J P M had which ks ta tn tc ha hn hc wa wn wc) (hN : N < 800000) (hK : K < 800000) :
    KpCt wr q x ta ha wa tn hn M.h := by
  have htl : M.tail = tn := by rw [h.kp.tail, List.length_map, h.tl.1]
  refine ⟨fun V hV => ?_, fun V hV => ?_, by unfold RM.tail at htl; omega, fun j h1 h2 => ?_, fun j h1 => ?_⟩
  · obtain ⟨_, hp, _⟩ := (h.still hV).held.fst
    exact A.head hp h.ok h.mok (by omega) (by omega)
  · obtain ⟨_, hp, _⟩ := (h.still hV).held.fst
    have := A.tail hp h.ok h.mok (by omega) (by omega)
    rwa [htl] at this
  · obtain ⟨b, hb, hc⟩ := h.peekC A (by omega) (by omega) h1 (by rw [htl]; exact h2)
    obtain ⟨g, y, e1, e2, e3, e4, e5, e6, e7⟩ := h.told hb
    subst e4
    refine ⟨y.xs, g, y.a, y.cap, e1, fun V hV => ⟨?_, e5.still hV, hc V hV⟩⟩
    rw [← e3]; exact still_cell hV e2 rfl
  · obtain ⟨y, k, b, hy, hk, hb, hc⟩ := h.bytesC B (by omega) h1
    obtain ⟨g, z, e1, e2, e3, e4, e5, e6, e7⟩ := h.told hb
    subst e4
    have hr := h.held.snd.snd
    obtain ⟨_, ⟨_, _, ho1, ho2, _⟩, _⟩ := hr.use
    obtain ⟨hg, r1, f1, _, b1⟩ := ow_blk ho1.1 (by omega)
    have hwn : hn = wn := by rw [h.hl.1, h.wl]; exact h.kp.len
    obtain ⟨wg, r2, f2, _, b2⟩ := ow_blk ho2.1 (by omega)
    have c1 : wr.cell? ⟨hg, j, none⟩ = some (.int .i64 y) := b1.cell (by rw [List.getElem?_append_left (by rw [ints_length, ← h.hl.1]; exact h1)]; exact ints_get hy)
    have c2 : wr.cell? ⟨wg, j, none⟩ = some (.int .i64 k) := b2.cell (by
      rw [List.getElem?_append_left (by rw [ints_length, nums_length, ← h.wl, ← hwn]; exact h1)]
      exact ints_get (by unfold nums; rw [List.getElem?_map, hk]; rfl))
    refine ⟨y, k, z.xs, g, hg, wg, z.a, z.cap, e1, f1, f2, e6, fun V hV => ⟨still_cell hV c1 rfl, still_cell hV c2 rfl, ?_, e5.still hV, hc V hV⟩⟩
    rw [← e3]; exact still_cell hV e2 rfl

/-- What was read, and which: one more. -/
theorem kp_had {w w7 w8 : World} {A T Ww : Thing} {ha a8 : Option Addr} {hn hc c8 : Nat} {had : List Int} {y : Int} {o : Obj} (h : Held w w7 (A.sep (T.sep ((ownT 3 1 ha hn hc (ints had)).sep Ww))))
    (hown : w8.ownsRow 0 3 1 (.slice a8 (hn + 1) c8) (hn + 1) (ints (had ++ [y]))) (hg : (w7.alloc o).grownBy w8 (Value.slice ha hn hc).ownBlock)
    (hat : (Value.slice a8 (hn + 1) c8).ownBlock = (Value.slice ha hn hc).ownBlock ∨ (Value.slice a8 (hn + 1) c8).ownBlock = some (w7.alloc o).heap.size) : Held w w8 (A.sep (T.sep ((ownT 3 1 a8 (hn + 1) c8 (ints (had ++ [y]))).sep Ww))) := by
  have h0 := Held.swap (Held.turn (Held.assoc' h))
  exact Held.assoc (Held.turn (Held.swap (Held.grown h0 hown hg hat)))
theorem kp_which {w w7 w8 : World} {A T Hh : Thing} {ha a8 : Option Addr} {hn hc c8 : Nat} {had : List Int} {y : Int} {o : Obj} (h : Held w w7 (A.sep (T.sep (Hh.sep (ownT 3 1 ha hn hc (ints had))))))
    (hown : w8.ownsRow 0 3 1 (.slice a8 (hn + 1) c8) (hn + 1) (ints (had ++ [y]))) (hg : (w7.alloc o).grownBy w8 (Value.slice ha hn hc).ownBlock)
    (hat : (Value.slice a8 (hn + 1) c8).ownBlock = (Value.slice ha hn hc).ownBlock ∨ (Value.slice a8 (hn + 1) c8).ownBlock = some (w7.alloc o).heap.size) : Held w w8 (A.sep (T.sep (Hh.sep (ownT 3 1 a8 (hn + 1) c8 (ints (had ++ [y])))))) := by
  exact Held.assoc (Held.assoc (Held.grown (Held.assoc' (Held.assoc' h)) hown hg hat))
theorem own_of {w w' : World} {e : TypeId} {m : Nat} {ao : Option Addr} {n c : Nat} {xs : List Value} (h : Held w w' (ownT e m ao n c xs)) : w'.ownsRow 0 e m (.slice ao n c) n xs := by
  obtain ⟨_, h1, _⟩ := h.use
  exact h1.1
section
variable {PT : Nat → PM → Thing} {XT : Nat → Nat → RM → Thing} {w wr w' : World} {q x N K T J N' K' T' J' : Nat} {P : PM} {M : RM} {had : List Int} {which : List Nat} {ks : List (Sl UInt8)} {ta : Option Addr} {tn tc : Nat} {ha : Option Addr} {hn hc : Nat} {wa : Option Addr} {wn wc : Nat}
theorem KpAt.mono (h : KpAt PT XT w wr q x N K T J P M had which ks ta tn tc ha hn hc wa wn wc) (h1 : N ≤ N') (h2 : K ≤ K') (h3 : T ≤ T') (h4 : J ≤ J') : KpAt PT XT w wr q x N' K' T' J' P M had which ks ta tn tc ha hn hc wa wn wc :=
  ⟨h.held, h.kp, h.ok.mono h1, h.mok.mono h2, h.size, ⟨h.tl.1, by have := h.tl.2; omega⟩, ⟨h.hl.1, by have := h.hl.2; omega⟩, h.wl, h.each⟩
theorem KpAt.put (h : KpAt PT XT w wr q x N K T J P M had which ks ta tn tc ha hn hc wa wn wc) (h1 : Held w w' (((PT q P).sep (XT x q M)).sep (kpR ta tn tc ks ha hn hc had wa wn wc which))) : KpAt PT XT w w' q x N K T J P M had which ks ta tn tc ha hn hc wa wn wc :=
  ⟨h1, h.kp, h.ok, h.mok, h.size, h.tl, h.hl, h.wl, h.each⟩
theorem KpAt.readOk {a8 b8 : Option Addr} {c8 d8 u : Nat} (h : KpAt PT XT w wr q x N K T J P M had which ks ta tn tc ha hn hc wa hn wc) (he : M.getE (u : Int) = 0)
    (h1 : Held w w' (((PT q (ptRdP P M u)).sep (XT x q M)).sep ((ownT 33 1 ta tn tc (ks.map kvS)).sep ((ownT 3 1 a8 (hn + 1) c8 (ints (had ++ [M.getR (u : Int)]))).sep (ownT 3 1 b8 (hn + 1) d8 (ints (nums which ++ [(u : Int)]))))))) :
    KpAt PT XT w w' q x (N + 1) K T (J + 1) (ptRdP P M u) M (had ++ [M.getR (u : Int)]) (which ++ [u]) ks ta tn tc a8 (hn + 1) c8 b8 (hn + 1) d8 := by
  refine ⟨?_, h.kp.read he, ok_read h.ok _, h.mok, by rw [(sz_read P M (u : Int)).sz]; exact h.size, h.tl, ⟨by rw [List.length_append, ← h.hl.1]; rfl, by have := h.hl.2; omega⟩, by rw [List.length_append, ← h.wl]; rfl, h.each⟩
  unfold kpR
  rw [show nums (which ++ [u]) = nums which ++ [(u : Int)] from by simp [nums]]
  exact h1
end
end Go.Proofs.Ytbljjmehjkmjaaa
