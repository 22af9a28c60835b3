/- Texts that lie next to one another, laid into one: each says what it holds. No condition but what each states. -/
import Derived.Test.YtmmkcfiecgpkpaaGreatBdKeep
import Derived.Test.YtmmkcfiecgpkpaaGreatBdWk
import Derived.Test.YtmmkcfiecgpkpaaGreatBdAct2
import Derived.Test.YtmmkcfiecgpkpaaGreatBdRoute

/- PartKeeps: what lies there behind some rounds. No condition. -/
namespace Go.Proofs.YtmmkcfiecgpkpaaGreat
open Go.RowKit
set_option linter.unusedVariables false
set_option linter.unusedSimpArgs false
set_option maxRecDepth 100000

abbrev kvS (k : Sl UInt8) : Value := .slice k.a k.len k.cap
/-- The rows of the statement's own: what was told, what was read, and which. -/
abbrev kpR (ta : Option Addr) (tn tc : Nat) (ks : List (Sl UInt8)) (ha : Option Addr) (hn hc : Nat) (had : List Int) (wa : Option Addr) (wn wc : Nat) (which : List Nat) : Thing :=
  (ownT 35 1 ta tn tc (ks.map kvS)).sep ((ownT 3 1 ha hn hc (ints had)).sep (ownT 3 1 wa wn wc (ints (nums which))))
structure KpAt (PT : Nat → PM → Thing) (XT : Nat → Nat → RM → Thing) (w wr : World) (q x N K T J : Nat) (P : PM) (M : RM) (had : List Int) (which : List Nat) (ks : List (Sl UInt8)) (ta : Option Addr) (tn tc : Nat) (ha : Option Addr) (hn hc : Nat) (wa : Option Addr) (wn wc : Nat) : Prop where
  held : Held w wr (((PT q P).sep (XT x q M)).sep (kpR ta tn tc ks ha hn hc had wa wn wc which))
  kp : Kp P M had which (ks.map (·.xs))
  ok : P.Ok N
  mok : M.Ok K
  size : P.size = 8
  tl : tn = ks.length ∧ tn ≤ T
  hl : hn = had.length ∧ hn ≤ J
  wl : wn = which.length
  each : ∀ y ∈ ks, SlW y.a y.len y.cap ∧ y.len = y.xs.length ∧ BytesAt w y.a y.xs
theorem KpAt.still {PT : Nat → PM → Thing} {XT : Nat → Nat → RM → Thing} {w wr w' : World} {q x N K T J : Nat} {P : PM} {M : RM} {had : List Int} {which : List Nat} {ks : List (Sl UInt8)} {ta : Option Addr} {tn tc : Nat} {ha : Option Addr} {hn hc : Nat} {wa : Option Addr} {wn wc : Nat} (h : KpAt PT XT w wr q x N K T J P M had which ks ta tn tc ha hn hc wa wn wc) (ht : Still wr w') :
    KpAt PT XT w w' q x N K T J P M had which ks ta tn tc ha hn hc wa wn wc := ⟨h.held.still ht, h.kp, h.ok, h.mok, h.size, h.tl, h.hl, h.wl, h.each⟩
/-- The cells of what was told. -/
theorem KpAt.told {PT : Nat → PM → Thing} {XT : Nat → Nat → RM → Thing} {w wr : World} {q x N K T J : Nat} {P : PM} {M : RM} {had : List Int} {which : List Nat} {ks : List (Sl UInt8)} {ta : Option Addr} {tn tc : Nat} {ha : Option Addr} {hn hc : Nat} {wa : Option Addr} {wn wc : Nat} (h : KpAt PT XT w wr q x N K T J P M had which ks ta tn tc ha hn hc wa wn wc) {j : Nat} {b : List UInt8} (hj : (ks.map (·.xs))[j]? = some b) :
    ∃ (g : Nat) (y : Sl UInt8), ta = some ⟨g, 0, none⟩ ∧ wr.cell? ⟨g, j, none⟩ = some (.slice y.a y.len y.cap) ∧ y.len = b.length ∧ y.xs = b ∧ BytesAt wr y.a b ∧ j < tn ∧ SlW y.a y.len y.cap := by
  rw [List.getElem?_map] at hj
  cases hy : ks[j]? with
  | none => rw [hy] at hj; cases hj
  | some y =>
    rw [hy] at hj
    obtain rfl : y.xs = b := Option.some.inj hj
    obtain ⟨e1, e2, e3⟩ := h.each y (List.mem_of_getElem? hy)
    have hjl : j < tn := by rw [h.tl.1]; exact get_lt hy
    obtain ⟨_, h'⟩ := (Held.turn h.held).use
    obtain ⟨⟨_, _, ho, _⟩, _⟩ := h'
    obtain ⟨g, r, e, _, hb⟩ := ow_blk ho.1 (by omega)
    exact ⟨g, y, e, hb.cell (by rw [List.getElem?_append_left (by rw [List.length_map]; exact get_lt hy), List.getElem?_map, hy]; rfl), e2, rfl, e3.still h.held.ground, hjl, e1⟩
/-- One more is told. -/
theorem kp_told {w w7 w8 : World} {A : Thing} {ta a8 : Option Addr} {tn tc c8 : Nat} {ks : List (Sl UInt8)} {y : Sl UInt8} {ha : Option Addr} {hn hc : Nat} {had : List Int} {wa : Option Addr} {wn wc : Nat} {which : List Nat} {o : Obj} (h : Held w w7 (A.sep (kpR ta tn tc ks ha hn hc had wa wn wc which)))
    (hown : w8.ownsRow 0 35 1 (.slice a8 (tn + 1) c8) (tn + 1) (ks.map kvS ++ [kvS y])) (hg : (w7.alloc o).grownBy w8 (Value.slice ta tn tc).ownBlock)
    (hat : (Value.slice a8 (tn + 1) c8).ownBlock = (Value.slice ta tn tc).ownBlock ∨ (Value.slice a8 (tn + 1) c8).ownBlock = some (w7.alloc o).heap.size) : Held w w8 (A.sep (kpR a8 (tn + 1) c8 (ks ++ [y]) ha hn hc had wa wn wc which)) := by
  have h1 := Held.grown (Held.swap (Held.turn h)) hown hg hat
  have h2 := Held.turn (Held.swap h1)
  unfold kpR
  rw [List.map_append]
  exact h2
theorem kp_row {w w7 : World} {A : Thing} {ta : Option Addr} {tn tc : Nat} {ks : List (Sl UInt8)} {ha : Option Addr} {hn hc : Nat} {had : List Int} {wa : Option Addr} {wn wc : Nat} {which : List Nat} (h : Held w w7 (A.sep (kpR ta tn tc ks ha hn hc had wa wn wc which))) : w7.ownsRow 0 35 1 (.slice ta tn tc) tn (ks.map kvS) := by
  obtain ⟨_, ⟨_, _, ho, _⟩, _⟩ := (Held.turn h).use
  exact ho.1
theorem kp_bytes {V w' : World} {b : List UInt8} {er : Int} {e : Ending} (h : GotBytes V b er e w') : ∃ a c, e = .returned (.tuple #[.slice a b.length c, .int .i64 er]) ∧ BytesAt w' a b ∧ Still V w' := by
  obtain ⟨a, c, h1, h2, h3⟩ := h
  exact ⟨a, c, h1, BytesAt.of_own h2, h3⟩
end Go.Proofs.YtmmkcfiecgpkpaaGreat

/- PartKeeps: what the calls of a round's end answer, wherever nothing of it has turned. No condition but that the program's partitions and pool keep their words. -/
namespace Go.Proofs.YtmmkcfiecgpkpaaGreat
open Go.RowKit
set_option linter.unusedVariables false
set_option linter.unusedSimpArgs false

/-- What was read, and which: one more. -/
theorem kp_had {w w7 w8 : World} {A T Ww : Thing} {ha a8 : Option Addr} {hn hc c8 : Nat} {had : List Int} {y : Int} {o : Obj} (h : Held w w7 (A.sep (T.sep ((ownT 3 1 ha hn hc (ints had)).sep Ww))))
    (hown : w8.ownsRow 0 3 1 (.slice a8 (hn + 1) c8) (hn + 1) (ints (had ++ [y]))) (hg : (w7.alloc o).grownBy w8 (Value.slice ha hn hc).ownBlock)
    (hat : (Value.slice a8 (hn + 1) c8).ownBlock = (Value.slice ha hn hc).ownBlock ∨ (Value.slice a8 (hn + 1) c8).ownBlock = some (w7.alloc o).heap.size) : Held w w8 (A.sep (T.sep ((ownT 3 1 a8 (hn + 1) c8 (ints (had ++ [y]))).sep Ww))) := by
  have h0 := Held.swap (Held.turn (Held.assoc' h))
  exact Held.assoc (Held.turn (Held.swap (Held.grown h0 hown hg hat)))
theorem kp_which {w w7 w8 : World} {A T Hh : Thing} {ha a8 : Option Addr} {hn hc c8 : Nat} {had : List Int} {y : Int} {o : Obj} (h : Held w w7 (A.sep (T.sep (Hh.sep (ownT 3 1 ha hn hc (ints had))))))
    (hown : w8.ownsRow 0 3 1 (.slice a8 (hn + 1) c8) (hn + 1) (ints (had ++ [y]))) (hg : (w7.alloc o).grownBy w8 (Value.slice ha hn hc).ownBlock)
    (hat : (Value.slice a8 (hn + 1) c8).ownBlock = (Value.slice ha hn hc).ownBlock ∨ (Value.slice a8 (hn + 1) c8).ownBlock = some (w7.alloc o).heap.size) : Held w w8 (A.sep (T.sep (Hh.sep (ownT 3 1 a8 (hn + 1) c8 (ints (had ++ [y])))))) := by
  exact Held.assoc (Held.assoc (Held.grown (Held.assoc' (Held.assoc' h)) hown hg hat))
theorem own_of {w w' : World} {e : TypeId} {m : Nat} {ao : Option Addr} {n c : Nat} {xs : List Value} (h : Held w w' (ownT e m ao n c xs)) : w'.ownsRow 0 e m (.slice ao n c) n xs := by
  obtain ⟨_, h1, _⟩ := h.use
  exact h1.1
section
variable {PT : Nat → PM → Thing} {XT : Nat → Nat → RM → Thing} {w wr w' : World} {q x N K T J N' K' T' J' : Nat} {P : PM} {M : RM} {had : List Int} {which : List Nat} {ks : List (Sl UInt8)} {ta : Option Addr} {tn tc : Nat} {ha : Option Addr} {hn hc : Nat} {wa : Option Addr} {wn wc : Nat}
theorem KpAt.mono (h : KpAt PT XT w wr q x N K T J P M had which ks ta tn tc ha hn hc wa wn wc) (h1 : N ≤ N') (h2 : K ≤ K') (h3 : T ≤ T') (h4 : J ≤ J') : KpAt PT XT w wr q x N' K' T' J' P M had which ks ta tn tc ha hn hc wa wn wc :=
  ⟨h.held, h.kp, h.ok.mono h1, h.mok.mono h2, h.size, ⟨h.tl.1, by have := h.tl.2; omega⟩, ⟨h.hl.1, by have := h.hl.2; omega⟩, h.wl, h.each⟩
theorem KpAt.put (h : KpAt PT XT w wr q x N K T J P M had which ks ta tn tc ha hn hc wa wn wc) (h1 : Held w w' (((PT q P).sep (XT x q M)).sep (kpR ta tn tc ks ha hn hc had wa wn wc which))) : KpAt PT XT w w' q x N K T J P M had which ks ta tn tc ha hn hc wa wn wc :=
  ⟨h1, h.kp, h.ok, h.mok, h.size, h.tl, h.hl, h.wl, h.each⟩
theorem KpAt.readOk {a8 b8 : Option Addr} {c8 d8 u : Nat} (h : KpAt PT XT w wr q x N K T J P M had which ks ta tn tc ha hn hc wa hn wc) (he : M.getE (u : Int) = 0)
    (h1 : Held w w' (((PT q (ptRdP P M u)).sep (XT x q M)).sep ((ownT 35 1 ta tn tc (ks.map kvS)).sep ((ownT 3 1 a8 (hn + 1) c8 (ints (had ++ [M.getR (u : Int)]))).sep (ownT 3 1 b8 (hn + 1) d8 (ints (nums which ++ [(u : Int)]))))))) :
    KpAt PT XT w w' q x (N + 1) K T (J + 1) (ptRdP P M u) M (had ++ [M.getR (u : Int)]) (which ++ [u]) ks ta tn tc a8 (hn + 1) c8 b8 (hn + 1) d8 := by
  refine ⟨?_, h.kp.read he, ok_read h.ok _, h.mok, by rw [(sz_read P M (u : Int)).sz]; exact h.size, h.tl, ⟨by rw [List.length_append, ← h.hl.1]; rfl, by have := h.hl.2; omega⟩, by rw [List.length_append, ← h.wl]; rfl, h.each⟩
  unfold kpR
  rw [show nums (which ++ [u]) = nums which ++ [(u : Int)] from by simp [nums]]
  exact h1
end
end Go.Proofs.YtmmkcfiecgpkpaaGreat
