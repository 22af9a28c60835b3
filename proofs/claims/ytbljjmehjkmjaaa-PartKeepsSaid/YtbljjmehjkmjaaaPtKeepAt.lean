/- PartKeeps: what lies there behind some rounds. No condition. -/
import Derived.Test.YtbljjmehjkmjaaaPtKeepClaim
import Derived.Test.YtbljjmehjkmjaaaPtWorks
import Derived.Test.YtbljjmehjkmjaaaBdAct
import Derived.Test.YtbljjmehjkmjaaaRoute
namespace Go.Proofs.Ytbljjmehjkmjaaa
open Go.RowKit
set_option linter.unusedVariables false
set_option linter.unusedSimpArgs false
set_option maxRecDepth 100000

abbrev kvS (k : Sl UInt8) : Value := .slice k.a k.len k.cap
/-- The rows of the statement's own: what was told, what was read, and which. -/
abbrev kpR (ta : Option Addr) (tn tc : Nat) (ks : List (Sl UInt8)) (ha : Option Addr) (hn hc : Nat) (had : List Int) (wa : Option Addr) (wn wc : Nat) (which : List Nat) : Thing :=
  (ownT 33 1 ta tn tc (ks.map kvS)).sep ((ownT 3 1 ha hn hc (ints had)).sep (ownT 3 1 wa wn wc (ints (nums which))))
structure KpAt (PT : Nat → PM → Thing) (XT : Nat → Nat → RM → Thing) (w wr : World) (q x N K T J : Nat) (P : PM) (M : RM) (had : List Int) (which : List Nat) (ks : List (Sl UInt8)) (ta : Option Addr) (tn tc : Nat) (ha : Option Addr) (hn hc : Nat) (wa : Option Addr) (wn wc : Nat) : Prop where
  held : Held w wr (((PT q P).sep (XT x q M)).sep (kpR ta tn tc ks ha hn hc had wa wn wc which))
  kp : Kp P M had which (ks.map (·.xs))
  ok : P.Ok N
  mok : M.Ok K
  size : P.size = 8
  tl : tn = ks.length ∧ tn ≤ T
  hl : hn = had.length ∧ hn ≤ J
  wl : wn = which.length
  each : ∀ y ∈ ks, SlW y.a y.len y.cap ∧ y.len = y.xs.length ∧ BytesAt w y.a y.xs
theorem KpAt.still {PT : Nat → PM → Thing} {XT : Nat → Nat → RM → Thing} {w wr w' : World} {q x N K T J : Nat} {P : PM} {M : RM} {had : List Int} {which : List Nat} {ks : List (Sl UInt8)} {ta : Option Addr} {tn tc : Nat} {ha : Option Addr} {hn hc : Nat} {wa : Option Addr} {wn wc : Nat} (h : KpAt PT XT w wr q x N K T J P M had which ks ta tn tc ha hn hc wa wn wc) (ht : Still wr w') :
    KpAt PT XT w w' q x N K T J P M had which ks ta tn tc ha hn hc wa wn wc := ⟨h.held.still ht, h.kp, h.ok, h.mok, h.size, h.tl, h.hl, h.wl, h.each⟩
/-- The cells of what was told. -/
theorem KpAt.told {PT : Nat → PM → Thing} {XT : Nat → Nat → RM → Thing} {w wr : World} {q x N K T J : Nat} {P : PM} {M : RM} {had : List Int} {which : List Nat} {ks : List (Sl UInt8)} {ta : Option Addr} {tn tc : Nat} {ha : Option Addr} {hn hc : Nat} {wa : Option Addr} {wn wc : Nat} (h : KpAt PT XT w wr q x N K T J P M had which ks ta tn tc ha hn hc wa wn wc) {j : Nat} {b : List UInt8} (hj : (ks.map (·.xs))[j]? = some b) :
    ∃ (g : Nat) (y : Sl UInt8), ta = some ⟨g, 0, none⟩ ∧ wr.cell? ⟨g, j, none⟩ = some (.slice y.a y.len y.cap) ∧ y.len = b.length ∧ y.xs = b ∧ BytesAt wr y.a b ∧ j < tn ∧ SlW y.a y.len y.cap := by
  rw [List.getElem?_map] at hj
  cases hy : ks[j]? with
  | none => rw [hy] at hj; cases hj
  | some y =>
    rw [hy] at hj
    obtain rfl : y.xs = b := Option.some.inj hj
    obtain ⟨e1, e2, e3⟩ := h.each y (List.mem_of_getElem? hy)
    have hjl : j < tn := by rw [h.tl.1]; exact get_lt hy
    obtain ⟨_, h'⟩ := (Held.turn h.held).use
    obtain ⟨⟨_, _, ho, _⟩, _⟩ := h'
    obtain ⟨g, r, e, _, hb⟩ := ow_blk ho.1 (by omega)
    exact ⟨g, y, e, hb.cell (by rw [List.getElem?_append_left (by rw [List.length_map]; exact get_lt hy), List.getElem?_map, hy]; rfl), e2, rfl, e3.still h.held.ground, hjl, e1⟩
/-- One more is told. -/
theorem kp_told {w w7 w8 : World} {A : Thing} {ta a8 : Option Addr} {tn tc c8 : Nat} {ks : List (Sl UInt8)} {y : Sl UInt8} {ha : Option Addr} {hn hc : Nat} {had : List Int} {wa : Option Addr} {wn wc : Nat} {which : List Nat} {o : Obj} (h : Held w w7 (A.sep (kpR ta tn tc ks ha hn hc had wa wn wc which)))
    (hown : w8.ownsRow 0 33 1 (.slice a8 (tn + 1) c8) (tn + 1) (ks.map kvS ++ [kvS y])) (hg : (w7.alloc o).grownBy w8 (Value.slice ta tn tc).ownBlock)
    (hat : (Value.slice a8 (tn + 1) c8).ownBlock = (Value.slice ta tn tc).ownBlock ∨ (Value.slice a8 (tn + 1) c8).ownBlock = some (w7.alloc o).heap.size) : Held w w8 (A.sep (kpR a8 (tn + 1) c8 (ks ++ [y]) ha hn hc had wa wn wc which)) := by
  have h1 := Held.grown (Held.swap (Held.turn h)) hown hg hat
  have h2 := Held.turn (Held.swap h1)
  unfold kpR
  rw [List.map_append]
  exact h2
theorem kp_row {w w7 : World} {A : Thing} {ta : Option Addr} {tn tc : Nat} {ks : List (Sl UInt8)} {ha : Option Addr} {hn hc : Nat} {had : List Int} {wa : Option Addr} {wn wc : Nat} {which : List Nat} (h : Held w w7 (A.sep (kpR ta tn tc ks ha hn hc had wa wn wc which))) : w7.ownsRow 0 33 1 (.slice ta tn tc) tn (ks.map kvS) := by
  obtain ⟨_, ⟨_, _, ho, _⟩, _⟩ := (Held.turn h).use
  exact ho.1
theorem kp_bytes {V w' : World} {b : List UInt8} {er : Int} {e : Ending} (h : GotBytes V b er e w') : ∃ a c, e = .returned (.tuple #[.slice a b.length c, .int .i64 er]) ∧ BytesAt w' a b ∧ Still V w' := by
  obtain ⟨a, c, h1, h2, h3⟩ := h
  exact ⟨a, c, h1, BytesAt.of_own h2, h3⟩
/-- A peek at a place of the window. -/
theorem KpAt.peekC {PT : Nat → PM → Thing} {XT : Nat → Nat → RM → Thing} (A : PartActs PT XT) {w wr : World} {q x N K T J : Nat} {P : PM} {M : RM} {had : List Int} {which : List Nat} {ks : List (Sl UInt8)} {ta : Option Addr} {tn tc : Nat} {ha : Option Addr} {hn hc : Nat} {wa : Option Addr} {wn wc : Nat} (h : KpAt PT XT w wr q x N K T J P M had which ks ta tn tc ha hn hc wa wn wc) (hN : N < 900000) (hK : K < 900000) {j : Nat} (h1 : M.h ≤ j) (h2 : j < M.tail) :
    ∃ b : List UInt8, (ks.map (·.xs))[j]? = some b ∧ ∀ V, Still wr V → Calls Try.prog 16 #[.pointer (some ⟨x, 0, none⟩), .int .i64 j] V fun e w' => ∃ a c, e = .returned (.tuple #[.slice a b.length c, .int .i64 0]) ∧ BytesAt w' a b ∧ Still V w' := by
  obtain ⟨g1, g2, g3, g4⟩ := h.kp.place h1 h2
  have hl := h.mok.low
  refine ⟨_, g3, fun V hV => ?_⟩
  obtain ⟨_, hp, _⟩ := (h.still hV).held.fst
  have := A.peek hp h.kp.inv h.ok h.mok hN hK (j : Int) ⟨by omega, by omega⟩
  rw [g1, show ptPk P M (j : Int) = (P.slt (M.getR (j : Int))).b from by unfold ptPk PM.bytes; rw [if_pos g1, if_neg (by simp [g2])]] at this
  exact this.mono fun e w' he => kp_bytes he
/-- The bytes of a handle that was read. -/
theorem KpAt.bytesC {PT : Nat → PM → Thing} {XT : Nat → Nat → RM → Thing} (B : PoolActs PT) {w wr : World} {q x N K T J : Nat} {P : PM} {M : RM} {had : List Int} {which : List Nat} {ks : List (Sl UInt8)} {ta : Option Addr} {tn tc : Nat} {ha : Option Addr} {hn hc : Nat} {wa : Option Addr} {wn wc : Nat} (h : KpAt PT XT w wr q x N K T J P M had which ks ta tn tc ha hn hc wa wn wc) (hN : N < 900000) {j : Nat} (h1 : j < hn) :
    ∃ (y : Int) (k : Nat) (b : List UInt8), had[j]? = some y ∧ which[j]? = some k ∧ (ks.map (·.xs))[k]? = some b ∧ ∀ V, Still wr V → Calls Try.prog 18 #[.pointer (some ⟨q, 0, none⟩), .int .i64 y] V fun e w' => ∃ a c, e = .returned (.tuple #[.slice a b.length c, .int .i64 0]) ∧ BytesAt w' a b ∧ Still V w' := by
  obtain ⟨y, hy⟩ := get_some (l := had) (i := j) (by rw [← h.hl.1]; exact h1)
  obtain ⟨k, hk⟩ := get_some (l := which) (i := j) (by rw [← h.kp.len, ← h.hl.1]; exact h1)
  have hm : y ∈ M.refs ++ had := List.mem_append_right _ (List.mem_of_getElem? hy)
  have he := h.kp.inv.live y hm
  have hs := h.kp.inv.small h.ok hN hm
  refine ⟨y, k, _, hy, hk, h.kp.was j y k hy hk, fun V hV => ?_⟩
  obtain ⟨_, hp, _⟩ := (h.still hV).held.fst
  obtain ⟨_, hpp, _⟩ := goes_fst hp
  have := B.bytes hpp h.ok (by omega) y ⟨by omega, by omega⟩
  rw [he, show P.bytes y = (P.slt y).b from by unfold PM.bytes; rw [if_neg (by simp [he])]] at this
  exact this.mono fun e w' he => kp_bytes he
/-- The read of one of them. -/
theorem KpAt.readC {PT : Nat → PM → Thing} {XT : Nat → Nat → RM → Thing} (A : PartActs PT XT) {w wr : World} {q x N K T J : Nat} {P : PM} {M : RM} {had : List Int} {which : List Nat} {ks : List (Sl UInt8)} {ta : Option Addr} {tn tc : Nat} {ha : Option Addr} {hn hc : Nat} {wa : Option Addr} {wn wc : Nat} (h : KpAt PT XT w wr q x N K T J P M had which ks ta tn tc ha hn hc wa wn wc) (hN : N < 900000) (hK : K < 900000) (u : Nat) (hu : u ≤ 1000) :
    Calls Try.prog 13 #[.pointer (some ⟨x, 0, none⟩), .int .i64 u] wr fun e w' => e = .returned (.tuple #[.int .i64 (M.getR u), .int .i64 (M.getE u)]) ∧ Held w w' (((PT q (ptRdP P M u)).sep (XT x q M)).sep (kpR ta tn tc ks ha hn hc had wa wn wc which)) :=
  Held.call h.held fun _ hp => A.read hp h.kp.inv h.ok h.mok hN hK (u : Int) ⟨by omega, by omega⟩
end Go.Proofs.Ytbljjmehjkmjaaa
