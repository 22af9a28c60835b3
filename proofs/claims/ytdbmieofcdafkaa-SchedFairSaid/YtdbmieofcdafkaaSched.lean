/- A machine of sessions in memory, and what the small calls of package sched tell of it: is a session over, its place, its registers, who has a cell. No condition but that the machine was made by Make. -/
import Derived.Test.YtdbmieofcdafkaaMach
import Derived.Test.YtdbmieofcdafkaaRead
import Derived.Test.YtdbmieofcdafkaaCellAll
import Derived.BigQuiet
namespace Go.Proofs.Ytdbmieofcdafkaa
open Go.RowKit
set_option linter.unusedVariables false
set_option maxRecDepth 100000

def insEnc (i : Ins) : List Value := [.int .i64 i.op, .int .i64 i.cell, .int .i64 i.a, .int .i64 i.b]
theorem insEnc_len (i : Ins) : (insEnc i).length = 4 := rfl
def Ins.val (i : Ins) : Value := .agg #[.int .i64 i.op, .int .i64 i.cell, .int .i64 i.a, .int .i64 i.b]

/-- Where a machine lies. -/
structure Lay where
  lo : Nat
  hi : Nat
  hb : Nat
  mb : Nat
  ab : Nat
  sb : Nat
  cap : Nat
  ps : List Nat

/-- The blocks that a step may turn. -/
def Lay.W (L : Lay) (b : Nat) : Prop := b = L.ab ∨ b ∈ L.ps

def sesHd (a : Option Addr) (c : Nat) (s : Sess) : List Value := .slice a s.p.length c :: .int .i64 s.pc :: ints s.r

def SesAt (L : Lay) (w : World) (p : Nat) (s : Sess) : Prop :=
  ∃ (a : Option Addr) (c : Nat), Blk w p (sesHd a c s) 73 ∧ RowAt insEnc 4 w a s.p ∧ ∀ x, a = some x → s.p ≠ [] → L.lo ≤ x.block ∧ x.block < L.hi ∧ ¬ L.W x.block

structure SM (w : World) (L : Lay) (M : Mach) : Prop where
  hd : Blk w L.hb [.pointer (some ⟨L.mb, 0, none⟩), .slice (some ⟨L.sb, 0, none⟩) M.ss.length L.cap] 65
  mem : Mem w L.mb L.ab M.st
  len : L.ps.length = M.ss.length
  slot : ∀ k p : Nat, L.ps[k]? = some p → w.cell? ⟨L.sb, k, none⟩ = some (.pointer (some ⟨p, 0, none⟩))
  ses : ∀ (k p : Nat) (s : Sess), L.ps[k]? = some p → M.ss[k]? = some s → SesAt L w p s
  inj : ∀ j k p : Nat, L.ps[j]? = some p → L.ps[k]? = some p → j = k
  n1 : L.hb ∉ L.ps
  n2 : L.mb ∉ L.ps
  n3 : L.ab ∉ L.ps
  n4 : L.sb ∉ L.ps
  n5 : L.hb ≠ L.ab
  n6 : L.sb ≠ L.ab
  ok : MachOk M
  i1 : L.lo ≤ L.hb ∧ L.hb < L.hi
  i2 : L.lo ≤ L.mb ∧ L.mb < L.hi
  i3 : L.lo ≤ L.ab ∧ L.ab < L.hi
  i4 : L.lo ≤ L.sb ∧ L.sb < L.hi
  i5 : ∀ p ∈ L.ps, L.lo ≤ p ∧ p < L.hi
  cap : M.ss.length ≤ L.cap

variable {w w' : World} {L : Lay} {M : Mach}

theorem RowAt.turned {α : Type} {enc : α → List Value} {m : Nat} {S : Nat → Prop} {xs : List α} {a : Option Addr} (h : RowAt enc m w a xs) (ht : Turned S w w') (hs : ∀ x, a = some x → xs ≠ [] → ¬ S x.block) : RowAt enc m w' a xs := by
  intro i x hx
  obtain ⟨b, o, rfl, hc⟩ := h i x hx
  refine ⟨b, o, rfl, fun j v hv => ?_⟩
  rw [ht.cell (p := ⟨b, o + (i * m + j), none⟩) (cell_lt (hc j v hv)) (hs ⟨b, o, none⟩ rfl (fun e => by subst e; simp at hx))]
  exact hc j v hv

theorem SM.W_in (H : SM w L M) {b : Nat} (h : L.W b) : L.lo ≤ b ∧ b < L.hi := by
  rcases h with rfl | h
  · exact H.i3
  · exact H.i5 b h

/-- What turns beside it leaves it as it is. -/
theorem SM.turned {S : Nat → Prop} (H : SM w L M) (ht : Turned S w w') (hS : ∀ b, S b → b < L.lo ∨ L.hi ≤ b) : SM w' L M := by
  have key : ∀ b, L.lo ≤ b ∧ b < L.hi → ¬ S b := fun b hb hs => by have := hS b hs; omega
  refine ⟨H.hd.turned ht (key _ H.i1), H.mem.turned ht (key _ H.i2) (key _ H.i3), H.len, ?_, ?_, H.inj, H.n1, H.n2, H.n3, H.n4, H.n5, H.n6, H.ok, H.i1, H.i2, H.i3, H.i4, H.i5, H.cap⟩
  · intro k p hp
    have := H.slot k p hp
    rw [ht.cell (p := ⟨L.sb, k, none⟩) (cell_lt this) (key _ H.i4)]; exact this
  · intro k p s hp hs
    obtain ⟨a, c, hb, hr, hx⟩ := H.ses k p s hp hs
    refine ⟨a, c, hb.turned ht (key _ (H.i5 p (List.mem_of_getElem? hp))), hr.turned ht (fun x e hne => ?_), hx⟩
    obtain ⟨h1, h2, _⟩ := hx x e hne
    exact key _ ⟨h1, h2⟩

theorem SM.still (H : SM w L M) (ht : Still w w') : SM w' L M := H.turned ht (fun _ h => h.elim)

/-- One session, and the cells, become others. -/
theorem SM.upd (H : SM w L M) {k p : Nat} {s s' : Sess} {st' : List Cel} (hk : L.ps[k]? = some p) (hs : M.ss[k]? = some s)
    (hT : Turned (fun b => b = L.ab ∨ b = p) w w') (hM : Mem w' L.mb L.ab st') (hp : s'.p = s.p)
    (hB : ∀ a c, Blk w p (sesHd a c s) 73 → Blk w' p (sesHd a c s') 73) (hok : MachOk ⟨st', M.ss.set k s'⟩) : SM w' L ⟨st', M.ss.set k s'⟩ := by
  have hpm : p ∈ L.ps := List.mem_of_getElem? hk
  have nW : ∀ b, ¬ L.W b → ¬ (b = L.ab ∨ b = p) := fun b hb h => hb (h.elim .inl (fun e => .inr (e ▸ hpm)))
  have hl : (M.ss.set k s').length = M.ss.length := List.length_set
  refine ⟨?_, hM, by rw [hl]; exact H.len, ?_, ?_, H.inj, H.n1, H.n2, H.n3, H.n4, H.n5, H.n6, hok, H.i1, H.i2, H.i3, H.i4, H.i5, by rw [hl]; exact H.cap⟩
  · rw [hl]; exact H.hd.turned hT (nW _ (fun h => h.elim H.n5 H.n1))
  · intro j q hq
    have := H.slot j q hq
    rw [hT.cell (p := ⟨L.sb, j, none⟩) (cell_lt this) (nW _ (fun h => h.elim H.n6 H.n4))]; exact this
  · intro j q t hq ht
    by_cases e : j = k
    · subst e
      obtain rfl : q = p := by rw [hk] at hq; exact (Option.some.inj hq).symm
      obtain rfl : t = s' := by
        have := get_lt hs
        simp [this] at ht; exact ht.symm
      obtain ⟨a, c, hb, hr, hx⟩ := H.ses j q s hq hs
      refine ⟨a, c, hB a c hb, ?_, ?_⟩
      · rw [hp]; exact hr.turned hT (fun x e hne => nW _ (hx x e hne).2.2)
      · rw [hp]; exact hx
    · have ht' : M.ss[j]? = some t := by rwa [List.getElem?_set_ne (fun h => e h.symm)] at ht
      obtain ⟨a, c, hb, hr, hx⟩ := H.ses j q t hq ht'
      refine ⟨a, c, hb.turned hT (fun h => ?_), hr.turned hT (fun x e hne => nW _ (hx x e hne).2.2), hx⟩
      rcases h with h | h
      · exact H.n3 (h ▸ List.mem_of_getElem? hq)
      · subst h; exact e (H.inj j k _ hq hk)

theorem SM.cellM (H : SM w L M) : w.cell? ⟨L.hb, 0, none⟩ = some (.pointer (some ⟨L.mb, 0, none⟩)) := H.hd.cell rfl
theorem SM.cellS (H : SM w L M) : w.cell? ⟨L.hb, 1, none⟩ = some (.slice (some ⟨L.sb, 0, none⟩) M.ss.length L.cap) := H.hd.cell rfl
theorem SM.pick (H : SM w L M) {k : Nat} {s : Sess} (hs : M.ss[k]? = some s) : ∃ p, L.ps[k]? = some p ∧ SesAt L w p s := by
  obtain ⟨p, hp⟩ := get_some (l := L.ps) (i := k) (by rw [H.len]; exact get_lt hs)
  exact ⟨p, hp, H.ses k p s hp hs⟩

theorem within_any (n m : Int) (w : World) :
    Calls Try.prog 77 #[.int .i64 n, .int .i64 m] w fun e w' => e = .returned (.bool (inB n m)) ∧ w = w' := by
  unfold inB
  by_cases h0 : 0 ≤ n
  · by_cases h1 : n < m
    · rw [decide_eq_true h0, decide_eq_true h1]
      go_enter Try.func77, Try.ntmps77
      go_wp2
      go_ret
      exact ⟨rfl, rfl⟩
    · have h1' : decide (n < m) = false := decide_eq_false h1
      rw [decide_eq_true h0, h1']
      go_enter Try.func77, Try.ntmps77
      go_wp2
      go_ret
      exact ⟨rfl, rfl⟩
  · have h0' : decide (0 ≤ n) = false := decide_eq_false h0
    rw [h0']
    go_enter Try.func77, Try.ntmps77
    go_wp2
    go_ret
    exact ⟨rfl, rfl⟩

theorem isRegister_any (n : Int) (w : World) :
    Calls Try.prog 76 #[.int .i64 n] w fun e w' => e = .returned (.bool (regB n)) ∧ w = w' := by
  go_enter Try.func76, Try.ntmps76
  go_wp2_with fail
  refine (within_any n 4 _).mono ?_
  rintro e w' ⟨rfl, rfl⟩
  go_wp2_with fail
  go_ret
  exact ⟨rfl, rfl⟩

theorem session_some (H : SM w L M) {k p : Nat} (hp : L.ps[k]? = some p) :
    Calls Try.prog 63 #[.pointer (some ⟨L.hb, 0, none⟩), .int .i64 k] w fun e w' => e = .returned (.pointer (some ⟨p, 0, none⟩)) ∧ w = w' := by
  have h1 := H.cellS
  have h2 := H.slot k p hp
  have h3 : k < M.ss.length := by rw [← H.len]; exact get_lt hp
  have hi : inB (k : Int) (M.ss.length : Int) = true := by unfold inB; simp; omega
  have HW := Lib.hid (within_any (k : Int) (M.ss.length : Int) w)
  rw [hi] at HW
  clear hp H hi
  generalize M.ss.length = n at *
  go_enter Try.func63, Try.ntmps63
  go_wp2_with fail
  refine HW.out.mono ?_
  rintro e w' ⟨rfl, rfl⟩
  go_wp2_with fail
  go_ret
  exact ⟨rfl, rfl⟩

theorem session_none (H : SM w L M) {k : Int} (hk : ¬ (0 ≤ k ∧ k < M.ss.length)) :
    Calls Try.prog 63 #[.pointer (some ⟨L.hb, 0, none⟩), .int .i64 k] w fun e w' => e = .returned (.pointer none) ∧ w = w' := by
  have h1 := H.cellS
  have hi : inB k (M.ss.length : Int) = false := by
    unfold inB
    by_cases h0 : 0 ≤ k
    · rw [show decide (k < (M.ss.length : Int)) = false from decide_eq_false (fun h => hk ⟨h0, h⟩), Bool.and_false]
    · rw [show decide (0 ≤ k) = false from decide_eq_false h0, Bool.false_and]
  have HW := Lib.hid (within_any k (M.ss.length : Int) w)
  rw [hi] at HW
  clear H hi hk
  generalize M.ss.length = n at *
  go_enter Try.func63, Try.ntmps63
  go_wp2_with fail
  refine HW.out.mono ?_
  rintro e w' ⟨rfl, rfl⟩
  go_wp2_with fail
  go_ret
  exact ⟨rfl, rfl⟩

theorem goesOn_at {p : Nat} {s : Sess} (h : SesAt L w p s) :
    Calls Try.prog 64 #[.pointer (some ⟨p, 0, none⟩)] w fun e w' => e = .returned (.bool s.goes) ∧ ∃ n, w' = w.drewN n := by
  obtain ⟨a, c, hb, _, _⟩ := h
  have h1 : w.cell? ⟨p, 0, none⟩ = some (.slice a s.p.length c) := hb.cell rfl
  have h2 : w.cell? ⟨p, 1, none⟩ = some (.int .i64 s.pc) := hb.cell rfl
  have HG := Lib.hid (show s.goes = decide ((s.pc : Int) < (s.p.length : Int)) by unfold Sess.goes; rw [decide_eq_decide]; omega)
  clear hb
  generalize s.p.length = n at *
  generalize s.pc = q at *
  go_enter Try.func64, Try.ntmps64
  go_wp2
  go_quiet (fail)
  go_wp2
  go_ret
  exact ⟨ret_bool (by rw [HG.out, decide_eq_decide]; omega), _, rfl⟩

theorem goes_q {w : World} {n : Nat} {p : Nat} {s : Sess} (h : SesAt L w p s) :
    Calls Try.prog 64 #[.pointer (some ⟨p, 0, none⟩)] (w.drewN n) fun e w' => e = .returned (.bool s.goes) ∧ ∃ m, w' = w.drewN m :=
  Calls.quiet_of ((goesOn_at (L := L) (w := w.drewN n) h).mono fun _ _ ⟨h1, h2⟩ => ⟨h1, h2⟩)

theorem Mach.get_none {M : Mach} {k : Int} (h : M.get k = none) : ¬ (0 ≤ k ∧ k < M.ss.length) := by
  unfold Mach.get at h
  intro hk
  rw [if_pos hk.1, List.getElem?_eq_none_iff] at h
  omega

theorem over_any (H : SM w L M) (k : Int) :
    Calls Try.prog 41 #[.pointer (some ⟨L.hb, 0, none⟩), .int .i64 k] w fun e w' => e = .returned (.bool (M.over k)) ∧ ∃ n, w' = w.drewN n := by
  cases hg : M.get k with
  | none =>
    have HS := Lib.hid (session_none H (Mach.get_none hg))
    rw [show M.over k = true by unfold Mach.over; rw [hg]]
    clear H hg
    go_enter Try.func41, Try.ntmps41
    go_wp2_with fail
    refine HS.out.mono ?_
    rintro e w' ⟨rfl, rfl⟩
    go_wp2_with fail
    go_ret
    exact ⟨rfl, 0, rfl⟩
  | some s =>
    obtain ⟨h0, h1, h2⟩ := Mach.get_some hg
    obtain ⟨p, hp, hses⟩ := H.pick h2
    obtain ⟨j, rfl⟩ : ∃ j : Nat, k = j := ⟨k.toNat, by omega⟩
    rw [Int.toNat_natCast] at hp
    have HS := Lib.hid (session_some H hp)
    have HG := Lib.hid (goesOn_at hses)
    have HO := Lib.hid (show M.over j = !s.goes by unfold Mach.over; rw [hg])
    clear H hg hses h0 h1 h2 hp
    generalize s.goes = g at *
    go_enter Try.func41, Try.ntmps41
    go_wp2_with fail
    refine HS.out.mono ?_
    rintro e w' ⟨rfl, rfl⟩
    go_wp2_with fail
    refine HG.out.mono ?_
    rintro e w' ⟨rfl, n, rfl⟩
    go_wp2_with fail
    go_ret
    exact ⟨ret_bool (by rw [HO.out]), _, rfl⟩

def atOf (M : Mach) (k : Int) : Int := ((M.get k).map fun s => (s.pc : Int)).getD 0
def regsOf (M : Mach) (k : Int) : List Int := ((M.get k).map fun s => s.r).getD [0, 0, 0, 0]

theorem at_any (H : SM w L M) (k : Int) :
    Calls Try.prog 50 #[.pointer (some ⟨L.hb, 0, none⟩), .int .i64 k] w fun e w' => e = .returned (.int .i64 (atOf M k)) ∧ w = w' := by
  cases hg : M.get k with
  | none =>
    have HS := Lib.hid (session_none H (Mach.get_none hg))
    rw [show atOf M k = 0 by unfold atOf; rw [hg]; rfl]
    clear H hg
    go_enter Try.func50, Try.ntmps50
    go_wp2_with fail
    refine HS.out.mono ?_
    rintro e w' ⟨rfl, rfl⟩
    go_wp2_with fail
    go_ret
    exact ⟨rfl, rfl⟩
  | some s =>
    obtain ⟨h0, h1, h2⟩ := Mach.get_some hg
    obtain ⟨p, hp, a, c, hb, _, _⟩ := H.pick h2
    obtain ⟨j, rfl⟩ : ∃ j : Nat, k = j := ⟨k.toNat, by omega⟩
    rw [Int.toNat_natCast] at hp
    have HS := Lib.hid (session_some H hp)
    have hc : w.cell? ⟨p, 1, none⟩ = some (.int .i64 s.pc) := hb.cell rfl
    rw [show atOf M j = s.pc by unfold atOf; rw [hg]; rfl]
    clear H hg h0 h1 h2 hp hb
    generalize s.pc = q at *
    go_enter Try.func50, Try.ntmps50
    go_wp2_with fail
    refine HS.out.mono ?_
    rintro e w' ⟨rfl, rfl⟩
    go_wp2_with fail
    go_ret
    exact ⟨rfl, rfl⟩

theorem cells_any (H : SM w L M) :
    Calls Try.prog 40 #[.pointer (some ⟨L.hb, 0, none⟩)] w fun e W' => ∃ nb, e = .returned (.slice (some ⟨nb, 0, none⟩) M.st.length M.st.length) ∧ Blk W' nb (ints (vs M.st)) 3 ∧ w.heap.size ≤ nb ∧ Still w W' := by
  have hc := H.cellM
  have HA := Lib.hid (all_ok H.mem)
  clear H
  generalize M.st.length = n at *
  go_enter Try.func40, Try.ntmps40
  go_wp2_with fail
  refine HA.out.mono ?_
  rintro e w' ⟨nb, rfl, hB, hn, hT⟩
  go_wp2_with fail
  go_ret
  exact ⟨nb, rfl, hB, hn, hT⟩

def holdOf (M : Mach) (i : Int) : Int := if 0 ≤ i then ((M.st[i.toNat]?).map (·.h)).getD (-1) else -1

theorem holder_any (H : SM w L M) (i : Int) :
    Calls Try.prog 52 #[.pointer (some ⟨L.hb, 0, none⟩), .int .i64 i] w fun e w' => e = .returned (.int .i64 (holdOf M i)) ∧ w = w' := by
  have hc := H.cellM
  have key : Calls Try.prog 73 #[.pointer (some ⟨L.mb, 0, none⟩), .int .i64 i] w fun e w' => e = .returned (.int .i64 (holdOf M i)) ∧ w = w' := by
    unfold holdOf
    by_cases hi : InR M.st i
    · obtain ⟨h0, h1⟩ := hi
      obtain ⟨j, rfl⟩ : ∃ j : Nat, i = j := ⟨i.toNat, by omega⟩
      obtain ⟨d, hd⟩ := get_some (l := M.st) (i := j) (by omega)
      rw [if_pos (by omega), Int.toNat_natCast, hd]
      exact holder_ok H.mem hd
    · have : (if 0 ≤ i then ((M.st[i.toNat]?).map (·.h)).getD (-1) else -1) = (-1 : Int) := by
        unfold InR at hi
        split
        · rw [List.getElem?_eq_none (by omega)]; rfl
        · rfl
      rw [this]
      exact holder_arg H.mem hi
  have HK := Lib.hid key
  clear H key
  generalize holdOf M i = z at *
  go_enter Try.func52, Try.ntmps52
  go_wp2_with fail
  refine HK.out.mono ?_
  rintro e w' ⟨rfl, rfl⟩
  go_wp2_with fail
  go_ret
  exact ⟨rfl, rfl⟩

end Go.Proofs.Ytdbmieofcdafkaa
