/- Maps from places, or from numbers, to numbers in memory: what a look-up answers, what stores leave. No condition. -/
import Derived.Test.YtlnbgfglpdkifaaSamePl
import Derived.Test.YtlnbgfglpdkifaaThing
import Derived.MapKept
import Derived.Carry
import Derived.WideKeyEntry
import Derived.Test.YtlnbgfglpdkifaaBdTree
namespace Go.Proofs.Ytlnbgfglpdkifaa
open Go.RowKit
set_option linter.unusedVariables false
set_option linter.unusedSimpArgs false
set_option linter.unusedSectionVars false
set_option maxRecDepth 100000

section
variable {κ : Type} [DecidableEq κ] {t k : TypeId} {kv : κ → Value} {w : World} {b : Nat}

def ent (kv : κ → Value) (x : κ × Int × Nat) : MapEntry := ⟨kv x.1, .int .i64 x.2.1, x.2.2⟩
def fnd (a : κ) : List (κ × Int × Nat) → Nat → Option (Nat × Int × Nat)
  | [], _ => none
  | x :: r, i => if a = x.1 then some (i, x.2) else fnd a r (i + 1)
def fvl (y : Nat × Int × Nat) : Nat × Value := (y.1, .int .i64 y.2.1)
theorem fnd_some {a : κ} : ∀ {l : List (κ × Int × Nat)} {i : Nat} {y : Nat × Int × Nat}, fnd a l i = some y → ∃ j, y.1 = i + j ∧ l[j]? = some (a, y.2)
  | [], _, _, h => by cases h
  | x :: r, i, y, h => by
    rw [fnd] at h
    split at h
    · rename_i e; cases h; exact ⟨0, rfl, by rw [e]; rfl⟩
    · obtain ⟨j, e, h2⟩ := fnd_some h
      exact ⟨j + 1, by omega, h2⟩
theorem fnd_app {a : κ} : ∀ {l m : List (κ × Int × Nat)} {i : Nat}, fnd a (l ++ m) i = match fnd a l i with | some y => some y | none => fnd a m (i + l.length)
  | [], m, i => rfl
  | x :: r, m, i => by
    rw [List.cons_append, fnd, fnd]
    split
    · rfl
    · rw [fnd_app, List.length_cons, show i + 1 + r.length = i + (r.length + 1) by omega]
def setV (l : List (κ × Int × Nat)) (j : Nat) (v : Int) : List (κ × Int × Nat) := l.modify j fun x => (x.1, v, x.2.2)
def asc (l : List (κ × Int × Nat)) (a : κ) : Option Int := (fnd a l 0).map (·.2.1)
theorem asc_app (l : List (κ × Int × Nat)) (x : κ × Int × Nat) (a : κ) : asc (l ++ [x]) a = match asc l a with | some v => some v | none => if a = x.1 then some x.2.1 else none := by
  unfold asc
  rw [fnd_app]
  cases fnd a l 0 with
  | some y => rfl
  | none =>
    show Option.map _ (fnd a [x] _) = if a = x.1 then _ else _
    rw [fnd]
    split <;> rfl
theorem asc_set {a : κ} {v : Int} : ∀ {l : List (κ × Int × Nat)} {i j : Nat} {y : Int × Nat}, fnd a l i = some (i + j, y) → ∀ c, ((fnd c (setV l j v) i).map (·.2.1)) = if c = a then some v else (fnd c l i).map (·.2.1)
  | [], _, _, _, h => by cases h
  | x :: r, i, j, y, h => fun c => by
    rw [fnd] at h
    split at h
    · rename_i e
      obtain ⟨h1, h2⟩ : i = i + j ∧ x.2 = y := by simpa using h
      obtain rfl : j = 0 := by omega
      show Option.map _ (fnd c ((x.1, v, x.2.2) :: r) i) = _
      rw [fnd, fnd, e]
      split <;> rfl
    · rename_i e
      obtain ⟨j', e1, _⟩ := fnd_some h
      obtain ⟨j2, rfl⟩ : ∃ j2, j = j2 + 1 := ⟨j - 1, by simp only at e1; omega⟩
      show Option.map _ (fnd c (x :: setV r j2 v) i) = _
      rw [fnd, fnd]
      have := asc_set (v := v) (l := r) (i := i + 1) (j := j2) (y := y) (by rw [h]; congr 1; congr 1; omega) c
      by_cases h1 : c = x.1
      · rw [if_pos h1, if_pos h1, if_neg (fun e2 => e (e2.symm.trans h1))]
      · rw [if_neg h1, if_neg h1]; exact this

structure KeyK (t k : TypeId) (kv : κ → Value) : Prop where
  und : Try.prog.underlying t = some (.map k 3)
  check : ∀ em w a, (Instr.checkKey em 10000 k (kv a)).run Try.prog w = .ok () w
  find : ∀ w a (l : List (κ × Int × Nat)), (Instr.findKey k (kv a) (l.map (ent kv))).run Try.prog w = .ok ((fnd a l 0).map fvl) w
  stays : ∀ w a, (Instr.keyThatStays (kv a) (kv a)).run Try.prog w = .ok (kv a) w

/-- Block b is a map whose entries are these. -/
def MapAt (kv : κ → Value) (w : World) (b : Nat) (l : List (κ × Int × Nat)) : Prop :=
  ∃ clock, w.heap[b]? = some (.map (l.map (ent kv)).toArray clock) ∧ (l.map (·.2.2)).Nodup ∧ ∀ x ∈ l, x.2.2 < clock
def MapF (kv : κ → Value) (w : World) (b : Nat) (f : κ → Option Int) : Prop := ∃ l, MapAt kv w b l ∧ ∀ a, asc l a = f a

theorem MapF.made (w : World) : MapF kv (w.alloc (.map #[] 0)) w.heap.size (fun _ => none) :=
  ⟨[], ⟨0, World.alloc_heap_new w _, List.nodup_nil, fun _ h => by cases h⟩, fun _ => rfl⟩
theorem MapF.lt {f : κ → Option Int} (h : MapF kv w b f) : b < w.heap.size := by
  obtain ⟨l, ⟨c, hb, _⟩, _⟩ := h
  exact (Array.getElem?_eq_some_iff.1 hb).1
theorem MapF.keep {w' : World} {S : Nat → Prop} {f : κ → Option Int} (h : MapF kv w b f) (ht : Turned S w w') (hn : ¬ S b) : MapF kv w' b f := by
  have hlt := h.lt
  obtain ⟨l, ⟨c, hb, r⟩, hf⟩ := h
  exact ⟨l, ⟨c, (ht.block b hlt hn).trans hb, r⟩, hf⟩
theorem MapF.congr {f g : κ → Option Int} (h : MapF kv w b f) (e : ∀ a, f a = g a) : MapF kv w b g := by
  obtain ⟨l, h1, h2⟩ := h
  exact ⟨l, h1, fun a => (h2 a).trans (e a)⟩
theorem zeroInt16 (w : World) : (zeroValue 3).run Try.prog w = .ok (.int .i64 0) w := by kernel_rfl

theorem MapF.look {f : κ → Option Int} (K : KeyK t k kv) (h : MapF kv w b f) (a : κ) (c : Bool) :
    (Instr.lookup t (.map (some b)) (kv a) c).run Try.prog w = .ok (if c then .tuple #[.int .i64 ((f a).getD 0), .bool (f a).isSome] else .int .i64 ((f a).getD 0)) w := by
  obtain ⟨l, ⟨clk, hb, _⟩, hf⟩ := h
  have hf := hf a
  unfold asc at hf
  have hfd := K.find w a l
  cases hx : fnd a l 0 with
  | none =>
    rw [hx] at hf hfd
    simp [Instr.lookup, run_underlying K.und, MapKept.run_getObj_map hb, K.check, hfd, zeroInt16, Result.andThen, ← hf]
  | some y =>
    rw [hx] at hf hfd
    simp [Instr.lookup, run_underlying K.und, MapKept.run_getObj_map hb, K.check, hfd, fvl, Result.andThen, ← hf]

theorem ent_set (l : List (κ × Int × Nat)) (j : Nat) (v : Int) : ((l.map (ent kv)).modify j fun e => { e with val := .int .i64 v }) = (setV l j v).map (ent kv) := by
  apply List.ext_getElem?
  intro i
  unfold setV
  rw [List.getElem?_modify, List.getElem?_map, List.getElem?_map, List.getElem?_modify]
  by_cases h : j = i
  · cases l[i]? <;> simp [h, ent]
  · cases l[i]? <;> simp [h, ent]
theorem setV_born (l : List (κ × Int × Nat)) (j : Nat) (v : Int) : (setV l j v).map (·.2.2) = l.map (·.2.2) := by
  apply List.ext_getElem?
  intro i
  unfold setV
  rw [List.getElem?_map, List.getElem?_map, List.getElem?_modify]
  by_cases h : j = i
  · cases l[i]? <;> simp [h]
  · cases l[i]? <;> simp [h]
theorem asc_some {l : List (κ × Int × Nat)} {a : κ} {y : Nat × Int × Nat} (h : fnd a l 0 = some y) (v : Int) (c : κ) : asc (setV l y.1 v) c = if c = a then some v else asc l c := by
  obtain ⟨j, e, _⟩ := fnd_some h
  obtain ⟨y1, y2⟩ := y
  simp only [Nat.zero_add] at e
  subst e
  exact asc_set (l := l) (i := 0) (j := y1) (y := y2) (by rw [h, Nat.zero_add]) c
theorem turned_setObj {o : Obj} (hb : b < w.heap.size) : Turned (· = b) w (w.putObj b o) := putObj_since (l := b) o hb
theorem born_lt {l : List (κ × Int × Nat)} {v : Int} {j clk : Nat} (h : ∀ x ∈ l, x.2.2 < clk) : ∀ x ∈ setV l j v, x.2.2 < clk := by
  intro x hx
  have h1 : x.2.2 ∈ (setV l j v).map (·.2.2) := List.mem_map.2 ⟨x, hx, rfl⟩
  rw [setV_born] at h1
  obtain ⟨y, hy, e⟩ := List.mem_map.1 h1
  rw [← e]; exact h y hy

theorem MapF.stored {f : κ → Option Int} {l l2 : List (κ × Int × Nat)} {c2 : Nat} {a : κ} {v : Int} (hb : b < w.heap.size) (hf : ∀ a, asc l a = f a) (he : ∀ c, asc l2 c = if c = a then some v else asc l c) (h1 : (l2.map (·.2.2)).Nodup) (h2 : ∀ x ∈ l2, x.2.2 < c2) :
    MapF kv (w.putObj b (.map (l2.map (ent kv)).toArray c2)) b (fun c => if c = a then some v else f c) :=
  ⟨l2, ⟨c2, World.putObj_heap_same hb, h1, h2⟩, fun c => by rw [he c, hf c]⟩
theorem asc_push {l : List (κ × Int × Nat)} {a : κ} (h : fnd a l 0 = none) (v : Int) (n : Nat) (c : κ) : asc (l ++ [(a, v, n)]) c = if c = a then some v else asc l c := by
  rw [asc_app]
  by_cases e : c = a
  · subst e
    have : asc l c = none := by unfold asc; rw [h]; rfl
    rw [this, if_pos rfl]
  · rw [if_neg e]
    cases hx : asc l c with
    | some y => simp [e]
    | none => simp [e]
theorem nodup_push {l : List (κ × Int × Nat)} {a : κ} {v : Int} {clk : Nat} (h1 : (l.map (·.2.2)).Nodup) (h2 : ∀ x ∈ l, x.2.2 < clk) : ((l ++ [(a, v, clk)]).map (·.2.2)).Nodup ∧ ∀ x ∈ l ++ [(a, v, clk)], x.2.2 < clk + 1 := by
  refine ⟨?_, fun x hx => ?_⟩
  · rw [List.map_append]
    refine List.nodup_append.2 ⟨h1, by simp, fun x hx y hy e => ?_⟩
    obtain ⟨z, hz, rfl⟩ := List.mem_map.1 hx
    have := h2 z hz
    simp at hy
    omega
  · rcases List.mem_append.1 hx with hx | hx
    · have := h2 x hx; omega
    · simp at hx; subst hx; simp

theorem MapF.put {f : κ → Option Int} (K : KeyK t k kv) (h : MapF kv w b f) (a : κ) (v : Int) :
    ∃ w', (Instr.mapUpdate t (.map (some b)) (kv a) (.int .i64 v)).run Try.prog w = .ok () w' ∧ MapF kv w' b (fun c => if c = a then some v else f c) ∧ Turned (· = b) w w' := by
  have hlt := h.lt
  obtain ⟨l, ⟨clk, hb, h1, h2⟩, hf⟩ := h
  have hfd := K.find w a l
  cases hx : fnd a l 0 with
  | none =>
    rw [hx] at hfd
    have hp := nodup_push (a := a) (v := v) h1 h2
    refine ⟨w.putObj b (.map ((l ++ [(a, v, clk)]).map (ent kv)).toArray (clk + 1)), ?_, MapF.stored hlt hf (asc_push hx v clk) hp.1 hp.2, putObj_since _ hlt⟩
    simp [Instr.mapUpdate, run_underlying K.und, MapKept.run_getObj_map hb, K.check, hfd, MapKept.run_setObj_map _ hb, Result.andThen, World.putObj, ent]
  | some y =>
    rw [hx] at hfd
    obtain ⟨j, e, hj⟩ := fnd_some hx
    rw [Nat.zero_add] at e
    have hse := ent_set (kv := kv) l y.1 v
    refine ⟨w.putObj b (.map ((setV l y.1 v).map (ent kv)).toArray clk), ?_, MapF.stored hlt hf (asc_some hx v) (by rw [setV_born]; exact h1) (born_lt h2), putObj_since _ hlt⟩
    have hm : (l.map (ent kv)).modify y.1 (fun e => { e with key := kv a, val := .int .i64 v }) = (setV l y.1 v).map (ent kv) := by
      rw [← hse]
      apply List.ext_getElem?
      intro i
      rw [List.getElem?_modify, List.getElem?_modify]
      by_cases hi : y.1 = i
      · subst hi
        rw [List.getElem?_map, e, hj]; simp [ent]
      · simp [hi]
    simp [Instr.mapUpdate, run_underlying K.und, MapKept.run_getObj_map hb, K.check, hfd, fvl, e, hj, ent, K.stays, MapKept.run_setObj_map _ hb, Result.andThen, World.putObj]
    rw [← e, hm]

theorem MapAt.estore {l : List (κ × Int × Nat)} {a : κ} {y : Nat × Int × Nat} (h : MapAt kv w b l) (hx : fnd a l 0 = some y) (v : Int) :
    ∃ w2, (Instr.entryStore t (.map (some b)) (.int .i64 (y.2.2 : Nat)) (.int .i64 v)).run Try.prog w = .ok () w2 ∧ MapF kv w2 b (fun c => if c = a then some v else asc l c) ∧ Turned (· = b) w w2 := by
  obtain ⟨clk, hb, h1, h2⟩ := h
  obtain ⟨j, e, hj⟩ := fnd_some hx
  rw [Nat.zero_add] at e
  have hlt := (Array.getElem?_eq_some_iff.1 hb).1
  have hse := ent_set (kv := kv) l y.1 v
  refine ⟨w.putObj b (.map ((setV l y.1 v).map (ent kv)).toArray clk), ?_, MapF.stored hlt (fun _ => rfl) (asc_some hx v) (by rw [setV_born]; exact h1) (born_lt h2), putObj_since _ hlt⟩
  have hid := WideElems.findIdx_born (l := l.map (ent kv)) (j := y.1) (e0 := ent kv (a, y.2)) (by rw [List.map_map]; exact h1) (by rw [List.getElem?_map, e, hj]; rfl)
  simp only [ent] at hid
  simp [Instr.entryStore, MapKept.run_getObj_map hb, asInt, asIntOf, WideElems.findIdx_arr, hid, MapKept.run_setObj_map _ hb, Result.andThen, World.putObj]
  rw [hse]
theorem MapF.entry {f : κ → Option Int} (K : KeyK t k kv) (h : MapF kv w b f) (a : κ) (v : Int) :
    ∃ (w1 w2 : World) (st : Int), (Instr.mapEntry t (.map (some b)) (kv a)).run Try.prog w = .ok (.tuple #[.int .i64 ((f a).getD 0), .int .i64 st]) w1 ∧ MapF kv w1 b (fun c => if c = a then some ((f a).getD 0) else f c) ∧ Turned (· = b) w w1 ∧
      (Instr.entryStore t (.map (some b)) (.int .i64 st) (.int .i64 v)).run Try.prog w1 = .ok () w2 ∧ MapF kv w2 b (fun c => if c = a then some v else f c) ∧ Turned (· = b) w1 w2 := by
  have hlt := h.lt
  obtain ⟨l, ⟨clk, hb, h1, h2⟩, hf⟩ := h
  have hfd := K.find w a l
  have hfa := hf a
  unfold asc at hfa
  cases hx : fnd a l 0 with
  | none =>
    rw [hx] at hfd hfa
    have hp := nodup_push (a := a) (v := (0 : Int)) h1 h2
    have hy : fnd a (l ++ [(a, (0 : Int), clk)]) 0 = some (l.length, 0, clk) := by
      rw [fnd_app, hx]
      show fnd a [(a, (0 : Int), clk)] (0 + l.length) = _
      rw [fnd, if_pos rfl, Nat.zero_add]
    have hM : MapAt kv (w.putObj b (.map ((l ++ [(a, (0 : Int), clk)]).map (ent kv)).toArray (clk + 1))) b (l ++ [(a, 0, clk)]) := ⟨_, World.putObj_heap_same hlt, hp.1, hp.2⟩
    obtain ⟨w2, e2, m2, t2⟩ := MapAt.estore (t := t) hM hy v
    refine ⟨_, w2, clk, ?_, ⟨_, hM, fun c => ?_⟩, putObj_since _ hlt, e2, m2.congr (fun c => ?_), t2⟩
    · simp [Instr.mapEntry, run_underlying K.und, MapKept.run_getObj_map hb, K.check, hfd, zeroInt16, MapKept.run_setObj_map _ hb, Result.andThen, World.putObj, ent, goInt, ← hfa]
    · rw [asc_push hx, hf c, ← hfa]; rfl
    · rw [asc_push hx, hf c]
      by_cases e : c = a
      · rw [if_pos e, if_pos e]
      · rw [if_neg e, if_neg e, if_neg e]
  | some y =>
    rw [hx] at hfd hfa
    obtain ⟨j, e, hj⟩ := fnd_some hx
    rw [Nat.zero_add] at e
    obtain ⟨y1, yv, yb⟩ := y
    simp only at e hj
    subst e
    have hM : MapAt kv (w.putObj b (.map (l.map (ent kv)).toArray clk)) b l := ⟨_, World.putObj_heap_same hlt, h1, h2⟩
    obtain ⟨w2, e2, m2, t2⟩ := MapAt.estore (t := t) hM hx v
    have hfa2 : f a = some yv := by rw [← hfa]; rfl
    have hm : (l.map (ent kv)).modify y1 (fun e => { e with key := kv a }) = l.map (ent kv) := by
      apply List.ext_getElem?
      intro i
      rw [List.getElem?_modify]
      by_cases hi : y1 = i
      · subst hi
        rw [List.getElem?_map, hj]; simp [ent]
      · simp [hi]
    refine ⟨_, w2, yb, ?_, ⟨l, hM, fun c => ?_⟩, putObj_since _ hlt, e2, m2.congr (fun c => ?_), t2⟩
    · simp [Instr.mapEntry, run_underlying K.und, MapKept.run_getObj_map hb, K.check, hfd, fvl, hj, K.stays, MapKept.run_setObj_map _ hb, Result.andThen, World.putObj, goInt, hfa2]
      simp [ent, hj, K.stays, MapKept.run_setObj_map _ hb, Result.andThen]
      rw [hm]
    · rw [hf c]
      show f c = if c = a then some ((f a).getD 0) else f c
      by_cases e : c = a
      · rw [if_pos e, e, hfa2]; rfl
      · rw [if_neg e]
    · rw [hf c]
end

/-! ### The keys: places, numbers -/
def plV (p : Plc) : Value := .agg #[.int .i64 p.1, .int .i64 p.2]
def inV (x : Int) : Value := .int .i64 x
theorem ckInt (em : Bool) (n : Nat) (x : Int) (w : World) : (Instr.checkKey em (n + 1) 3 (.int .i64 x)).run Try.prog w = .ok () w := MapKept.run_checkKey Try.underlying3 (by trivial) em n
theorem keysPl : KeyK 56 32 plV where
  und := Try.underlying56
  check em w a := by
    have u3 := Try.underlying3
    have a3 := Try.isAgg3
    have z3 := Try.sizeOf3
    have c1 := ckInt em 9998
    rw [show (10000 : Nat) = 9998 + 1 + 1 from rfl, Instr.checkKey]
    simp only [plV, Sem.run_bind, run_underlying Try.underlying32, Result.andThen_ok]
    go_simp
  find w a l := by
    have hn : ∀ (l : List (Plc × Int × Nat)) i, (Instr.findAsking 32 (plV a) (l.map (ent plV)) i).run Try.prog w = .ok ((fnd a l i).map fvl) w := by
      intro l
      induction l with
      | nil => intro i; rfl
      | cons x r ih =>
        intro i
        obtain ⟨⟨x1, x2⟩, v, n⟩ := x
        obtain ⟨a1, a2⟩ := a
        have he : (Op.equalIn Op.maxDepth 32 (.agg #[.int .i64 a1, .int .i64 a2]) (.agg #[.int .i64 x1, .int .i64 x2])).run Try.prog w = .ok (decide (a1 = x1 ∧ a2 = x2)) w := pl16_eqIn a1 a2 x1 x2 w
        rw [List.map_cons, Instr.findAsking, fnd]
        simp only [Sem.run_bind, ent, plV, Op.equal, he, Result.andThen_ok]
        by_cases h : a1 = x1 ∧ a2 = x2
        · have hd : decide (a1 = x1 ∧ a2 = x2) = true := decide_eq_true h
          rw [hd, if_pos rfl, if_pos (by rw [h.1, h.2])]
          rfl
        · have hd : decide (a1 = x1 ∧ a2 = x2) = false := decide_eq_false h
          rw [hd, if_neg Bool.false_ne_true, if_neg (fun e => h (Prod.mk.inj e))]
          exact ih (i + 1)
    have hf := hn l 0
    rw [Instr.findKey]
    simp only [Sem.run_bind, run_underlying Try.underlying32, Result.andThen_ok]
    cases l with
    | nil => rfl
    | cons x r =>
      rw [List.map_cons, Instr.findNow]
      exact hf
  stays w a := by
    simp [Instr.keyThatStays, plV, Instr.sameBits]
theorem keysIn : KeyK 52 3 inV where
  und := Try.underlying52
  check em w a := MapKept.run_checkKey Try.underlying3 (by trivial) em 9999
  find w a l := by
    have hn : ∀ (l : List (Int × Int × Nat)) i, Instr.findNow (.int .i64) (inV a) (l.map (ent inV)) i = some ((fnd a l i).map fvl) := by
      intro l
      induction l with
      | nil => intro i; rfl
      | cons x r ih =>
        intro i
        rw [List.map_cons, Instr.findNow, fnd]
        simp only [ent, inV, Instr.sameNow, if_true]
        by_cases h : a = x.1
        · rw [if_pos h, show (a == x.1) = true from beq_iff_eq.2 h]; rfl
        · rw [if_neg h, show (a == x.1) = false from beq_eq_false_iff_ne.2 h]; exact ih (i + 1)
    exact MapKept.run_findKey Try.underlying3 (hn l 0)
  stays w a := MapKept.run_keyThatStays (d := .int .i64) (by trivial)
end Go.Proofs.Ytlnbgfglpdkifaa
