/- What the statements of layer 11 want of the program's calls, told of the plain routes; the chapter's example. The words are shown of the program in another text. No condition. -/
import Derived.Test.YtdblhflebaffcaaRouteFew
import Derived.Test.YtdblhflebaffcaaRouteSpr
namespace Go.Proofs.Ytdblhflebaffcaa
open Go.RowKit
set_option linter.unusedVariables false
set_option linter.unusedSimpArgs false
set_option maxRecDepth 100000

structure RouteApi : Prop where
  of : ∀ (n : Int) (l : List UInt8) (w : World) (ao : Option Addr) (m cap : Nat), m = l.length → BytesAt w ao l → SlW ao m cap → i64w n → m ≤ 100 →
    Calls Try.prog 14 #[.int .i64 n, .slice ao m cap] w fun e w' => e = .returned (.tuple #[.int .i64 (rtP n l), .int .i64 (rtE n l)]) ∧ Still w w'
  same : ∀ (n : Int) (a b : List UInt8) (w : World) (ao bo : Option Addr) (p q ca cb : Nat), p = a.length → q = b.length → BytesAt w ao a → BytesAt w bo b → SlW ao p ca → SlW bo q cb → i64w n → p ≤ 100 → q ≤ 100 →
    Calls Try.prog 17 #[.int .i64 n, .slice ao p ca, .slice bo q cb] w fun e w' => e = .returned (.tuple #[.bool (smB n a b), .int .i64 (smE n a b)]) ∧ Still w w'
  sort : ∀ (n : Int) (ks : List (Sl UInt8)) (w : World) (ao : Option Addr) (m cap : Nat), m = ks.length → KysAt w ao ks → SlW ao m cap → i64w n → m ≤ 300 → (∀ k ∈ ks, k.xs.length ≤ 100) →
    Calls Try.prog 8 #[.int .i64 n, .slice ao m cap] w (OutR w (sortL n (kxs ks)) (stE n (kxs ks)))
  spread : ∀ (n : Int) (ks : List (Sl UInt8)) (w : World) (ao : Option Addr) (m cap : Nat), m = ks.length → KysAt w ao ks → SlW ao m cap → i64w n → m ≤ 300 → (∀ k ∈ ks, k.xs.length ≤ 100) →
    Calls Try.prog 10 #[.int .i64 n, .slice ao m cap] w fun e w' => e = .returned (.tuple #[.int .i64 (spN n (kxs ks)), .int .i64 (stE n (kxs ks))]) ∧ Still w w'

theorem sameI_true11 (w : World) (ao bo : Option Addr) (l : List Int) (n m ca cb : Nat) (hn : n = l.length) (hm : m = l.length) (hl : l.length ≤ 1000000) (hA : NumsAt w ao l) (hB : NumsAt w bo l) :
    Calls Try.prog 12 #[.slice ao n ca, .slice bo m cb] w fun e w' => e = .returned (.bool true) ∧ Still w w' := by
  subst hn; subst hm
  refine (sameInts_any w ao bo l l ca cb rfl (by omega) hA hB).mono fun e w' ⟨h1, k, h2⟩ => ⟨by rw [h1, decide_eq_true rfl], by rw [h2]; exact (Turned.refl _ _).drewN k⟩

def exK (h : Nat) : List (Sl UInt8) := [⟨some ⟨h, 0, none⟩, 1, 1, [0]⟩, ⟨some ⟨h + 1, 0, none⟩, 1, 1, [1]⟩, ⟨some ⟨h + 1 + 1, 0, none⟩, 1, 1, [2]⟩, ⟨some ⟨h + 1 + 1 + 1, 0, none⟩, 1, 1, [3]⟩]
theorem byte_one {w : World} {b : Nat} {x : UInt8} (h : Blk w b (byt [x]) 5) : SlOk encB okB 1 w ⟨some ⟨b, 0, none⟩, 1, 1, [x]⟩ := by
  refine ⟨rfl, Nat.le_refl _, by show 1 ≤ maxLen; unfold maxLen; omega, fun h => (by cases h), fun i y hy => ?_, fun _ _ => trivial⟩
  cases i with
  | zero =>
    cases hy
    refine ⟨b, 0, rfl, fun j v hv => ?_⟩
    cases j with
    | zero => cases hv; exact h.cell rfl
    | succ j => cases hv
  | succ i => cases hy
theorem ex_keys (w : World) (V : World) (hV : V = ((((w.alloc (.cells #[.int .u8 0] 5)).alloc (.cells #[.int .u8 1] 5)).alloc (.cells #[.int .u8 2] 5)).alloc (.cells #[.int .u8 3] 5)).alloc (.cells #[.slice (some ⟨w.heap.size, 0, none⟩) 1 1, .slice (some ⟨w.heap.size + 1, 0, none⟩) 1 1, .slice (some ⟨w.heap.size + 1 + 1, 0, none⟩) 1 1, .slice (some ⟨w.heap.size + 1 + 1 + 1, 0, none⟩) 1 1] 36)) :
    KysAt V (some ⟨w.heap.size + 1 + 1 + 1 + 1, 0, none⟩) (exK w.heap.size) ∧ Still w V := by
  subst hV
  have s1 : (w.alloc (.cells #[.int .u8 0] 5)).heap.size = w.heap.size + 1 := World.size_alloc _ _
  have s2 : ((w.alloc (.cells #[.int .u8 0] 5)).alloc (.cells #[.int .u8 1] 5)).heap.size = w.heap.size + 1 + 1 := by rw [World.size_alloc, s1]
  have s3 : (((w.alloc (.cells #[.int .u8 0] 5)).alloc (.cells #[.int .u8 1] 5)).alloc (.cells #[.int .u8 2] 5)).heap.size = w.heap.size + 1 + 1 + 1 := by rw [World.size_alloc, s2]
  have s4 : ((((w.alloc (.cells #[.int .u8 0] 5)).alloc (.cells #[.int .u8 1] 5)).alloc (.cells #[.int .u8 2] 5)).alloc (.cells #[.int .u8 3] 5)).heap.size = w.heap.size + 1 + 1 + 1 + 1 := by rw [World.size_alloc, s3]
  refine ⟨⟨fun i k hk => ⟨w.heap.size + 1 + 1 + 1 + 1, 0, rfl, fun j v hv => ?_⟩, fun k hk => ?_⟩, (((((Turned.refl _ w).alloc _).alloc _).alloc _).alloc _).alloc _⟩
  · have hb := Blk.new ((((w.alloc (.cells #[.int .u8 0] 5)).alloc (.cells #[.int .u8 1] 5)).alloc (.cells #[.int .u8 2] 5)).alloc (.cells #[.int .u8 3] 5)) ((exK w.heap.size).map kvl) 36
    rw [s4] at hb
    cases j with
    | zero =>
      cases hv
      rw [Nat.zero_add]
      exact hb.cell (o := i * 1 + 0) (by rw [Nat.mul_one, Nat.add_zero, List.getElem?_map, hk]; rfl)
    | succ j => cases hv
  · have b0 := ((((Blk.new w (byt [0]) 5).alloc (.cells #[.int .u8 1] 5)).alloc (.cells #[.int .u8 2] 5)).alloc (.cells #[.int .u8 3] 5)).alloc (.cells #[.slice (some ⟨w.heap.size, 0, none⟩) 1 1, .slice (some ⟨w.heap.size + 1, 0, none⟩) 1 1, .slice (some ⟨w.heap.size + 1 + 1, 0, none⟩) 1 1, .slice (some ⟨w.heap.size + 1 + 1 + 1, 0, none⟩) 1 1] 36)
    have b1 := (((Blk.new (w.alloc (.cells #[.int .u8 0] 5)) (byt [1]) 5).alloc (.cells #[.int .u8 2] 5)).alloc (.cells #[.int .u8 3] 5)).alloc (.cells #[.slice (some ⟨w.heap.size, 0, none⟩) 1 1, .slice (some ⟨w.heap.size + 1, 0, none⟩) 1 1, .slice (some ⟨w.heap.size + 1 + 1, 0, none⟩) 1 1, .slice (some ⟨w.heap.size + 1 + 1 + 1, 0, none⟩) 1 1] 36)
    have b2 := ((Blk.new ((w.alloc (.cells #[.int .u8 0] 5)).alloc (.cells #[.int .u8 1] 5)) (byt [2]) 5).alloc (.cells #[.int .u8 3] 5)).alloc (.cells #[.slice (some ⟨w.heap.size, 0, none⟩) 1 1, .slice (some ⟨w.heap.size + 1, 0, none⟩) 1 1, .slice (some ⟨w.heap.size + 1 + 1, 0, none⟩) 1 1, .slice (some ⟨w.heap.size + 1 + 1 + 1, 0, none⟩) 1 1] 36)
    have b3 := (Blk.new (((w.alloc (.cells #[.int .u8 0] 5)).alloc (.cells #[.int .u8 1] 5)).alloc (.cells #[.int .u8 2] 5)) (byt [3]) 5).alloc (.cells #[.slice (some ⟨w.heap.size, 0, none⟩) 1 1, .slice (some ⟨w.heap.size + 1, 0, none⟩) 1 1, .slice (some ⟨w.heap.size + 1 + 1, 0, none⟩) 1 1, .slice (some ⟨w.heap.size + 1 + 1 + 1, 0, none⟩) 1 1] 36)
    rw [s1] at b1
    rw [s2] at b2
    rw [s3] at b3
    simp only [exK, List.mem_cons, List.not_mem_nil, or_false] at hk
    rcases hk with rfl | rfl | rfl | rfl
    · exact byte_one b0
    · exact byte_one b1
    · exact byte_one b2
    · exact byte_one b3
theorem ex_sort : sortL 3 [[0], [1], [2], [3]] = [[0], [3], [1, 2]] := by decide +kernel
theorem ex_err : stE 3 [[0], [1], [2], [3]] = 0 := by decide +kernel

set_option maxHeartbeats 2000000 in
theorem works11 (A : RouteApi) (w : World) : Calls Try.prog 13 #[] w fun e w' => e = .returned (.bool true) ∧ Still w w' := by
  obtain ⟨V, hV⟩ : ∃ V, V = ((((w.alloc (.cells #[.int .u8 0] 5)).alloc (.cells #[.int .u8 1] 5)).alloc (.cells #[.int .u8 2] 5)).alloc (.cells #[.int .u8 3] 5)).alloc (.cells #[.slice (some ⟨w.heap.size, 0, none⟩) 1 1, .slice (some ⟨w.heap.size + 1, 0, none⟩) 1 1, .slice (some ⟨w.heap.size + 1 + 1, 0, none⟩) 1 1, .slice (some ⟨w.heap.size + 1 + 1 + 1, 0, none⟩) 1 1] 36) := ⟨_, rfl⟩
  obtain ⟨k1, k2⟩ := ex_keys w V hV
  have HS := Lib.hid (A.sort 3 (exK w.heap.size) V _ 4 4 rfl k1 ⟨Nat.le_refl _, by unfold maxLen; omega, fun h => (by cases h)⟩ ⟨by omega, by omega⟩ (by omega) (fun k hk => by
    simp only [exK, List.mem_cons, List.not_mem_nil, or_false] at hk
    rcases hk with rfl | rfl | rfl | rfl <;> simp))
  rw [show kxs (exK w.heap.size) = [[0], [1], [2], [3]] from rfl, ex_sort, ex_err] at HS
  unfold OutR at HS
  have SI := Lib.hid (fun V a b l n m ca cb hn hm hl hA hB => sameI_true11 V a b l n m ca cb hn hm hl hA hB)
  have HT := Lib.hid k2
  have HV := Lib.hid hV
  clear k1 k2 hV
  go_enter Try.func13, Try.ntmps13
  have HArm := Lib.hid (fun (w1 : World) (a1 : Option Addr) (n1 : Nat) (rs : List (Sl Int)) (hn1 : n1 = rs.length) (hmap : rs.map (·.xs) = [[0], [3], [1, 2]]) (hR : RwsAt w1 a1 rs) =>
    show ∃ b o ra0 rc0 ra1 rc1 ra2 rc2, n1 = 3 ∧ a1 = some ⟨b, o, none⟩ ∧ NumsAt w1 ra0 [0] ∧ NumsAt w1 ra1 [3] ∧ NumsAt w1 ra2 [1, 2] ∧ w1.cell? ⟨b, o, none⟩ = some (.slice ra0 1 rc0) ∧ w1.cell? ⟨b, o + 1, none⟩ = some (.slice ra1 1 rc1) ∧ w1.cell? ⟨b, o + 2, none⟩ = some (.slice ra2 2 rc2) from by
      have hl : n1 = 3 := by have := congrArg List.length hmap; rw [List.length_map] at this; rw [hn1, this]; rfl
      have HG : ∀ (i : Nat) (q : List Int) (hq : ([[0], [3], [1, 2]] : List (List Int))[i]? = some q), ∃ ra rc b o, a1 = some ⟨b, o, none⟩ ∧ NumsAt w1 ra q ∧ w1.cell? ⟨b, o + i, none⟩ = some (.slice ra q.length rc) := fun i q hq => by
        obtain ⟨r, hr⟩ := get_some (l := rs) (i := i) (by rw [← hn1, hl]; exact get_lt hq)
        obtain ⟨b, o, e, hc, hA, _, hl⟩ := hR.get hr
        have hx : r.xs = q := by rw [← hmap, List.getElem?_map, hr] at hq; exact Option.some.inj hq
        rw [hx] at hA hl
        rw [hl] at hc
        exact ⟨r.a, r.cap, b, o, e, hA, hc⟩
      obtain ⟨ra0, rc0, b, o, rfl, hA0, hc0⟩ := HG 0 [0] rfl
      obtain ⟨ra1, rc1, b1, o1, e1, hA1, hc1⟩ := HG 1 [3] rfl
      cases e1
      obtain ⟨ra2, rc2, b2, o2, e2, hA2, hc2⟩ := HG 2 [1, 2] rfl
      cases e2
      exact ⟨b, o, ra0, rc0, ra1, rc1, ra2, rc2, hl, rfl, hA0, hA1, hA2, hc0, hc1, hc2⟩)
  go_wp2_with (first
    | (go_at_call 8; rw [← HV.out]; ((with_reducible refine HS.out.mono ?_)); rintro e w1 ⟨a1, n1, c1, rs, rfl, hn1, hmap, hR, hW, hT1⟩; have HT1 := Lib.hid (HT.out.trans hT1); have hc3 : n1 ≤ c1 := hW.le; obtain ⟨b, o, ra0, rc0, ra1, rc1, ra2, rc2, rfl, rfl, hA0, hA1, hA2, hc0, hc1, hc2⟩ := HArm.out w1 a1 n1 rs hn1 hmap hR; have HC := Lib.hid (fun V (h : Still w1 V) => And.intro (still_cell h hc1 rfl) (And.intro (still_cell h hc2 rfl) (And.intro (NumsAt.turned hA0 h (fun _ _ hs => hs)) (And.intro (NumsAt.turned hA1 h (fun _ _ hs => hs)) (NumsAt.turned hA2 h (fun _ _ hs => hs)))))); clear hR hmap hT1 hn1 hW hA0 hA1 hA2)
    | (go_at_call 12; ((with_reducible refine (SI.out _ _ _ [0] 1 1 _ _ rfl rfl (by decide) (HC.out _ ((Turned.refl _ _).alloc _)).2.2.1 (NumsAt.of_blk (l := [0]) (Blk.new w1 [.int .i64 0] _))).mono ?_)); rintro e w2 ⟨rfl, hT2⟩; have HT2 := Lib.hid ((Turned.refl (fun _ => False) w1).alloc (.cells #[.int .i64 0] 3) |>.trans hT2); obtain ⟨d1, d2, _⟩ := HC.out _ HT2.out; clear hT2)
    | (go_at_call 12; ((with_reducible refine (SI.out _ _ _ [3] 1 1 _ _ rfl rfl (by decide) (HC.out _ (HT2.out.alloc _)).2.2.2.1 (NumsAt.of_blk (l := [3]) (Blk.new w2 [.int .i64 3] _))).mono ?_)); rintro e w3 ⟨rfl, hT3⟩; have HT3 := Lib.hid ((HT2.out.alloc (.cells #[.int .i64 3] 3)).trans hT3); obtain ⟨f1, f2, _⟩ := HC.out _ HT3.out; clear hT3)
    | (go_at_call 12; ((with_reducible refine (SI.out _ _ _ [1, 2] 2 2 _ _ rfl rfl (by decide) (HC.out _ (HT3.out.alloc _)).2.2.2.2 (NumsAt.of_blk (l := [1, 2]) (Blk.new w3 [.int .i64 1, .int .i64 2] _))).mono ?_)); rintro e w4 ⟨rfl, hT4⟩; have HT4 := Lib.hid ((HT3.out.alloc (.cells #[.int .i64 1, .int .i64 2] 3)).trans hT4); clear hT4))
  go_ret
  exact ⟨by first | rfl | simp, HT1.out.trans HT4.out⟩
end Go.Proofs.Ytdblhflebaffcaa
