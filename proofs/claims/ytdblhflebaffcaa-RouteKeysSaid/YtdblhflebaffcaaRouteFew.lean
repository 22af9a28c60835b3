/- The statements' own copies of keys; Spread of the document's routes. No condition but that the arguments read. -/
import Derived.Test.YtdblhflebaffcaaRouteRef
import Derived.Test.YtdblhflebaffcaaMem
namespace Go.Proofs.Ytdblhflebaffcaa
open Go.RowKit
set_option linter.unusedVariables false
set_option linter.unusedSimpArgs false
set_option maxRecDepth 100000

theorem infoBytes11 : (Try.prog.info? 36).map (fun i => (i.zero, i.size, i.bytes)) = some (some (.slice none 0 0), 1, 24) := by kernel_rfl
def kvl (k : Sl UInt8) : Value := .slice k.a k.len k.cap
/-- Rows of two types lie in two blocks. -/
theorem ow_types {w : World} {B B' : Nat} {e e' : TypeId} {m m' n n' : Nat} {v v' : Value} {xs ys : List Value} (h : w.ownsRow B e m v n xs) (h' : w.ownsRow B' e' m' v' n' ys) (hne : e ≠ e') : ∀ b, v.ownBlock = some b → ¬ (v'.ownBlock = some b) := by
  intro b hb hb'
  rcases h'.2 with ⟨rfl, _⟩ | ⟨g, cap, cur, rfl, _, hg, _⟩
  · simp [Value.ownBlock] at hb'
  · rcases h.2 with ⟨rfl, _⟩ | ⟨g2, cap2, cur2, rfl, _, hg2, _⟩
    · simp [Value.ownBlock] at hb
    · have e1 : g = b := by simpa [Value.ownBlock] using hb'
      have e2 : g2 = b := by simpa [Value.ownBlock] using hb
      subst e1; subst e2
      rw [hg] at hg2
      simp at hg2
      exact hne hg2.2.symm
/-- Keys that the statement has copied so far. -/
structure KsOwn (B : Nat) (w : World) (ao : Option Addr) (n cc : Nat) (ks : List (Sl UInt8)) : Prop where
  len : n = ks.length
  own : w.ownsRow B 36 1 (.slice ao n cc) n (ks.map kvl)
  each : ∀ k ∈ ks, k.len = k.xs.length ∧ w.ownsRow B 5 1 (.slice k.a k.len k.cap) k.len (byt k.xs)
theorem KsOwn.still {B : Nat} {w w' : World} {ao : Option Addr} {n cc : Nat} {ks : List (Sl UInt8)} (h : KsOwn B w ao n cc ks) (ht : Still w w') : KsOwn B w' ao n cc ks :=
  ⟨h.len, ow_still h.own ht, fun k hk => ⟨(h.each k hk).1, ow_still (h.each k hk).2 ht⟩⟩
theorem KsOwn.snoc {B : Nat} {w w' : World} {ao a' : Option Addr} {n cc n' c' : Nat} {ks : List (Sl UInt8)} {k : Sl UInt8} {o : Obj} (h : KsOwn B w ao n cc ks) (hk : k.len = k.xs.length ∧ w.ownsRow B 5 1 (.slice k.a k.len k.cap) k.len (byt k.xs))
    (hg : (w.alloc o).grownBy w' (Value.slice ao n cc).ownBlock) (hn : n' = n + 1) (hown : w'.ownsRow B 36 1 (.slice a' n' c') n' (ks.map kvl ++ [kvl k])) : KsOwn B w' a' n' c' (ks ++ [k]) := by
  have T1 : Turned (fun b => (Value.slice ao n cc).ownBlock = some b) w w' := ((Turned.refl _ w).alloc o).grown hg (fun b e => .inl e)
  have key : ∀ z : Sl UInt8, w.ownsRow B 5 1 (.slice z.a z.len z.cap) z.len (byt z.xs) → w'.ownsRow B 5 1 (.slice z.a z.len z.cap) z.len (byt z.xs) := fun z hz =>
    ow_turned hz T1 (fun b hb hb2 => ow_types h.own hz (by decide) b hb2 hb)
  refine ⟨by rw [List.length_append, ← h.len]; simpa using hn, by rw [List.map_append]; exact hown, fun z hz => ?_⟩
  rcases List.mem_append.1 hz with hz | hz
  · exact ⟨(h.each z hz).1, key z (h.each z hz).2⟩
  · simp at hz; subst hz; exact ⟨hk.1, key _ hk.2⟩
theorem KsOwn.kys {B : Nat} {w : World} {ao : Option Addr} {n cc : Nat} {ks : List (Sl UInt8)} (h : KsOwn B w ao n cc ks) : KysAt w ao ks := by
  refine ⟨fun i k hk => ?_, fun k hk => ?_⟩
  · have hi := get_lt hk
    obtain ⟨g, e⟩ := owm_addr h.own (by rw [h.len]; omega)
    have ho := h.own
    subst e
    refine ⟨g, 0, rfl, fun j v hv => ?_⟩
    cases j with
    | zero =>
      cases hv
      rw [Nat.zero_add]
      exact (owm_cell ho (j := i * 1 + 0) (by rw [Nat.mul_one, Nat.add_zero, List.getElem?_map, hk]; rfl)).1
    | succ j => cases hv
  · obtain ⟨h1, h2⟩ := h.each k hk
    obtain ⟨l1, l2, l3⟩ := ow_le h2
    refine ⟨h1.symm, l1, l2, l3, fun i x hx => ?_, fun x hx => trivial⟩
    rw [h1] at h2
    obtain ⟨b, o, e, hc⟩ := (BytesAt.of_own h2) i x hx
    refine ⟨b, o, e, fun j v hv => ?_⟩
    cases j with
    | zero => cases hv; simpa using hc
    | succ j => cases hv
/-- What append of one value leaves of a row of one's own. -/
theorem ow_put11 {w wr w6 : World} {e : TypeId} {ao : Option Addr} {k cc : Nat} {xs : List Value} {o : Obj} (hs : Still w wr) (h : wr.ownsRow w.heap.size e 1 (.slice ao k cc) k xs) (hg : (wr.alloc o).grownBy w6 (Value.slice ao k cc).ownBlock) : Still w w6 := by
  refine (hs.alloc o).past ((Turned.refl (fun i => (Value.slice ao k cc).ownBlock = some i) _).grown hg (fun i e => .inl e)) (fun i hi => ?_)
  cases ao with
  | none => cases hi
  | some x => have := (ow_lt h x rfl).1
              have e : x.block = i := by simpa [Value.ownBlock] using hi
              exact .inr (by omega)
def few11 (K : List (List UInt8)) : List (List UInt8) := (K.take 257).map fun k => k.take 65
def Few11Post (w : World) (K : List (List UInt8)) (e : Ending) (w' : World) : Prop :=
  ∃ a n c ks, e = .returned (.slice a n c) ∧ KsOwn w.heap.size w' a n c ks ∧ kxs ks = few11 K ∧ Still w w'

set_option maxHeartbeats 4000000 in
theorem few11_any (s : Sl (Sl UInt8)) (w : World) (hs : SlOk encSl (SlOk encB okB 1) 1 w s) : Calls Try.prog 7 #[.slice s.a s.len s.cap] w (Few11Post w (kxs s.xs)) := by
  obtain ⟨sa, sl, sc, sx⟩ := s
  have hle : sl ≤ sc := hs.le
  have HSL := Lib.hid hs.len
  have HK := Lib.hid (show KysAt w sa sx from ⟨hs.row, hs.each⟩)
  obtain ⟨i0, hi, hz0, hz1, hz2⟩ := info_parts infoBytes11
  have HO0 := Lib.hid (show KsOwn w.heap.size (w.alloc (.cells #[] 36)) (some ⟨w.heap.size, 0, none⟩) 0 0 [] from ⟨rfl, World.ownsRow_made w #[] 0 (Nat.le_refl _) (by simp) (by simp), fun k hk => by cases hk⟩)
  have HT0 := Lib.hid ((Turned.refl (fun _ => False) w).alloc (.cells #[] 36))
  clear hs
  dsimp only at HSL ⊢
  go_enter Try.func7, Try.ntmps7
  go_wp2_with fail
  go_loopw [3, 4] (fun p i wr => ∃ (k : Nat) (ks : List (Sl UInt8)) (ao : Option Addr) (cc : Nat), k ≤ sl ∧ k ≤ 257 ∧ i = .int .i64 k ∧ p = .slice ao k cc ∧ KsOwn w.heap.size wr ao k cc ks ∧ kxs ks = ((kxs sx).take k).map (fun x => x.take 65) ∧ Still w wr) (fun _ i _ => sl - (intOf i).toNat)
  case atStart => exact ⟨0, [], _, 0, Nat.zero_le _, Nat.zero_le _, rfl, rfl, HO0.out, by simp, HT0.out⟩
  case round =>
    clear HO0 HT0
    obtain ⟨k, ks, ao, cc, hk, hk2, rfl, rfl, hown, hmap, hst⟩ := hrel
    have HO := Lib.hid hown
    have HMap := Lib.hid hmap
    have HT := Lib.hid hst
    have hwr := hst.size
    clear hown hmap
    by_cases hin : k < sl ∧ k ≤ 256
    · obtain ⟨hlt, h256⟩ := hin
      obtain ⟨y, hy⟩ := get_some (l := sx) (i := k) (by rw [HSL.out]; exact hlt)
      obtain ⟨b, o, rfl, hc, hyb, hyw, hyl⟩ := HK.out.get hy
      have hkx : (kxs sx)[k]? = some y.xs := by rw [List.getElem?_map, hy]; rfl
      obtain ⟨ya, yl, yc, yx⟩ := y
      dsimp only at hc hyb hyw hyl hkx
      obtain ⟨z, hz⟩ : ∃ z : Nat, z = min yl 65 := ⟨_, rfl⟩
      have hif : (if (65 : Int) < (yl : Int) then (65 : Int) else (yl : Int)) = (z : Int) := by split <;> omega
      have hzc : (z : Int) ≤ (yc : Int) := by have := hyw.le; omega
      have hz65 : z ≤ 65 := by omega
      have hzl : (yx.take 65).length = z := by rw [List.length_take]; omega
      have HB := Lib.hid (fun V (h : Still w V) => show Calls Try.prog 15 #[.slice ya z yc] V (BytesPost V (yx.take 65)) from by
        rw [← hzl]
        exact bytes_any V ya (yx.take 65) yc ((hyb.take 65).still h) (by omega) (fun e => (hyw.none e).2))
      unfold BytesPost at HB
      rw [hzl] at HB
      have HMap' := Lib.hid (show ((kxs sx).take (k + 1)).map (fun x => x.take 65) = ((kxs sx).take k).map (fun x => x.take 65) ++ [yx.take 65] by rw [List.take_add_one, hkx]; simp)
      have HZl := Lib.hid hzl
      have HC := Lib.hid (fun V (h : Still w V) => show V.cell? ⟨b, o + k, none⟩ = some (.slice ya yl yc) from still_cell h hc rfl)
      have hcd := HC.out wr.drew hst.drew
      have hstd : Still w wr.drew := hst.drew
      have hyc : yc ≤ maxLen := hyw.max
      unfold maxLen at hyc
      clear hy hkx hz hyb hyw hyl hzl HK hst hc
      go_wp2_with fail
      go_region_held3 (fun V => V.cell? ⟨b, o + k, none⟩ = some (.slice ya yl yc)) (first | assumption | go_keep) (first
        | (go_at_call 15; ((with_reducible refine (HB.out _ hstd).mono ?_)); rintro e w1 ⟨a1, c1, rfl, hown1, hT1⟩; have hT1' : Still w w1 := hstd.trans hT1; have c01 := HC.out w1 hT1'; have hw1 : w.heap.size ≤ w1.heap.size := hT1'.size; have HB1 := Lib.hid (show (z = (yx.take 65).length) ∧ w1.ownsRow w.heap.size 5 1 (.slice a1 z c1) z (byt (yx.take 65)) from ⟨HZl.out.symm, ow_base hown1 hwr⟩); have HO1 := Lib.hid (HO.out.still ((Turned.refl _ wr).drew.trans hT1)); have HT1 := Lib.hid hT1'; clear hown1 hT1 hT1')
        | (refine step_append_own rfl (.tmp 16) (.tmp 29) 22 rfl w.heap.size 36 i0 (.slice none 0 0) 1 24 Try.underlying22 hi hz0 hz1 hz2 rfl (by decide) (.slice ao k cc) k (ks.map kvl) rfl (ow_still HO1.out.own ((Turned.refl _ _).alloc _)) ⟨w1.heap.size, 0, none⟩ 1 1 [.slice a1 z c1] rfl rfl (ow_cells w1 _ _) (by intro u hu; simp at hu; subst hu; rfl) (by unfold maxLen; omega) (by omega) (by simp; omega) ?_; intro v3 w3 hown3 hg3 hat3; obtain ⟨a3, c3, rfl⟩ := ow_slice hown3; have hT3 : Still w w3 := ow_put11 HT1.out HO1.out.own hg3; have c03 := HC.out w3 hT3; have HO3 := Lib.hid (HO1.out.snoc (k := ⟨a1, z, c1, yx.take 65⟩) HB1.out hg3 rfl hown3); have HT3 := Lib.hid hT3; clear hown3 hg3 hT3 hat3))
      all_goals go_wp2_with fail
      all_goals go_roundw
      all_goals first
        | exact ⟨k + 1, ks ++ [⟨a1, z, c1, yx.take 65⟩], a3, c3, by omega, by omega, by go_num, rfl, HO3.out, by rw [HMap'.out, ← HMap.out]; simp, HT3.out⟩
        | (simp [intOf]; omega)
    · have hex : (k < sl ∧ 256 < k) ∨ sl ≤ k := by omega
      have HEnd := Lib.hid (show Few11Post w (kxs sx) (.returned (.slice ao k cc)) wr from ⟨ao, k, cc, ks, rfl, HO.out, by
        rw [HMap.out]; unfold few11; congr 1
        have hl : (kxs sx).length = sl := by rw [List.length_map]; exact HSL.out
        rw [List.take_eq_take_iff]; omega, HT.out⟩)
      clear hin HK hst
      rcases hex with ⟨q1, q2⟩ | q1
      all_goals
        go_wp2_with fail
        go_ret
        exact HEnd.out
end Go.Proofs.Ytdblhflebaffcaa
