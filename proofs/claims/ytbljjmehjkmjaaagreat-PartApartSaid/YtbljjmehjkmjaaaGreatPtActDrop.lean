/- The act that gives back a handle that was read. No condition but that the program's partitions and pool keep their words. -/
import Derived.Test.YtbljjmehjkmjaaaGreatBdAct
import Derived.Test.YtbljjmehjkmjaaaGreatStepApp
namespace Go.Proofs.YtbljjmehjkmjaaaGreat
open Go.RowKit
set_option linter.unusedVariables false
set_option linter.unusedSimpArgs false
set_option maxRecDepth 100000

theorem ownT_grownP {e : TypeId} {m : Nat} {ao a' : Option Addr} {n cc n' c' : Nat} {xs ys : List Value} {W : Nat → Prop} {w w' : World} (h : (ownT e m ao n cc xs).at_ w W)
    (hown : w'.ownsRow 0 e m (.slice a' n' c') n' ys) (hg : w.grownBy w' (Value.slice ao n cc).ownBlock)
    (hat : (Value.slice a' n' c').ownBlock = (Value.slice ao n cc).ownBlock ∨ (Value.slice a' n' c').ownBlock = some w.heap.size) : Goes (ownT e m a' n' c' ys) W w w' := by
  obtain ⟨h1, hW⟩ := h
  refine ⟨fun k => (Value.slice a' n' c').ownBlock = some k, ⟨hown, fun k => Iff.rfl⟩, (Turned.refl W w).grown hg (fun k hk => .inl ((hW k).2 hk)), fun k hk => ?_⟩
  rcases hat with h | h
  · exact .inl ((hW k).2 (h ▸ hk))
  · rw [h] at hk
    have : w.heap.size = k := by simpa using hk
    exact .inr (by rw [← this]; exact Nat.le_refl _)
theorem ints_one (l : List Int) : ∀ u ∈ ints l, u.oneCell' = true := by
  intro u hu
  simp only [ints, List.mem_map] at hu
  obtain ⟨x, _, rfl⟩ := hu
  rfl
/-- The row that takes the place of the one that was there. -/
theorem two_turn {w W : World} {A X Z Y X' Y' T O Bx O' : Thing} (h : Held w W (sysT A X Z Y X' Y' (((T.sep O).sep Bx).sep O'))) : Held w W (O'.sep (T.sep (Bx.sep (sysU A X Z Y X' Y')))) := by
  have h1 := (Held.turn (Held.assoc (Held.assoc (Held.assoc h.sysR)))).snd
  exact (Held.turn (Held.assoc' h1)).imp (sep_mono id sep_assoc)
theorem two_grow {w W W' : World} {A X Z Y X' Y' R : Thing} {a a' : Option Addr} {n c n' c' : Nat} {xs ys : List Value} (h : Held w W (sysT A X Z Y X' Y' (R.sep (ownT 3 1 a n c xs)))) (hown : W'.ownsRow 0 3 1 (.slice a' n' c') n' ys) (hg : W.grownBy W' (Value.slice a n c).ownBlock)
    (hat : (Value.slice a' n' c').ownBlock = (Value.slice a n c).ownBlock ∨ (Value.slice a' n' c').ownBlock = some W.heap.size) : Held w W' (sysT A X Z Y X' Y' (R.sep (ownT 3 1 a' n' c' ys))) := by
  obtain ⟨Q, h1, h2⟩ := (Held.turn (Held.assoc h.sysR)).fst
  exact (Held.assoc' (Held.turn (h2 _ _ (ownT_grownP h1 hown hg hat)))).sysOf

set_option maxHeartbeats 8000000 in
theorem act_drop {PT : Nat → PM → Thing} {XT : Nat → Nat → RM → Thing} (A : PartActs PT XT) (B : PoolActs PT) {w wr : World} {t q zq i xi xj yi yj ri rj : Nat} {P : PM} {Mi Mj : RM} {had : List Int} {ao : Option Addr} {n cc N K : Nat} (H : Two PT XT w wr t q zq i xi xj yi yj ri rj P Mi Mj had ao n cc N K) (hN : N < 800000) (hK : K < 800000) (hn : n ≤ 1000) (hi : i < 2) (a : Act12) (hai : am a.1 2 = i) (hok : okAct12 w a) {v : Nat} (hv : am a.2.1 11 = v) (hvs : v = 8) (hn0 : 0 < n) : Calls Tryz.prog 8 #[.pointer (some ⟨t, 0, none⟩), a.val] wr (ActPost PT XT w t q zq i xi xj yi yj ri rj P Mi Mj n N K) := by
  obtain ⟨wh, dd, nn, ⟨ba, bl, bc, bs⟩⟩ := a
  dsimp only at hai hv
  have hnn : w64 nn := by have := i64w_of hok.2.2.1; exact ⟨this.1, this.2⟩
  have B1 := Lib.hid (fun W => among_lit wh 2 2 i rfl hai.symm (by omega) (by omega) W)
  have B2 := Lib.hid (fun W => among_lit dd 11 11 v rfl hv.symm (by omega) (by omega) W)
  have HI := Lib.hid H
  have HOk := Lib.hid hok
  obtain ⟨V, hV⟩ : ∃ V, V = wr.alloc (.cells #[.int .i64 wh, .int .i64 dd, .int .i64 nn, .slice ba bl bc] 38) := ⟨_, rfl⟩
  obtain ⟨bx, hbx⟩ : ∃ bx, bx = wr.heap.size := ⟨_, rfl⟩
  have HV := Lib.hid (show Held w V (sysT (PT q P) (XT xi q Mi) (zT zq P) (zxT yi zq ri Mi) (XT xj q Mj) (zxT yj zq rj Mj) (twoB t q zq i xi xj yi yj ao n cc had bx (wh, dd, nn, ⟨ba, bl, bc, bs⟩))) from by rw [hV, hbx]; exact H.held.sysBox (encAct12 (wh, dd, nn, ⟨ba, bl, bc, bs⟩)) 38)
  have HWV := Lib.hid (show Still wr V from by rw [hV]; exact (Turned.refl _ _).alloc _)
  have hi2 : (i : Int) < 2 := by omega
  clear H hok hai hv
  unfold Act12.val
  dsimp only
  go_enter Tryz.func8, Tryz.ntmps8
  go_upto_region 2 with (go_at_call 7; ((with_reducible refine (B1.out _).mono ?_)); rintro e w' ⟨rfl, hw⟩; rw [← hw]; clear hw)
  rw [← hV, ← hbx]
  obtain ⟨b0, b1, b2, b3, t0, t1, tx, ty, t6, tf⟩ := two_cells HV.out hi
  clear hV hbx
  go_quiet (fail)
  obtain ⟨V2, hV2⟩ : ∃ V2, V2 = V.drewN nq := ⟨_, rfl⟩
  rw [← hV2]
  have H2 := Lib.hid (HV.out.still (show Still V V2 from by rw [hV2]; exact (Turned.refl _ _).drewN _))
  have HW2 := Lib.hid (HWV.out.trans (show Still V V2 from by rw [hV2]; exact (Turned.refl _ _).drewN _))
  clear b0 b1 b2 b3 t0 t1 tx ty t6 tf hV2 HV HWV
  obtain ⟨b0, b1, b2, b3, t0, t1, tx, ty, t6, tf⟩ := two_cells H2.out hi
  obtain ⟨j0, ji, jz0, jz1, jz2⟩ := info_parts infoIntW
  obtain ⟨k, hk⟩ : ∃ k, k = am nn n := ⟨_, rfl⟩
  have hkn : k < n := by rw [hk]; exact am_lt _ hn0
  have B3 := Lib.hid (fun W => among_lit nn n n k rfl hk (by omega) (by omega) W)
  obtain ⟨y, hy⟩ := get_some (l := had) (i := k) (by rw [HI.out.len]; exact hkn)
  have hInv := inv_drop (R := Mi.refs ++ Mj.refs) (X := had) (by have := HI.out.inv; rwa [← List.append_assoc] at this) hy
  have hys : w64 y := by
    have := HI.out.inv.small HI.out.ok (by omega) (x := y) (List.mem_append_right _ (List.mem_append_right _ (List.mem_of_getElem? hy)))
    exact ⟨by omega, by omega⟩
  obtain ⟨g, rr, rfl, _, _⟩ := ow_blk (two_own H2.out) hn0
  have HY := Lib.hid (fun W (h : Still V2 W) => show W.cell? ⟨g, k, none⟩ = some (.int .i64 y) from by
    obtain ⟨b, o, e, hc⟩ := NumsAt.of_own (two_own (H2.out.still h)) HI.out.len.symm k y hy
    cases e
    rw [Nat.zero_add] at hc; exact hc)
  have hb1 : ((n : Int) == 0) = false := by rw [beq_eq_false_iff_ne]; omega
  have hb2 : (n == 0) = false := by rw [beq_eq_false_iff_ne]; omega
  have hki : (k : Int) < (n : Int) := by omega
  clear hk HOk
  subst hvs
  go_wp2_with (go_at_call 7; ((with_reducible refine (B2.out _).mono ?_)); rintro e w' ⟨rfl, hw⟩; rw [← hw]; clear hw)
  go_quiet ((go_at_call 7; ((with_reducible exact quietEq (B3.out _)))))
  obtain ⟨V3, hV3⟩ : ∃ V3, V3 = V2.drewN nq := ⟨_, rfl⟩
  rw [← hV3]
  have hs3 : Still V2 V3 := by rw [hV3]; exact (Turned.refl _ _).drewN _
  have H3 := Lib.hid (H2.out.still hs3)
  have hy3 := HY.out _ hs3
  obtain ⟨U, hU⟩ : ∃ U, U = V3.drew := ⟨_, rfl⟩
  have HUd := Lib.hid hU
  have hsU : Still V3 U := by rw [hU]; exact (Turned.refl _ _).drew
  have HU := Lib.hid (H3.out.still hsU)
  clear b0 b1 b2 b3 t0 t1 tx ty t6 tf hV3 hs3 hU hsU
  obtain ⟨b0, b1, b2, b3, t0, t1, tx, ty, t6, tf⟩ := two_cells H3.out hi
  have u6 := (two_cells HU.out hi).2.2.2.2.2.2.2.2.1
  have hU1 : Still U (U.alloc (.cells #[] 3)) := (Turned.refl _ _).alloc _
  have u61 := (two_cells (HU.out.still hU1) hi).2.2.2.2.2.2.2.2.1
  have HE0 := Lib.hid (show (U.alloc (.cells #[] 3)).ownsRow 0 3 1 (.slice (some ⟨U.heap.size, 0, none⟩) 0 0) 0 [] from World.ownsRow_made U #[] 0 (Nat.zero_le _) (by simp) (by simp))
  have HLn := Lib.hid HI.out.len
  have HTk := Lib.hid (show (ints (had.take k)).length = k * 1 ∧ ∀ j u, (ints (had.take k))[j]? = some u → (U.alloc (.cells #[] 3)).cell? ((⟨g, 0, none⟩ : Addr).add j) = some u from by
    refine ⟨by rw [ints_length, List.length_take, HLn.out]; omega, fun j u hj => ?_⟩
    have hN := NumsAt.of_own (two_own (HU.out.still hU1)) HLn.out.symm
    rw [Addr.add_lit]
    unfold ints at hj
    rw [List.getElem?_map, List.getElem?_take] at hj
    split at hj
    · cases hz : had[j]? with
      | none => rw [hz] at hj; cases hj
      | some z =>
        rw [hz] at hj
        obtain ⟨b, o, e, hc⟩ := hN j z hz
        cases e
        have e2 : u = .int .i64 z := (Option.some.inj hj).symm
        rw [e2]; exact hc
    · cases hj)
  have H8f := Lib.hid (fun (w8 : World) (a8 : Option Addr) (c8 : Nat) (hown : w8.ownsRow 0 3 1 (.slice a8 k c8) k ([] ++ ints (had.take k))) (hg : (U.alloc (.cells #[] 3)).grownBy w8 (Value.slice (some ⟨U.heap.size, 0, none⟩) 0 0).ownBlock) (hat : (Value.slice a8 k c8).ownBlock = (Value.slice (some ⟨U.heap.size, 0, none⟩) 0 0).ownBlock ∨ (Value.slice a8 k c8).ownBlock = some (U.alloc (.cells #[] 3)).heap.size) =>
    show w8.cell? ⟨t, 6, none⟩ = some (.slice (some ⟨g, 0, none⟩) n cc) ∧ w8.frozen? ⟨t, 6, none⟩ = false ∧ Hid (Held w w8 (sysT (PT q P) (XT xi q Mi) (zT zq P) (zxT yi zq ri Mi) (XT xj q Mj) (zxT yj zq rj Mj) ((twoB t q zq i xi xj yi yj (some ⟨g, 0, none⟩) n cc had bx (wh, dd, nn, ⟨ba, bl, bc, bs⟩)).sep (ownT 3 1 a8 k c8 (ints (had.take k)))))) ∧ Hid (∀ j u, (ints (had.drop (k + 1)))[j]? = some u → w8.cell? ((⟨g, k + 1, none⟩ : Addr).add j) = some u) from by
    have hst : Still U w8 := ((Turned.refl (fun _ => False) U).alloc (.cells #[] 3)).grown hg (fun b e => .inr (by
      have : U.heap.size = b := by simpa [Value.ownBlock] using e
      omega))
    have hh := HU.out.still hst
    obtain ⟨_, _, _, _, _, _, _, _, z6, zf⟩ := two_cells hh hi
    refine ⟨z6, zf, Lib.hid (HU.out.sysNew ⟨_, ⟨by rw [List.nil_append] at hown; exact hown, fun _ => Iff.rfl⟩, hst, fun b hb => ?_⟩), Lib.hid fun j u hj => ?_⟩
    · rcases hat with h | h
      · rw [h] at hb
        have : U.heap.size = b := by simpa [Value.ownBlock] using hb
        omega
      · rw [h] at hb
        have := Option.some.inj hb
        rw [World.size_alloc] at this
        omega
    · have hN := NumsAt.of_own (two_own hh) HLn.out.symm
      rw [Addr.add_lit]
      unfold ints at hj
      rw [List.getElem?_map, List.getElem?_drop] at hj
      cases hz : had[k + 1 + j]? with
      | none => rw [hz] at hj; cases hj
      | some z =>
        rw [hz] at hj
        obtain ⟨b, o, e, hc⟩ := hN _ z hz
        cases e
        have e2 : u = .int .i64 z := (Option.some.inj hj).symm
        rw [Nat.zero_add] at hc
        rw [e2]; exact hc)
  have hwk : IntKind.i64.wrap ((k : Int) + 1) = ((k + 1 : Nat) : Int) := by rw [IntKind.wrap_i64]; omega
  have hcl : n ≤ cc := (ow_le (two_own H3.out)).1
  have hkc1 : ((k : Int) + 1) ≤ (n : Int) := by omega
  have hkc2 : (k : Int) ≤ (cc : Int) := by omega
  have hk0 : (0 : Int) ≤ (k : Int) + 1 := by omega
  have HEr := Lib.hid (show ints (had.take k) ++ ints (had.drop (k + 1)) = ints (had.eraseIdx k) ∧ ∀ m, m = n - (k + 1) → (had.eraseIdx k).length = k + m from ⟨by rw [List.eraseIdx_eq_take_drop_succ]; unfold ints; rw [List.map_append], fun m hm => by rw [List.length_eraseIdx, HLn.out, if_pos hkn]; omega⟩)
  have H16f := Lib.hid (fun (w8 : World) (a8 : Option Addr) (c8 : Nat) (h8 : Held w w8 (sysT (PT q P) (XT xi q Mi) (zT zq P) (zxT yi zq ri Mi) (XT xj q Mj) (zxT yj zq rj Mj) ((twoB t q zq i xi xj yi yj (some ⟨g, 0, none⟩) n cc had bx (wh, dd, nn, ⟨ba, bl, bc, bs⟩)).sep (ownT 3 1 a8 k c8 (ints (had.take k)))))) (m : Nat) (w16 : World) (a16 : Option Addr) (c16 : Nat)
    (hown : w16.ownsRow 0 3 1 (.slice a16 (k + m) c16) (k + m) (ints (had.take k) ++ ints (had.drop (k + 1)))) (hg : w8.grownBy w16 (Value.slice a8 k c8).ownBlock) (hat : (Value.slice a16 (k + m) c16).ownBlock = (Value.slice a8 k c8).ownBlock ∨ (Value.slice a16 (k + m) c16).ownBlock = some w8.heap.size) =>
    show w16.cell? ⟨t, 6, none⟩ = some (.slice (some ⟨g, 0, none⟩) n cc) ∧ w16.frozen? ⟨t, 6, none⟩ = false ∧ Hid (Held w (w16.setCell ⟨t, 6, none⟩ (.slice a16 (k + m) c16)) (sysT (PT q P) (XT xi q Mi) (zT zq P) (zxT yi zq ri Mi) (XT xj q Mj) (zxT yj zq rj Mj) (twoB t q zq i xi xj yi yj a16 (k + m) c16 (had.eraseIdx k) bx (wh, dd, nn, ⟨ba, bl, bc, bs⟩)))) from by
    rw [HEr.out.1] at hown
    have h1 := two_grow h8 hown hg hat
    obtain ⟨_, _, _, _, _, _, _, _, z6, zf⟩ := two_cells h1.sysPop hi
    exact ⟨z6, zf, Lib.hid (two_put (two_turn h1))⟩)
  have XD := Lib.hid (fun W n' a' c' (h : Held w W (sysT (PT q P) (XT xi q Mi) (zT zq P) (zxT yi zq ri Mi) (XT xj q Mj) (zxT yj zq rj Mj) (twoB t q zq i xi xj yi yj a' n' c' (had.eraseIdx k) bx (wh, dd, nn, ⟨ba, bl, bc, bs⟩)))) => h.sysCall (A2 := PT q (P.dropM y)) (X2 := XT xi q Mi) (fun W h' => by
    obtain ⟨W1, g1, _, g2⟩ := goes_fst h'
    exact (B.drop g1 HI.out.ok (by omega) y hys).mono fun e w' ⟨he, hg⟩ => ⟨he, g2 _ _ hg⟩))
  have YD := Lib.hid (fun W n' a' c' (h : Held w W (sysT (PT q (P.dropM y)) (XT xi q Mi) (zT zq P) (zxT yi zq ri Mi) (XT xj q Mj) (zxT yj zq rj Mj) (twoB t q zq i xi xj yi yj a' n' c' (had.eraseIdx k) bx (wh, dd, nn, ⟨ba, bl, bc, bs⟩)))) => h.sysCallZ (A2 := zT zq (P.dropM y)) (X2 := zxT yi zq ri Mi) (fun W h' => by
    obtain ⟨W1, g1, _, g2⟩ := goes_fst h'
    exact (zdrop_any g1 HI.out.ok (by omega) y).mono fun e w' ⟨he, hg⟩ => ⟨he, g2 _ _ hg⟩))
  have HPost := Lib.hid (fun W m a' c' (hm : m = n - (k + 1)) (h : Held w W (sysT (PT q (P.dropM y)) (XT xi q Mi) (zT zq (P.dropM y)) (zxT yi zq ri Mi) (XT xj q Mj) (zxT yj zq rj Mj) (twoB t q zq i xi xj yi yj a' (k + m) c' (had.eraseIdx k) bx (wh, dd, nn, ⟨ba, bl, bc, bs⟩)))) => show ∃ (P' : PM) (Mi' : RM) (had' : List Int) (ao' : Option Addr) (n' cc' : Nat), Two PT XT w W t q zq i xi xj yi yj ri rj P' Mi' Mj had' ao' n' cc' (N + 66) (K + 1) ∧ SameSz P P' ∧ n' ≤ n + 1 ∧ Mi'.n = Mi.n from
    ⟨P.dropM y, Mi, had.eraseIdx k, a', k + m, c', ⟨h.sysPop, HEr.out.2 m hm, by have := hInv; rwa [List.append_assoc] at this, (HI.out.ok.drop y).mono (by omega), HI.out.mi.mono (by omega), HI.out.mj.mono (by omega)⟩, sz_drop P y, by omega, rfl⟩)
  generalize P.dropN y = dn at *
  generalize P.err y = de at *
  generalize P.dropM y = P1 at *
  have HInv := Lib.hid hInv
  clear hInv hy
  go_wp2_with fail
  by_cases hcc : cc = k + 1
  · have hnk : n = k + 1 := by omega
    have HDl := Lib.hid (show ∀ (W : World) (ad : Addr), ((ints (had.drop (k + 1))).length = 0 * 1) ∧ ∀ j u, (ints (had.drop (k + 1)))[j]? = some u → W.cell? (ad.add j) = some u from fun W ad => by
      rw [List.drop_eq_nil_of_le (by rw [HLn.out]; omega)]
      exact ⟨rfl, fun j u h => by simp [ints] at h⟩)
    subst hnk
    subst hcc
    have hka : (k : Int) ≤ (k : Int) + 1 := by omega
    refine wp_region_noPanic ?_
    refine wp_region_held_drew (S := fun _ : World => True) (by kernel_rfl) trivial (fun _ => ?_)
    refine wpAnyH_take (i := 0) (oi := { dst := some 180, op := _, type := _, pos := _, after := _, guard := _ }) (v := ?_) rfl (by kernel_rfl) (by kernel_rfl) (by kernel_rfl) (fun _ _ _ h => h) (Or.inl ⟨by rfl, ?_⟩) trivial ?_
    rotate_left
    · intro Z hZ
      clear hZ
      go_simp
      all_goals with_reducible rfl
    try simp only [Act.put, List.setIfInBounds_toArray, List.set_cons_zero, List.set_cons_succ]
    refine wpAnyH_take (i := 2) (oi := { dst := some 182, op := _, type := _, pos := _, after := _, guard := _ }) (v := ?_) rfl (by kernel_rfl) (by kernel_rfl) (by kernel_rfl) (fun _ _ _ h => h) (Or.inl ⟨by rfl, ?_⟩) trivial ?_
    rotate_left
    · intro Z hZ
      clear hZ
      go_simp
      all_goals with_reducible rfl
    try simp only [Act.put, List.setIfInBounds_toArray, List.set_cons_zero, List.set_cons_succ]
    refine wpAnyH_take (i := 3) (oi := { dst := some 183, op := _, type := _, pos := _, after := _, guard := _ }) (v := ?_) rfl (by kernel_rfl) (by kernel_rfl) (by kernel_rfl) (fun _ _ _ h => h) (Or.inl ⟨by rfl, ?_⟩) trivial ?_
    rotate_left
    · intro Z hZ
      clear hZ
      go_simp
      all_goals with_reducible rfl
    try simp only [Act.put, List.setIfInBounds_toArray, List.set_cons_zero, List.set_cons_succ]
    refine wpAnyH_take (i := 4) (oi := { dst := some 184, op := _, type := _, pos := _, after := _, guard := _ }) (v := ?_) rfl (by kernel_rfl) (by kernel_rfl) (by kernel_rfl) (fun _ _ _ h => h) (Or.inl ⟨by rfl, ?_⟩) trivial ?_
    rotate_left
    · intro Z hZ
      clear hZ
      go_simp
      all_goals with_reducible rfl
    try simp only [Act.put, List.setIfInBounds_toArray, List.set_cons_zero, List.set_cons_succ]
    refine wpAnyH_take (i := 6) (oi := { dst := some 186, op := _, type := _, pos := _, after := _, guard := _ }) (v := ?_) rfl (by kernel_rfl) (by kernel_rfl) (by kernel_rfl) (fun _ _ _ h => h) (Or.inl ⟨by rfl, ?_⟩) trivial ?_
    rotate_left
    · intro Z hZ
      clear hZ
      go_simp
      all_goals with_reducible rfl
    try simp only [Act.put, List.setIfInBounds_toArray, List.set_cons_zero, List.set_cons_succ]
    refine wpAnyH_take (i := 9) (oi := { dst := some 189, op := _, type := _, pos := _, after := _, guard := _ }) (v := ?_) rfl (by kernel_rfl) (by kernel_rfl) (by kernel_rfl) (fun _ _ _ h => h) (Or.inl ⟨by rfl, ?_⟩) trivial ?_
    rotate_left
    · intro Z hZ
      clear hZ
      go_simp
      all_goals with_reducible rfl
    try simp only [Act.put, List.setIfInBounds_toArray, List.set_cons_zero, List.set_cons_succ]
    refine wpAnyH_take (i := 10) (oi := { dst := some 190, op := _, type := _, pos := _, after := _, guard := _ }) (v := ?_) rfl (by kernel_rfl) (by kernel_rfl) (by kernel_rfl) (fun _ _ _ h => h) (Or.inl ⟨by rfl, ?_⟩) trivial ?_
    rotate_left
    · intro Z hZ
      clear hZ
      go_simp
      all_goals with_reducible rfl
    try simp only [Act.put, List.setIfInBounds_toArray, List.set_cons_zero, List.set_cons_succ]
    refine wpAnyH_take (i := 11) (oi := { dst := some 191, op := _, type := _, pos := _, after := _, guard := _ }) (v := ?_) rfl (by kernel_rfl) (by kernel_rfl) (by kernel_rfl) (fun _ _ _ h => h) (Or.inl ⟨by rfl, ?_⟩) trivial ?_
    rotate_left
    · intro Z hZ
      clear hZ
      go_simp
      all_goals with_reducible rfl
    try simp only [Act.put, List.setIfInBounds_toArray, List.set_cons_zero, List.set_cons_succ]
    refine wpAnyH_take (i := 13) (oi := { dst := some 193, op := _, type := _, pos := _, after := _, guard := _ }) (v := ?_) rfl (by kernel_rfl) (by kernel_rfl) (by kernel_rfl) (fun _ _ _ h => h) (Or.inl ⟨by rfl, ?_⟩) trivial ?_
    rotate_left
    · intro Z hZ
      clear hZ
      go_simp
      all_goals with_reducible rfl
    try simp only [Act.put, List.setIfInBounds_toArray, List.set_cons_zero, List.set_cons_succ]
    refine wpAnyH_take (i := 14) (oi := { dst := some 194, op := _, type := _, pos := _, after := _, guard := _ }) (v := ?_) rfl (by kernel_rfl) (by kernel_rfl) (by kernel_rfl) (fun _ _ _ h => h) (Or.inl ⟨by rfl, ?_⟩) trivial ?_
    rotate_left
    · intro Z hZ
      clear hZ
      go_simp
      all_goals with_reducible rfl
    try simp only [Act.put, List.setIfInBounds_toArray, List.set_cons_zero, List.set_cons_succ]
    rw [← HUd.out]
    refine wpAnyH_ready (rs := [1, 5, 12]) (by kernel_rfl) (by simp) ?_
    refine AllReadyH.cons rfl (fun K hK => ?_) ?_
    · go_simp
      refine hK.out _ _ trivial (fun _ => ?_)
      clear hK K
      try simp only [Act.put, List.setIfInBounds_toArray, List.set_cons_zero, List.set_cons_succ]
      refine wpAnyH_ready (rs := [5, 12]) (by kernel_rfl) (by simp) ?_
      refine AllReadyH.cons rfl (fun K hK => ?_) ?_
      · go_simp
        refine hK.out _ _ trivial (fun _ => ?_)
        clear hK K
        try simp only [Act.put, List.setIfInBounds_toArray, List.set_cons_zero, List.set_cons_succ]
        refine wpAnyH_take (i := 7) (oi := { dst := some 187, op := _, type := _, pos := _, after := _, guard := _ }) (v := ?_) rfl (by kernel_rfl) (by kernel_rfl) (by kernel_rfl) (fun _ _ _ h => h) (Or.inl ⟨by rfl, ?_⟩) trivial ?_
        rotate_left
        · intro Z hZ
          clear hZ
          go_simp
          all_goals with_reducible rfl
        try simp only [Act.put, List.setIfInBounds_toArray, List.set_cons_zero, List.set_cons_succ]
        refine wpAnyH_ready (rs := [8, 12]) (by kernel_rfl) (by simp) ?_
        refine AllReadyH.cons rfl (fun K hK => ?_) ?_
        · refine step_app_own rfl (.tmp 181) (.tmp 187) 32 rfl 0 3 j0 (.int .i64 0) 1 8 Tryz.underlying32 ji jz0 jz1 jz2 rfl (by decide) (.slice (some ⟨U.heap.size, 0, none⟩) 0 0) 0 [] rfl HE0.out ⟨g, 0, none⟩ k _ (ints (had.take k)) rfl HTk.out.1 HTk.out.2 (ints_one _) (by unfold maxLen; omega) (by omega) (Nat.zero_le _) ?_
          intro v8 w8 hown8 hg8 hat8
          rw [Nat.zero_add] at hown8
          obtain ⟨a8, c8, rfl⟩ := ow_slice hown8
          obtain ⟨m1, m2, H8, HD8⟩ := H8f.out w8 a8 c8 hown8 hg8 hat8
          clear hown8 hg8 hat8
          refine hK.out _ _ trivial (fun _ => ?_)
          clear hK K
          try simp only [Act.put, List.setIfInBounds_toArray, List.set_cons_zero, List.set_cons_succ]
          refine wpAnyH_ready (rs := [12]) (by kernel_rfl) (by simp) ?_
          refine AllReadyH.cons rfl (fun K hK => ?_) AllReadyH.nil
          go_simp
          refine hK.out _ _ trivial (fun _ => ?_)
          clear hK K
          try simp only [Act.put, List.setIfInBounds_toArray, List.set_cons_zero, List.set_cons_succ]
          refine wpAnyH_take (i := 15) (oi := { dst := some 195, op := _, type := _, pos := _, after := _, guard := _ }) (v := ?_) rfl (by kernel_rfl) (by kernel_rfl) (by kernel_rfl) (fun _ _ _ h => h) (Or.inl ⟨by rfl, ?_⟩) trivial ?_
          rotate_left
          · intro Z hZ
            clear hZ
            go_simp
            all_goals with_reducible rfl
          try simp only [Act.put, List.setIfInBounds_toArray, List.set_cons_zero, List.set_cons_succ]
          refine wpAnyH_ready (rs := [16]) (by kernel_rfl) (by simp) ?_
          refine AllReadyH.cons rfl (fun K hK => ?_) AllReadyH.nil
          refine step_app_own rfl (.tmp 188) (.tmp 195) 32 rfl 0 3 j0 (.int .i64 0) 1 8 Tryz.underlying32 ji jz0 jz1 jz2 rfl (by decide) (.slice a8 k c8) k (ints (had.take k)) rfl H8.out.rest.own _ _ _ (ints (had.drop (k + 1))) rfl (HDl.out w8 ⟨0, 0, none⟩).1 (HDl.out w8 _).2 (ints_one _) (by unfold maxLen; omega) (by omega) (Nat.zero_le _) ?_
          intro v16 w16 hown16 hg16 hat16
          obtain ⟨a16, c16, rfl⟩ := ow_slice hown16
          obtain ⟨f1, f2, H16⟩ := H16f.out _ _ _ H8.out _ w16 a16 c16 hown16 hg16 hat16
          clear hown16 hg16 hat16
          simp only [Nat.add_zero] at H16
          refine hK.out _ _ trivial (fun _ => ?_)
          clear hK K
          try simp only [Act.put, List.setIfInBounds_toArray, List.set_cons_zero, List.set_cons_succ]
          refine wpAnyH_take (i := 17) (oi := { dst := some 197, op := _, type := _, pos := _, after := _, guard := _ }) (v := ?_) rfl (by kernel_rfl) (by kernel_rfl) (by kernel_rfl) (fun _ _ _ h => h) (Or.inl ⟨by rfl, ?_⟩) trivial ?_
          rotate_left
          · intro Z hZ
            clear hZ
            go_simp
            all_goals with_reducible rfl
          try simp only [Act.put, List.setIfInBounds_toArray, List.set_cons_zero, List.set_cons_succ]
          refine wpAnyH_take (i := 18) (oi := { dst := some 198, op := _, type := _, pos := _, after := _, guard := _ }) (v := ?_) rfl (by kernel_rfl) (by kernel_rfl) (by kernel_rfl) (fun _ _ _ h => h) (Or.inl ⟨by rfl, ?_⟩) trivial ?_
          rotate_left
          · intro Z hZ
            clear hZ
            go_simp
            all_goals with_reducible rfl
          try simp only [Act.put, List.setIfInBounds_toArray, List.set_cons_zero, List.set_cons_succ]
          refine wpAnyH_ready (rs := [19]) (by kernel_rfl) (by simp) ?_
          refine AllReadyH.cons rfl (fun K hK => ?_) AllReadyH.nil
          go_simp
          refine hK.out _ _ trivial (fun _ => ?_)
          clear hK K
          try simp only [Act.put, List.setIfInBounds_toArray, List.set_cons_zero, List.set_cons_succ]
          refine wpAnyH_done (by kernel_rfl) ?_ _
          refine NoPanic.normal ?_
          obtain ⟨r0, r1, r2, r3, r4, r5, rx, ry, r6, rf⟩ := two_cells H16.out hi
          go_wp2_with (first
            | (go_at_call 33; ((with_reducible refine (XD.out _ _ _ _ H16.out).mono ?_)); rintro e w17 ⟨rfl, hs⟩; have H17 := Lib.hid hs; clear r0 r1 r2 r3 r4 r5 rx ry r6 rf; obtain ⟨r0, r1, r2, r3, r4, r5, rx, ry, r6, rf⟩ := two_cells hs hi; clear hs)
            | (go_at_call 34; ((with_reducible refine (YD.out _ _ _ _ H17.out).mono ?_)); rintro e w18 ⟨rfl, hs⟩; have H18 := Lib.hid hs; clear hs))
          go_ret
          exact ⟨by first | rfl | simp, HPost.out _ 0 _ _ (by omega) H18.out⟩
        refine AllReadyH.cons rfl (fun K hK => ?_) AllReadyH.nil
        go_simp
        refine hK.out _ _ trivial (fun _ => ?_)
        clear hK K
        try simp only [Act.put, List.setIfInBounds_toArray, List.set_cons_zero, List.set_cons_succ]
        refine wpAnyH_take (i := 15) (oi := { dst := some 195, op := _, type := _, pos := _, after := _, guard := _ }) (v := ?_) rfl (by kernel_rfl) (by kernel_rfl) (by kernel_rfl) (fun _ _ _ h => h) (Or.inl ⟨by rfl, ?_⟩) trivial ?_
        rotate_left
        · intro Z hZ
          clear hZ
          go_simp
          all_goals with_reducible rfl
        try simp only [Act.put, List.setIfInBounds_toArray, List.set_cons_zero, List.set_cons_succ]
        refine wpAnyH_ready (rs := [8]) (by kernel_rfl) (by simp) ?_
        refine AllReadyH.cons rfl (fun K hK => ?_) AllReadyH.nil
        refine step_app_own rfl (.tmp 181) (.tmp 187) 32 rfl 0 3 j0 (.int .i64 0) 1 8 Tryz.underlying32 ji jz0 jz1 jz2 rfl (by decide) (.slice (some ⟨U.heap.size, 0, none⟩) 0 0) 0 [] rfl HE0.out ⟨g, 0, none⟩ k _ (ints (had.take k)) rfl HTk.out.1 HTk.out.2 (ints_one _) (by unfold maxLen; omega) (by omega) (Nat.zero_le _) ?_
        intro v8 w8 hown8 hg8 hat8
        rw [Nat.zero_add] at hown8
        obtain ⟨a8, c8, rfl⟩ := ow_slice hown8
        obtain ⟨m1, m2, H8, HD8⟩ := H8f.out w8 a8 c8 hown8 hg8 hat8
        clear hown8 hg8 hat8
        refine hK.out _ _ trivial (fun _ => ?_)
        clear hK K
        try simp only [Act.put, List.setIfInBounds_toArray, List.set_cons_zero, List.set_cons_succ]
        refine wpAnyH_ready (rs := [16]) (by kernel_rfl) (by simp) ?_
        refine AllReadyH.cons rfl (fun K hK => ?_) AllReadyH.nil
        refine step_app_own rfl (.tmp 188) (.tmp 195) 32 rfl 0 3 j0 (.int .i64 0) 1 8 Tryz.underlying32 ji jz0 jz1 jz2 rfl (by decide) (.slice a8 k c8) k (ints (had.take k)) rfl H8.out.rest.own _ _ _ (ints (had.drop (k + 1))) rfl (HDl.out w8 ⟨0, 0, none⟩).1 (HDl.out w8 _).2 (ints_one _) (by unfold maxLen; omega) (by omega) (Nat.zero_le _) ?_
        intro v16 w16 hown16 hg16 hat16
        obtain ⟨a16, c16, rfl⟩ := ow_slice hown16
        obtain ⟨f1, f2, H16⟩ := H16f.out _ _ _ H8.out _ w16 a16 c16 hown16 hg16 hat16
        clear hown16 hg16 hat16
        simp only [Nat.add_zero] at H16
        refine hK.out _ _ trivial (fun _ => ?_)
        clear hK K
        try simp only [Act.put, List.setIfInBounds_toArray, List.set_cons_zero, List.set_cons_succ]
        refine wpAnyH_take (i := 17) (oi := { dst := some 197, op := _, type := _, pos := _, after := _, guard := _ }) (v := ?_) rfl (by kernel_rfl) (by kernel_rfl) (by kernel_rfl) (fun _ _ _ h => h) (Or.inl ⟨by rfl, ?_⟩) trivial ?_
        rotate_left
        · intro Z hZ
          clear hZ
          go_simp
          all_goals with_reducible rfl
        try simp only [Act.put, List.setIfInBounds_toArray, List.set_cons_zero, List.set_cons_succ]
        refine wpAnyH_take (i := 18) (oi := { dst := some 198, op := _, type := _, pos := _, after := _, guard := _ }) (v := ?_) rfl (by kernel_rfl) (by kernel_rfl) (by kernel_rfl) (fun _ _ _ h => h) (Or.inl ⟨by rfl, ?_⟩) trivial ?_
        rotate_left
        · intro Z hZ
          clear hZ
          go_simp
          all_goals with_reducible rfl
        try simp only [Act.put, List.setIfInBounds_toArray, List.set_cons_zero, List.set_cons_succ]
        refine wpAnyH_ready (rs := [19]) (by kernel_rfl) (by simp) ?_
        refine AllReadyH.cons rfl (fun K hK => ?_) AllReadyH.nil
        go_simp
        refine hK.out _ _ trivial (fun _ => ?_)
        clear hK K
        try simp only [Act.put, List.setIfInBounds_toArray, List.set_cons_zero, List.set_cons_succ]
        refine wpAnyH_done (by kernel_rfl) ?_ _
        refine NoPanic.normal ?_
        obtain ⟨r0, r1, r2, r3, r4, r5, rx, ry, r6, rf⟩ := two_cells H16.out hi
        go_wp2_with (first
          | (go_at_call 33; ((with_reducible refine (XD.out _ _ _ _ H16.out).mono ?_)); rintro e w17 ⟨rfl, hs⟩; have H17 := Lib.hid hs; clear r0 r1 r2 r3 r4 r5 rx ry r6 rf; obtain ⟨r0, r1, r2, r3, r4, r5, rx, ry, r6, rf⟩ := two_cells hs hi; clear hs)
          | (go_at_call 34; ((with_reducible refine (YD.out _ _ _ _ H17.out).mono ?_)); rintro e w18 ⟨rfl, hs⟩; have H18 := Lib.hid hs; clear hs))
        go_ret
        exact ⟨by first | rfl | simp, HPost.out _ 0 _ _ (by omega) H18.out⟩
      refine AllReadyH.cons rfl (fun K hK => ?_) AllReadyH.nil
      go_simp
      refine hK.out _ _ trivial (fun _ => ?_)
      clear hK K
      try simp only [Act.put, List.setIfInBounds_toArray, List.set_cons_zero, List.set_cons_succ]
      refine wpAnyH_take (i := 15) (oi := { dst := some 195, op := _, type := _, pos := _, after := _, guard := _ }) (v := ?_) rfl (by kernel_rfl) (by kernel_rfl) (by kernel_rfl) (fun _ _ _ h => h) (Or.inl ⟨by rfl, ?_⟩) trivial ?_
      rotate_left
      · intro Z hZ
        clear hZ
        go_simp
        all_goals with_reducible rfl
      try simp only [Act.put, List.setIfInBounds_toArray, List.set_cons_zero, List.set_cons_succ]
      refine wpAnyH_ready (rs := [5]) (by kernel_rfl) (by simp) ?_
      refine AllReadyH.cons rfl (fun K hK => ?_) AllReadyH.nil
      go_simp
      refine hK.out _ _ trivial (fun _ => ?_)
      clear hK K
      try simp only [Act.put, List.setIfInBounds_toArray, List.set_cons_zero, List.set_cons_succ]
      refine wpAnyH_take (i := 7) (oi := { dst := some 187, op := _, type := _, pos := _, after := _, guard := _ }) (v := ?_) rfl (by kernel_rfl) (by kernel_rfl) (by kernel_rfl) (fun _ _ _ h => h) (Or.inl ⟨by rfl, ?_⟩) trivial ?_
      rotate_left
      · intro Z hZ
        clear hZ
        go_simp
        all_goals with_reducible rfl
      try simp only [Act.put, List.setIfInBounds_toArray, List.set_cons_zero, List.set_cons_succ]
      refine wpAnyH_ready (rs := [8]) (by kernel_rfl) (by simp) ?_
      refine AllReadyH.cons rfl (fun K hK => ?_) AllReadyH.nil
      refine step_app_own rfl (.tmp 181) (.tmp 187) 32 rfl 0 3 j0 (.int .i64 0) 1 8 Tryz.underlying32 ji jz0 jz1 jz2 rfl (by decide) (.slice (some ⟨U.heap.size, 0, none⟩) 0 0) 0 [] rfl HE0.out ⟨g, 0, none⟩ k _ (ints (had.take k)) rfl HTk.out.1 HTk.out.2 (ints_one _) (by unfold maxLen; omega) (by omega) (Nat.zero_le _) ?_
      intro v8 w8 hown8 hg8 hat8
      rw [Nat.zero_add] at hown8
      obtain ⟨a8, c8, rfl⟩ := ow_slice hown8
      obtain ⟨m1, m2, H8, HD8⟩ := H8f.out w8 a8 c8 hown8 hg8 hat8
      clear hown8 hg8 hat8
      refine hK.out _ _ trivial (fun _ => ?_)
      clear hK K
      try simp only [Act.put, List.setIfInBounds_toArray, List.set_cons_zero, List.set_cons_succ]
      refine wpAnyH_ready (rs := [16]) (by kernel_rfl) (by simp) ?_
      refine AllReadyH.cons rfl (fun K hK => ?_) AllReadyH.nil
      refine step_app_own rfl (.tmp 188) (.tmp 195) 32 rfl 0 3 j0 (.int .i64 0) 1 8 Tryz.underlying32 ji jz0 jz1 jz2 rfl (by decide) (.slice a8 k c8) k (ints (had.take k)) rfl H8.out.rest.own _ _ _ (ints (had.drop (k + 1))) rfl (HDl.out w8 ⟨0, 0, none⟩).1 (HDl.out w8 _).2 (ints_one _) (by unfold maxLen; omega) (by omega) (Nat.zero_le _) ?_
      intro v16 w16 hown16 hg16 hat16
      obtain ⟨a16, c16, rfl⟩ := ow_slice hown16
      obtain ⟨f1, f2, H16⟩ := H16f.out _ _ _ H8.out _ w16 a16 c16 hown16 hg16 hat16
      clear hown16 hg16 hat16
      simp only [Nat.add_zero] at H16
      refine hK.out _ _ trivial (fun _ => ?_)
      clear hK K
      try simp only [Act.put, List.setIfInBounds_toArray, List.set_cons_zero, List.set_cons_succ]
      refine wpAnyH_take (i := 17) (oi := { dst := some 197, op := _, type := _, pos := _, after := _, guard := _ }) (v := ?_) rfl (by kernel_rfl) (by kernel_rfl) (by kernel_rfl) (fun _ _ _ h => h) (Or.inl ⟨by rfl, ?_⟩) trivial ?_
      rotate_left
      · intro Z hZ
        clear hZ
        go_simp
        all_goals with_reducible rfl
      try simp only [Act.put, List.setIfInBounds_toArray, List.set_cons_zero, List.set_cons_succ]
      refine wpAnyH_take (i := 18) (oi := { dst := some 198, op := _, type := _, pos := _, after := _, guard := _ }) (v := ?_) rfl (by kernel_rfl) (by kernel_rfl) (by kernel_rfl) (fun _ _ _ h => h) (Or.inl ⟨by rfl, ?_⟩) trivial ?_
      rotate_left
      · intro Z hZ
        clear hZ
        go_simp
        all_goals with_reducible rfl
      try simp only [Act.put, List.setIfInBounds_toArray, List.set_cons_zero, List.set_cons_succ]
      refine wpAnyH_ready (rs := [19]) (by kernel_rfl) (by simp) ?_
      refine AllReadyH.cons rfl (fun K hK => ?_) AllReadyH.nil
      go_simp
      refine hK.out _ _ trivial (fun _ => ?_)
      clear hK K
      try simp only [Act.put, List.setIfInBounds_toArray, List.set_cons_zero, List.set_cons_succ]
      refine wpAnyH_done (by kernel_rfl) ?_ _
      refine NoPanic.normal ?_
      obtain ⟨r0, r1, r2, r3, r4, r5, rx, ry, r6, rf⟩ := two_cells H16.out hi
      go_wp2_with (first
        | (go_at_call 33; ((with_reducible refine (XD.out _ _ _ _ H16.out).mono ?_)); rintro e w17 ⟨rfl, hs⟩; have H17 := Lib.hid hs; clear r0 r1 r2 r3 r4 r5 rx ry r6 rf; obtain ⟨r0, r1, r2, r3, r4, r5, rx, ry, r6, rf⟩ := two_cells hs hi; clear hs)
        | (go_at_call 34; ((with_reducible refine (YD.out _ _ _ _ H17.out).mono ?_)); rintro e w18 ⟨rfl, hs⟩; have H18 := Lib.hid hs; clear hs))
      go_ret
      exact ⟨by first | rfl | simp, HPost.out _ 0 _ _ (by omega) H18.out⟩
    refine AllReadyH.cons rfl (fun K hK => ?_) ?_
    · go_simp
      refine hK.out _ _ trivial (fun _ => ?_)
      clear hK K
      try simp only [Act.put, List.setIfInBounds_toArray, List.set_cons_zero, List.set_cons_succ]
      refine wpAnyH_take (i := 7) (oi := { dst := some 187, op := _, type := _, pos := _, after := _, guard := _ }) (v := ?_) rfl (by kernel_rfl) (by kernel_rfl) (by kernel_rfl) (fun _ _ _ h => h) (Or.inl ⟨by rfl, ?_⟩) trivial ?_
      rotate_left
      · intro Z hZ
        clear hZ
        go_simp
        all_goals with_reducible rfl
      try simp only [Act.put, List.setIfInBounds_toArray, List.set_cons_zero, List.set_cons_succ]
      refine wpAnyH_ready (rs := [1, 12]) (by kernel_rfl) (by simp) ?_
      refine AllReadyH.cons rfl (fun K hK => ?_) ?_
      · go_simp
        refine hK.out _ _ trivial (fun _ => ?_)
        clear hK K
        try simp only [Act.put, List.setIfInBounds_toArray, List.set_cons_zero, List.set_cons_succ]
        refine wpAnyH_ready (rs := [8, 12]) (by kernel_rfl) (by simp) ?_
        refine AllReadyH.cons rfl (fun K hK => ?_) ?_
        · refine step_app_own rfl (.tmp 181) (.tmp 187) 32 rfl 0 3 j0 (.int .i64 0) 1 8 Tryz.underlying32 ji jz0 jz1 jz2 rfl (by decide) (.slice (some ⟨U.heap.size, 0, none⟩) 0 0) 0 [] rfl HE0.out ⟨g, 0, none⟩ k _ (ints (had.take k)) rfl HTk.out.1 HTk.out.2 (ints_one _) (by unfold maxLen; omega) (by omega) (Nat.zero_le _) ?_
          intro v8 w8 hown8 hg8 hat8
          rw [Nat.zero_add] at hown8
          obtain ⟨a8, c8, rfl⟩ := ow_slice hown8
          obtain ⟨m1, m2, H8, HD8⟩ := H8f.out w8 a8 c8 hown8 hg8 hat8
          clear hown8 hg8 hat8
          refine hK.out _ _ trivial (fun _ => ?_)
          clear hK K
          try simp only [Act.put, List.setIfInBounds_toArray, List.set_cons_zero, List.set_cons_succ]
          refine wpAnyH_ready (rs := [12]) (by kernel_rfl) (by simp) ?_
          refine AllReadyH.cons rfl (fun K hK => ?_) AllReadyH.nil
          go_simp
          refine hK.out _ _ trivial (fun _ => ?_)
          clear hK K
          try simp only [Act.put, List.setIfInBounds_toArray, List.set_cons_zero, List.set_cons_succ]
          refine wpAnyH_take (i := 15) (oi := { dst := some 195, op := _, type := _, pos := _, after := _, guard := _ }) (v := ?_) rfl (by kernel_rfl) (by kernel_rfl) (by kernel_rfl) (fun _ _ _ h => h) (Or.inl ⟨by rfl, ?_⟩) trivial ?_
          rotate_left
          · intro Z hZ
            clear hZ
            go_simp
            all_goals with_reducible rfl
          try simp only [Act.put, List.setIfInBounds_toArray, List.set_cons_zero, List.set_cons_succ]
          refine wpAnyH_ready (rs := [16]) (by kernel_rfl) (by simp) ?_
          refine AllReadyH.cons rfl (fun K hK => ?_) AllReadyH.nil
          refine step_app_own rfl (.tmp 188) (.tmp 195) 32 rfl 0 3 j0 (.int .i64 0) 1 8 Tryz.underlying32 ji jz0 jz1 jz2 rfl (by decide) (.slice a8 k c8) k (ints (had.take k)) rfl H8.out.rest.own _ _ _ (ints (had.drop (k + 1))) rfl (HDl.out w8 ⟨0, 0, none⟩).1 (HDl.out w8 _).2 (ints_one _) (by unfold maxLen; omega) (by omega) (Nat.zero_le _) ?_
          intro v16 w16 hown16 hg16 hat16
          obtain ⟨a16, c16, rfl⟩ := ow_slice hown16
          obtain ⟨f1, f2, H16⟩ := H16f.out _ _ _ H8.out _ w16 a16 c16 hown16 hg16 hat16
          clear hown16 hg16 hat16
          simp only [Nat.add_zero] at H16
          refine hK.out _ _ trivial (fun _ => ?_)
          clear hK K
          try simp only [Act.put, List.setIfInBounds_toArray, List.set_cons_zero, List.set_cons_succ]
          refine wpAnyH_take (i := 17) (oi := { dst := some 197, op := _, type := _, pos := _, after := _, guard := _ }) (v := ?_) rfl (by kernel_rfl) (by kernel_rfl) (by kernel_rfl) (fun _ _ _ h => h) (Or.inl ⟨by rfl, ?_⟩) trivial ?_
          rotate_left
          · intro Z hZ
            clear hZ
            go_simp
            all_goals with_reducible rfl
          try simp only [Act.put, List.setIfInBounds_toArray, List.set_cons_zero, List.set_cons_succ]
          refine wpAnyH_take (i := 18) (oi := { dst := some 198, op := _, type := _, pos := _, after := _, guard := _ }) (v := ?_) rfl (by kernel_rfl) (by kernel_rfl) (by kernel_rfl) (fun _ _ _ h => h) (Or.inl ⟨by rfl, ?_⟩) trivial ?_
          rotate_left
          · intro Z hZ
            clear hZ
            go_simp
            all_goals with_reducible rfl
          try simp only [Act.put, List.setIfInBounds_toArray, List.set_cons_zero, List.set_cons_succ]
          refine wpAnyH_ready (rs := [19]) (by kernel_rfl) (by simp) ?_
          refine AllReadyH.cons rfl (fun K hK => ?_) AllReadyH.nil
          go_simp
          refine hK.out _ _ trivial (fun _ => ?_)
          clear hK K
          try simp only [Act.put, List.setIfInBounds_toArray, List.set_cons_zero, List.set_cons_succ]
          refine wpAnyH_done (by kernel_rfl) ?_ _
          refine NoPanic.normal ?_
          obtain ⟨r0, r1, r2, r3, r4, r5, rx, ry, r6, rf⟩ := two_cells H16.out hi
          go_wp2_with (first
            | (go_at_call 33; ((with_reducible refine (XD.out _ _ _ _ H16.out).mono ?_)); rintro e w17 ⟨rfl, hs⟩; have H17 := Lib.hid hs; clear r0 r1 r2 r3 r4 r5 rx ry r6 rf; obtain ⟨r0, r1, r2, r3, r4, r5, rx, ry, r6, rf⟩ := two_cells hs hi; clear hs)
            | (go_at_call 34; ((with_reducible refine (YD.out _ _ _ _ H17.out).mono ?_)); rintro e w18 ⟨rfl, hs⟩; have H18 := Lib.hid hs; clear hs))
          go_ret
          exact ⟨by first | rfl | simp, HPost.out _ 0 _ _ (by omega) H18.out⟩
        refine AllReadyH.cons rfl (fun K hK => ?_) AllReadyH.nil
        go_simp
        refine hK.out _ _ trivial (fun _ => ?_)
        clear hK K
        try simp only [Act.put, List.setIfInBounds_toArray, List.set_cons_zero, List.set_cons_succ]
        refine wpAnyH_take (i := 15) (oi := { dst := some 195, op := _, type := _, pos := _, after := _, guard := _ }) (v := ?_) rfl (by kernel_rfl) (by kernel_rfl) (by kernel_rfl) (fun _ _ _ h => h) (Or.inl ⟨by rfl, ?_⟩) trivial ?_
        rotate_left
        · intro Z hZ
          clear hZ
          go_simp
          all_goals with_reducible rfl
        try simp only [Act.put, List.setIfInBounds_toArray, List.set_cons_zero, List.set_cons_succ]
        refine wpAnyH_ready (rs := [8]) (by kernel_rfl) (by simp) ?_
        refine AllReadyH.cons rfl (fun K hK => ?_) AllReadyH.nil
        refine step_app_own rfl (.tmp 181) (.tmp 187) 32 rfl 0 3 j0 (.int .i64 0) 1 8 Tryz.underlying32 ji jz0 jz1 jz2 rfl (by decide) (.slice (some ⟨U.heap.size, 0, none⟩) 0 0) 0 [] rfl HE0.out ⟨g, 0, none⟩ k _ (ints (had.take k)) rfl HTk.out.1 HTk.out.2 (ints_one _) (by unfold maxLen; omega) (by omega) (Nat.zero_le _) ?_
        intro v8 w8 hown8 hg8 hat8
        rw [Nat.zero_add] at hown8
        obtain ⟨a8, c8, rfl⟩ := ow_slice hown8
        obtain ⟨m1, m2, H8, HD8⟩ := H8f.out w8 a8 c8 hown8 hg8 hat8
        clear hown8 hg8 hat8
        refine hK.out _ _ trivial (fun _ => ?_)
        clear hK K
        try simp only [Act.put, List.setIfInBounds_toArray, List.set_cons_zero, List.set_cons_succ]
        refine wpAnyH_ready (rs := [16]) (by kernel_rfl) (by simp) ?_
        refine AllReadyH.cons rfl (fun K hK => ?_) AllReadyH.nil
        refine step_app_own rfl (.tmp 188) (.tmp 195) 32 rfl 0 3 j0 (.int .i64 0) 1 8 Tryz.underlying32 ji jz0 jz1 jz2 rfl (by decide) (.slice a8 k c8) k (ints (had.take k)) rfl H8.out.rest.own _ _ _ (ints (had.drop (k + 1))) rfl (HDl.out w8 ⟨0, 0, none⟩).1 (HDl.out w8 _).2 (ints_one _) (by unfold maxLen; omega) (by omega) (Nat.zero_le _) ?_
        intro v16 w16 hown16 hg16 hat16
        obtain ⟨a16, c16, rfl⟩ := ow_slice hown16
        obtain ⟨f1, f2, H16⟩ := H16f.out _ _ _ H8.out _ w16 a16 c16 hown16 hg16 hat16
        clear hown16 hg16 hat16
        simp only [Nat.add_zero] at H16
        refine hK.out _ _ trivial (fun _ => ?_)
        clear hK K
        try simp only [Act.put, List.setIfInBounds_toArray, List.set_cons_zero, List.set_cons_succ]
        refine wpAnyH_take (i := 17) (oi := { dst := some 197, op := _, type := _, pos := _, after := _, guard := _ }) (v := ?_) rfl (by kernel_rfl) (by kernel_rfl) (by kernel_rfl) (fun _ _ _ h => h) (Or.inl ⟨by rfl, ?_⟩) trivial ?_
        rotate_left
        · intro Z hZ
          clear hZ
          go_simp
          all_goals with_reducible rfl
        try simp only [Act.put, List.setIfInBounds_toArray, List.set_cons_zero, List.set_cons_succ]
        refine wpAnyH_take (i := 18) (oi := { dst := some 198, op := _, type := _, pos := _, after := _, guard := _ }) (v := ?_) rfl (by kernel_rfl) (by kernel_rfl) (by kernel_rfl) (fun _ _ _ h => h) (Or.inl ⟨by rfl, ?_⟩) trivial ?_
        rotate_left
        · intro Z hZ
          clear hZ
          go_simp
          all_goals with_reducible rfl
        try simp only [Act.put, List.setIfInBounds_toArray, List.set_cons_zero, List.set_cons_succ]
        refine wpAnyH_ready (rs := [19]) (by kernel_rfl) (by simp) ?_
        refine AllReadyH.cons rfl (fun K hK => ?_) AllReadyH.nil
        go_simp
        refine hK.out _ _ trivial (fun _ => ?_)
        clear hK K
        try simp only [Act.put, List.setIfInBounds_toArray, List.set_cons_zero, List.set_cons_succ]
        refine wpAnyH_done (by kernel_rfl) ?_ _
        refine NoPanic.normal ?_
        obtain ⟨r0, r1, r2, r3, r4, r5, rx, ry, r6, rf⟩ := two_cells H16.out hi
        go_wp2_with (first
          | (go_at_call 33; ((with_reducible refine (XD.out _ _ _ _ H16.out).mono ?_)); rintro e w17 ⟨rfl, hs⟩; have H17 := Lib.hid hs; clear r0 r1 r2 r3 r4 r5 rx ry r6 rf; obtain ⟨r0, r1, r2, r3, r4, r5, rx, ry, r6, rf⟩ := two_cells hs hi; clear hs)
          | (go_at_call 34; ((with_reducible refine (YD.out _ _ _ _ H17.out).mono ?_)); rintro e w18 ⟨rfl, hs⟩; have H18 := Lib.hid hs; clear hs))
        go_ret
        exact ⟨by first | rfl | simp, HPost.out _ 0 _ _ (by omega) H18.out⟩
      refine AllReadyH.cons rfl (fun K hK => ?_) AllReadyH.nil
      go_simp
      refine hK.out _ _ trivial (fun _ => ?_)
      clear hK K
      try simp only [Act.put, List.setIfInBounds_toArray, List.set_cons_zero, List.set_cons_succ]
      refine wpAnyH_take (i := 15) (oi := { dst := some 195, op := _, type := _, pos := _, after := _, guard := _ }) (v := ?_) rfl (by kernel_rfl) (by kernel_rfl) (by kernel_rfl) (fun _ _ _ h => h) (Or.inl ⟨by rfl, ?_⟩) trivial ?_
      rotate_left
      · intro Z hZ
        clear hZ
        go_simp
        all_goals with_reducible rfl
      try simp only [Act.put, List.setIfInBounds_toArray, List.set_cons_zero, List.set_cons_succ]
      refine wpAnyH_ready (rs := [1]) (by kernel_rfl) (by simp) ?_
      refine AllReadyH.cons rfl (fun K hK => ?_) AllReadyH.nil
      go_simp
      refine hK.out _ _ trivial (fun _ => ?_)
      clear hK K
      try simp only [Act.put, List.setIfInBounds_toArray, List.set_cons_zero, List.set_cons_succ]
      refine wpAnyH_ready (rs := [8]) (by kernel_rfl) (by simp) ?_
      refine AllReadyH.cons rfl (fun K hK => ?_) AllReadyH.nil
      refine step_app_own rfl (.tmp 181) (.tmp 187) 32 rfl 0 3 j0 (.int .i64 0) 1 8 Tryz.underlying32 ji jz0 jz1 jz2 rfl (by decide) (.slice (some ⟨U.heap.size, 0, none⟩) 0 0) 0 [] rfl HE0.out ⟨g, 0, none⟩ k _ (ints (had.take k)) rfl HTk.out.1 HTk.out.2 (ints_one _) (by unfold maxLen; omega) (by omega) (Nat.zero_le _) ?_
      intro v8 w8 hown8 hg8 hat8
      rw [Nat.zero_add] at hown8
      obtain ⟨a8, c8, rfl⟩ := ow_slice hown8
      obtain ⟨m1, m2, H8, HD8⟩ := H8f.out w8 a8 c8 hown8 hg8 hat8
      clear hown8 hg8 hat8
      refine hK.out _ _ trivial (fun _ => ?_)
      clear hK K
      try simp only [Act.put, List.setIfInBounds_toArray, List.set_cons_zero, List.set_cons_succ]
      refine wpAnyH_ready (rs := [16]) (by kernel_rfl) (by simp) ?_
      refine AllReadyH.cons rfl (fun K hK => ?_) AllReadyH.nil
      refine step_app_own rfl (.tmp 188) (.tmp 195) 32 rfl 0 3 j0 (.int .i64 0) 1 8 Tryz.underlying32 ji jz0 jz1 jz2 rfl (by decide) (.slice a8 k c8) k (ints (had.take k)) rfl H8.out.rest.own _ _ _ (ints (had.drop (k + 1))) rfl (HDl.out w8 ⟨0, 0, none⟩).1 (HDl.out w8 _).2 (ints_one _) (by unfold maxLen; omega) (by omega) (Nat.zero_le _) ?_
      intro v16 w16 hown16 hg16 hat16
      obtain ⟨a16, c16, rfl⟩ := ow_slice hown16
      obtain ⟨f1, f2, H16⟩ := H16f.out _ _ _ H8.out _ w16 a16 c16 hown16 hg16 hat16
      clear hown16 hg16 hat16
      simp only [Nat.add_zero] at H16
      refine hK.out _ _ trivial (fun _ => ?_)
      clear hK K
      try simp only [Act.put, List.setIfInBounds_toArray, List.set_cons_zero, List.set_cons_succ]
      refine wpAnyH_take (i := 17) (oi := { dst := some 197, op := _, type := _, pos := _, after := _, guard := _ }) (v := ?_) rfl (by kernel_rfl) (by kernel_rfl) (by kernel_rfl) (fun _ _ _ h => h) (Or.inl ⟨by rfl, ?_⟩) trivial ?_
      rotate_left
      · intro Z hZ
        clear hZ
        go_simp
        all_goals with_reducible rfl
      try simp only [Act.put, List.setIfInBounds_toArray, List.set_cons_zero, List.set_cons_succ]
      refine wpAnyH_take (i := 18) (oi := { dst := some 198, op := _, type := _, pos := _, after := _, guard := _ }) (v := ?_) rfl (by kernel_rfl) (by kernel_rfl) (by kernel_rfl) (fun _ _ _ h => h) (Or.inl ⟨by rfl, ?_⟩) trivial ?_
      rotate_left
      · intro Z hZ
        clear hZ
        go_simp
        all_goals with_reducible rfl
      try simp only [Act.put, List.setIfInBounds_toArray, List.set_cons_zero, List.set_cons_succ]
      refine wpAnyH_ready (rs := [19]) (by kernel_rfl) (by simp) ?_
      refine AllReadyH.cons rfl (fun K hK => ?_) AllReadyH.nil
      go_simp
      refine hK.out _ _ trivial (fun _ => ?_)
      clear hK K
      try simp only [Act.put, List.setIfInBounds_toArray, List.set_cons_zero, List.set_cons_succ]
      refine wpAnyH_done (by kernel_rfl) ?_ _
      refine NoPanic.normal ?_
      obtain ⟨r0, r1, r2, r3, r4, r5, rx, ry, r6, rf⟩ := two_cells H16.out hi
      go_wp2_with (first
        | (go_at_call 33; ((with_reducible refine (XD.out _ _ _ _ H16.out).mono ?_)); rintro e w17 ⟨rfl, hs⟩; have H17 := Lib.hid hs; clear r0 r1 r2 r3 r4 r5 rx ry r6 rf; obtain ⟨r0, r1, r2, r3, r4, r5, rx, ry, r6, rf⟩ := two_cells hs hi; clear hs)
        | (go_at_call 34; ((with_reducible refine (YD.out _ _ _ _ H17.out).mono ?_)); rintro e w18 ⟨rfl, hs⟩; have H18 := Lib.hid hs; clear hs))
      go_ret
      exact ⟨by first | rfl | simp, HPost.out _ 0 _ _ (by omega) H18.out⟩
    refine AllReadyH.cons rfl (fun K hK => ?_) AllReadyH.nil
    go_simp
    refine hK.out _ _ trivial (fun _ => ?_)
    clear hK K
    try simp only [Act.put, List.setIfInBounds_toArray, List.set_cons_zero, List.set_cons_succ]
    refine wpAnyH_take (i := 15) (oi := { dst := some 195, op := _, type := _, pos := _, after := _, guard := _ }) (v := ?_) rfl (by kernel_rfl) (by kernel_rfl) (by kernel_rfl) (fun _ _ _ h => h) (Or.inl ⟨by rfl, ?_⟩) trivial ?_
    rotate_left
    · intro Z hZ
      clear hZ
      go_simp
      all_goals with_reducible rfl
    try simp only [Act.put, List.setIfInBounds_toArray, List.set_cons_zero, List.set_cons_succ]
    refine wpAnyH_ready (rs := [1, 5]) (by kernel_rfl) (by simp) ?_
    refine AllReadyH.cons rfl (fun K hK => ?_) ?_
    · go_simp
      refine hK.out _ _ trivial (fun _ => ?_)
      clear hK K
      try simp only [Act.put, List.setIfInBounds_toArray, List.set_cons_zero, List.set_cons_succ]
      refine wpAnyH_ready (rs := [5]) (by kernel_rfl) (by simp) ?_
      refine AllReadyH.cons rfl (fun K hK => ?_) AllReadyH.nil
      go_simp
      refine hK.out _ _ trivial (fun _ => ?_)
      clear hK K
      try simp only [Act.put, List.setIfInBounds_toArray, List.set_cons_zero, List.set_cons_succ]
      refine wpAnyH_take (i := 7) (oi := { dst := some 187, op := _, type := _, pos := _, after := _, guard := _ }) (v := ?_) rfl (by kernel_rfl) (by kernel_rfl) (by kernel_rfl) (fun _ _ _ h => h) (Or.inl ⟨by rfl, ?_⟩) trivial ?_
      rotate_left
      · intro Z hZ
        clear hZ
        go_simp
        all_goals with_reducible rfl
      try simp only [Act.put, List.setIfInBounds_toArray, List.set_cons_zero, List.set_cons_succ]
      refine wpAnyH_ready (rs := [8]) (by kernel_rfl) (by simp) ?_
      refine AllReadyH.cons rfl (fun K hK => ?_) AllReadyH.nil
      refine step_app_own rfl (.tmp 181) (.tmp 187) 32 rfl 0 3 j0 (.int .i64 0) 1 8 Tryz.underlying32 ji jz0 jz1 jz2 rfl (by decide) (.slice (some ⟨U.heap.size, 0, none⟩) 0 0) 0 [] rfl HE0.out ⟨g, 0, none⟩ k _ (ints (had.take k)) rfl HTk.out.1 HTk.out.2 (ints_one _) (by unfold maxLen; omega) (by omega) (Nat.zero_le _) ?_
      intro v8 w8 hown8 hg8 hat8
      rw [Nat.zero_add] at hown8
      obtain ⟨a8, c8, rfl⟩ := ow_slice hown8
      obtain ⟨m1, m2, H8, HD8⟩ := H8f.out w8 a8 c8 hown8 hg8 hat8
      clear hown8 hg8 hat8
      refine hK.out _ _ trivial (fun _ => ?_)
      clear hK K
      try simp only [Act.put, List.setIfInBounds_toArray, List.set_cons_zero, List.set_cons_succ]
      refine wpAnyH_ready (rs := [16]) (by kernel_rfl) (by simp) ?_
      refine AllReadyH.cons rfl (fun K hK => ?_) AllReadyH.nil
      refine step_app_own rfl (.tmp 188) (.tmp 195) 32 rfl 0 3 j0 (.int .i64 0) 1 8 Tryz.underlying32 ji jz0 jz1 jz2 rfl (by decide) (.slice a8 k c8) k (ints (had.take k)) rfl H8.out.rest.own _ _ _ (ints (had.drop (k + 1))) rfl (HDl.out w8 ⟨0, 0, none⟩).1 (HDl.out w8 _).2 (ints_one _) (by unfold maxLen; omega) (by omega) (Nat.zero_le _) ?_
      intro v16 w16 hown16 hg16 hat16
      obtain ⟨a16, c16, rfl⟩ := ow_slice hown16
      obtain ⟨f1, f2, H16⟩ := H16f.out _ _ _ H8.out _ w16 a16 c16 hown16 hg16 hat16
      clear hown16 hg16 hat16
      simp only [Nat.add_zero] at H16
      refine hK.out _ _ trivial (fun _ => ?_)
      clear hK K
      try simp only [Act.put, List.setIfInBounds_toArray, List.set_cons_zero, List.set_cons_succ]
      refine wpAnyH_take (i := 17) (oi := { dst := some 197, op := _, type := _, pos := _, after := _, guard := _ }) (v := ?_) rfl (by kernel_rfl) (by kernel_rfl) (by kernel_rfl) (fun _ _ _ h => h) (Or.inl ⟨by rfl, ?_⟩) trivial ?_
      rotate_left
      · intro Z hZ
        clear hZ
        go_simp
        all_goals with_reducible rfl
      try simp only [Act.put, List.setIfInBounds_toArray, List.set_cons_zero, List.set_cons_succ]
      refine wpAnyH_take (i := 18) (oi := { dst := some 198, op := _, type := _, pos := _, after := _, guard := _ }) (v := ?_) rfl (by kernel_rfl) (by kernel_rfl) (by kernel_rfl) (fun _ _ _ h => h) (Or.inl ⟨by rfl, ?_⟩) trivial ?_
      rotate_left
      · intro Z hZ
        clear hZ
        go_simp
        all_goals with_reducible rfl
      try simp only [Act.put, List.setIfInBounds_toArray, List.set_cons_zero, List.set_cons_succ]
      refine wpAnyH_ready (rs := [19]) (by kernel_rfl) (by simp) ?_
      refine AllReadyH.cons rfl (fun K hK => ?_) AllReadyH.nil
      go_simp
      refine hK.out _ _ trivial (fun _ => ?_)
      clear hK K
      try simp only [Act.put, List.setIfInBounds_toArray, List.set_cons_zero, List.set_cons_succ]
      refine wpAnyH_done (by kernel_rfl) ?_ _
      refine NoPanic.normal ?_
      obtain ⟨r0, r1, r2, r3, r4, r5, rx, ry, r6, rf⟩ := two_cells H16.out hi
      go_wp2_with (first
        | (go_at_call 33; ((with_reducible refine (XD.out _ _ _ _ H16.out).mono ?_)); rintro e w17 ⟨rfl, hs⟩; have H17 := Lib.hid hs; clear r0 r1 r2 r3 r4 r5 rx ry r6 rf; obtain ⟨r0, r1, r2, r3, r4, r5, rx, ry, r6, rf⟩ := two_cells hs hi; clear hs)
        | (go_at_call 34; ((with_reducible refine (YD.out _ _ _ _ H17.out).mono ?_)); rintro e w18 ⟨rfl, hs⟩; have H18 := Lib.hid hs; clear hs))
      go_ret
      exact ⟨by first | rfl | simp, HPost.out _ 0 _ _ (by omega) H18.out⟩
    refine AllReadyH.cons rfl (fun K hK => ?_) AllReadyH.nil
    go_simp
    refine hK.out _ _ trivial (fun _ => ?_)
    clear hK K
    try simp only [Act.put, List.setIfInBounds_toArray, List.set_cons_zero, List.set_cons_succ]
    refine wpAnyH_take (i := 7) (oi := { dst := some 187, op := _, type := _, pos := _, after := _, guard := _ }) (v := ?_) rfl (by kernel_rfl) (by kernel_rfl) (by kernel_rfl) (fun _ _ _ h => h) (Or.inl ⟨by rfl, ?_⟩) trivial ?_
    rotate_left
    · intro Z hZ
      clear hZ
      go_simp
      all_goals with_reducible rfl
    try simp only [Act.put, List.setIfInBounds_toArray, List.set_cons_zero, List.set_cons_succ]
    refine wpAnyH_ready (rs := [1]) (by kernel_rfl) (by simp) ?_
    refine AllReadyH.cons rfl (fun K hK => ?_) AllReadyH.nil
    go_simp
    refine hK.out _ _ trivial (fun _ => ?_)
    clear hK K
    try simp only [Act.put, List.setIfInBounds_toArray, List.set_cons_zero, List.set_cons_succ]
    refine wpAnyH_ready (rs := [8]) (by kernel_rfl) (by simp) ?_
    refine AllReadyH.cons rfl (fun K hK => ?_) AllReadyH.nil
    refine step_app_own rfl (.tmp 181) (.tmp 187) 32 rfl 0 3 j0 (.int .i64 0) 1 8 Tryz.underlying32 ji jz0 jz1 jz2 rfl (by decide) (.slice (some ⟨U.heap.size, 0, none⟩) 0 0) 0 [] rfl HE0.out ⟨g, 0, none⟩ k _ (ints (had.take k)) rfl HTk.out.1 HTk.out.2 (ints_one _) (by unfold maxLen; omega) (by omega) (Nat.zero_le _) ?_
    intro v8 w8 hown8 hg8 hat8
    rw [Nat.zero_add] at hown8
    obtain ⟨a8, c8, rfl⟩ := ow_slice hown8
    obtain ⟨m1, m2, H8, HD8⟩ := H8f.out w8 a8 c8 hown8 hg8 hat8
    clear hown8 hg8 hat8
    refine hK.out _ _ trivial (fun _ => ?_)
    clear hK K
    try simp only [Act.put, List.setIfInBounds_toArray, List.set_cons_zero, List.set_cons_succ]
    refine wpAnyH_ready (rs := [16]) (by kernel_rfl) (by simp) ?_
    refine AllReadyH.cons rfl (fun K hK => ?_) AllReadyH.nil
    refine step_app_own rfl (.tmp 188) (.tmp 195) 32 rfl 0 3 j0 (.int .i64 0) 1 8 Tryz.underlying32 ji jz0 jz1 jz2 rfl (by decide) (.slice a8 k c8) k (ints (had.take k)) rfl H8.out.rest.own _ _ _ (ints (had.drop (k + 1))) rfl (HDl.out w8 ⟨0, 0, none⟩).1 (HDl.out w8 _).2 (ints_one _) (by unfold maxLen; omega) (by omega) (Nat.zero_le _) ?_
    intro v16 w16 hown16 hg16 hat16
    obtain ⟨a16, c16, rfl⟩ := ow_slice hown16
    obtain ⟨f1, f2, H16⟩ := H16f.out _ _ _ H8.out _ w16 a16 c16 hown16 hg16 hat16
    clear hown16 hg16 hat16
    simp only [Nat.add_zero] at H16
    refine hK.out _ _ trivial (fun _ => ?_)
    clear hK K
    try simp only [Act.put, List.setIfInBounds_toArray, List.set_cons_zero, List.set_cons_succ]
    refine wpAnyH_take (i := 17) (oi := { dst := some 197, op := _, type := _, pos := _, after := _, guard := _ }) (v := ?_) rfl (by kernel_rfl) (by kernel_rfl) (by kernel_rfl) (fun _ _ _ h => h) (Or.inl ⟨by rfl, ?_⟩) trivial ?_
    rotate_left
    · intro Z hZ
      clear hZ
      go_simp
      all_goals with_reducible rfl
    try simp only [Act.put, List.setIfInBounds_toArray, List.set_cons_zero, List.set_cons_succ]
    refine wpAnyH_take (i := 18) (oi := { dst := some 198, op := _, type := _, pos := _, after := _, guard := _ }) (v := ?_) rfl (by kernel_rfl) (by kernel_rfl) (by kernel_rfl) (fun _ _ _ h => h) (Or.inl ⟨by rfl, ?_⟩) trivial ?_
    rotate_left
    · intro Z hZ
      clear hZ
      go_simp
      all_goals with_reducible rfl
    try simp only [Act.put, List.setIfInBounds_toArray, List.set_cons_zero, List.set_cons_succ]
    refine wpAnyH_ready (rs := [19]) (by kernel_rfl) (by simp) ?_
    refine AllReadyH.cons rfl (fun K hK => ?_) AllReadyH.nil
    go_simp
    refine hK.out _ _ trivial (fun _ => ?_)
    clear hK K
    try simp only [Act.put, List.setIfInBounds_toArray, List.set_cons_zero, List.set_cons_succ]
    refine wpAnyH_done (by kernel_rfl) ?_ _
    refine NoPanic.normal ?_
    obtain ⟨r0, r1, r2, r3, r4, r5, rx, ry, r6, rf⟩ := two_cells H16.out hi
    go_wp2_with (first
      | (go_at_call 33; ((with_reducible refine (XD.out _ _ _ _ H16.out).mono ?_)); rintro e w17 ⟨rfl, hs⟩; have H17 := Lib.hid hs; clear r0 r1 r2 r3 r4 r5 rx ry r6 rf; obtain ⟨r0, r1, r2, r3, r4, r5, rx, ry, r6, rf⟩ := two_cells hs hi; clear hs)
      | (go_at_call 34; ((with_reducible refine (YD.out _ _ _ _ H17.out).mono ?_)); rintro e w18 ⟨rfl, hs⟩; have H18 := Lib.hid hs; clear hs))
    go_ret
    exact ⟨by first | rfl | simp, HPost.out _ 0 _ _ (by omega) H18.out⟩
  · have HDl := Lib.hid (show (ints (had.drop (k + 1))).length = (n - (k + 1)) * 1 from by rw [ints_length, List.length_drop, HLn.out]; omega)
    refine wp_region_noPanic ?_
    refine wp_region_held_drew (S := fun _ : World => True) (by kernel_rfl) trivial (fun _ => ?_)
    refine wpAnyH_take (i := 0) (oi := { dst := some 180, op := _, type := _, pos := _, after := _, guard := _ }) (v := ?_) rfl (by kernel_rfl) (by kernel_rfl) (by kernel_rfl) (fun _ _ _ h => h) (Or.inl ⟨by rfl, ?_⟩) trivial ?_
    rotate_left
    · intro Z hZ
      clear hZ
      go_simp
      all_goals with_reducible rfl
    try simp only [Act.put, List.setIfInBounds_toArray, List.set_cons_zero, List.set_cons_succ]
    refine wpAnyH_take (i := 2) (oi := { dst := some 182, op := _, type := _, pos := _, after := _, guard := _ }) (v := ?_) rfl (by kernel_rfl) (by kernel_rfl) (by kernel_rfl) (fun _ _ _ h => h) (Or.inl ⟨by rfl, ?_⟩) trivial ?_
    rotate_left
    · intro Z hZ
      clear hZ
      go_simp
      all_goals with_reducible rfl
    try simp only [Act.put, List.setIfInBounds_toArray, List.set_cons_zero, List.set_cons_succ]
    refine wpAnyH_take (i := 3) (oi := { dst := some 183, op := _, type := _, pos := _, after := _, guard := _ }) (v := ?_) rfl (by kernel_rfl) (by kernel_rfl) (by kernel_rfl) (fun _ _ _ h => h) (Or.inl ⟨by rfl, ?_⟩) trivial ?_
    rotate_left
    · intro Z hZ
      clear hZ
      go_simp
      all_goals with_reducible rfl
    try simp only [Act.put, List.setIfInBounds_toArray, List.set_cons_zero, List.set_cons_succ]
    refine wpAnyH_take (i := 4) (oi := { dst := some 184, op := _, type := _, pos := _, after := _, guard := _ }) (v := ?_) rfl (by kernel_rfl) (by kernel_rfl) (by kernel_rfl) (fun _ _ _ h => h) (Or.inl ⟨by rfl, ?_⟩) trivial ?_
    rotate_left
    · intro Z hZ
      clear hZ
      go_simp
      all_goals with_reducible rfl
    try simp only [Act.put, List.setIfInBounds_toArray, List.set_cons_zero, List.set_cons_succ]
    refine wpAnyH_take (i := 6) (oi := { dst := some 186, op := _, type := _, pos := _, after := _, guard := _ }) (v := ?_) rfl (by kernel_rfl) (by kernel_rfl) (by kernel_rfl) (fun _ _ _ h => h) (Or.inl ⟨by rfl, ?_⟩) trivial ?_
    rotate_left
    · intro Z hZ
      clear hZ
      go_simp
      all_goals with_reducible rfl
    try simp only [Act.put, List.setIfInBounds_toArray, List.set_cons_zero, List.set_cons_succ]
    refine wpAnyH_take (i := 9) (oi := { dst := some 189, op := _, type := _, pos := _, after := _, guard := _ }) (v := ?_) rfl (by kernel_rfl) (by kernel_rfl) (by kernel_rfl) (fun _ _ _ h => h) (Or.inl ⟨by rfl, ?_⟩) trivial ?_
    rotate_left
    · intro Z hZ
      clear hZ
      go_simp
      all_goals with_reducible rfl
    try simp only [Act.put, List.setIfInBounds_toArray, List.set_cons_zero, List.set_cons_succ]
    refine wpAnyH_take (i := 10) (oi := { dst := some 190, op := _, type := _, pos := _, after := _, guard := _ }) (v := ?_) rfl (by kernel_rfl) (by kernel_rfl) (by kernel_rfl) (fun _ _ _ h => h) (Or.inl ⟨by rfl, ?_⟩) trivial ?_
    rotate_left
    · intro Z hZ
      clear hZ
      go_simp
      all_goals with_reducible rfl
    try simp only [Act.put, List.setIfInBounds_toArray, List.set_cons_zero, List.set_cons_succ]
    refine wpAnyH_take (i := 11) (oi := { dst := some 191, op := _, type := _, pos := _, after := _, guard := _ }) (v := ?_) rfl (by kernel_rfl) (by kernel_rfl) (by kernel_rfl) (fun _ _ _ h => h) (Or.inl ⟨by rfl, ?_⟩) trivial ?_
    rotate_left
    · intro Z hZ
      clear hZ
      go_simp
      all_goals with_reducible rfl
    try simp only [Act.put, List.setIfInBounds_toArray, List.set_cons_zero, List.set_cons_succ]
    refine wpAnyH_take (i := 13) (oi := { dst := some 193, op := _, type := _, pos := _, after := _, guard := _ }) (v := ?_) rfl (by kernel_rfl) (by kernel_rfl) (by kernel_rfl) (fun _ _ _ h => h) (Or.inl ⟨by rfl, ?_⟩) trivial ?_
    rotate_left
    · intro Z hZ
      clear hZ
      go_simp
      all_goals with_reducible rfl
    try simp only [Act.put, List.setIfInBounds_toArray, List.set_cons_zero, List.set_cons_succ]
    refine wpAnyH_take (i := 14) (oi := { dst := some 194, op := _, type := _, pos := _, after := _, guard := _ }) (v := ?_) rfl (by kernel_rfl) (by kernel_rfl) (by kernel_rfl) (fun _ _ _ h => h) (Or.inl ⟨by rfl, ?_⟩) trivial ?_
    rotate_left
    · intro Z hZ
      clear hZ
      go_simp
      all_goals with_reducible rfl
    try simp only [Act.put, List.setIfInBounds_toArray, List.set_cons_zero, List.set_cons_succ]
    rw [← HUd.out]
    refine wpAnyH_ready (rs := [1, 5, 12]) (by kernel_rfl) (by simp) ?_
    refine AllReadyH.cons rfl (fun K hK => ?_) ?_
    · go_simp
      refine hK.out _ _ trivial (fun _ => ?_)
      clear hK K
      try simp only [Act.put, List.setIfInBounds_toArray, List.set_cons_zero, List.set_cons_succ]
      refine wpAnyH_ready (rs := [5, 12]) (by kernel_rfl) (by simp) ?_
      refine AllReadyH.cons rfl (fun K hK => ?_) ?_
      · go_simp
        refine hK.out _ _ trivial (fun _ => ?_)
        clear hK K
        try simp only [Act.put, List.setIfInBounds_toArray, List.set_cons_zero, List.set_cons_succ]
        refine wpAnyH_take (i := 7) (oi := { dst := some 187, op := _, type := _, pos := _, after := _, guard := _ }) (v := ?_) rfl (by kernel_rfl) (by kernel_rfl) (by kernel_rfl) (fun _ _ _ h => h) (Or.inl ⟨by rfl, ?_⟩) trivial ?_
        rotate_left
        · intro Z hZ
          clear hZ
          go_simp
          all_goals with_reducible rfl
        try simp only [Act.put, List.setIfInBounds_toArray, List.set_cons_zero, List.set_cons_succ]
        refine wpAnyH_ready (rs := [8, 12]) (by kernel_rfl) (by simp) ?_
        refine AllReadyH.cons rfl (fun K hK => ?_) ?_
        · refine step_app_own rfl (.tmp 181) (.tmp 187) 32 rfl 0 3 j0 (.int .i64 0) 1 8 Tryz.underlying32 ji jz0 jz1 jz2 rfl (by decide) (.slice (some ⟨U.heap.size, 0, none⟩) 0 0) 0 [] rfl HE0.out ⟨g, 0, none⟩ k _ (ints (had.take k)) rfl HTk.out.1 HTk.out.2 (ints_one _) (by unfold maxLen; omega) (by omega) (Nat.zero_le _) ?_
          intro v8 w8 hown8 hg8 hat8
          rw [Nat.zero_add] at hown8
          obtain ⟨a8, c8, rfl⟩ := ow_slice hown8
          obtain ⟨m1, m2, H8, HD8⟩ := H8f.out w8 a8 c8 hown8 hg8 hat8
          clear hown8 hg8 hat8
          refine hK.out _ _ trivial (fun _ => ?_)
          clear hK K
          try simp only [Act.put, List.setIfInBounds_toArray, List.set_cons_zero, List.set_cons_succ]
          refine wpAnyH_ready (rs := [12]) (by kernel_rfl) (by simp) ?_
          refine AllReadyH.cons rfl (fun K hK => ?_) AllReadyH.nil
          go_simp
          refine hK.out _ _ trivial (fun _ => ?_)
          clear hK K
          try simp only [Act.put, List.setIfInBounds_toArray, List.set_cons_zero, List.set_cons_succ]
          refine wpAnyH_take (i := 15) (oi := { dst := some 195, op := _, type := _, pos := _, after := _, guard := _ }) (v := ?_) rfl (by kernel_rfl) (by kernel_rfl) (by kernel_rfl) (fun _ _ _ h => h) (Or.inl ⟨by rfl, ?_⟩) trivial ?_
          rotate_left
          · intro Z hZ
            clear hZ
            go_simp
            all_goals with_reducible rfl
          try simp only [Act.put, List.setIfInBounds_toArray, List.set_cons_zero, List.set_cons_succ]
          refine wpAnyH_ready (rs := [16]) (by kernel_rfl) (by simp) ?_
          refine AllReadyH.cons rfl (fun K hK => ?_) AllReadyH.nil
          refine step_app_own rfl (.tmp 188) (.tmp 195) 32 rfl 0 3 j0 (.int .i64 0) 1 8 Tryz.underlying32 ji jz0 jz1 jz2 rfl (by decide) (.slice a8 k c8) k (ints (had.take k)) rfl H8.out.rest.own _ _ _ (ints (had.drop (k + 1))) rfl HDl.out HD8.out (ints_one _) (by unfold maxLen; omega) (by omega) (Nat.zero_le _) ?_
          intro v16 w16 hown16 hg16 hat16
          obtain ⟨a16, c16, rfl⟩ := ow_slice hown16
          obtain ⟨f1, f2, H16⟩ := H16f.out _ _ _ H8.out _ w16 a16 c16 hown16 hg16 hat16
          clear hown16 hg16 hat16
          refine hK.out _ _ trivial (fun _ => ?_)
          clear hK K
          try simp only [Act.put, List.setIfInBounds_toArray, List.set_cons_zero, List.set_cons_succ]
          refine wpAnyH_take (i := 17) (oi := { dst := some 197, op := _, type := _, pos := _, after := _, guard := _ }) (v := ?_) rfl (by kernel_rfl) (by kernel_rfl) (by kernel_rfl) (fun _ _ _ h => h) (Or.inl ⟨by rfl, ?_⟩) trivial ?_
          rotate_left
          · intro Z hZ
            clear hZ
            go_simp
            all_goals with_reducible rfl
          try simp only [Act.put, List.setIfInBounds_toArray, List.set_cons_zero, List.set_cons_succ]
          refine wpAnyH_take (i := 18) (oi := { dst := some 198, op := _, type := _, pos := _, after := _, guard := _ }) (v := ?_) rfl (by kernel_rfl) (by kernel_rfl) (by kernel_rfl) (fun _ _ _ h => h) (Or.inl ⟨by rfl, ?_⟩) trivial ?_
          rotate_left
          · intro Z hZ
            clear hZ
            go_simp
            all_goals with_reducible rfl
          try simp only [Act.put, List.setIfInBounds_toArray, List.set_cons_zero, List.set_cons_succ]
          refine wpAnyH_ready (rs := [19]) (by kernel_rfl) (by simp) ?_
          refine AllReadyH.cons rfl (fun K hK => ?_) AllReadyH.nil
          go_simp
          refine hK.out _ _ trivial (fun _ => ?_)
          clear hK K
          try simp only [Act.put, List.setIfInBounds_toArray, List.set_cons_zero, List.set_cons_succ]
          refine wpAnyH_done (by kernel_rfl) ?_ _
          refine NoPanic.normal ?_
          obtain ⟨r0, r1, r2, r3, r4, r5, rx, ry, r6, rf⟩ := two_cells H16.out hi
          go_wp2_with (first
            | (go_at_call 33; ((with_reducible refine (XD.out _ _ _ _ H16.out).mono ?_)); rintro e w17 ⟨rfl, hs⟩; have H17 := Lib.hid hs; clear r0 r1 r2 r3 r4 r5 rx ry r6 rf; obtain ⟨r0, r1, r2, r3, r4, r5, rx, ry, r6, rf⟩ := two_cells hs hi; clear hs)
            | (go_at_call 34; ((with_reducible refine (YD.out _ _ _ _ H17.out).mono ?_)); rintro e w18 ⟨rfl, hs⟩; have H18 := Lib.hid hs; clear hs))
          go_ret
          exact ⟨by first | rfl | simp, HPost.out _ _ _ _ rfl H18.out⟩
        refine AllReadyH.cons rfl (fun K hK => ?_) AllReadyH.nil
        go_simp
        refine hK.out _ _ trivial (fun _ => ?_)
        clear hK K
        try simp only [Act.put, List.setIfInBounds_toArray, List.set_cons_zero, List.set_cons_succ]
        refine wpAnyH_take (i := 15) (oi := { dst := some 195, op := _, type := _, pos := _, after := _, guard := _ }) (v := ?_) rfl (by kernel_rfl) (by kernel_rfl) (by kernel_rfl) (fun _ _ _ h => h) (Or.inl ⟨by rfl, ?_⟩) trivial ?_
        rotate_left
        · intro Z hZ
          clear hZ
          go_simp
          all_goals with_reducible rfl
        try simp only [Act.put, List.setIfInBounds_toArray, List.set_cons_zero, List.set_cons_succ]
        refine wpAnyH_ready (rs := [8]) (by kernel_rfl) (by simp) ?_
        refine AllReadyH.cons rfl (fun K hK => ?_) AllReadyH.nil
        refine step_app_own rfl (.tmp 181) (.tmp 187) 32 rfl 0 3 j0 (.int .i64 0) 1 8 Tryz.underlying32 ji jz0 jz1 jz2 rfl (by decide) (.slice (some ⟨U.heap.size, 0, none⟩) 0 0) 0 [] rfl HE0.out ⟨g, 0, none⟩ k _ (ints (had.take k)) rfl HTk.out.1 HTk.out.2 (ints_one _) (by unfold maxLen; omega) (by omega) (Nat.zero_le _) ?_
        intro v8 w8 hown8 hg8 hat8
        rw [Nat.zero_add] at hown8
        obtain ⟨a8, c8, rfl⟩ := ow_slice hown8
        obtain ⟨m1, m2, H8, HD8⟩ := H8f.out w8 a8 c8 hown8 hg8 hat8
        clear hown8 hg8 hat8
        refine hK.out _ _ trivial (fun _ => ?_)
        clear hK K
        try simp only [Act.put, List.setIfInBounds_toArray, List.set_cons_zero, List.set_cons_succ]
        refine wpAnyH_ready (rs := [16]) (by kernel_rfl) (by simp) ?_
        refine AllReadyH.cons rfl (fun K hK => ?_) AllReadyH.nil
        refine step_app_own rfl (.tmp 188) (.tmp 195) 32 rfl 0 3 j0 (.int .i64 0) 1 8 Tryz.underlying32 ji jz0 jz1 jz2 rfl (by decide) (.slice a8 k c8) k (ints (had.take k)) rfl H8.out.rest.own _ _ _ (ints (had.drop (k + 1))) rfl HDl.out HD8.out (ints_one _) (by unfold maxLen; omega) (by omega) (Nat.zero_le _) ?_
        intro v16 w16 hown16 hg16 hat16
        obtain ⟨a16, c16, rfl⟩ := ow_slice hown16
        obtain ⟨f1, f2, H16⟩ := H16f.out _ _ _ H8.out _ w16 a16 c16 hown16 hg16 hat16
        clear hown16 hg16 hat16
        refine hK.out _ _ trivial (fun _ => ?_)
        clear hK K
        try simp only [Act.put, List.setIfInBounds_toArray, List.set_cons_zero, List.set_cons_succ]
        refine wpAnyH_take (i := 17) (oi := { dst := some 197, op := _, type := _, pos := _, after := _, guard := _ }) (v := ?_) rfl (by kernel_rfl) (by kernel_rfl) (by kernel_rfl) (fun _ _ _ h => h) (Or.inl ⟨by rfl, ?_⟩) trivial ?_
        rotate_left
        · intro Z hZ
          clear hZ
          go_simp
          all_goals with_reducible rfl
        try simp only [Act.put, List.setIfInBounds_toArray, List.set_cons_zero, List.set_cons_succ]
        refine wpAnyH_take (i := 18) (oi := { dst := some 198, op := _, type := _, pos := _, after := _, guard := _ }) (v := ?_) rfl (by kernel_rfl) (by kernel_rfl) (by kernel_rfl) (fun _ _ _ h => h) (Or.inl ⟨by rfl, ?_⟩) trivial ?_
        rotate_left
        · intro Z hZ
          clear hZ
          go_simp
          all_goals with_reducible rfl
        try simp only [Act.put, List.setIfInBounds_toArray, List.set_cons_zero, List.set_cons_succ]
        refine wpAnyH_ready (rs := [19]) (by kernel_rfl) (by simp) ?_
        refine AllReadyH.cons rfl (fun K hK => ?_) AllReadyH.nil
        go_simp
        refine hK.out _ _ trivial (fun _ => ?_)
        clear hK K
        try simp only [Act.put, List.setIfInBounds_toArray, List.set_cons_zero, List.set_cons_succ]
        refine wpAnyH_done (by kernel_rfl) ?_ _
        refine NoPanic.normal ?_
        obtain ⟨r0, r1, r2, r3, r4, r5, rx, ry, r6, rf⟩ := two_cells H16.out hi
        go_wp2_with (first
          | (go_at_call 33; ((with_reducible refine (XD.out _ _ _ _ H16.out).mono ?_)); rintro e w17 ⟨rfl, hs⟩; have H17 := Lib.hid hs; clear r0 r1 r2 r3 r4 r5 rx ry r6 rf; obtain ⟨r0, r1, r2, r3, r4, r5, rx, ry, r6, rf⟩ := two_cells hs hi; clear hs)
          | (go_at_call 34; ((with_reducible refine (YD.out _ _ _ _ H17.out).mono ?_)); rintro e w18 ⟨rfl, hs⟩; have H18 := Lib.hid hs; clear hs))
        go_ret
        exact ⟨by first | rfl | simp, HPost.out _ _ _ _ rfl H18.out⟩
      refine AllReadyH.cons rfl (fun K hK => ?_) AllReadyH.nil
      go_simp
      refine hK.out _ _ trivial (fun _ => ?_)
      clear hK K
      try simp only [Act.put, List.setIfInBounds_toArray, List.set_cons_zero, List.set_cons_succ]
      refine wpAnyH_take (i := 15) (oi := { dst := some 195, op := _, type := _, pos := _, after := _, guard := _ }) (v := ?_) rfl (by kernel_rfl) (by kernel_rfl) (by kernel_rfl) (fun _ _ _ h => h) (Or.inl ⟨by rfl, ?_⟩) trivial ?_
      rotate_left
      · intro Z hZ
        clear hZ
        go_simp
        all_goals with_reducible rfl
      try simp only [Act.put, List.setIfInBounds_toArray, List.set_cons_zero, List.set_cons_succ]
      refine wpAnyH_ready (rs := [5]) (by kernel_rfl) (by simp) ?_
      refine AllReadyH.cons rfl (fun K hK => ?_) AllReadyH.nil
      go_simp
      refine hK.out _ _ trivial (fun _ => ?_)
      clear hK K
      try simp only [Act.put, List.setIfInBounds_toArray, List.set_cons_zero, List.set_cons_succ]
      refine wpAnyH_take (i := 7) (oi := { dst := some 187, op := _, type := _, pos := _, after := _, guard := _ }) (v := ?_) rfl (by kernel_rfl) (by kernel_rfl) (by kernel_rfl) (fun _ _ _ h => h) (Or.inl ⟨by rfl, ?_⟩) trivial ?_
      rotate_left
      · intro Z hZ
        clear hZ
        go_simp
        all_goals with_reducible rfl
      try simp only [Act.put, List.setIfInBounds_toArray, List.set_cons_zero, List.set_cons_succ]
      refine wpAnyH_ready (rs := [8]) (by kernel_rfl) (by simp) ?_
      refine AllReadyH.cons rfl (fun K hK => ?_) AllReadyH.nil
      refine step_app_own rfl (.tmp 181) (.tmp 187) 32 rfl 0 3 j0 (.int .i64 0) 1 8 Tryz.underlying32 ji jz0 jz1 jz2 rfl (by decide) (.slice (some ⟨U.heap.size, 0, none⟩) 0 0) 0 [] rfl HE0.out ⟨g, 0, none⟩ k _ (ints (had.take k)) rfl HTk.out.1 HTk.out.2 (ints_one _) (by unfold maxLen; omega) (by omega) (Nat.zero_le _) ?_
      intro v8 w8 hown8 hg8 hat8
      rw [Nat.zero_add] at hown8
      obtain ⟨a8, c8, rfl⟩ := ow_slice hown8
      obtain ⟨m1, m2, H8, HD8⟩ := H8f.out w8 a8 c8 hown8 hg8 hat8
      clear hown8 hg8 hat8
      refine hK.out _ _ trivial (fun _ => ?_)
      clear hK K
      try simp only [Act.put, List.setIfInBounds_toArray, List.set_cons_zero, List.set_cons_succ]
      refine wpAnyH_ready (rs := [16]) (by kernel_rfl) (by simp) ?_
      refine AllReadyH.cons rfl (fun K hK => ?_) AllReadyH.nil
      refine step_app_own rfl (.tmp 188) (.tmp 195) 32 rfl 0 3 j0 (.int .i64 0) 1 8 Tryz.underlying32 ji jz0 jz1 jz2 rfl (by decide) (.slice a8 k c8) k (ints (had.take k)) rfl H8.out.rest.own _ _ _ (ints (had.drop (k + 1))) rfl HDl.out HD8.out (ints_one _) (by unfold maxLen; omega) (by omega) (Nat.zero_le _) ?_
      intro v16 w16 hown16 hg16 hat16
      obtain ⟨a16, c16, rfl⟩ := ow_slice hown16
      obtain ⟨f1, f2, H16⟩ := H16f.out _ _ _ H8.out _ w16 a16 c16 hown16 hg16 hat16
      clear hown16 hg16 hat16
      refine hK.out _ _ trivial (fun _ => ?_)
      clear hK K
      try simp only [Act.put, List.setIfInBounds_toArray, List.set_cons_zero, List.set_cons_succ]
      refine wpAnyH_take (i := 17) (oi := { dst := some 197, op := _, type := _, pos := _, after := _, guard := _ }) (v := ?_) rfl (by kernel_rfl) (by kernel_rfl) (by kernel_rfl) (fun _ _ _ h => h) (Or.inl ⟨by rfl, ?_⟩) trivial ?_
      rotate_left
      · intro Z hZ
        clear hZ
        go_simp
        all_goals with_reducible rfl
      try simp only [Act.put, List.setIfInBounds_toArray, List.set_cons_zero, List.set_cons_succ]
      refine wpAnyH_take (i := 18) (oi := { dst := some 198, op := _, type := _, pos := _, after := _, guard := _ }) (v := ?_) rfl (by kernel_rfl) (by kernel_rfl) (by kernel_rfl) (fun _ _ _ h => h) (Or.inl ⟨by rfl, ?_⟩) trivial ?_
      rotate_left
      · intro Z hZ
        clear hZ
        go_simp
        all_goals with_reducible rfl
      try simp only [Act.put, List.setIfInBounds_toArray, List.set_cons_zero, List.set_cons_succ]
      refine wpAnyH_ready (rs := [19]) (by kernel_rfl) (by simp) ?_
      refine AllReadyH.cons rfl (fun K hK => ?_) AllReadyH.nil
      go_simp
      refine hK.out _ _ trivial (fun _ => ?_)
      clear hK K
      try simp only [Act.put, List.setIfInBounds_toArray, List.set_cons_zero, List.set_cons_succ]
      refine wpAnyH_done (by kernel_rfl) ?_ _
      refine NoPanic.normal ?_
      obtain ⟨r0, r1, r2, r3, r4, r5, rx, ry, r6, rf⟩ := two_cells H16.out hi
      go_wp2_with (first
        | (go_at_call 33; ((with_reducible refine (XD.out _ _ _ _ H16.out).mono ?_)); rintro e w17 ⟨rfl, hs⟩; have H17 := Lib.hid hs; clear r0 r1 r2 r3 r4 r5 rx ry r6 rf; obtain ⟨r0, r1, r2, r3, r4, r5, rx, ry, r6, rf⟩ := two_cells hs hi; clear hs)
        | (go_at_call 34; ((with_reducible refine (YD.out _ _ _ _ H17.out).mono ?_)); rintro e w18 ⟨rfl, hs⟩; have H18 := Lib.hid hs; clear hs))
      go_ret
      exact ⟨by first | rfl | simp, HPost.out _ _ _ _ rfl H18.out⟩
    refine AllReadyH.cons rfl (fun K hK => ?_) ?_
    · go_simp
      refine hK.out _ _ trivial (fun _ => ?_)
      clear hK K
      try simp only [Act.put, List.setIfInBounds_toArray, List.set_cons_zero, List.set_cons_succ]
      refine wpAnyH_take (i := 7) (oi := { dst := some 187, op := _, type := _, pos := _, after := _, guard := _ }) (v := ?_) rfl (by kernel_rfl) (by kernel_rfl) (by kernel_rfl) (fun _ _ _ h => h) (Or.inl ⟨by rfl, ?_⟩) trivial ?_
      rotate_left
      · intro Z hZ
        clear hZ
        go_simp
        all_goals with_reducible rfl
      try simp only [Act.put, List.setIfInBounds_toArray, List.set_cons_zero, List.set_cons_succ]
      refine wpAnyH_ready (rs := [1, 12]) (by kernel_rfl) (by simp) ?_
      refine AllReadyH.cons rfl (fun K hK => ?_) ?_
      · go_simp
        refine hK.out _ _ trivial (fun _ => ?_)
        clear hK K
        try simp only [Act.put, List.setIfInBounds_toArray, List.set_cons_zero, List.set_cons_succ]
        refine wpAnyH_ready (rs := [8, 12]) (by kernel_rfl) (by simp) ?_
        refine AllReadyH.cons rfl (fun K hK => ?_) ?_
        · refine step_app_own rfl (.tmp 181) (.tmp 187) 32 rfl 0 3 j0 (.int .i64 0) 1 8 Tryz.underlying32 ji jz0 jz1 jz2 rfl (by decide) (.slice (some ⟨U.heap.size, 0, none⟩) 0 0) 0 [] rfl HE0.out ⟨g, 0, none⟩ k _ (ints (had.take k)) rfl HTk.out.1 HTk.out.2 (ints_one _) (by unfold maxLen; omega) (by omega) (Nat.zero_le _) ?_
          intro v8 w8 hown8 hg8 hat8
          rw [Nat.zero_add] at hown8
          obtain ⟨a8, c8, rfl⟩ := ow_slice hown8
          obtain ⟨m1, m2, H8, HD8⟩ := H8f.out w8 a8 c8 hown8 hg8 hat8
          clear hown8 hg8 hat8
          refine hK.out _ _ trivial (fun _ => ?_)
          clear hK K
          try simp only [Act.put, List.setIfInBounds_toArray, List.set_cons_zero, List.set_cons_succ]
          refine wpAnyH_ready (rs := [12]) (by kernel_rfl) (by simp) ?_
          refine AllReadyH.cons rfl (fun K hK => ?_) AllReadyH.nil
          go_simp
          refine hK.out _ _ trivial (fun _ => ?_)
          clear hK K
          try simp only [Act.put, List.setIfInBounds_toArray, List.set_cons_zero, List.set_cons_succ]
          refine wpAnyH_take (i := 15) (oi := { dst := some 195, op := _, type := _, pos := _, after := _, guard := _ }) (v := ?_) rfl (by kernel_rfl) (by kernel_rfl) (by kernel_rfl) (fun _ _ _ h => h) (Or.inl ⟨by rfl, ?_⟩) trivial ?_
          rotate_left
          · intro Z hZ
            clear hZ
            go_simp
            all_goals with_reducible rfl
          try simp only [Act.put, List.setIfInBounds_toArray, List.set_cons_zero, List.set_cons_succ]
          refine wpAnyH_ready (rs := [16]) (by kernel_rfl) (by simp) ?_
          refine AllReadyH.cons rfl (fun K hK => ?_) AllReadyH.nil
          refine step_app_own rfl (.tmp 188) (.tmp 195) 32 rfl 0 3 j0 (.int .i64 0) 1 8 Tryz.underlying32 ji jz0 jz1 jz2 rfl (by decide) (.slice a8 k c8) k (ints (had.take k)) rfl H8.out.rest.own _ _ _ (ints (had.drop (k + 1))) rfl HDl.out HD8.out (ints_one _) (by unfold maxLen; omega) (by omega) (Nat.zero_le _) ?_
          intro v16 w16 hown16 hg16 hat16
          obtain ⟨a16, c16, rfl⟩ := ow_slice hown16
          obtain ⟨f1, f2, H16⟩ := H16f.out _ _ _ H8.out _ w16 a16 c16 hown16 hg16 hat16
          clear hown16 hg16 hat16
          refine hK.out _ _ trivial (fun _ => ?_)
          clear hK K
          try simp only [Act.put, List.setIfInBounds_toArray, List.set_cons_zero, List.set_cons_succ]
          refine wpAnyH_take (i := 17) (oi := { dst := some 197, op := _, type := _, pos := _, after := _, guard := _ }) (v := ?_) rfl (by kernel_rfl) (by kernel_rfl) (by kernel_rfl) (fun _ _ _ h => h) (Or.inl ⟨by rfl, ?_⟩) trivial ?_
          rotate_left
          · intro Z hZ
            clear hZ
            go_simp
            all_goals with_reducible rfl
          try simp only [Act.put, List.setIfInBounds_toArray, List.set_cons_zero, List.set_cons_succ]
          refine wpAnyH_take (i := 18) (oi := { dst := some 198, op := _, type := _, pos := _, after := _, guard := _ }) (v := ?_) rfl (by kernel_rfl) (by kernel_rfl) (by kernel_rfl) (fun _ _ _ h => h) (Or.inl ⟨by rfl, ?_⟩) trivial ?_
          rotate_left
          · intro Z hZ
            clear hZ
            go_simp
            all_goals with_reducible rfl
          try simp only [Act.put, List.setIfInBounds_toArray, List.set_cons_zero, List.set_cons_succ]
          refine wpAnyH_ready (rs := [19]) (by kernel_rfl) (by simp) ?_
          refine AllReadyH.cons rfl (fun K hK => ?_) AllReadyH.nil
          go_simp
          refine hK.out _ _ trivial (fun _ => ?_)
          clear hK K
          try simp only [Act.put, List.setIfInBounds_toArray, List.set_cons_zero, List.set_cons_succ]
          refine wpAnyH_done (by kernel_rfl) ?_ _
          refine NoPanic.normal ?_
          obtain ⟨r0, r1, r2, r3, r4, r5, rx, ry, r6, rf⟩ := two_cells H16.out hi
          go_wp2_with (first
            | (go_at_call 33; ((with_reducible refine (XD.out _ _ _ _ H16.out).mono ?_)); rintro e w17 ⟨rfl, hs⟩; have H17 := Lib.hid hs; clear r0 r1 r2 r3 r4 r5 rx ry r6 rf; obtain ⟨r0, r1, r2, r3, r4, r5, rx, ry, r6, rf⟩ := two_cells hs hi; clear hs)
            | (go_at_call 34; ((with_reducible refine (YD.out _ _ _ _ H17.out).mono ?_)); rintro e w18 ⟨rfl, hs⟩; have H18 := Lib.hid hs; clear hs))
          go_ret
          exact ⟨by first | rfl | simp, HPost.out _ _ _ _ rfl H18.out⟩
        refine AllReadyH.cons rfl (fun K hK => ?_) AllReadyH.nil
        go_simp
        refine hK.out _ _ trivial (fun _ => ?_)
        clear hK K
        try simp only [Act.put, List.setIfInBounds_toArray, List.set_cons_zero, List.set_cons_succ]
        refine wpAnyH_take (i := 15) (oi := { dst := some 195, op := _, type := _, pos := _, after := _, guard := _ }) (v := ?_) rfl (by kernel_rfl) (by kernel_rfl) (by kernel_rfl) (fun _ _ _ h => h) (Or.inl ⟨by rfl, ?_⟩) trivial ?_
        rotate_left
        · intro Z hZ
          clear hZ
          go_simp
          all_goals with_reducible rfl
        try simp only [Act.put, List.setIfInBounds_toArray, List.set_cons_zero, List.set_cons_succ]
        refine wpAnyH_ready (rs := [8]) (by kernel_rfl) (by simp) ?_
        refine AllReadyH.cons rfl (fun K hK => ?_) AllReadyH.nil
        refine step_app_own rfl (.tmp 181) (.tmp 187) 32 rfl 0 3 j0 (.int .i64 0) 1 8 Tryz.underlying32 ji jz0 jz1 jz2 rfl (by decide) (.slice (some ⟨U.heap.size, 0, none⟩) 0 0) 0 [] rfl HE0.out ⟨g, 0, none⟩ k _ (ints (had.take k)) rfl HTk.out.1 HTk.out.2 (ints_one _) (by unfold maxLen; omega) (by omega) (Nat.zero_le _) ?_
        intro v8 w8 hown8 hg8 hat8
        rw [Nat.zero_add] at hown8
        obtain ⟨a8, c8, rfl⟩ := ow_slice hown8
        obtain ⟨m1, m2, H8, HD8⟩ := H8f.out w8 a8 c8 hown8 hg8 hat8
        clear hown8 hg8 hat8
        refine hK.out _ _ trivial (fun _ => ?_)
        clear hK K
        try simp only [Act.put, List.setIfInBounds_toArray, List.set_cons_zero, List.set_cons_succ]
        refine wpAnyH_ready (rs := [16]) (by kernel_rfl) (by simp) ?_
        refine AllReadyH.cons rfl (fun K hK => ?_) AllReadyH.nil
        refine step_app_own rfl (.tmp 188) (.tmp 195) 32 rfl 0 3 j0 (.int .i64 0) 1 8 Tryz.underlying32 ji jz0 jz1 jz2 rfl (by decide) (.slice a8 k c8) k (ints (had.take k)) rfl H8.out.rest.own _ _ _ (ints (had.drop (k + 1))) rfl HDl.out HD8.out (ints_one _) (by unfold maxLen; omega) (by omega) (Nat.zero_le _) ?_
        intro v16 w16 hown16 hg16 hat16
        obtain ⟨a16, c16, rfl⟩ := ow_slice hown16
        obtain ⟨f1, f2, H16⟩ := H16f.out _ _ _ H8.out _ w16 a16 c16 hown16 hg16 hat16
        clear hown16 hg16 hat16
        refine hK.out _ _ trivial (fun _ => ?_)
        clear hK K
        try simp only [Act.put, List.setIfInBounds_toArray, List.set_cons_zero, List.set_cons_succ]
        refine wpAnyH_take (i := 17) (oi := { dst := some 197, op := _, type := _, pos := _, after := _, guard := _ }) (v := ?_) rfl (by kernel_rfl) (by kernel_rfl) (by kernel_rfl) (fun _ _ _ h => h) (Or.inl ⟨by rfl, ?_⟩) trivial ?_
        rotate_left
        · intro Z hZ
          clear hZ
          go_simp
          all_goals with_reducible rfl
        try simp only [Act.put, List.setIfInBounds_toArray, List.set_cons_zero, List.set_cons_succ]
        refine wpAnyH_take (i := 18) (oi := { dst := some 198, op := _, type := _, pos := _, after := _, guard := _ }) (v := ?_) rfl (by kernel_rfl) (by kernel_rfl) (by kernel_rfl) (fun _ _ _ h => h) (Or.inl ⟨by rfl, ?_⟩) trivial ?_
        rotate_left
        · intro Z hZ
          clear hZ
          go_simp
          all_goals with_reducible rfl
        try simp only [Act.put, List.setIfInBounds_toArray, List.set_cons_zero, List.set_cons_succ]
        refine wpAnyH_ready (rs := [19]) (by kernel_rfl) (by simp) ?_
        refine AllReadyH.cons rfl (fun K hK => ?_) AllReadyH.nil
        go_simp
        refine hK.out _ _ trivial (fun _ => ?_)
        clear hK K
        try simp only [Act.put, List.setIfInBounds_toArray, List.set_cons_zero, List.set_cons_succ]
        refine wpAnyH_done (by kernel_rfl) ?_ _
        refine NoPanic.normal ?_
        obtain ⟨r0, r1, r2, r3, r4, r5, rx, ry, r6, rf⟩ := two_cells H16.out hi
        go_wp2_with (first
          | (go_at_call 33; ((with_reducible refine (XD.out _ _ _ _ H16.out).mono ?_)); rintro e w17 ⟨rfl, hs⟩; have H17 := Lib.hid hs; clear r0 r1 r2 r3 r4 r5 rx ry r6 rf; obtain ⟨r0, r1, r2, r3, r4, r5, rx, ry, r6, rf⟩ := two_cells hs hi; clear hs)
          | (go_at_call 34; ((with_reducible refine (YD.out _ _ _ _ H17.out).mono ?_)); rintro e w18 ⟨rfl, hs⟩; have H18 := Lib.hid hs; clear hs))
        go_ret
        exact ⟨by first | rfl | simp, HPost.out _ _ _ _ rfl H18.out⟩
      refine AllReadyH.cons rfl (fun K hK => ?_) AllReadyH.nil
      go_simp
      refine hK.out _ _ trivial (fun _ => ?_)
      clear hK K
      try simp only [Act.put, List.setIfInBounds_toArray, List.set_cons_zero, List.set_cons_succ]
      refine wpAnyH_take (i := 15) (oi := { dst := some 195, op := _, type := _, pos := _, after := _, guard := _ }) (v := ?_) rfl (by kernel_rfl) (by kernel_rfl) (by kernel_rfl) (fun _ _ _ h => h) (Or.inl ⟨by rfl, ?_⟩) trivial ?_
      rotate_left
      · intro Z hZ
        clear hZ
        go_simp
        all_goals with_reducible rfl
      try simp only [Act.put, List.setIfInBounds_toArray, List.set_cons_zero, List.set_cons_succ]
      refine wpAnyH_ready (rs := [1]) (by kernel_rfl) (by simp) ?_
      refine AllReadyH.cons rfl (fun K hK => ?_) AllReadyH.nil
      go_simp
      refine hK.out _ _ trivial (fun _ => ?_)
      clear hK K
      try simp only [Act.put, List.setIfInBounds_toArray, List.set_cons_zero, List.set_cons_succ]
      refine wpAnyH_ready (rs := [8]) (by kernel_rfl) (by simp) ?_
      refine AllReadyH.cons rfl (fun K hK => ?_) AllReadyH.nil
      refine step_app_own rfl (.tmp 181) (.tmp 187) 32 rfl 0 3 j0 (.int .i64 0) 1 8 Tryz.underlying32 ji jz0 jz1 jz2 rfl (by decide) (.slice (some ⟨U.heap.size, 0, none⟩) 0 0) 0 [] rfl HE0.out ⟨g, 0, none⟩ k _ (ints (had.take k)) rfl HTk.out.1 HTk.out.2 (ints_one _) (by unfold maxLen; omega) (by omega) (Nat.zero_le _) ?_
      intro v8 w8 hown8 hg8 hat8
      rw [Nat.zero_add] at hown8
      obtain ⟨a8, c8, rfl⟩ := ow_slice hown8
      obtain ⟨m1, m2, H8, HD8⟩ := H8f.out w8 a8 c8 hown8 hg8 hat8
      clear hown8 hg8 hat8
      refine hK.out _ _ trivial (fun _ => ?_)
      clear hK K
      try simp only [Act.put, List.setIfInBounds_toArray, List.set_cons_zero, List.set_cons_succ]
      refine wpAnyH_ready (rs := [16]) (by kernel_rfl) (by simp) ?_
      refine AllReadyH.cons rfl (fun K hK => ?_) AllReadyH.nil
      refine step_app_own rfl (.tmp 188) (.tmp 195) 32 rfl 0 3 j0 (.int .i64 0) 1 8 Tryz.underlying32 ji jz0 jz1 jz2 rfl (by decide) (.slice a8 k c8) k (ints (had.take k)) rfl H8.out.rest.own _ _ _ (ints (had.drop (k + 1))) rfl HDl.out HD8.out (ints_one _) (by unfold maxLen; omega) (by omega) (Nat.zero_le _) ?_
      intro v16 w16 hown16 hg16 hat16
      obtain ⟨a16, c16, rfl⟩ := ow_slice hown16
      obtain ⟨f1, f2, H16⟩ := H16f.out _ _ _ H8.out _ w16 a16 c16 hown16 hg16 hat16
      clear hown16 hg16 hat16
      refine hK.out _ _ trivial (fun _ => ?_)
      clear hK K
      try simp only [Act.put, List.setIfInBounds_toArray, List.set_cons_zero, List.set_cons_succ]
      refine wpAnyH_take (i := 17) (oi := { dst := some 197, op := _, type := _, pos := _, after := _, guard := _ }) (v := ?_) rfl (by kernel_rfl) (by kernel_rfl) (by kernel_rfl) (fun _ _ _ h => h) (Or.inl ⟨by rfl, ?_⟩) trivial ?_
      rotate_left
      · intro Z hZ
        clear hZ
        go_simp
        all_goals with_reducible rfl
      try simp only [Act.put, List.setIfInBounds_toArray, List.set_cons_zero, List.set_cons_succ]
      refine wpAnyH_take (i := 18) (oi := { dst := some 198, op := _, type := _, pos := _, after := _, guard := _ }) (v := ?_) rfl (by kernel_rfl) (by kernel_rfl) (by kernel_rfl) (fun _ _ _ h => h) (Or.inl ⟨by rfl, ?_⟩) trivial ?_
      rotate_left
      · intro Z hZ
        clear hZ
        go_simp
        all_goals with_reducible rfl
      try simp only [Act.put, List.setIfInBounds_toArray, List.set_cons_zero, List.set_cons_succ]
      refine wpAnyH_ready (rs := [19]) (by kernel_rfl) (by simp) ?_
      refine AllReadyH.cons rfl (fun K hK => ?_) AllReadyH.nil
      go_simp
      refine hK.out _ _ trivial (fun _ => ?_)
      clear hK K
      try simp only [Act.put, List.setIfInBounds_toArray, List.set_cons_zero, List.set_cons_succ]
      refine wpAnyH_done (by kernel_rfl) ?_ _
      refine NoPanic.normal ?_
      obtain ⟨r0, r1, r2, r3, r4, r5, rx, ry, r6, rf⟩ := two_cells H16.out hi
      go_wp2_with (first
        | (go_at_call 33; ((with_reducible refine (XD.out _ _ _ _ H16.out).mono ?_)); rintro e w17 ⟨rfl, hs⟩; have H17 := Lib.hid hs; clear r0 r1 r2 r3 r4 r5 rx ry r6 rf; obtain ⟨r0, r1, r2, r3, r4, r5, rx, ry, r6, rf⟩ := two_cells hs hi; clear hs)
        | (go_at_call 34; ((with_reducible refine (YD.out _ _ _ _ H17.out).mono ?_)); rintro e w18 ⟨rfl, hs⟩; have H18 := Lib.hid hs; clear hs))
      go_ret
      exact ⟨by first | rfl | simp, HPost.out _ _ _ _ rfl H18.out⟩
    refine AllReadyH.cons rfl (fun K hK => ?_) AllReadyH.nil
    go_simp
    refine hK.out _ _ trivial (fun _ => ?_)
    clear hK K
    try simp only [Act.put, List.setIfInBounds_toArray, List.set_cons_zero, List.set_cons_succ]
    refine wpAnyH_take (i := 15) (oi := { dst := some 195, op := _, type := _, pos := _, after := _, guard := _ }) (v := ?_) rfl (by kernel_rfl) (by kernel_rfl) (by kernel_rfl) (fun _ _ _ h => h) (Or.inl ⟨by rfl, ?_⟩) trivial ?_
    rotate_left
    · intro Z hZ
      clear hZ
      go_simp
      all_goals with_reducible rfl
    try simp only [Act.put, List.setIfInBounds_toArray, List.set_cons_zero, List.set_cons_succ]
    refine wpAnyH_ready (rs := [1, 5]) (by kernel_rfl) (by simp) ?_
    refine AllReadyH.cons rfl (fun K hK => ?_) ?_
    · go_simp
      refine hK.out _ _ trivial (fun _ => ?_)
      clear hK K
      try simp only [Act.put, List.setIfInBounds_toArray, List.set_cons_zero, List.set_cons_succ]
      refine wpAnyH_ready (rs := [5]) (by kernel_rfl) (by simp) ?_
      refine AllReadyH.cons rfl (fun K hK => ?_) AllReadyH.nil
      go_simp
      refine hK.out _ _ trivial (fun _ => ?_)
      clear hK K
      try simp only [Act.put, List.setIfInBounds_toArray, List.set_cons_zero, List.set_cons_succ]
      refine wpAnyH_take (i := 7) (oi := { dst := some 187, op := _, type := _, pos := _, after := _, guard := _ }) (v := ?_) rfl (by kernel_rfl) (by kernel_rfl) (by kernel_rfl) (fun _ _ _ h => h) (Or.inl ⟨by rfl, ?_⟩) trivial ?_
      rotate_left
      · intro Z hZ
        clear hZ
        go_simp
        all_goals with_reducible rfl
      try simp only [Act.put, List.setIfInBounds_toArray, List.set_cons_zero, List.set_cons_succ]
      refine wpAnyH_ready (rs := [8]) (by kernel_rfl) (by simp) ?_
      refine AllReadyH.cons rfl (fun K hK => ?_) AllReadyH.nil
      refine step_app_own rfl (.tmp 181) (.tmp 187) 32 rfl 0 3 j0 (.int .i64 0) 1 8 Tryz.underlying32 ji jz0 jz1 jz2 rfl (by decide) (.slice (some ⟨U.heap.size, 0, none⟩) 0 0) 0 [] rfl HE0.out ⟨g, 0, none⟩ k _ (ints (had.take k)) rfl HTk.out.1 HTk.out.2 (ints_one _) (by unfold maxLen; omega) (by omega) (Nat.zero_le _) ?_
      intro v8 w8 hown8 hg8 hat8
      rw [Nat.zero_add] at hown8
      obtain ⟨a8, c8, rfl⟩ := ow_slice hown8
      obtain ⟨m1, m2, H8, HD8⟩ := H8f.out w8 a8 c8 hown8 hg8 hat8
      clear hown8 hg8 hat8
      refine hK.out _ _ trivial (fun _ => ?_)
      clear hK K
      try simp only [Act.put, List.setIfInBounds_toArray, List.set_cons_zero, List.set_cons_succ]
      refine wpAnyH_ready (rs := [16]) (by kernel_rfl) (by simp) ?_
      refine AllReadyH.cons rfl (fun K hK => ?_) AllReadyH.nil
      refine step_app_own rfl (.tmp 188) (.tmp 195) 32 rfl 0 3 j0 (.int .i64 0) 1 8 Tryz.underlying32 ji jz0 jz1 jz2 rfl (by decide) (.slice a8 k c8) k (ints (had.take k)) rfl H8.out.rest.own _ _ _ (ints (had.drop (k + 1))) rfl HDl.out HD8.out (ints_one _) (by unfold maxLen; omega) (by omega) (Nat.zero_le _) ?_
      intro v16 w16 hown16 hg16 hat16
      obtain ⟨a16, c16, rfl⟩ := ow_slice hown16
      obtain ⟨f1, f2, H16⟩ := H16f.out _ _ _ H8.out _ w16 a16 c16 hown16 hg16 hat16
      clear hown16 hg16 hat16
      refine hK.out _ _ trivial (fun _ => ?_)
      clear hK K
      try simp only [Act.put, List.setIfInBounds_toArray, List.set_cons_zero, List.set_cons_succ]
      refine wpAnyH_take (i := 17) (oi := { dst := some 197, op := _, type := _, pos := _, after := _, guard := _ }) (v := ?_) rfl (by kernel_rfl) (by kernel_rfl) (by kernel_rfl) (fun _ _ _ h => h) (Or.inl ⟨by rfl, ?_⟩) trivial ?_
      rotate_left
      · intro Z hZ
        clear hZ
        go_simp
        all_goals with_reducible rfl
      try simp only [Act.put, List.setIfInBounds_toArray, List.set_cons_zero, List.set_cons_succ]
      refine wpAnyH_take (i := 18) (oi := { dst := some 198, op := _, type := _, pos := _, after := _, guard := _ }) (v := ?_) rfl (by kernel_rfl) (by kernel_rfl) (by kernel_rfl) (fun _ _ _ h => h) (Or.inl ⟨by rfl, ?_⟩) trivial ?_
      rotate_left
      · intro Z hZ
        clear hZ
        go_simp
        all_goals with_reducible rfl
      try simp only [Act.put, List.setIfInBounds_toArray, List.set_cons_zero, List.set_cons_succ]
      refine wpAnyH_ready (rs := [19]) (by kernel_rfl) (by simp) ?_
      refine AllReadyH.cons rfl (fun K hK => ?_) AllReadyH.nil
      go_simp
      refine hK.out _ _ trivial (fun _ => ?_)
      clear hK K
      try simp only [Act.put, List.setIfInBounds_toArray, List.set_cons_zero, List.set_cons_succ]
      refine wpAnyH_done (by kernel_rfl) ?_ _
      refine NoPanic.normal ?_
      obtain ⟨r0, r1, r2, r3, r4, r5, rx, ry, r6, rf⟩ := two_cells H16.out hi
      go_wp2_with (first
        | (go_at_call 33; ((with_reducible refine (XD.out _ _ _ _ H16.out).mono ?_)); rintro e w17 ⟨rfl, hs⟩; have H17 := Lib.hid hs; clear r0 r1 r2 r3 r4 r5 rx ry r6 rf; obtain ⟨r0, r1, r2, r3, r4, r5, rx, ry, r6, rf⟩ := two_cells hs hi; clear hs)
        | (go_at_call 34; ((with_reducible refine (YD.out _ _ _ _ H17.out).mono ?_)); rintro e w18 ⟨rfl, hs⟩; have H18 := Lib.hid hs; clear hs))
      go_ret
      exact ⟨by first | rfl | simp, HPost.out _ _ _ _ rfl H18.out⟩
    refine AllReadyH.cons rfl (fun K hK => ?_) AllReadyH.nil
    go_simp
    refine hK.out _ _ trivial (fun _ => ?_)
    clear hK K
    try simp only [Act.put, List.setIfInBounds_toArray, List.set_cons_zero, List.set_cons_succ]
    refine wpAnyH_take (i := 7) (oi := { dst := some 187, op := _, type := _, pos := _, after := _, guard := _ }) (v := ?_) rfl (by kernel_rfl) (by kernel_rfl) (by kernel_rfl) (fun _ _ _ h => h) (Or.inl ⟨by rfl, ?_⟩) trivial ?_
    rotate_left
    · intro Z hZ
      clear hZ
      go_simp
      all_goals with_reducible rfl
    try simp only [Act.put, List.setIfInBounds_toArray, List.set_cons_zero, List.set_cons_succ]
    refine wpAnyH_ready (rs := [1]) (by kernel_rfl) (by simp) ?_
    refine AllReadyH.cons rfl (fun K hK => ?_) AllReadyH.nil
    go_simp
    refine hK.out _ _ trivial (fun _ => ?_)
    clear hK K
    try simp only [Act.put, List.setIfInBounds_toArray, List.set_cons_zero, List.set_cons_succ]
    refine wpAnyH_ready (rs := [8]) (by kernel_rfl) (by simp) ?_
    refine AllReadyH.cons rfl (fun K hK => ?_) AllReadyH.nil
    refine step_app_own rfl (.tmp 181) (.tmp 187) 32 rfl 0 3 j0 (.int .i64 0) 1 8 Tryz.underlying32 ji jz0 jz1 jz2 rfl (by decide) (.slice (some ⟨U.heap.size, 0, none⟩) 0 0) 0 [] rfl HE0.out ⟨g, 0, none⟩ k _ (ints (had.take k)) rfl HTk.out.1 HTk.out.2 (ints_one _) (by unfold maxLen; omega) (by omega) (Nat.zero_le _) ?_
    intro v8 w8 hown8 hg8 hat8
    rw [Nat.zero_add] at hown8
    obtain ⟨a8, c8, rfl⟩ := ow_slice hown8
    obtain ⟨m1, m2, H8, HD8⟩ := H8f.out w8 a8 c8 hown8 hg8 hat8
    clear hown8 hg8 hat8
    refine hK.out _ _ trivial (fun _ => ?_)
    clear hK K
    try simp only [Act.put, List.setIfInBounds_toArray, List.set_cons_zero, List.set_cons_succ]
    refine wpAnyH_ready (rs := [16]) (by kernel_rfl) (by simp) ?_
    refine AllReadyH.cons rfl (fun K hK => ?_) AllReadyH.nil
    refine step_app_own rfl (.tmp 188) (.tmp 195) 32 rfl 0 3 j0 (.int .i64 0) 1 8 Tryz.underlying32 ji jz0 jz1 jz2 rfl (by decide) (.slice a8 k c8) k (ints (had.take k)) rfl H8.out.rest.own _ _ _ (ints (had.drop (k + 1))) rfl HDl.out HD8.out (ints_one _) (by unfold maxLen; omega) (by omega) (Nat.zero_le _) ?_
    intro v16 w16 hown16 hg16 hat16
    obtain ⟨a16, c16, rfl⟩ := ow_slice hown16
    obtain ⟨f1, f2, H16⟩ := H16f.out _ _ _ H8.out _ w16 a16 c16 hown16 hg16 hat16
    clear hown16 hg16 hat16
    refine hK.out _ _ trivial (fun _ => ?_)
    clear hK K
    try simp only [Act.put, List.setIfInBounds_toArray, List.set_cons_zero, List.set_cons_succ]
    refine wpAnyH_take (i := 17) (oi := { dst := some 197, op := _, type := _, pos := _, after := _, guard := _ }) (v := ?_) rfl (by kernel_rfl) (by kernel_rfl) (by kernel_rfl) (fun _ _ _ h => h) (Or.inl ⟨by rfl, ?_⟩) trivial ?_
    rotate_left
    · intro Z hZ
      clear hZ
      go_simp
      all_goals with_reducible rfl
    try simp only [Act.put, List.setIfInBounds_toArray, List.set_cons_zero, List.set_cons_succ]
    refine wpAnyH_take (i := 18) (oi := { dst := some 198, op := _, type := _, pos := _, after := _, guard := _ }) (v := ?_) rfl (by kernel_rfl) (by kernel_rfl) (by kernel_rfl) (fun _ _ _ h => h) (Or.inl ⟨by rfl, ?_⟩) trivial ?_
    rotate_left
    · intro Z hZ
      clear hZ
      go_simp
      all_goals with_reducible rfl
    try simp only [Act.put, List.setIfInBounds_toArray, List.set_cons_zero, List.set_cons_succ]
    refine wpAnyH_ready (rs := [19]) (by kernel_rfl) (by simp) ?_
    refine AllReadyH.cons rfl (fun K hK => ?_) AllReadyH.nil
    go_simp
    refine hK.out _ _ trivial (fun _ => ?_)
    clear hK K
    try simp only [Act.put, List.setIfInBounds_toArray, List.set_cons_zero, List.set_cons_succ]
    refine wpAnyH_done (by kernel_rfl) ?_ _
    refine NoPanic.normal ?_
    obtain ⟨r0, r1, r2, r3, r4, r5, rx, ry, r6, rf⟩ := two_cells H16.out hi
    go_wp2_with (first
      | (go_at_call 33; ((with_reducible refine (XD.out _ _ _ _ H16.out).mono ?_)); rintro e w17 ⟨rfl, hs⟩; have H17 := Lib.hid hs; clear r0 r1 r2 r3 r4 r5 rx ry r6 rf; obtain ⟨r0, r1, r2, r3, r4, r5, rx, ry, r6, rf⟩ := two_cells hs hi; clear hs)
      | (go_at_call 34; ((with_reducible refine (YD.out _ _ _ _ H17.out).mono ?_)); rintro e w18 ⟨rfl, hs⟩; have H18 := Lib.hid hs; clear hs))
    go_ret
    exact ⟨by first | rfl | simp, HPost.out _ _ _ _ rfl H18.out⟩
end Go.Proofs.YtbljjmehjkmjaaaGreat
