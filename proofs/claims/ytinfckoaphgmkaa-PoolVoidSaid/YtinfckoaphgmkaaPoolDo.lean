/- What the calls of the program's pool do: Keep, Bytes, Fill. No condition but that the pool is one. -/
import Derived.Test.YtinfckoaphgmkaaPoolFind
import Derived.Test.YtinfckoaphgmkaaSlices
namespace Go.Proofs.Ytinfckoaphgmkaa
open Go.RowKit
set_option linter.unusedVariables false
set_option linter.unusedSimpArgs false
set_option maxRecDepth 100000

theorem PIn.ownE {w : World} {W : Nat → Prop} {q : Nat} {L : PLay} {M : PM} (H : PIn w W q L M) : W L.eb := H.fix _ (.inr (.inr rfl))

theorem keep_any {w : World} {W : Nat → Prop} {q : Nat} {M : PM} {N : Nat} (H0 : (pT q M).at_ w W) (hM : M.Ok N) (hN : N < 1000000) (h : Int) :
    Calls Try.prog 19 #[.pointer (some ⟨q, 0, none⟩), .int .i64 h] w fun e w' => e = .returned (.int .i64 (M.err h)) ∧ Goes (pT q (M.keepM h)) W w w' := by
  obtain ⟨L, H⟩ := H0
  by_cases he : M.err h = 0
  · obtain ⟨h1, hk, hs, hg, hc⟩ := PM.live he
    have HV := Lib.hid (find_ok H hM he)
    have hlow := (hM.low _ _ hs).2
    have HG := Lib.hid (fun w' (hst : Still w w') => show Goes (pT q (M.keepM h)) W w (w'.setCell ⟨L.eb, hSlot h * 3 + 1, none⟩ (.int .i64 (((M.slt h).c : Int) + 1))) by
      have := (H.still hst).setC hs ((M.slt h).c + 1)
      rw [show ((((M.slt h).c + 1 : Nat) : Nat) : Int) = ((M.slt h).c : Int) + 1 by omega] at this
      rw [show M.keepM h = { M with sl := M.sl.set (hSlot h) { M.slt h with c := (M.slt h).c + 1 } } by unfold PM.keepM; rw [if_neg (by simp [he])]]
      exact pT_goes this ((hst.mono (T := W) (fun _ _ h => h.elim)).setCell (p := ⟨L.eb, _, none⟩) (.inl H.ownE) _) (fun k hk => .inl hk))
    have HC := Lib.hid (fun w' (hst : Still w w') => (⟨((H.still hst).slot hs).2.1, (H.still hst).freeE _⟩ : w'.cell? ⟨L.eb, hSlot h * 3 + 1, none⟩ = some (.int .i64 (M.slt h).c) ∧ w'.frozen? ⟨L.eb, hSlot h * 3 + 1, none⟩ = false))
    have hci : ((M.slt h).c : Int) < 1099511627776 := by omega
    have hc0 : (0 : Int) ≤ ((M.slt h).c : Int) := by omega
    rw [he]
    generalize hSlot h = k at *
    clear h1 hs hg hc hlow hN H hM he hk
    generalize ((M.slt h).c : Int) = c at *
    go_enter Try.func19, Try.ntmps19
    go_wp2_with (go_at_call 41; refine HV.out.mono ?_; rintro e w' ⟨rfl, hst⟩; obtain ⟨cc, fc⟩ := HC.out w' hst)
    go_ret
    exact ⟨rfl, HG.out w' hst⟩
  · have HV := Lib.hid (find_no H hM he)
    have HG := Lib.hid (fun w' (hst : Still w w') => pT_still H hst)
    have hb : (M.err h != 0) = true := by rw [bne_iff_ne]; exact he
    rw [show M.keepM h = M by unfold PM.keepM; rw [if_pos he]]
    generalize M.err h = x at *
    clear H hM hN he
    go_enter Try.func19, Try.ntmps19
    go_wp2_with (go_at_call 41; refine HV.out.mono ?_; rintro e w' ⟨rfl, hst⟩)
    go_ret
    exact ⟨rfl, HG.out w' hst⟩

theorem getBytes_any {w : World} {W : Nat → Prop} {q : Nat} {M : PM} {N : Nat} (H0 : (pT q M).at_ w W) (hM : M.Ok N) (h : Int) :
    Calls Try.prog 23 #[.pointer (some ⟨q, 0, none⟩), .int .i64 h] w (GotBytes w (M.bytes h) (M.err h)) := by
  obtain ⟨L, H⟩ := H0
  unfold GotBytes
  by_cases he : M.err h = 0
  · obtain ⟨h1, hk, hs, hg, hc⟩ := PM.live he
    have HV := Lib.hid (find_ok H hM he)
    have hbl := hM.bytes _ _ hs
    have hms := hM.size1
    have HC := Lib.hid (fun w' (hst : Still w w') => ((H.still hst).slot hs).2.2.1)
    obtain ⟨m, hm⟩ : ∃ m, m = (M.slt h).b.length := ⟨_, rfl⟩
    rw [← hm] at HC
    have HL := Lib.hid (fun w' (hst : Still w w') => clone_bytes w' ⟨L.bl (hSlot h), 0, none⟩ (M.slt h).b m M.size hm ((H.still hst).bytes hs) (by omega))
    rw [show M.bytes h = (M.slt h).b by unfold PM.bytes; rw [if_neg (by simp [he])], he, ← hm]
    have HO := Lib.hid (fun (w' w2 : World) (a : Option Addr) (c : Nat) (hst : Still w w') (ho : w2.ownsRow w'.heap.size 5 1 (.slice a m c) m (byt (M.slt h).b)) => ow_base ho hst.size)
    generalize hSlot h = k at *
    generalize M.size = sz at *
    clear h1 hs hg hc H hM he hk hbl hm
    go_enter Try.func23, Try.ntmps23
    go_wp2_with (first
      | (go_at_call 41; refine HV.out.mono ?_; rintro e w' ⟨rfl, hst⟩; have cc := HC.out w' hst)
      | (go_at_call 44; refine (HL.out _ hst).mono ?_; rintro e w2 ⟨a, c, rfl, hown, hst2⟩))
    go_ret2
    exact ⟨a, c, rfl, HO.out _ _ _ _ hst hown, hst.trans hst2⟩
  · have HV := Lib.hid (find_no H hM he)
    have hb : (M.err h != 0) = true := by rw [bne_iff_ne]; exact he
    rw [show M.bytes h = [] by unfold PM.bytes; rw [if_pos he]]
    have HN := Lib.hid (fun w' => byt_nil_own w' w.heap.size)
    generalize M.err h = x at *
    clear H hM he
    go_enter Try.func23, Try.ntmps23
    go_wp2_with (go_at_call 41; refine HV.out.mono ?_; rintro e w' ⟨rfl, hst⟩)
    go_ret2
    exact ⟨none, 0, rfl, HN.out w', hst⟩

theorem sizeByte : (Try.prog.info? 5).map (·.size) = some 1 := by kernel_rfl
theorem fill_any {w : World} {W : Nat → Prop} {q : Nat} {M : PM} {N : Nat} (H0 : (pT q M).at_ w W) (hM : M.Ok N) (h : Int) (ao : Option Addr) (b : List UInt8) (m cap : Nat) (hm : m = b.length) (hA : BytesAt w ao b) (hno : ao = none → cap = 0) (hle : m ≤ cap) :
    Calls Try.prog 17 #[.pointer (some ⟨q, 0, none⟩), .int .i64 h, .slice ao m cap] w fun e w' => e = .returned (.int .i64 (M.fillE h b)) ∧ Goes (pT q (M.fillM h b)) W w w' := by
  obtain ⟨L, H⟩ := H0
  by_cases he : M.err h = 0
  · obtain ⟨h1, hk, hs, hg, hc⟩ := PM.live he
    have HV := Lib.hid (find_ok H hM he)
    have HC := Lib.hid (fun w' (hst : Still w w') => ((H.still hst).slot hs).2.2.1)
    by_cases hbl : b.length = (M.slt h).b.length
    · have hE : M.fillE h b = 0 := by unfold PM.fillE; rw [if_neg (by simp [he]), if_neg (by simp [hbl])]
      have hF : M.fillM h b = { M with sl := M.sl.set (hSlot h) { M.slt h with b := b } } := by unfold PM.fillM; rw [if_neg (by simp [hE])]
      obtain ⟨r, hr1, hr2⟩ := H.bb _ _ hs
      have HB := Lib.hid (fun w' (hst : Still w w') => hr1.turned hst (fun h => h))
      have HS := Lib.hid (fun w' (hst : Still w w') => (fun (ad : Addr) (e : ao = some ad) j v (hv : (byt b)[j]? = some v) => (BytesAt.cells (by cases e; exact hA.still hst) j v hv : w'.cell? (ad.add j) = some v)))
      have HN := Lib.hid (show ao = none → m = 0 from fun e => by have := hno e; omega)
      have HBL := Lib.hid (show (byt b).length = m by rw [byt_length, hm])
      have H1 := Lib.hid (byt_one b)
      have HRL := Lib.hid (show 0 + m ≤ (byt ((M.slt h).b ++ r)).length by rw [byt_length, List.length_append]; omega)
      have HG := Lib.hid (fun w' (hst : Still w w') (w2 : World) (hb2 : Blk w2 (L.bl (hSlot h)) (laid (byt ((M.slt h).b ++ r)) 0 (byt b)) 5) (ht2 : Turned (· = L.bl (hSlot h)) w' w2) => show Goes (pT q (M.fillM h b)) W w w2 by
        rw [hF]
        have e : laid (byt ((M.slt h).b ++ r)) 0 (byt b) = byt (b ++ r) := by
          simp [laid, byt, hbl]
        rw [e] at hb2
        refine pT_goes ((H.still hst).room hs ht2 b hbl ⟨r, hb2, by simpa [hbl] using hr2⟩) ((hst.mono (T := W) (fun _ _ h => h.elim)).trans (ht2.mono (fun i _ e => by subst e; exact (H.bs _ hk).1))) (fun k hk => .inl hk))
      rw [hE]
      rw [← hbl, ← hm] at HC
      generalize hSlot h = k at *
      generalize M.size = sz at *
      clear h1 hs hg hc H hM he hk hbl hm hE hF hA hno hle hr1 hr2
      go_enter Try.func17, Try.ntmps17
      go_wp2_with (first
        | (go_at_call 41; refine HV.out.mono ?_; rintro e w' ⟨rfl, hst⟩; have cc := HC.out w' hst)
        | (with_reducible refine atCopy ?_; refine wpList_copy_blk rfl (.tmp 29) (.tmp 30) 32 32 rfl 5 Try.underlying32 sizeByte (L.bl k) 0 m _ ao _ rfl rfl _ _ (HB.out _ hst) (byt b) HBL.out (HS.out _ hst) HN.out HRL.out H1.out ?_; intro w2 hb2 ht2))
      go_ret
      exact ⟨rfl, HG.out w' hst w2 hb2 ht2⟩
    · have hE : M.fillE h b = 2 := by unfold PM.fillE; rw [if_neg (by simp [he]), if_pos hbl]
      have hF : M.fillM h b = M := by unfold PM.fillM; rw [if_pos (by simp [hE])]
      rw [hE, hF]
      have HG := Lib.hid (fun w' (hst : Still w w') => pT_still H hst)
      have hne : ((m : Int) != ((M.slt h).b.length : Int)) = true := by rw [bne_iff_ne]; omega
      generalize (M.slt h).b.length = x at *
      generalize hSlot h = k at *
      clear hE hF h1 hs hg hc H hM hbl hk he hm hA
      go_enter Try.func17, Try.ntmps17
      go_wp2_with (go_at_call 41; refine HV.out.mono ?_; rintro e w' ⟨rfl, hst⟩; have cc := HC.out w' hst)
      go_ret
      exact ⟨rfl, HG.out w' hst⟩
  · have hE : M.fillE h b = M.err h := by unfold PM.fillE; rw [if_pos he]
    have hF : M.fillM h b = M := by unfold PM.fillM; rw [if_pos (by rw [hE]; exact he)]
    rw [hE, hF]
    have HV := Lib.hid (find_no H hM he)
    have hb : (M.err h != 0) = true := by rw [bne_iff_ne]; exact he
    have HG := Lib.hid (fun w' (hst : Still w w') => pT_still H hst)
    generalize M.err h = x at *
    clear H hM he hE hF hA hm
    go_enter Try.func17, Try.ntmps17
    go_wp2_with (go_at_call 41; refine HV.out.mono ?_; rintro e w' ⟨rfl, hst⟩)
    go_ret
    exact ⟨rfl, HG.out w' hst⟩
end Go.Proofs.Ytinfckoaphgmkaa
