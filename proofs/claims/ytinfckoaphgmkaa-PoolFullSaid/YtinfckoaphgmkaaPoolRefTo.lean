/- What the calls of the document's pool do: Bytes, Fill, Drop. No condition. -/
import Derived.Test.YtinfckoaphgmkaaPoolRefDo
namespace Go.Proofs.Ytinfckoaphgmkaa
open Go.RowKit
set_option linter.unusedVariables false
set_option linter.unusedSimpArgs false
set_option maxRecDepth 100000

/-- Bytes that are handed out: a slice of one's own, or nil. -/
def GotBytes (w : World) (b : List UInt8) (er : Int) (e : Ending) (w' : World) : Prop :=
  ∃ a c, e = .returned (.tuple #[.slice a b.length c, .int .i64 er]) ∧ w'.ownsRow w.heap.size 5 1 (.slice a b.length c) b.length (byt b) ∧ Still w w'

theorem byt_nil_own (w : World) (B : Nat) : w.ownsRow B 5 1 (.slice none 0 0) 0 (byt []) := ⟨rfl, .inl ⟨rfl, rfl⟩⟩

theorem zbytes_any {w : World} {W : Nat → Prop} {q : Nat} {M : PM} {N : Nat} (H0 : (zT q M).at_ w W) (hM : M.Ok N) (h : Int) :
    Calls Try.prog 24 #[.pointer (some ⟨q, 0, none⟩), .int .i64 h] w (GotBytes w (M.bytes h) (M.err h)) := by
  obtain ⟨L, H⟩ := H0
  obtain ⟨n, hn⟩ : ∃ n, n = M.sl.length := ⟨_, rfl⟩
  by_cases he : M.err h = 0
  · obtain ⟨h1, hk, hs, hg, hc⟩ := PM.live he
    have HV := Lib.hid (zlive_ok H he)
    have c2 : w.cell? ⟨q, 2, none⟩ = some (.slice (some ⟨L.bb, 0, none⟩) n n) := hn ▸ H.hd.cell rfl
    obtain ⟨bv, hb, hl, hbs⟩ := H.bb
    obtain ⟨a, c, hb1, hb2⟩ := hbs _ _ hs
    have cb : w.cell? ⟨L.bb, hSlot h, none⟩ = some (.slice a (M.slt h).b.length c) := hb.cell hb1
    have hbl := hM.bytes _ _ hs
    have hms := hM.size1
    have HC := Lib.hid (bytes_any w a (M.slt h).b c hb2.at_ (by omega) hb2.none)
    have HB := Lib.hid (show M.bytes h = (M.slt h).b by unfold PM.bytes; rw [if_neg (by simp [he])])
    have hkn : hSlot h < n := by omega
    rw [HB.out, he]
    obtain ⟨m, hm⟩ : ∃ m, m = (M.slt h).b.length := ⟨_, rfl⟩
    unfold BytesPost at HC
    unfold GotBytes
    rw [← hm] at cb
    rw [← hm] at HC
    rw [← hm]
    generalize hSlot h = k at *
    clear HB h1 hs hg hc hn H hb hl hbs hb1 hb2 hbl hm
    go_enter Try.func24, Try.ntmps24
    go_wp2_with (first | (go_at_call 42; refine HV.out.mono ?_; rintro e w' ⟨rfl, rfl⟩) | (go_at_call 16; refine HC.out.mono ?_; rintro e w' ⟨aa, cc, rfl, hown, hst⟩))
    go_ret2
    exact ⟨aa, cc, rfl, hown, hst⟩
  · have HV := Lib.hid (zlive_no H he)
    have hb : (M.err h != 0) = true := by rw [bne_iff_ne]; exact he
    rw [show M.bytes h = [] by unfold PM.bytes; rw [if_pos he]]
    have HN := Lib.hid (byt_nil_own w w.heap.size)
    unfold GotBytes
    generalize M.err h = x at *
    clear H hn he
    go_enter Try.func24, Try.ntmps24
    go_wp2_with (go_at_call 42; refine HV.out.mono ?_; rintro e w' ⟨rfl, rfl⟩)
    go_ret2
    exact ⟨none, 0, rfl, HN.out, Turned.refl _ _⟩

/-- New bytes of one's own are laid into a slot. -/
theorem BtsAt.of_own {w w' : World} {W no : Nat → Prop} {a : Option Addr} {c : Nat} {b : List UInt8} (hown : w'.ownsRow w.heap.size 5 1 (.slice a b.length c) b.length (byt b)) (hno : ∀ k, no k → k < w.heap.size) :
    BtsAt w' (fun i => W i ∨ (Value.slice a b.length c).ownBlock = some i) no a c b := by
  obtain ⟨h1, h2, h3⟩ := ow_le hown
  refine ⟨BytesAt.of_own hown, h1, h2, fun e => (h3 e).2, fun x hx => ⟨.inr (by rw [hx]; rfl), fun h => ?_⟩⟩
  have := (ow_lt hown x hx).1
  have := hno _ h
  omega

theorem zT_bytes {w w' : World} {W : Nat → Prop} {q : Nat} {L : ZLay} {M : PM} {k : Nat} {s : Slt} {a : Option Addr} {c : Nat} {b : List UInt8} (H : ZIn w W q L M) (hs : M.sl[k]? = some s) (hT : Still w w')
    (hown : w'.ownsRow w.heap.size 5 1 (.slice a b.length c) b.length (byt b)) :
    Goes (zT q { M with sl := M.sl.set k { s with b := b } }) W w (w'.setCell ⟨L.bb, k, none⟩ (.slice a b.length c)) := by
  have hlt : ∀ i, (W i ∨ (Value.slice a b.length c).ownBlock = some i) → i < w'.heap.size := by
    rintro i (hi | hi)
    · exact Nat.lt_of_lt_of_le (H.lt i hi) hT.size
    · cases a with
      | none => cases hi
      | some x => have := (ow_lt hown x rfl).2; simp only [Value.ownBlock, Option.some.injEq] at hi; omega
  have H1 := (H.still hT).more (W' := fun i => W i ∨ (Value.slice a b.length c).ownBlock = some i) (fun i hi => .inl hi) hlt
  have H2 := H1.setB hs a c b (BtsAt.of_own hown (fun i hi => H.lt i (H.fix i hi)))
  refine zT_goes H2 ((hT.mono (T := W) (fun _ _ h => h.elim)).setCell (p := ⟨L.bb, k, none⟩) (.inl (H.fix _ (.inr (.inr (.inr rfl))))) _) ?_
  rintro i (hi | hi)
  · exact .inl hi
  · cases a with
    | none => cases hi
    | some x => have := (ow_lt hown x rfl).1; simp only [Value.ownBlock, Option.some.injEq] at hi; exact .inr (by omega)

theorem copyOf {w : World} {ao : Option Addr} {b : List UInt8} {cap m : Nat} (hm : m = b.length) (hA : BytesAt w ao b) (hmax : b.length ≤ 70368744177664) (hn : ao = none → cap = 0) (V : World) (hV : Still w V) :
    Calls Try.prog 16 #[.slice ao m cap] V fun e w' => ∃ a c, e = .returned (.slice a m c) ∧ w'.ownsRow w.heap.size 5 1 (.slice a m c) m (byt b) ∧ Still w w' := by
  subst hm
  exact (bytes_any V ao b cap (hA.still hV) hmax hn).mono fun e w' ⟨a, c, he, ho, hs⟩ => ⟨a, c, he, ow_base ho hV.size, hV.trans hs⟩

theorem zfill_any {w : World} {W : Nat → Prop} {q : Nat} {M : PM} {N : Nat} (H0 : (zT q M).at_ w W) (hM : M.Ok N) (h : Int) (ao : Option Addr) (b : List UInt8) (m cap : Nat) (hm : m = b.length) (hA : BytesAt w ao b) (hmax : b.length ≤ 70368744177664) (hno : ao = none → cap = 0) :
    Calls Try.prog 18 #[.pointer (some ⟨q, 0, none⟩), .int .i64 h, .slice ao m cap] w fun e w' => e = .returned (.int .i64 (M.fillE h b)) ∧ Goes (zT q (M.fillM h b)) W w w' := by
  obtain ⟨L, H⟩ := H0
  obtain ⟨n, hn⟩ : ∃ n, n = M.sl.length := ⟨_, rfl⟩
  by_cases he : M.err h = 0
  · obtain ⟨h1, hk, hs, hg, hc⟩ := PM.live he
    have HV := Lib.hid (zlive_ok H he)
    have c2 : w.cell? ⟨q, 2, none⟩ = some (.slice (some ⟨L.bb, 0, none⟩) n n) := hn ▸ H.hd.cell rfl
    obtain ⟨bv, hb, hl, hbs⟩ := H.bb
    obtain ⟨a, c, hb1, hb2⟩ := hbs _ _ hs
    have cb : w.cell? ⟨L.bb, hSlot h, none⟩ = some (.slice a (M.slt h).b.length c) := hb.cell hb1
    have hkn : hSlot h < n := by omega
    by_cases hbl : b.length = (M.slt h).b.length
    · have hE : M.fillE h b = 0 := by unfold PM.fillE; rw [if_neg (by simp [he]), if_neg (by simp [hbl])]
      have hF : M.fillM h b = { M with sl := M.sl.set (hSlot h) { M.slt h with b := b } } := by unfold PM.fillM; rw [if_neg (by simp [hE])]
      have HC := Lib.hid (copyOf hm hA hmax hno)
      have HG := Lib.hid (fun (w' : World) (a : Option Addr) (c : Nat) (hT : Still w w') (hown : w'.ownsRow w.heap.size 5 1 (.slice a m c) m (byt b)) => zT_bytes H hs hT (hm ▸ hown))
      rw [hE, hF]
      rw [← hbl, ← hm] at cb
      rw [← hm] at HG
      have hbb : L.bb < w.heap.size := hb.lt
      have HFZ := Lib.hid (fun (w' : World) (hT : Still w w') => (hb.turned hT (fun h => h)).free (hSlot h))
      have HC2 := Lib.hid (fun (w' : World) (hT : Still w w') => still_cell hT c2 rfl)
      have HCB := Lib.hid (fun (w' : World) (hT : Still w w') => still_cell hT cb rfl)
      have hTd : Still w w.drew := (Turned.refl _ _).drew
      have hqb : q ≠ L.bb := H.ne.2.2.2.1
      have hbq : L.bb ≠ q := Ne.symm hqb
      generalize hSlot h = k at *
      clear hE hF h1 hs hg hc hn H hb hl hbs hb1 hb2 hbl hk hm hmax hno hA hM he
      go_enter Try.func18, Try.ntmps18
      go_wp2_with (go_at_call 42; refine HV.out.mono ?_; rintro e w' ⟨rfl, rfl⟩)
      go_region_held3 (fun V => V.cell? ⟨q, 2, none⟩ = some (.slice (some ⟨L.bb, 0, none⟩) n n)) (first | assumption | go_keep) (first
        | (go_at_call 16; refine (HC.out _ (by assumption)).mono ?_; rintro e w5 ⟨aa, ca, rfl, hown, hT5⟩; have hf5 := HFZ.out w5 hT5; have hc5 := HC2.out w5 hT5; have hb5 := HCB.out w5 hT5))
      go_wp2_with fail
      go_ret
      exact ⟨rfl, HG.out w5 aa ca hT5 hown⟩
    · have hE : M.fillE h b = 2 := by unfold PM.fillE; rw [if_neg (by simp [he]), if_pos hbl]
      have hF : M.fillM h b = M := by unfold PM.fillM; rw [if_pos (by simp [hE])]
      rw [hE, hF]
      have HG := Lib.hid (zT_same H)
      have hne : ((m : Int) != ((M.slt h).b.length : Int)) = true := by rw [bne_iff_ne]; omega
      generalize (M.slt h).b.length = x at *
      generalize hSlot h = k at *
      clear hE hF h1 hs hg hc hn H hb hl hbs hb1 hb2 hbl hk
      go_enter Try.func18, Try.ntmps18
      go_wp2_with (go_at_call 42; refine HV.out.mono ?_; rintro e w' ⟨rfl, rfl⟩)
      go_ret
      exact ⟨rfl, HG.out⟩
  · have hE : M.fillE h b = M.err h := by unfold PM.fillE; rw [if_pos he]
    have hF : M.fillM h b = M := by unfold PM.fillM; rw [if_pos (by rw [hE]; exact he)]
    rw [hE, hF]
    have HV := Lib.hid (zlive_no H he)
    have hb : (M.err h != 0) = true := by rw [bne_iff_ne]; exact he
    have HG := Lib.hid (zT_same H)
    generalize M.err h = x at *
    clear H hn he hE hF
    go_enter Try.func18, Try.ntmps18
    go_wp2_with (go_at_call 42; refine HV.out.mono ?_; rintro e w' ⟨rfl, rfl⟩)
    go_ret
    exact ⟨rfl, HG.out⟩
end Go.Proofs.Ytinfckoaphgmkaa
