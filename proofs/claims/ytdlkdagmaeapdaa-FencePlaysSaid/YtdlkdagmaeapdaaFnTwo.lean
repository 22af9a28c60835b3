/- Both tracks, one call of each behind the other, with something beside them. No condition but the words. -/
import Derived.Test.YtdlkdagmaeapdaaFnSame
namespace Go.Proofs.Ytdlkdagmaeapdaa
open Go.RowKit
set_option linter.unusedVariables false
set_option linter.unusedSimpArgs false
set_option maxRecDepth 100000

theorem Held.imF {w0 w : World} {A B : Thing} (h : Held w0 w A) (f : ∀ {w : World} {W : Nat → Prop}, A.at_ w W → B.at_ w W) : Held w0 w B := by
  obtain ⟨W, h1, h2⟩ := h
  exact ⟨W, f h1, h2⟩
/-- Both tracks, and something beside them. -/
def Tg (FT : Nat → FnM → Thing) (w V : World) (q z : Nat) (R : Thing) : Prop := ∃ M : FnM, M.Ok ∧ Held w V ((FT q M).sep ((zfT z M).sep R))
section
variable {FT : Nat → FnM → Thing} {LT : Nat → LgM → Thing} {w V V2 : World} {q z : Nat} {R : Thing}
theorem Tg.still (h : Tg FT w V q z R) (hs : Still V V2) : Tg FT w V2 q z R := by
  obtain ⟨M, h1, h2⟩ := h; exact ⟨M, h1, h2.still hs⟩
theorem Tg.ground (h : Tg FT w V q z R) : Still w V := by obtain ⟨M, h1, h2⟩ := h; exact h2.ground
theorem Tg.only (h : Tg FT w V q z R) : Tf FT w V q z := by
  obtain ⟨M, h1, h2⟩ := h
  obtain ⟨W, h3, h4, h5⟩ := h2.assoc'.drop
  have h6 : Held w V (((FT q M).sep (zfT z M)).sep Thing.none) := ⟨W, ⟨W, fun _ => False, h3, fun _ h => h, fun _ _ h => h, fun k => ⟨.inl, fun h => h.elim id (fun h => h.elim)⟩⟩, h4, h5⟩
  exact ⟨M, h1, h6.assoc⟩
theorem Tf.box (h : Tf FT w V q z) (xs : List Value) (e : TypeId) : Tg FT w (V.alloc (.cells xs.toArray e)) q z (blkT V.heap.size xs e) := by
  obtain ⟨M, h1, h2⟩ := h
  have h3 := (h2.box xs e).assoc
  have h4 := h3.imF (sep_imp2 (fun h => h) (fun {w W} h => sep_assoc' (sep_imp2 (fun h => h) sep_swap (sep_assoc h))))
  exact ⟨M, h1, h4.assoc'.drop⟩
theorem Tg.rest (h : Tg FT w V q z R) : Held w V R := by
  obtain ⟨M, h1, h2⟩ := h; exact h2.snd.snd
theorem same18_tg (A : FenceApi FT LT) (AL : LedgerApi LT) (H : Tg FT w V q z R) : Calls Try.prog 22 #[.pointer (some ⟨q, 0, none⟩), .pointer (some ⟨z, 0, none⟩)] V fun e w' => e = .returned (.bool true) ∧ Still V w' := same18_any A AL H.only
theorem tg_del (A : FenceApi FT LT) (H : Tg FT w V q z R) (h t : Int) (h1 : -9223372036854775808 ≤ h) (h2 : h ≤ 9223372036854775807) (h3 : -9223372036854775808 ≤ t) (h4 : t ≤ 9223372036854775807) : ∃ v r : Int, Calls Try.prog 13 #[.pointer (some ⟨q, 0, none⟩), .int .i64 h, .int .i64 t] V fun e w' => e = .returned (.tuple #[.int .i64 v, .int .i64 r]) ∧
    Held w w' R ∧ ∀ V3, Still w' V3 → Calls Try.prog 14 #[.pointer (some ⟨z, 0, none⟩), .int .i64 h, .int .i64 t] V3 fun e w'' => e = .returned (.tuple #[.int .i64 v, .int .i64 r]) ∧ Tg FT w w'' q z R := by
  obtain ⟨M, m1, m2⟩ := H
  exact ⟨_, _, (Held.delF A m2 m1 h1 h2 h3 h4 rfl rfl rfl).mono fun e w' ⟨he, hh⟩ => ⟨he, hh.snd.snd, fun V3 hs => ((hh.still hs).turn.call (fun _ h' => zfndel_any h' m1 h t)).mono fun e w'' ⟨he, hk⟩ => ⟨he, _, m1.del h t, hk.turn⟩⟩⟩
theorem tg_com (A : FenceApi FT LT) (H : Tg FT w V q z R) (x : Int) (h1 : -9223372036854775808 ≤ x) (h2 : x ≤ 9223372036854775807) : ∃ r : Int, Calls Try.prog 15 #[.pointer (some ⟨q, 0, none⟩), .int .i64 x] V fun e w' => e = .returned (.int .i64 r) ∧
    Held w w' R ∧ ∀ V3, Still w' V3 → Calls Try.prog 16 #[.pointer (some ⟨z, 0, none⟩), .int .i64 x] V3 fun e w'' => e = .returned (.int .i64 r) ∧ Tg FT w w'' q z R := by
  obtain ⟨M, m1, m2⟩ := H
  exact ⟨_, (Held.comF A m2 m1 h1 h2 rfl rfl).mono fun e w' ⟨he, hh⟩ => ⟨he, hh.snd.snd, fun V3 hs => ((hh.still hs).turn.call (fun _ h' => zfncom_any h' m1 x)).mono fun e w'' ⟨he, hk⟩ => ⟨he, _, m1.com x, hk.turn⟩⟩⟩
theorem tg_seek (A : FenceApi FT LT) (H : Tg FT w V q z R) (x h t : Int) (x1 : -9223372036854775808 ≤ x) (x2 : x ≤ 9223372036854775807) (h1 : -9223372036854775808 ≤ h) (h2 : h ≤ 9223372036854775807) (h3 : -9223372036854775808 ≤ t) (h4 : t ≤ 9223372036854775807) : ∃ r : Int, Calls Try.prog 17 #[.pointer (some ⟨q, 0, none⟩), .int .i64 x, .int .i64 h, .int .i64 t] V fun e w' => e = .returned (.int .i64 r) ∧
    Held w w' R ∧ ∀ V3, Still w' V3 → Calls Try.prog 18 #[.pointer (some ⟨z, 0, none⟩), .int .i64 x, .int .i64 h, .int .i64 t] V3 fun e w'' => e = .returned (.int .i64 r) ∧ Tg FT w w'' q z R := by
  obtain ⟨M, m1, m2⟩ := H
  exact ⟨_, (Held.seekF A m2 m1 x1 x2 h1 h2 h3 h4 rfl rfl).mono fun e w' ⟨he, hh⟩ => ⟨he, hh.snd.snd, fun V3 hs => ((hh.still hs).turn.call (fun _ h' => zfnseek_any h' m1 x h t)).mono fun e w'' ⟨he, hk⟩ => ⟨he, _, m1.seek x h t, hk.turn⟩⟩⟩
theorem tg_peek (A : FenceApi FT LT) (H : Tg FT w V q z R) (h t : Int) (h1 : -9223372036854775808 ≤ h) (h2 : h ≤ 9223372036854775807) (h3 : -9223372036854775808 ≤ t) (h4 : t ≤ 9223372036854775807) : ∃ v r : Int, Calls Try.prog 20 #[.pointer (some ⟨q, 0, none⟩), .int .i64 h, .int .i64 t] V fun e w' => e = .returned (.tuple #[.int .i64 v, .int .i64 r]) ∧
    Held w w' R ∧ ∀ V3, Still w' V3 → Calls Try.prog 21 #[.pointer (some ⟨z, 0, none⟩), .int .i64 h, .int .i64 t] V3 fun e w'' => e = .returned (.tuple #[.int .i64 v, .int .i64 r]) ∧ Tg FT w w'' q z R := by
  obtain ⟨M, m1, m2⟩ := H
  refine ⟨_, _, (Held.peekF A m2 m1 h1 h2 h3 h4 rfl rfl).mono fun e w' ⟨he, hs⟩ => ⟨he, (m2.still hs).snd.snd, fun V3 ht => ?_⟩⟩
  have m3 := (m2.still hs).still ht
  obtain ⟨_, h', _⟩ := m3.turn.fst
  exact (zfnpeek_any h' h t).mono fun e w'' ⟨he, hw⟩ => ⟨he, M, m1, hw ▸ m3⟩
/-- Back, and the store that goes for it beside. -/
theorem tg_back (A : FenceApi FT LT) (H : Tg FT w V q z R) : Calls Try.prog 19 #[.pointer (some ⟨q, 0, none⟩)] V fun e w' => e = .returned (.tuple #[]) ∧ Held w w' R ∧ ∃ (l : Nat) (f N : Int), 
    (∀ V3, Still w' V3 → V3.cell? ⟨z, 0, none⟩ = some (.pointer (some ⟨l, 0, none⟩)) ∧ V3.cell? ⟨z, 1, none⟩ = some (.int .i64 N) ∧ V3.frozen? ⟨z, 1, none⟩ = false) ∧
    (∀ V3, Still w' V3 → Calls Try.prog 11 #[.pointer (some ⟨l, 0, none⟩)] V3 fun e w'' => e = .returned (.int .i64 f) ∧ Still V3 w'') ∧
    (∀ V3, Still w' V3 → Tg FT w (V3.setCell ⟨z, 1, none⟩ (.int .i64 f)) q z R) := by
  obtain ⟨M, m1, m2⟩ := H
  refine (Held.backF A m2 m1).mono fun e w' ⟨he, hh⟩ => ⟨he, hh.snd.snd, ?_⟩
  obtain ⟨_, ⟨l, hz⟩, _⟩ := hh.turn.fst
  refine ⟨l, M.L.fin, M.N, fun V3 hs => ?_, fun V3 hs => ?_, fun V3 hs => ?_⟩
  · have hz3 := Thing.keep _ hz hs (fun _ _ h => h)
    obtain ⟨c0, c1, _⟩ := zfn_cells hz3
    obtain ⟨_, f1, _⟩ := zfn_next (Sit.start hz3) M.L.fin
    exact ⟨c0, c1, f1⟩
  · obtain ⟨c0, c1, W1, hl⟩ := zfn_cells (Thing.keep _ hz hs (fun _ _ h => h))
    exact zlgend_any hl m1.led
  · obtain ⟨W3, ⟨l3, hz3⟩, hgo⟩ := (hh.still hs).turn.fst
    obtain ⟨_, _, hg⟩ := zfn_next (Sit.start hz3) M.L.fin
    exact ⟨M.back, m1.back, (hgo _ _ hg.out).turn⟩
end
end Go.Proofs.Ytdlkdagmaeapdaa
