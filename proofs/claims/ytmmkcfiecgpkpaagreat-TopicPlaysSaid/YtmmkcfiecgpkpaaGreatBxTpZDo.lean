/- Texts that lie next to one another, laid into one: each says what it holds. No condition but what each states. -/
import Derived.Test.YtmmkcfiecgpkpaaGreatBxTpZLay

/- What the document's set of topics answers: a key's place, the places, a partition. No condition but that it is one. -/
namespace Go.Proofs.YtmmkcfiecgpkpaaGreat
open Go.RowKit
set_option linter.unusedVariables false
set_option linter.unusedSimpArgs false
set_option maxRecDepth 100000

section
variable {s q : Nat} {a : Option Addr} {c : Nat} {Z : List ZpZ} {w : World} {T : List TpM} {L : List (List Nat)}
theorem zplbx {V : World} (h : Still (w.alloc (.cells #[.int .i64 0, .int .i64 0] 25)) V) :
    (V.cell? ⟨w.heap.size, 0, none⟩ = some (.int .i64 0) ∧ V.cell? ⟨w.heap.size, 1, none⟩ = some (.int .i64 0) ∧ V.frozen? ⟨w.heap.size, 0, none⟩ = false ∧ V.frozen? ⟨w.heap.size, 1, none⟩ = false) ∧
    ∀ x y : Int, (V.setCell ⟨w.heap.size, 0, none⟩ (.int .i64 x)).cell? ⟨w.heap.size, 0, none⟩ = some (.int .i64 x) ∧ ((V.setCell ⟨w.heap.size, 0, none⟩ (.int .i64 x)).setCell ⟨w.heap.size, 1, none⟩ (.int .i64 y)).cell? ⟨w.heap.size, 1, none⟩ = some (.int .i64 y) ∧ Still w ((V.setCell ⟨w.heap.size, 0, none⟩ (.int .i64 x)).setCell ⟨w.heap.size, 1, none⟩ (.int .i64 y)) := by
  have hw1 : Still w (w.alloc (.cells #[.int .i64 0, .int .i64 0] 25)) := (Turned.refl _ _).alloc _
  have hb : Blk V w.heap.size [.int .i64 0, .int .i64 0] 25 := (Blk.new w [.int .i64 0, .int .i64 0] 25).turned h (fun h => h)
  exact ⟨⟨hb.cell rfl, hb.cell rfl, hb.free _, hb.free _⟩, fun x y => ⟨(hb.set 0 _).cell (o := 0) rfl, ((hb.set 0 _).set 1 _).cell (o := 1) rfl, ((hw1.trans h).setCell (.inr (Nat.le_refl _)) _).setCell (.inr (Nat.le_refl _)) _⟩⟩
theorem zfindE_or (T : List TpM) (l : Txt) : findE T l = 0 ∨ findE T l = 80 ∨ findE T l = 5 := by
  unfold findE
  split
  · simp
  · split <;> simp
theorem zfindE_ok {T : List TpM} {l : Txt} (h : findE T l = 0) : findN T l = (fdN T l : Nat) ∧ fdN T l < T.length := by
  refine ⟨by unfold findN; rw [if_neg (by simp [h])], ?_⟩
  unfold findE at h
  split at h
  · simp at h
  · split at h
    · assumption
    · simp at h
theorem zz_len (h2 : Z.map (·.2.2.2) = L) (hf : Fits L T) {i : Nat} {z : ZpZ} (hz : Z[i]? = some z) : ∃ x, T[i]? = some x ∧ z.2.2.2.length = x.ps.length ∧ L[i]? = some z.2.2.2 := by
  have e0 : L[i]? = some z.2.2.2 := by rw [← h2, List.getElem?_map, hz]; rfl
  have e1 : (L.map (·.length))[i]? = some z.2.2.2.length := by rw [List.getElem?_map, e0]; rfl
  rw [show L.map (·.length) = T.map (·.ps.length) from hf, List.getElem?_map] at e1
  cases hx : T[i]? with
  | none => rw [hx] at e1; cases e1
  | some x => rw [hx] at e1; exact ⟨x, rfl, by simpa using e1.symm, e0⟩

set_option maxHeartbeats 2000000 in
theorem zztroute_any (h : ZRd s q a c Z w) (he : Z.map (·.1) = T.map (·.nm)) (h1 : Z.map (·.2.2.2) = L) (hf : Fits L T) (hn : T.length ≤ 16) (hp : ∀ t ∈ T, 1 ≤ t.ps.length ∧ t.ps.length ≤ 8) (l : Txt) (hl : l.length ≤ 300)
    (k : List UInt8) (ao : Option Addr) (m cap : Nat) (hm : m = k.length) (hA : BytesAt w ao k) (hmx : m ≤ 100) :
    Calls Tryz.prog 19 #[.pointer (some ⟨s, 0, none⟩), tx l, .slice ao m cap] w fun e w' => e = .returned (.tuple #[plcA (routT T l k) (routP T l k), .int .i64 (routE T l k)]) ∧ Still w w' := by
  obtain ⟨e1, e2⟩ := zfd_of he l
  have hw1 : Still w (w.alloc (.cells #[.int .i64 0, .int .i64 0] 25)) := (Turned.refl _ _).alloc _
  have HF := Lib.hid (zztfind_any (h.still hw1) he hn l hl)
  have HB := Lib.hid (fun V hs => zplbx (w := w) (V := V) hs)
  unfold routT routP routE
  by_cases h0 : findE T l = 0
  · obtain ⟨f1, f2⟩ := zfindE_ok h0
    rw [f1, h0] at HF
    obtain ⟨z, hz⟩ := get_some (l := Z) (i := fdN T l) (by omega)
    obtain ⟨x, hx, hzx, _⟩ := zz_len h1 hf hz
    have hx8 := hp x (List.mem_of_getElem? hx)
    have hnx : nps T (fdN T l) = z.2.2.2.length := by unfold nps; rw [hx]; exact hzx.symm
    rw [hnx]
    obtain ⟨g, rfl, hr1, hr2⟩ := h.row _ z hz
    have HC := Lib.hid (fun V (hs : Still (w.alloc (.cells #[.int .i64 0, .int .i64 0] 25)) V) => show V.cell? ⟨s, 1, none⟩ = some (.slice (some ⟨g, 0, none⟩) Z.length c) ∧ V.cell? ⟨g, fdN T l * 2 + 1, none⟩ = some (.slice z.2.1 z.2.2.2.length z.2.2.1) from
      ⟨(h.still (hw1.trans hs)).c1, still_cell (hw1.trans hs) hr2 rfl⟩)
    have HO := Lib.hid (fun V (hs : Still (w.alloc (.cells #[.int .i64 0, .int .i64 0] 25)) V) => zrtof_any (z.2.2.2.length : Nat) k V ao m cap hm (hA.still (hw1.trans hs)) (by omega))
    obtain ⟨zn, za, zc, zx⟩ := z
    dsimp only at HC HO hzx ⊢
    have hd16 : fdN T l < Z.length := by omega
    have hz16 : Z.length ≤ 16 := by omega
    have hy8 : 1 ≤ zx.length ∧ zx.length ≤ 8 := by omega
    clear hzx hx8 hnx
    rcases rtE_or (zx.length : Nat) k with r0 | r0 | r0
    all_goals (
      rw [r0] at HO ⊢
      simp only [h0, ne_eq, not_true_eq_false, if_false, if_true, Int.reduceEq, not_false_eq_true]
      generalize rtP (zx.length : Nat) k = p at *
      generalize zx.length = y at *
      generalize fdN T l = d at *
      generalize Z.length = zn' at *
      unfold tx at *
      have hdi : (d : Int) < (zn' : Int) := by omega
      clear h he h1 hf hp hm hA e1 e2 h0 f1 f2 hz hx r0 hw1 hr1 hr2
      go_enter Tryz.func19, Tryz.ntmps19
      go_wp2_with (first
        | (go_at_call 16; ((with_reducible refine HF.out.mono ?_)); rintro e w1 ⟨rfl, hs⟩; have H1 := Lib.hid hs; obtain ⟨u1, u2⟩ := HC.out w1 hs; clear hs)
        | (go_at_call 47; ((with_reducible refine (HO.out _ H1.out).mono ?_)); rintro e w3 ⟨rfl, hs⟩; have H3 := Lib.hid (H1.out.trans hs); obtain ⟨⟨b1, b2, b3, b4⟩, _⟩ := HB.out w3 (H1.out.trans hs); clear hs))
      obtain ⟨_, b5⟩ := HB.out w3 H3.out
      first
        | (obtain ⟨d1, d2, d3⟩ := b5 0 0
           exact bodyPost_ret (by simp [results, Tryz.results19, go_sem, d1, d2]) rfl ⟨rfl, d3⟩)
        | (obtain ⟨d1, d2, d3⟩ := b5 (d : Nat) p
           exact bodyPost_ret (v := .tuple #[.agg #[.int .i64 (d : Nat), .int .i64 p], .int .i64 0]) (by simp [results, Tryz.results19, go_sem, d1, d2]) rfl ⟨rfl, d3⟩))
  · have fN : findN T l = 0 := by unfold findN; rw [if_pos h0]
    rw [fN] at HF
    have h2 := zfindE_or T l
    rw [if_pos h0, if_pos h0, if_pos h0]
    generalize findE T l = er at *
    unfold tx at *
    clear h he h1 hf hp hm hA e1 e2 fN hw1
    rcases h2 with rfl | rfl | rfl
    · exact absurd rfl h0
    all_goals (
      go_enter Tryz.func19, Tryz.ntmps19
      go_wp2_with (go_at_call 16; ((with_reducible refine HF.out.mono ?_)); rintro e w1 ⟨rfl, hs⟩; have H1 := Lib.hid hs; obtain ⟨⟨b1, b2, b3, b4⟩, _⟩ := HB.out w1 hs; clear hs)
      obtain ⟨_, b5⟩ := HB.out w1 H1.out
      obtain ⟨d1, d2, d3⟩ := b5 0 0
      exact bodyPost_ret (by simp [results, Tryz.results19, go_sem, d1, d2]) rfl ⟨rfl, d3⟩)
end
end Go.Proofs.YtmmkcfiecgpkpaaGreat
