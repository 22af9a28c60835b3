/- A slot's envelope is begun; the stack of the program's pool is another row. No condition but that the pool is one. -/
import Derived.Test.YtinfckoaphgmkaaPoolDo
namespace Go.Proofs.Ytinfckoaphgmkaa
open Go.RowKit
set_option linter.unusedVariables false
set_option linter.unusedSimpArgs false
set_option maxRecDepth 100000

theorem zeroByte : ∀ w, (zeroValue 5).run Try.prog w = .ok (.int .u8 0) w := Try.zeroValue5

theorem begin_any {w : World} {W : Nat → Prop} {q : Nat} {L : PLay} {M : PM} {k : Nat} {s : Slt} (H : PIn w W q L M) (hs : M.sl[k]? = some s) (n : Nat) (hn : n ≤ M.size) (hz : M.size ≤ 256) :
    Calls Try.prog 38 #[.pointer (some ⟨L.eb, k * 3, none⟩), .int .i64 n] w fun e w' => (∃ v, e = .returned v) ∧ PIn w' W q L { M with sl := M.sl.set k { s with c := 1, b := List.replicate n 0 } } ∧ Turned W w w' := by
  obtain ⟨e0, e1, e2, e3⟩ := H.slot hs
  have f1 := H.freeE (k * 3 + 1)
  have f2 := H.freeE (k * 3 + 2)
  obtain ⟨r, r1, r2⟩ := H.bb k s hs
  obtain ⟨n1, n2, n3⟩ := H.ne
  have hbk := H.bs k (get_lt hs)
  obtain ⟨w3, hw3⟩ : ∃ w3, (w.setCell ⟨L.eb, k * 3 + 1, none⟩ (.int .i64 1)).setCell ⟨L.eb, k * 3 + 2, none⟩ (.slice (some ⟨L.bl k, 0, none⟩) n M.size) = w3 := ⟨_, rfl⟩
  have hT3 : Turned (· = L.eb) w w3 := by rw [← hw3]; exact turned_set (turned_set (Turned.refl _ _) _ _) _ _
  have hr3 : Blk w3 (L.bl k) (byt (s.b ++ r)) 5 := r1.turned hT3 (fun e => hbk.2.1 (.inr (.inr e)))
  have H1 := H.setC hs 1
  rw [show ((1 : Nat) : Int) = 1 from rfl] at H1
  have hlen : (s.b ++ r).length = M.size := r2
  have hcut : (s.b ++ r) = (s.b ++ r).take n ++ (s.b ++ r).drop n := (List.take_append_drop _ _).symm
  have H3 : PIn w3 W q L { M with sl := M.sl.set k { s with c := 1, b := (s.b ++ r).take n } } := by
    rw [← hw3]
    have := H1.setL (k := k) (get_set_self' hs) ((s.b ++ r).take n) ⟨(s.b ++ r).drop n, by
      rw [← hcut]
      exact r1.turned (turned_set (b := L.eb) (Turned.refl _ _) _ _) (fun e => hbk.2.1 (.inr (.inr e))), by rw [← hcut]; exact hlen⟩ (m := n) (by rw [List.length_take]; omega)
    simpa using this
  have HE := Lib.hid (fun (w4 : World) (hb4 : Blk w4 (L.bl k) (laid (byt (s.b ++ r)) 0 (List.replicate n (.int .u8 0))) 5) (ht4 : Turned (· = L.bl k) w3 w4) => show PIn w4 W q L { M with sl := M.sl.set k { s with c := 1, b := List.replicate n 0 } } ∧ Turned W w w4 by
    have e : laid (byt (s.b ++ r)) 0 (List.replicate n (.int .u8 0)) = byt (List.replicate n 0 ++ (s.b ++ r).drop n) := by
      simp [laid, byt, List.map_drop]
    rw [e] at hb4
    have := H3.room (k := k) (get_set_self' hs) ht4 (List.replicate n 0) (by rw [List.length_replicate, List.length_take]; omega) ⟨_, hb4, by rw [List.length_append, List.length_replicate, List.length_drop]; show _ = M.size; omega⟩
    exact ⟨by simpa using this, (hT3.mono (fun i _ e => by subst e; exact H.ownE)).trans (ht4.mono (fun i _ e => by subst e; exact hbk.1))⟩)
  have d2 : w3.cell? ⟨L.eb, k * 3 + 2, none⟩ = some (.slice (some ⟨L.bl k, 0, none⟩) n M.size) := by
    have := (H3.slot (get_set_self' hs)).2.2.1
    rwa [List.length_take, hlen, Nat.min_eq_left hn] at this
  have HB := Lib.hid hr3
  have HN := Lib.hid (show 0 + n ≤ (byt (s.b ++ r)).length by rw [byt_length]; omega)
  have HW3 := Lib.hid hw3
  have hni : (n : Int) ≤ (M.size : Int) := by omega
  generalize M.size = sz at *
  generalize s.b.length = bn at *
  clear hw3 H1 H3 hs H hT3 hr3 r1 r2 hlen hcut hbk e0 e3
  go_enter Try.func38, Try.ntmps38
  go_upto_region 2 with fail
  rw [HW3.out]
  clear HW3 e1 e2 f1 f2
  go_wp2_with (with_reducible refine atClear ?_; refine wpList_clear_blk rfl (.tmp 19) 32 rfl 5 (.int .u8 0) Try.underlying32 zeroByte rfl rfl (L.bl k) 0 n _ rfl _ _ HB.out HN.out ?_; intro w4 hb4 ht4)
  go_end0
  exact ⟨⟨_, rfl⟩, HE.out w4 hb4 ht4⟩

/-- The stack has another row in its block. -/
theorem PIn.reF {w3 w6 : World} {W : Nat → Prop} {q : Nat} {L : PLay} {M : PM} (H : PIn w3 W q L M) (hT6 : Turned (· = L.sb) w3 w6) {fl : Nat} {fr : List Nat} (hfl : fl = fr.length)
    (hown : w6.ownsRow 0 3 1 (.slice (some ⟨L.sb, 0, none⟩) fl L.sc) fl (ints (nums fr.reverse))) :
    PIn (w6.setCell ⟨q, 3, none⟩ (.slice (some ⟨L.sb, 0, none⟩) fl L.sc)) W q L { M with fr := fr } := by
  subst hfl
  have hst := H.st.2
  obtain ⟨ev, hev, hl⟩ := H.ee
  obtain ⟨n1, n2, n3⟩ := H.ne
  have ht : Turned (· = q) w6 (w6.setCell ⟨q, 3, none⟩ (.slice (some ⟨L.sb, 0, none⟩) fr.length L.sc)) := turned_set (Turned.refl _ _) _ _
  refine ⟨fun i hi => by rw [size_setCell]; exact Nat.lt_of_lt_of_le (H.lt i hi) hT6.size, H.fix, H.st, H.bs, H.inj, H.ne, ?_, ?_, ⟨ev, ?_, hl⟩, fun i t hi => ?_, ?_⟩
  · exact (H.hd.turned hT6 (fun e => hst (.inl e.symm))).set 3 _
  · exact (H.gg.turned hT6 (fun e => hst (.inr (.inl e.symm)))).turned ht (Ne.symm n1)
  · exact (hev.turned hT6 (fun e => hst (.inr (.inr e.symm)))).turned ht (Ne.symm n2)
  · obtain ⟨r, r1, r2⟩ := H.bb i t hi
    have hb := H.bs i (get_lt hi)
    exact ⟨r, (r1.turned hT6 hb.2.2).turned ht (fun e => hb.2.1 (.inl e)), r2⟩
  · exact ow_turned hown ht (fun b hb e => by cases hb; exact hst (.inl e))
end Go.Proofs.Ytinfckoaphgmkaa
