/- A machine that no call made has and does nothing: the walk of the statement SchedVoid. No condition. -/
import Derived.Test.YtkeacdhjkhojhaaVoidRun
import Derived.Test.YtkeacdhjkhojhaaWorks02
import Derived.Test.YtkeacdhjkhojhaaRegs
namespace Go.Proofs.Ytkeacdhjkhojhaa
open Go.RowKit
set_option linter.unusedVariables false
set_option linter.unusedSimpArgs false
set_option maxRecDepth 100000

theorem vd_nil (w : World) : Vd w none := .inl rfl

set_option maxHeartbeats 4000000 in
theorem walk_SchedVoid (n : Int) (w : World) (_ : (Lit.int .i64 n).wf = true) :
    Calls Try.prog 9 #[.int .i64 n] w fun e w' => e = .returned (.bool true) ∧ Still w w' := by
  go_enter Try.func9, Try.ntmps9
  go_wp2_with fail
  refine (works2 _).mono ?_
  rintro e w1 ⟨rfl, hT1⟩
  obtain ⟨zb, hzb⟩ : ∃ zb, zb = w1.heap.size := ⟨_, rfl⟩
  have HZ0 := Lib.hid (show Vd (w1.alloc (.cells #[.pointer none, .slice none 0 0] 56)) (some ⟨zb, 0, none⟩) from .inr ⟨zb, rfl, by subst hzb; exact Blk.new w1 [.pointer none, .slice none 0 0] _⟩)
  have HT0 := Lib.hid (hT1.alloc (.cells #[.pointer none, .slice none 0 0] 56))
  have HF := Lib.hid (fair_vd (vd_nil (w1.alloc (.cells #[.pointer none, .slice none 0 0] 56))))
  clear hT1
  go_wp2_with fail
  rw [← hzb]
  clear hzb
  refine (HF.out).mono ?_
  rintro e v1 ⟨rfl, hT⟩
  have HT1 := Lib.hid (HT0.out.trans hT)
  have HZ1 := Lib.hid (HZ0.out.still hT)
  clear hT HT0 HZ0
  go_wp2_with fail
  refine (fair_vd HZ1.out).mono ?_
  rintro e v2 ⟨rfl, hT⟩
  have HT2 := Lib.hid (HT1.out.trans hT)
  have HZ2 := Lib.hid (HZ1.out.still hT)
  clear hT HT1 HZ1
  go_wp2_with fail
  refine (step_vd (vd_nil _) n).mono ?_
  rintro e vx ⟨rfl, rfl⟩
  go_wp2_with fail
  refine (step_vd HZ2.out n).mono ?_
  rintro e vx ⟨rfl, rfl⟩
  go_wp2_with fail
  refine (mrun_vd (vd_nil _) n).mono ?_
  rintro e v3 ⟨rfl, hT⟩
  have HT3 := Lib.hid (HT2.out.trans hT)
  have HZ3 := Lib.hid (HZ2.out.still hT)
  clear hT HT2 HZ2
  go_wp2_with fail
  refine (mrun_vd HZ3.out n).mono ?_
  rintro e v4 ⟨rfl, hT⟩
  have HT4 := Lib.hid (HT3.out.trans hT)
  have HZ4 := Lib.hid (HZ3.out.still hT)
  clear hT HT3 HZ3
  go_wp2_with fail
  refine (over_vd (vd_nil _) n).mono ?_
  rintro e vx ⟨rfl, rfl⟩
  go_wp2_with fail
  refine (over_vd HZ4.out n).mono ?_
  rintro e vx ⟨rfl, rfl⟩
  go_wp2_with fail
  refine (at_vd (vd_nil _) n).mono ?_
  rintro e vx ⟨rfl, rfl⟩
  go_wp2_with fail
  refine (at_vd HZ4.out n).mono ?_
  rintro e vx ⟨rfl, rfl⟩
  go_wp2_with fail
  refine (cells_vd (vd_nil _)).mono ?_
  rintro e vx ⟨rfl, rfl⟩
  go_wp2_with fail
  refine (cells_vd HZ4.out).mono ?_
  rintro e vx ⟨rfl, rfl⟩
  go_wp2_with fail
  refine (registers_vd (vd_nil _) n).mono ?_
  rintro e v5 ⟨rfl, hT⟩
  have HT5 := Lib.hid (HT4.out.trans hT)
  have HZ5 := Lib.hid (HZ4.out.still hT)
  clear hT HT4 HZ4
  go_wp2_with fail
  refine (registers_vd HZ5.out n).mono ?_
  rintro e v6 ⟨rfl, hT⟩
  have HT6 := Lib.hid (HT5.out.trans hT)
  have HZ6 := Lib.hid (HZ5.out.still hT)
  clear hT HT5 HZ5
  go_wp2_with fail
  refine (registers_vd (vd_nil _) n).mono ?_
  rintro e v7 ⟨rfl, hT⟩
  have HT7 := Lib.hid (HT6.out.trans hT)
  have HZ7 := Lib.hid (HZ6.out.still hT)
  clear hT HT6 HZ6
  go_wp2_with fail
  refine (holder_vd (vd_nil _) n).mono ?_
  rintro e vx ⟨rfl, rfl⟩
  go_wp2_with fail
  refine (holder_vd HZ7.out n).mono ?_
  rintro e vx ⟨rfl, rfl⟩
  go_wp2_with fail
  go_ret
  exact ⟨rfl, HT7.out⟩
end Go.Proofs.Ytkeacdhjkhojhaa
