/- What Assign and Even answer, told of lists. No condition. -/
import Derived.Test.YtdlkdagmaeapdaaShLaws
namespace Go.Proofs.Ytdlkdagmaeapdaa
open Go.RowKit
set_option linter.unusedVariables false

instance (ms : List Int) : Decidable (risI ms) := by unfold risI; infer_instance
instance (ps : List Plc) : Decidable (disI ps) := by unfold disI; infer_instance
def asgE (ms : List Int) (ps : List Plc) (os : List Own) : Int := if 256 < ps.length ∨ 256 < os.length then 3 else if risI ms ∧ disI ps then 0 else 2
def asgV (ms : List Int) (ps : List Plc) (os : List Own) : List Own := if asgE ms ps os = 0 then asgI ms ps os else []
def cntsI (ms : List Int) (os : List Own) : List Nat := ms.map (fun id => (ofI os id).length)
def evenI (ms : List Int) (os : List Own) : Int := match cntsI ms os with
  | [] => 0
  | x :: r => ((r.foldl max x : Nat) : Int) - ((r.foldl min x : Nat) : Int)
theorem asgE_ok {ms : List Int} {ps : List Plc} {os : List Own} (h : asgE ms ps os = 0) : ps.length ≤ 256 ∧ os.length ≤ 256 ∧ risI ms ∧ disI ps := by
  unfold asgE at h
  split at h
  · omega
  · split at h
    · rename_i h1 h2; exact ⟨by omega, by omega, h2⟩
    · omega
theorem asgE_of {ms : List Int} {ps : List Plc} {os : List Own} (h1 : ps.length ≤ 256) (h2 : os.length ≤ 256) (h3 : risI ms) (h4 : disI ps) : asgE ms ps os = 0 := by
  unfold asgE; rw [if_neg (by omega), if_pos ⟨h3, h4⟩]
theorem asgV_ok {ms : List Int} {ps : List Plc} {os : List Own} (h : asgE ms ps os = 0) : asgV ms ps os = asgI ms ps os := by unfold asgV; rw [if_pos h]
theorem asgV_no {ms : List Int} {ps : List Plc} {os : List Own} (h : asgE ms ps os ≠ 0) : asgV ms ps os = [] := by unfold asgV; rw [if_neg h]
theorem asgV_nodup {ms : List Int} {ps : List Plc} {os b : List Own} (e : asgE ms ps os = 0) (v : asgV ms ps os = b) : (b.map (·.1)).Nodup := by
  rw [← v, asgV_ok e, asgI_places]
  exact (asgE_ok e).2.2.2.2
end Go.Proofs.Ytdlkdagmaeapdaa
