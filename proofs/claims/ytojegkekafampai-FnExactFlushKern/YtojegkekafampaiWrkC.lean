
/- WriteKern, the program's. -/
import Derived.Test.YtojegkekafampaiWrkB
import Derived.Test.YtojegkekafampaiL2D
import Derived.Test.YtojegkekafampaiPutC
namespace Go.Proofs.Ytojegkekafampai
open Go.RowKit
set_option maxRecDepth 100000

def writeR (d : KD) (key x : Int) (ws : List Int) : Int × KResD :=
  if mayF d key x = 0 then (if putCode d.1.1 d.1.2 x ws = 0 then (0, [], (d.1.1, d.1.2 ++ [(x, ws)]), d.2) else (putCode d.1.1 d.1.2 x ws, [], ([], []), [])) else (mayF d key x, [], ([], []), [])
theorem mayF_ok {d : KD} {key x : Int} (h : mayF d key x = 0) : kernF d = 0 := by
  unfold mayF at h
  split at h
  · rename_i hc
    obtain ⟨c, v, hr⟩ : ∃ c v, ownR d x = (c, v) := ⟨_, _, rfl⟩
    rw [hr] at hc
    dsimp only at hc
    subst hc
    exact (ownR_ok hr).1
  · rename_i hc
    exact absurd h hc

end Go.Proofs.Ytojegkekafampai
