/- The lists of words and signs. -/
import Derived.Test.YtcjdacdggklifaaGreatDoorRun
import Derived.Maps.OwnOps
import Derived.Maps.OwnSet
import Derived.Deep.DeepFit
import Derived.WalkSmall
namespace Go.Proofs.YtcjdacdggklifaaGreatDoor
open Go.RowKit

def ofB (l : Lx.Bs) : ByteArray := ⟨l.toArray⟩
theorem bts_ofB (l : Lx.Bs) : bts (ofB l) = l := by simp [bts, ofB]
theorem ofB_bts (s : ByteArray) : ofB (bts s) = s := by cases s; simp [bts, ofB]
theorem ofB_size (l : Lx.Bs) : (ofB l).size = l.length := by rw [← bts_length, bts_ofB]
def strs (l : List Lx.Bs) : Array Value := (l.map fun s => Value.string (ofB s)).toArray

theorem Signs_any (w : World) : Calls Tryz.prog 31 #[] w fun e w' => e = .returned (.slice (some ⟨w.heap.size, 0, none⟩) 24 24) ∧ w' = w.alloc (.cells (strs Lx.signs) 9) := by
  have hst : strs Lx.signs = strs Lx.signs := rfl
  simp only [strs, Lx.signs, List.map_cons, List.map_nil, ofB] at hst ⊢
  clear hst
  go_enter Tryz.func31, Tryz.ntmps31
  go_wp2
  go_ret
  exact ⟨rfl, rfl⟩
theorem Words_any (w : World) : Calls Tryz.prog 30 #[] w fun e w' => e = .returned (.slice (some ⟨w.heap.size, 0, none⟩) 37 37) ∧ w' = w.alloc (.cells (strs Lx.words) 9) := by
  simp only [strs, Lx.words, List.map_cons, List.map_nil, ofB]
  go_enter Tryz.func30, Tryz.ntmps30
  go_wp2
  go_ret
  exact ⟨rfl, rfl⟩
end Go.Proofs.YtcjdacdggklifaaGreatDoor
