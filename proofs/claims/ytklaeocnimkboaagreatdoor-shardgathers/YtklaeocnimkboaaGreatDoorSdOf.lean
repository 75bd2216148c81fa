/-
  SdOf: texts of earlier layers, laid over this program.
-/
import Derived.Test.YtklaeocnimkboaaGreatDoorSdCheck
namespace Go.Proofs.YtklaeocnimkboaaGreatDoor
open Go.RowKit Go.Lib

set_option maxRecDepth 100000 in
theorem of_any (k m i long : Int) (id data : ByteArray) (w : World) :
    Calls Tryz.prog 11 #[.agg #[.int .i64 k, .int .i64 m, .int .i64 i, .int .i64 long, .string id, .string data]] w fun e w' => e = .returned (.agg #[.int .i64 k, .int .i64 m, .int .i64 i, .int .i64 long, .string id, .string data]) ∧ Below w.heap.size w w' := by
  go_enter Tryz.func11, Tryz.ntmps11
  go_wp2
  exact bodyPost_ret (v := .agg #[.int .i64 k, .int .i64 m, .int .i64 i, .int .i64 long, .string id, .string data]) (by simp [results, Tryz.results11, go_sem]) rfl ⟨rfl, below_alloc (below_alloc (Below.refl _ _) _) _⟩

end Go.Proofs.YtklaeocnimkboaaGreatDoor

