/-
  What the program's table says of the types of elements.
-/
import Derived.Test.YtjggiameajndgabProg
import Derived.WalkKit
namespace Go.Proofs.Ytjggiameajndgab

theorem Try.infoS : (Try.prog.info? 23).map (fun i => (i.zero, i.size, i.bytes)) = some (some (.slice none 0 0), 1, 24) := by kernel_rfl

end Go.Proofs.Ytjggiameajndgab
