/-
  has of the document, by what it returns.
-/
import Derived.Test.YtfnicgihpelhhaaGreatProg
import Derived.WalkKit
import Derived.WalkSpells
import Derived.WalkLawsBesides
import Derived.RowKit3
import Derived.Below
import Derived.Deep.QuietTactic
import Derived.BigQuiet
import Derived.WalkSmall
import Derived.Laws.Rows
import Derived.Test.YtfnicgihpelhhaaGreatPd09
namespace Go.Proofs.YtfnicgihpelhhaaGreat
open Go.RowKit


end Go.Proofs.YtfnicgihpelhhaaGreat
