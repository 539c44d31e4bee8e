/-
  How the flat structs of package api lie in memory: cells, boxes, slices. (Written by tools/gen_api.py.)
-/
import Derived.Test.YtjegkddpaampmaaRows
import Derived.Test.YtjegkddpaampmaaLay
import Derived.Test.YtjegkddpaampmaaApiPlain
import Derived.WalkKit
import Derived.WalkSpells
import Derived.WalkLawsBesides
import Derived.Laws.StructEq
import Derived.LoopTactic
namespace Go.Proofs.Ytjegkddpaampmaa.ApiMem
open Go.RowKit Go.Proofs.Ytjegkddpaampmaa.ApiPlain Go.Proofs.Ytjegkddpaampmaa.Mem
end Go.Proofs.Ytjegkddpaampmaa.ApiMem
