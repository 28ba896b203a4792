/- path: slices.SortFunc laid. (A template.) -/
import Derived.Test.YteimbdbnipfmkaaPaSmall
import Derived.Shelf.SlSortCmp.Whole1
import Derived.Shelf.SlicesG.Clone
import Derived.Shelf.Lay
import Derived.Ground.SlsfProg
import Derived.Ground.SlgnProg
namespace Go.Proofs.Yteimbdbnipfmkaa.Pa
open Go.RowKit Go.Shelf
shelf_lay_g SlLaysF.n6 Slsf 6 at Try 51 as sortStr
shelf_lay_g SlLaysN.n42 Slgn 42 at Try 50 as cloneStr
end Go.Proofs.Yteimbdbnipfmkaa.Pa
