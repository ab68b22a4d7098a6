/- hollow and All of package fill: all blocks are filled, by their contracts. Conditions: those typed. -/
import Derived.Test.YtfoodaobiknihaaDoorFlSeg
namespace Go.Proofs.YtfoodaobiknihaaDoor
set_option maxRecDepth 50000
open Go.RowKit Bb Bn
end Go.Proofs.YtfoodaobiknihaaDoor
