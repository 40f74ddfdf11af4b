/- slices.Equal lies in Ei; this text binds the two families. -/
import Derived.Test.YtgnakccbkglfpaaBg
import Derived.Test.YtgnakccbkglfpaaEi
namespace Go.Proofs.Ytgnakccbkglfpaa
end Go.Proofs.Ytgnakccbkglfpaa
