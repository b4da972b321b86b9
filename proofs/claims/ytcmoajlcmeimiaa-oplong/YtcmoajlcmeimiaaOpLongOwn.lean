/- What is proved: for every op, the law OpLong answers true: an op that is right has as many bytes as the document says, by what it does and its place. No condition. -/
import Derived.Test.YtcmoajlcmeimiaaOt
import Derived.Test.YtcmoajlcmeimiaaVe
namespace Go.Proofs.Ytcmoajlcmeimiaa

theorem opLong_holds : Rows.OpLongSaid := opLong_of Ve.encode_says
#print axioms opLong_holds
end Go.Proofs.Ytcmoajlcmeimiaa
