/- What is proved: OpBack: for every op, every list of ops, every text, every index and every byte the law answers true: ops are read as they were, one or many; what is read is written so; with one byte changed it is none, or another one. No condition. -/
import Derived.Test.YtcmoajlcmeimiaaOq
import Derived.Test.YtcmoajlcmeimiaaVn
namespace Go.Proofs.Ytcmoajlcmeimiaa

theorem opBack_holds : Rows.OpBackSaid := opBack_of Ve.encode_says Vl.decode_says Vf.pack_says Vn.unpack_says
#print axioms opBack_holds
end Go.Proofs.Ytcmoajlcmeimiaa
