/- What is proved: OpTells: for every op, every text, every list of ops and every text once more the law answers true: what is wrong with an op, its bytes, what bytes are an op, many together, are as the reference says. No condition. -/
import Derived.Test.YtcmoajlcmeimiaaDoorOy
import Derived.Test.YtcmoajlcmeimiaaDoorVn
namespace Go.Proofs.YtcmoajlcmeimiaaDoor

theorem opTells_holds : Rows.OpTellsCardSaid := opTells_of Vc.check_says Ve.encode_says Vl.decode_says Vf.pack_says Vn.unpack_says
#print axioms opTells_holds
end Go.Proofs.YtcmoajlcmeimiaaDoor
