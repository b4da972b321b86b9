/- For all marks, any one mark, any place and any dots: Check, Cut, Join, Places and Seen of package marks tell what the document tells of them (every error, and what there is then). No condition. -/
import Derived.Test.YtcmoajlcmeimiaaDoorWm
import Derived.Test.YtcmoajlcmeimiaaDoorNu
namespace Go.Proofs.YtcmoajlcmeimiaaDoor

theorem marksTell_holds : Rows.MarksTellCardSaid := marksTell_of Nu.join_says
#print axioms marksTell_holds
end Go.Proofs.YtcmoajlcmeimiaaDoor
