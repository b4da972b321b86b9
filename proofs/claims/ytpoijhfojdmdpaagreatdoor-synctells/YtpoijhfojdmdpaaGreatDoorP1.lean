import Derived.Test.YtpoijhfojdmdpaaGreatDoorJ1
/- More plain mathematics of places. No program is named here. -/
namespace Go.Proofs.YtpoijhfojdmdpaaGreatDoor
namespace Pm

end Pm
end Go.Proofs.YtpoijhfojdmdpaaGreatDoor
/- The search for the shortest stems, by lists. No program is named here. -/
namespace Go.Proofs.YtpoijhfojdmdpaaGreatDoor
namespace Pm

/- round by round, at most n of them: the first stems -/
/- where no text with one letter more is a stem, at most three of them may grow -/
/- all texts of one length, of letters -/
/- what is found: stems, all of one length from 1 on, of letters -/
end Pm
end Go.Proofs.YtpoijhfojdmdpaaGreatDoor
/- The answers of Room and Between, by lists. No program is named here. -/
namespace Go.Proofs.YtpoijhfojdmdpaaGreatDoor
namespace Pm

def pick (st : List (List UInt8)) : List UInt8 := st.getD ((st.length - 1) / 4) []
end Pm
end Go.Proofs.YtpoijhfojdmdpaaGreatDoor
/- What is true of the place between, by lists. No program is named here. -/
namespace Go.Proofs.YtpoijhfojdmdpaaGreatDoor
namespace Pm
open Op (bytesLess)

/- what stands where there is a place between -/
end Pm
end Go.Proofs.YtpoijhfojdmdpaaGreatDoor
/- The search finds all stems of the least length, in order. No program is named here. -/
namespace Go.Proofs.YtpoijhfojdmdpaaGreatDoor
namespace Pm
open Op (bytesLess)

/- what is inside has only beginnings that may grow -/
/- the search is: the first length at which there are stems -/
/- a stem of so many letters: what is found is no longer -/
end Pm
end Go.Proofs.YtpoijhfojdmdpaaGreatDoor
/- Behind a place, and ahead of it, there is room that is no longer than the place. No program is named here. -/
namespace Go.Proofs.YtpoijhfojdmdpaaGreatDoor
namespace Pm
open Op (bytesLess)

/- a place: a text, a letter that is not a, the author's letter -/
/- one step of a row: nothing is wrong but that there is no room; what is made is at most one longer -/
end Pm
end Go.Proofs.YtpoijhfojdmdpaaGreatDoor
