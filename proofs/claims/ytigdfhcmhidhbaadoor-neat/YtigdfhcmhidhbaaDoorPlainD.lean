/- Plain functions: tokens read as lists. No program here. -/
import Derived.Test.YtigdfhcmhidhbaaDoorPlainC
namespace Go.Proofs.YtigdfhcmhidhbaaDoor
open Go.RowKit
namespace Sc
/-- leadsElement: may the prefix p stand ahead of t? -/
def leadsB (p t : Tok) : Bool := if t.kind = 3 then false else if t.kind = 5 then false else if t.kind = 1 then (!(p.text == [44]) || !(t.text.headD 0 == 64)) else true
def leads (p : Tok) : List Tok → Bool
  | [] => false
  | t :: _ => leadsB p t
/-- checkLists: from a token on, with the places of the lists that are open. -/
def listsGo : List Tok → List Int → Int × Int
  | [], st => match st.getLast? with | some p => (5, p) | none => (0, 0)
  | t :: ts, st =>
    if t.kind = 2 then (if st.length = 32 then (8, t.place) else listsGo ts (st ++ [t.place]))
    else if t.kind = 3 then (if st.length = 0 then (6, t.place) else listsGo ts st.dropLast)
    else if t.kind = 4 then (if leads t ts then listsGo ts st else (7, t.place))
    else listsGo ts st
def listsRes (ts : List Tok) : Int × Int := listsGo ts []
end Sc
end Go.Proofs.YtigdfhcmhidhbaaDoor
