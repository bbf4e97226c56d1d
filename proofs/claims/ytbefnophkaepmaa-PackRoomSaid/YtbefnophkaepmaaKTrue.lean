/- What the program's two calls answer (chapter 13), of any slots, selector, demand, number: as the document has it. -/
import Derived.Test.YtbefnophkaepmaaKRoom
namespace Go.Proofs.Ytbefnophkaepmaa.Pack
open Go.RowKit Go.Proofs.Ytbefnophkaepmaa.Label Go.Proofs.Ytbefnophkaepmaa.Sel Go.Proofs.Ytbefnophkaepmaa.Vec Go.Proofs.Ytbefnophkaepmaa.Texts

theorem says : Says where
  room := fun v u ls ts d n w hv hu hf hd _ hn => room_any v u ls ts d n w hv hu hf hd hn
  fit := fun v u ls ts d n w hv hu hf hd hz _ => fit_any v u ls ts d n w hv hu hf hd hz
end Go.Proofs.Ytbefnophkaepmaa.Pack
