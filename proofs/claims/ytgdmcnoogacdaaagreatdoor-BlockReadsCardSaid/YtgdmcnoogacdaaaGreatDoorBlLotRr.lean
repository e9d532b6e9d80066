/- In one text, written by lotify.py: IxChkT. -/
import Derived.Test.YtgdmcnoogacdaaaGreatDoorBlLotL
import Derived.Test.YtgdmcnoogacdaaaGreatDoorBlLotN
/- The document's own check of sets, its premises paid. -/
namespace Go.Proofs.YtgdmcnoogacdaaaGreatDoor
open Go.RowKit Go.Maps
set_option linter.unusedVariables false
theorem sets_ll{ss:List (List Lbl)}(hL:∀l∈ss,LFits l/\l.length*32<=140737488351232):∀i,(ss.getD i []).length<=100000000000000:=by
 intro i;rcases Nat.lt_or_ge i ss.length with h|h
 ·have:=(hL _ (ss_at h)).2;omega
 ·rw [List.getD_eq_getElem?_getD,List.getElem?_eq_none h];exact Nat.zero_le _
theorem sets_ff{ss:List (List Lbl)}(hL:∀l∈ss,LFits l/\l.length*32<=140737488351232):∀i,LFits (ss.getD i []):=by
 intro i;rcases Nat.lt_or_ge i ss.length with h|h
 ·exact (hL _ (ss_at h)).1
 ·rw [List.getD_eq_getElem?_getD,List.getElem?_eq_none h];intro j hj;exact absurd hj (Nat.not_lt_zero j)
theorem ixcheck_told(V:Option Addr)(ss:List (List Lbl))(c:Nat)(w:World)(hV:Sets w V ss)(hl:ss.length<=100000000000000)(hL:∀l∈ss,LFits l/\l.length*32<=140737488351232):
 Calls Tryz.prog 37 #[.slice V ss.length c] w fun e w'=>e=.returned (.int .i64 (ixChk ss))/\Below w.heap.size w w' :=
 ixcheck_ref V ss c w hV hl
  (fun x _ i _ A c' hA=>lbchk_ref A _ c' x hA (sets_ll hL i) (sets_ff hL i))
  (fun x _ i _ A c' B d' hA hB=>compare_ref A B _ _ c' d' x hA hB (sets_ll hL i) (sets_ll hL (i+1)))
end Go.Proofs.YtgdmcnoogacdaaaGreatDoor
