/- In one text, written by lotify.py: IxIds. -/
import Derived.Test.YtgdmcnoogacdaaaGreatDoorBlLotK
import Derived.Test.YtgdmcnoogacdaaaGreatDoorMtMath
/- Plain mathematics of layer 10: the ids of the sets that have a name with a value, gathered label by label; what a matcher finds, by the values of which it tells otherwise than of the empty one. No program in sight. -/
namespace Go.Proofs.YtgdmcnoogacdaaaGreatDoor
set_option linter.unusedVariables false
abbrev Ev:=Lbl × Nat
def evsAt(ss:List (List Lbl))(i k:Nat):List Ev:=((List.range i).flatMap fun j=>(ss.getD j []).map fun x=>(x,j))++((ss.getD i []).take k).map fun x=>(x,i)
def idsE(evs:List Ev)(p:Lbl):List Int:=(evs.filter fun e=>decide (e.1=p)).map fun e=>(e.2:Int)
theorem evs_step(ss:List (List Lbl))(i:Nat){k:Nat}(hk:k<(ss.getD i []).length):evsAt ss i (k+1)=evsAt ss i k++[((ss.getD i []).getD k lbl0,i)]:=by
 unfold evsAt;have e:(ss.getD i [])[k]=(ss.getD i []).getD k lbl0:=by rw [List.getD_eq_getElem?_getD (l:=ss.getD i []),List.getElem?_eq_getElem hk];rfl
 rw [List.take_succ_eq_append_getElem hk,List.map_append,<-List.append_assoc,e];rfl
theorem evs_row(ss:List (List Lbl))(i:Nat):evsAt ss i (ss.getD i []).length=evsAt ss (i+1) 0:=by
 unfold evsAt;rw [List.take_length,List.take_zero,List.map_nil,List.append_nil,List.range_succ,List.flatMap_append];simp
theorem idsE_app(a b:List Ev)(p:Lbl):idsE (a++b) p=idsE a p++idsE b p:=by
 unfold idsE;rw [List.filter_append,List.map_append]
theorem idsE_snoc(a:List Ev)(x:Lbl)(i:Nat)(p:Lbl):idsE (a++[(x,i)]) p=idsE a p++(if x=p then [(i:Int)] else []):=by
 rw [idsE_app]
 congr 1
 unfold idsE;rw [List.filter_cons,List.filter_nil]
 by_cases h:x=p<;>simp [h]
theorem idsE_pos(evs:List Ev)(p:Lbl):idsE evs p≠[]↔p∈evs.map (·.1):=by
 unfold idsE;rw [ne_eq,List.map_eq_nil_iff,List.filter_eq_nil_iff,List.mem_map];constructor
 ·intro h;refine Classical.byContradiction fun h2=>h fun e he h3=>h2 ⟨e,he,of_decide_eq_true h3⟩
 ·rintro ⟨e,he,rfl⟩ h;exact h e he (by simp)
theorem idsE_len(evs:List Ev)(p:Lbl):(idsE evs p).length<=evs.length:=by
 unfold idsE;rw [List.length_map];exact List.length_filter_le _ _
theorem evs_mem(ss:List (List Lbl))(p:Lbl):p∈(evsAt ss ss.length 0).map (·.1)↔∃l∈ss,p∈l:=by
 unfold evsAt;rw [List.take_zero,List.map_nil,List.append_nil,List.mem_map];simp only [List.mem_flatMap,List.mem_range,List.mem_map];constructor
 ·rintro ⟨e,⟨j,hj,x,hx,rfl⟩,rfl⟩;refine ⟨ss.getD j [],?_,hx⟩;rw [List.getD_eq_getElem?_getD,List.getElem?_eq_getElem hj];exact List.getElem_mem hj
 ·rintro ⟨l,hl,hp⟩;obtain ⟨j,hj,e⟩:=List.getElem_of_mem hl;refine ⟨(p,j),⟨j,hj,p,?_,rfl⟩,rfl⟩;rw [List.getD_eq_getElem?_getD,List.getElem?_eq_getElem hj,e];exact hp
theorem ss_at{ss:List (List Lbl)}{i:Nat}(h:i<ss.length):ss.getD i []∈ss:=by
 rw [List.getD_eq_getElem?_getD,List.getElem?_eq_getElem h];exact List.getElem_mem h
def pickT(x:Lbl):List ByteArray:=[x.1,x.2]
theorem pick_texts(ss:List (List Lbl))(s:ByteArray):(∃p,(∃l∈ss,p∈l)/\s∈pickT p)↔s∈textsOf ss:=by
 unfold textsOf namesOf pickT;simp only [List.mem_append,List.mem_flatMap,List.mem_map,List.mem_cons,List.not_mem_nil,or_false];constructor
 ·rintro ⟨p,⟨l,hl,hp⟩,rfl|rfl⟩
  ·exact .inl ⟨l,hl,p,hp,rfl⟩
  ·exact .inr ⟨l,hl,p,hp,rfl⟩
 ·rintro (⟨l,hl,p,hp,rfl⟩|⟨l,hl,p,hp,rfl⟩)
  ·exact ⟨p,⟨l,hl,hp⟩,.inl rfl⟩
  ·exact ⟨p,⟨l,hl,hp⟩,.inr rfl⟩
end Go.Proofs.YtgdmcnoogacdaaaGreatDoor
