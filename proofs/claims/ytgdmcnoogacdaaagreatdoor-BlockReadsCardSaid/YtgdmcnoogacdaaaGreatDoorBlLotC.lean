/- In one text, written by lotify.py: RowsG, Open, LbMath, LbRows, PoInts. -/
import Derived.Test.YtgdmcnoogacdaaaGreatDoorBlLotA
import Derived.Test.YtgdmcnoogacdaaaGreatDoorRows
import Derived.Lib.SmallJoins
import Derived.BigQuiet
import Derived.Deep.DeepCutAuto
import Derived.Deep.RegionLaw
import Derived.Deep.RegionHeld3
namespace Go.Proofs.YtgdmcnoogacdaaaGreatDoor
open Go.RowKit Go.Maps
set_option linter.unusedVariables false
theorem flat_get{α:Type}(f:α->List Value)(k:Nat)(hf:∀x,(f x).length=k):∀(l:List α) (i:Nat) (x:α) (j:Nat),l[i]?=some x->j<k->(l.flatMap f)[i*k+j]?=(f x)[j]?:=by
 intro l
 induction l with
 | nil=>intro i x j h;simp at h
 | cons y r ih =>
   intro i x j h hj;rw [List.flatMap_cons]
   cases i with
   | zero =>
     simp only [List.getElem?_cons_zero,Option.some.injEq] at h;subst h;rw [Nat.zero_mul,Nat.zero_add,List.getElem?_append_left (by rw [hf];exact hj)]
   | succ i =>
     simp only [List.getElem?_cons_succ] at h;have e:(i+1)*k+j=(f y).length+(i*k+j):=by rw [hf,Nat.succ_mul];omega
     rw [e,List.getElem?_append_right (Nat.le_add_right _ _),Nat.add_sub_cancel_left];exact ih i x j h hj
theorem flat_len{α:Type}(f:α->List Value)(k:Nat)(hf:∀x,(f x).length=k):∀(l:List α),(l.flatMap f).length=l.length*k:=by
 intro l
 induction l with
 | nil=>simp
 | cons y r ih=>rw [List.flatMap_cons,List.length_append,ih,hf,List.length_cons,Nat.succ_mul];omega
theorem getD_some{α:Type}(l:List α)(d:α){i:Nat}(h:i<l.length):l[i]?=some (l.getD i d):=by simp [List.getD,List.getElem?_eq_getElem h]
def At(w:World)(A:Option Addr)(xs:List Value):Prop :=
 xs=[]\/∃b o,A=some ⟨b,o,none⟩/\b<w.heap.size/\∀j u,xs[j]?=some u->w.cell? ⟨b,o+j,none⟩=some u
theorem At.keep{w w':World}{A:Option Addr}{xs:List Value}(h:At w A xs)(hs:w.heap.size<=w'.heap.size)(hk:∀p:Addr,p.block<w.heap.size->w'.cell? p=w.cell? p):At w' A xs:=by
 rcases h with rfl|⟨b,o,rfl,hb,hc⟩
 ·exact .inl rfl
 ·exact .inr ⟨b,o,rfl,by omega,fun i u hi=>(hk _ hb).trans (hc i u hi)⟩
theorem At.below{w w':World}{A:Option Addr}{xs:List Value}(h:At w A xs)(hb:Below w.heap.size w w'):At w' A xs:=h.keep hb.size fun _ hp=>hb.cell hp
theorem At.alloc{w:World}{A:Option Addr}{xs:List Value}(h:At w A xs)(o:Obj):At (w.alloc o) A xs:=h.below (below_one w o)
theorem At.row{w:World}{g:Nat}{t:TypeId}{cs:Array Value}(h:Row w g t cs):At w (some ⟨g,0,none⟩) cs.toList :=
 .inr ⟨g,0,rfl,h.lt,fun j u hj=>by rw [Nat.zero_add,h.cell j,<-Array.getElem?_toList];exact hj⟩
theorem rows_move{w w':World}{base e size n:Nat}{v:Value}{xs:List Value}(h:w.ownsRow base e size v n xs)(hb:∀k,v.ownBlock=some k->w'.heap[k]?=w.heap[k]?):w'.ownsRow base e size v n xs:=by
 refine ⟨h.1,?_⟩;rcases h.2 with hn|⟨g,cap,cur,rfl,hg,hh,rest⟩
 ·exact .inl hn
 ·exact .inr ⟨g,cap,cur,rfl,hg,(hb g rfl).trans hh,rest⟩
theorem rows_below{w w':World}{base e k n:Nat}{v:Value}{xs:List Value}(h:w.ownsRow base e k v n xs)(hb:Below w.heap.size w w'):w'.ownsRow base e k v n xs:=rows_move h fun q hq=>hb.block q (World.ownsRow.lt h q hq).2
theorem rows_lower{w:World}{base base' e k n:Nat}{v:Value}{xs:List Value}(h:w.ownsRow base e k v n xs)(hb:base'<=base):w.ownsRow base' e k v n xs:=by
 refine ⟨h.1,?_⟩;rcases h.2 with h2|⟨g,cap,cur,hv,hg,r⟩
 ·exact .inl h2
 ·exact .inr ⟨g,cap,cur,hv,Nat.le_trans hb hg,r⟩
theorem rows_slice{w:World}{base e k n:Nat}{v:Value}{xs:List Value}(h:w.ownsRow base e k v n xs):∃P c,v=.slice P n c/\n<=c/\At w P xs/\∀ad,P=some ad->base<=ad.block:=by
 rcases h.2 with ⟨rfl,h0⟩|⟨g,cap,cur,rfl,hg,hh,hnc,hcm,hcs,htk⟩
 ·have h1:=h.1;rw [h0,Nat.zero_mul] at h1;exact ⟨none,0,by rw [h0],by omega,.inl (List.eq_nil_of_length_eq_zero h1),fun ad e=>by cases e⟩
 ·refine ⟨some ⟨g,0,none⟩,cap,rfl,hnc,.inr ⟨g,0,rfl,(Row.lt (show Row w g _ cur from hh)),fun j u hj=>?_⟩,fun ad e=>by injection e with e;subst e;exact hg⟩;rw [Nat.zero_add,(show Row w g _ cur from hh).cell j];have hlt:j<xs.length:=by
   rcases Nat.lt_or_ge j xs.length with h2|h2
   ·exact h2
   ·rw [List.getElem?_eq_none h2] at hj
    cases hj
  have e2:cur.toList[j]?=xs[j]?:=by
   rw [<-htk,List.getElem?_take,if_pos (by have:=h.1;omega)]
  rw [<-Array.getElem?_toList,e2,hj]
theorem rows_ne{w:World}{g base e n size:Nat}{t:TypeId}{cs:Array Value}{v:Value}{xs:List Value}(hg:Row w g t cs)(hv:w.ownsRow base e size v n xs)(ht:t≠e):v.ownBlock≠some g:=by
 intro h;rcases hv.2 with ⟨rfl,_⟩|⟨g',cap,cur,rfl,_,hh,_⟩
 ·cases h
 ·simp only [Value.ownBlock] at h;injection h with h;subst h;unfold Row at hg;rw [hg] at hh;injection hh with hh;injection hh with _ hh _;exact ht hh
theorem rows_setFar{w:World}{g base e n size:Nat}{t:TypeId}{cs:Array Value}{v:Value}{xs:List Value}(hv:w.ownsRow base e size v n xs)(hg:Row w g t cs)(ht:t≠e)(i:Nat)(u:Value):(w.setCell ⟨g,i,none⟩ u).ownsRow base e size v n xs :=
 rows_move hv fun k hk=>Below.heap_setCell w ⟨g,i,none⟩ u k (fun e=>rows_ne hg hv ht (by rw [hk,e]))
section
variable {P:Program}
theorem run_app_none(w:World)(base t ty e size n:Nat)(i:TypeInfo)(ht:P.underlying t=some (.slice e))(hi:P.info? e=some i)(v:Value)(xs:List Value)(hown:w.ownsRow base e size v n xs)(c:Nat):
 (Builtin.append_ #[t,t] ty #[v,.slice none 0 c]).run P w=.ok v w:=by
 rcases hown.2 with ⟨rfl,_⟩|⟨g,cap,cur,rfl,_,_,hnc,_⟩
 ·simp [Builtin.append_,run_underlying ht,sizeOf,typeInfo,hi,Builtin.lenOf,Builtin.firstCells]
 ·simp [Builtin.append_,run_underlying ht,sizeOf,typeInfo,hi,Builtin.lenOf,Builtin.firstCells,hnc,storeCells]
theorem run_app_at{w:World}(t ty:TypeId)(base:Nat)(e:TypeId)(i:TypeInfo)(z:Value)(size bytes:Nat)(ht:P.underlying t=some (.slice e))(hi:P.info? e=some i)(hz:i.zero=some z)
 (hsize:i.size=size)(hby:i.bytes=bytes)(hzs:z.cells.size=size)(hsz:0<size)
 (v:Value)(n:Nat)(xs:List Value)(hown:w.ownsRow base e size v n xs)
 (A:Option Addr)(m c:Nat)(news:List Value)(hl:news.length=m*size)(hA:At w A news)(h1:∀u∈news,u.oneCell'=true)
 (h63:n+m<=maxLen)(hbytes:(n+m)*bytes<=140737488355328)(hbase:base<=w.heap.size):
 ∃v' w',(Builtin.append_ #[t,t] ty #[v,.slice A m c]).run P w=.ok v' w'/\w'.ownsRow base e size v' (n+m) (xs++news)/\Below base w w'/\w.grownBy w' v.ownBlock:=by
 have below:∀w',w.grownBy w' v.ownBlock->Below base w w':=fun w' h2=>Below.grown (Below.refl base w) h2 hbase (fun k hk=>(World.ownsRow.lt hown _ hk).1)
 have some_:∀ad:Addr,A=some ad->(∀j u,news[j]?=some u->w.cell? (ad.add j)=some u)->∃v' w',(Builtin.append_ #[t,t] ty #[v,.slice A m c]).run P w=.ok v' w'/\w'.ownsRow base e size v' (n+m) (xs++news)/\Below base w w'/\w.grownBy w' v.ownBlock:=by
  intro ad hAd hc;subst hAd;obtain ⟨v',w',hr,h2,h3,_,_⟩:=run_append_own_at (P:=P) w base t ty e i z size bytes ht hi hz hsize hby hzs hsz v n xs hown ad m c news hl hc h1 h63 hbytes hbase;exact ⟨v',w',hr,h2,below w' h3,h3⟩
 rcases hA with rfl|⟨b,off,rfl,hb,hc⟩
 ·have hm:m=0:=by
   rcases Nat.eq_zero_or_pos m with h0|h0
   ·exact h0
   ·have:=Nat.mul_pos h0 hsz;simp at hl;omega
  subst hm
  cases A with
  | some ad=>exact some_ ad rfl (fun j u hj=>by simp at hj)
  | none=>exact ⟨v,w,run_app_none (P:=P) w base t ty e size n i ht hi v xs hown c,by rw [List.append_nil,Nat.add_zero];exact hown,Below.refl _ _,World.grownBy.refl w _⟩
 ·exact some_ _ rfl (fun j u hj=>by rw [add_at];exact hc j u hj)
theorem wp_app_at{w:World}{o:Oper}{a:Act}{K:Act->World->Prop}{Q:Exit->Act->World->Prop}(s y:Operand)(t:TypeId)
 (ho:o.op=.call { callee:=.builtin .append,args:=#[s,y],argTypes:=#[t,t] })
 (base:Nat)(e:TypeId)(i:TypeInfo)(z:Value)(size bytes:Nat)(ht:P.underlying t=some (.slice e))(hi:P.info? e=some i)(hz:i.zero=some z)
 (hsize:i.size=size)(hby:i.bytes=bytes)(hzs:z.cells.size=size)(hsz:0<size)
 (v:Value)(n:Nat)(xs:List Value)(hs:a.eval s=v)(hown:w.ownsRow base e size v n xs)
 (A:Option Addr)(m c:Nat)(news:List Value)(hy:a.eval y=.slice A m c)(hl:news.length=m*size)(hA:At w A news)(h1:∀u∈news,u.oneCell'=true)
 (h63:n+m<=maxLen)(hbytes:(n+m)*bytes<=140737488355328)(hbase:base<=w.heap.size)
 (h:∀v' w',w'.ownsRow base e size v' (n+m) (xs++news)->Below base w w'->w.grownBy w' v.ownBlock->K (a.put o.dst v') w'):o.wp P a w K Q:=by
 obtain ⟨v',w',hr,h2,h3,h4⟩:=run_app_at (P:=P) t o.type base e i z size bytes ht hi hz hsize hby hzs hsz v n xs hown A m c news hl hA h1 h63 hbytes hbase;unfold Oper.wp execOp;simp only [ho,resolve,invoke,builtin,Sem.run_bind,Sem.run_pure,Result.andThen_ok,List.map_toArray,List.map_cons,List.map_nil,hs,hy,hr];exact h v' w' h2 h3 h4
theorem wpList_app_at{w:World}{ops:Array Oper}{rest:List Oper}{o:Oper}{a:Act}{Q:Exit->Act->World->Prop}(hgd:o.guard=none)(s y:Operand)(t:TypeId)
 (ho:o.op=.call { callee:=.builtin .append,args:=#[s,y],argTypes:=#[t,t] })
 (base:Nat)(e:TypeId)(i:TypeInfo)(z:Value)(size bytes:Nat)(ht:P.underlying t=some (.slice e))(hi:P.info? e=some i)(hz:i.zero=some z)
 (hsize:i.size=size)(hby:i.bytes=bytes)(hzs:z.cells.size=size)(hsz:0<size)
 (v:Value)(n:Nat)(xs:List Value)(hs:a.eval s=v)(hown:w.ownsRow base e size v n xs)
 (A:Option Addr)(m c:Nat)(news:List Value)(hy:a.eval y=.slice A m c)(hl:news.length=m*size)(hA:At w A news)(h1:∀u∈news,u.oneCell'=true)
 (h63:n+m<=maxLen)(hbytes:(n+m)*bytes<=140737488355328)(hbase:base<=w.heap.size)
 (h:∀v' w',w'.ownsRow base e size v' (n+m) (xs++news)->Below base w w'->w.grownBy w' v.ownBlock->wpList P ops Q rest (a.put o.dst v') w'):
 wpList P ops Q (o::rest) a w :=
 wpList_plain hgd fun _ hK=>wp_app_at s y t ho base e i z size bytes ht hi hz hsize hby hzs hsz v n xs hs hown A m c news hy hl hA h1 h63 hbytes hbase fun v' w' h2 h3 h4=>hK _ _ (h v' w' h2 h3 h4)
theorem step_app_at{w:World}{ops:Array Oper}{o:Oper}{a:Act}{K:Act->World->Prop}{Q:Exit->Act->World->Prop}{E:Prop}(hgd:o.guard=none)(s y:Operand)(t:TypeId)
 (ho:o.op=.call { callee:=.builtin .append,args:=#[s,y],argTypes:=#[t,t] })
 (base:Nat)(e:TypeId)(i:TypeInfo)(z:Value)(size bytes:Nat)(ht:P.underlying t=some (.slice e))(hi:P.info? e=some i)(hz:i.zero=some z)
 (hsize:i.size=size)(hby:i.bytes=bytes)(hzs:z.cells.size=size)(hsz:0<size)
 (v:Value)(n:Nat)(xs:List Value)(hs:a.eval s=v)(hown:w.ownsRow base e size v n xs)
 (A:Option Addr)(m c:Nat)(news:List Value)(hy:a.eval y=.slice A m c)(hl:news.length=m*size)(hA:At w A news)(h1:∀u∈news,u.oneCell'=true)
 (h63:n+m<=maxLen)(hbytes:(n+m)*bytes<=140737488355328)(hbase:base<=w.heap.size)
 (h:∀v' w',w'.ownsRow base e size v' (n+m) (xs++news)->Below base w w'->w.grownBy w' v.ownBlock->K (a.put o.dst v') w'):
 if Region.wanted o (yielded ops a.tmps)=true then Oper.wp P o a w K Q else E:=by
 have hw:Region.wanted o (yielded ops a.tmps)=true:=by simp [Region.wanted,hgd]
 rw [if_pos hw];exact wp_app_at s y t ho base e i z size bytes ht hi hz hsize hby hzs hsz v n xs hs hown A m c news hy hl hA h1 h63 hbytes hbase h
end
end Go.Proofs.YtgdmcnoogacdaaaGreatDoor

namespace Go.Proofs.YtgdmcnoogacdaaaGreatDoor
open Go.ChangeShapes Go.WideShapes Go.ChangeAt Go.RowKit Go.Joins
set_option linter.unusedVariables false
theorem ownK:ownKnob Tryz.prog.godebug=none:=by kernel_rfl
theorem laidOutK:laidOutB Tryz.prog=true:=by kernel_rfl
theorem byte_wf{x:Int}(h:(Lit.int .u8 x).wf=true):0<=x/\x<256:=by
 have:=bounds_u8 h;omega
theorem cell_lt{w:World}{b o:Nat}{v:Value}(h:w.cell? ⟨b,o,none⟩=some v):b<w.heap.size:=by
 rcases Nat.lt_or_ge b w.heap.size with hlt|hge
 ·exact hlt
 ·simp [World.cell?,Array.getElem?_eq_none hge] at h
section
variable {H:Type} {enc:TypeId × Value->H} {W:World} {base:Nat} {sp:Nat->Bool} {held:Bool}
theorem open_u8s{fuel:Nat}{v:Value}{x:DataW H × List MemPlace}(hf:DataW.trod enc Tryz.prog W base sp held fuel 24 [v]=some x):
 ∃(A:Option Addr) (l:List UInt8) (c:Nat),v=.slice A l.length c/\Bys W A l/\l.length<=c/\c<=maxLen /\
  ((x.1=.nil/\l=[])\/∃elems spare,x.1=.slice elems spare/\elems.length=l.length):=by
 rcases open_ints Tryz.underlying24 Tryz.underlying5 (by kernel_rfl) hf with ⟨hcs,hx⟩|⟨a,len,cap,zs,hcs,_,hl,hm,hz,hx,hcell,hwz⟩
 ·simp only [List.cons.injEq,and_true] at hcs;subst hcs;exact ⟨none,[],0,rfl,Bys.empty _ _,Nat.le_refl _,by simp [maxLen],.inl ⟨by rw [hx],rfl⟩⟩
 ·simp only [List.cons.injEq,and_true] at hcs;subst hcs;have hlz:len<=zs.length:=by rw [hz];split<;>omega
  have hll:((zs.take len).map fun z=>UInt8.ofNat z.toNat).length=len:=by simp;omega
  refine ⟨some a,(zs.take len).map fun z=>UInt8.ofNat z.toNat,cap,by rw [hll],?_,by rw [hll];exact hl,hm,.inr ⟨_,_,by rw [hx],by simp [lits]⟩⟩;rcases Nat.eq_zero_or_pos len with h0|h0
  ·exact .inl (List.eq_nil_of_length_eq_zero (by rw [hll];exact h0))
  ·obtain ⟨b,off,spot⟩:=a;have hc:=hcell 0 (by omega);have hspot:spot=none:=by simpa [Addr.add] using World.cell?_spot hc
   subst hspot;have hc0:W.cell? ⟨b,off,none⟩=some (.int .u8 (zs.getD 0 0)):=by simpa [Addr.add] using hc
   refine .inr ⟨b,off,rfl,cell_lt hc0,fun i hi=>?_⟩;rw [hll] at hi;have hci:=hcell i (by omega);rw [add_at] at hci;rw [hci];have hi2:i<zs.length:=by omega
   have hw:=byte_wf (hwz (zs.getD i 0) (by rw [getD_in zs 0 hi2];exact List.getElem_mem hi2))
   congr 2
   rw [getD_in (List.map (fun z:Int=>UInt8.ofNat z.toNat) (zs.take len)) 0 (by rw [hll];exact hi)];simp only [List.getElem_map,List.getElem_take,UInt8.toNat_ofNat'];rw [getD_in zs 0 hi2] at hw ⊢;omega
theorem reach_u8s{ts:List TypeId}{ds:List (DataW H)}(hsz:(DataW.weightsEach Tryz.prog ts ds).all (·<=reachBytes)=true){j:Nat}{d:DataW H}{l:List UInt8}(ht:ts[j]?=some 24)(hd:ds[j]?=some d)
 (h:(d=.nil/\l=[])\/∃elems spare,d=.slice elems spare/\elems.length=l.length):l.length<=140737488351232:=by
 rcases h with ⟨_,rfl⟩|⟨el,spr,rfl,hel⟩
 ·simp
 ·have:=sized_slice hsz ht hd Tryz.underlying24;have hb:Tryz.prog.bytesOf 5=1:=by kernel_rfl
  rw [hb] at this;simp [reachBytes] at this;omega
end
end Go.Proofs.YtgdmcnoogacdaaaGreatDoor

namespace Go.Proofs.YtgdmcnoogacdaaaGreatDoor
open Go.RowKit
set_option linter.unusedVariables false
abbrev Lbl:=ByteArray × ByteArray
def lbl0:Lbl:=(⟨#[]⟩,⟨#[]⟩)
def nmOf(l:List Lbl)(i:Nat):ByteArray:=(l.getD i lbl0).1
def vlOf(l:List Lbl)(i:Nat):ByteArray:=(l.getD i lbl0).2
def letterB(c:UInt8):Bool:=(decide (97<=c.toNat)&&decide (c.toNat<=122))||((decide (65<=c.toNat)&&decide (c.toNat<=90))||decide (c.toNat=95))
def digitB(c:UInt8):Bool:=decide (48<=c.toNat)&&decide (c.toNat<=57)
def okB(c:UInt8)(k:Nat):Bool:=letterB c||(decide (0<k)&&digitB c)
def okF(s:List UInt8):Nat->Nat->Bool
 | 0,_=>true
 | n+1,k=>if okB (s.getD k 0) k=true then okF s n (k+1) else false
def nameB(s:List UInt8):Bool:=(decide (0<s.length)&&decide (s.length<=32))&&okF s s.length 0
def leB(a b:ByteArray):Bool:=Op.bytesLess a.toList b.toList||a.toList==b.toList
def lbErrAt(l:List Lbl)(k:Nat):Int :=
 if nameB (strL (nmOf l k))=false then 8
 else if (vlOf l k).size=0 then 2
 else if 64<(vlOf l k).size then 3
 else if 0<k/\leB (nmOf l k) (nmOf l (k-1))=true then 13
 else 0
def lbErrF(l:List Lbl):Nat->Nat->Int
 | 0,_=>0
 | n+1,k=>if lbErrAt l k=0 then lbErrF l n (k+1) else lbErrAt l k
def lbChk(l:List Lbl):Int:=if 8<l.length then 3 else lbErrF l l.length 0
theorem lbErrF_ok{l:List Lbl}{n k:Nat}(h:lbErrF l n k=0):∀i,i<n->lbErrAt l (k+i)=0:=by
 induction n generalizing k with
 | zero=>intro i hi;omega
 | succ n ih =>
   intro i hi;rw [lbErrF] at h
   by_cases h0:lbErrAt l k=0
   ·rw [if_pos h0] at h
    cases i with
    | zero=>exact h0
    | succ i =>
      have:=ih h i (by omega);rwa [show k+(i+1)=k+1+i from by omega]
   ·rw [if_neg h0] at h;exact absurd h h0
theorem lbErrF_of{l:List Lbl}{n k:Nat}(h:∀i,i<n->lbErrAt l (k+i)=0):lbErrF l n k=0:=by
 induction n generalizing k with
 | zero=>rfl
 | succ n ih =>
   rw [lbErrF,if_pos (show lbErrAt l k=0 from h 0 (by omega))];exact ih fun i hi=>by have:=h (i+1) (by omega);rwa [show k+(i+1)=k+1+i from by omega] at this
theorem lbChk_ok{l:List Lbl}:lbChk l=0↔l.length<=8/\∀i,i<l.length->lbErrAt l i=0:=by
 unfold lbChk
 by_cases h8:8<l.length
 ·rw [if_pos h8];constructor
  ·intro h;exact absurd h (by omega)
  ·rintro ⟨h,_⟩;omega
 ·rw [if_neg h8];constructor
  ·intro h;exact ⟨by omega,fun i hi=>by have:=lbErrF_ok h i hi;rwa [Nat.zero_add] at this⟩
  ·rintro ⟨_,h⟩;exact lbErrF_of fun i hi=>by rw [Nat.zero_add];exact h i hi
theorem lbErrAt_zero{l:List Lbl}{k:Nat}:lbErrAt l k=0↔nameB (strL (nmOf l k))=true/\0<(vlOf l k).size/\(vlOf l k).size<=64/\(0<k->leB (nmOf l k) (nmOf l (k-1))=false):=by
 unfold lbErrAt
 cases nameB (strL (nmOf l k))
 ·simp
 ·rw [if_neg (by simp)]
  by_cases h1:(vlOf l k).size=0
  ·rw [if_pos h1];constructor
   ·intro h;exact absurd h (by omega)
   ·rintro ⟨_,h,_⟩;omega
  ·rw [if_neg h1]
   by_cases h2:64<(vlOf l k).size
   ·rw [if_pos h2];constructor
    ·intro h;exact absurd h (by omega)
    ·rintro ⟨_,_,h,_⟩;omega
   ·rw [if_neg h2]
    by_cases h3:0<k/\leB (nmOf l k) (nmOf l (k-1))=true
    ·rw [if_pos h3];constructor
     ·intro h;exact absurd h (by omega)
     ·rintro ⟨_,_,_,h⟩;rw [h h3.1] at h3;simp at h3
    ·rw [if_neg h3];refine ⟨fun _=>⟨rfl,by omega,by omega,fun hk=>?_⟩,fun _=>rfl⟩
     cases hl:leB (nmOf l k) (nmOf l (k-1))
     ·rfl
     ·exact absurd ⟨hk,hl⟩ h3
theorem nameB_size{s:ByteArray}(h:nameB (strL s)=true):0<s.size/\s.size<=32:=by
 unfold nameB at h;rw [strL_length] at h;simp only [Bool.and_eq_true,decide_eq_true_eq] at h;exact h.1
end Go.Proofs.YtgdmcnoogacdaaaGreatDoor

namespace Go.Proofs.YtgdmcnoogacdaaaGreatDoor
open Go.ChangeShapes Go.WideShapes Go.ChangeAt Go.RowKit Go.Joins Go.Maps
set_option linter.unusedVariables false
def lblE(s:Lbl):List Value:=[.string s.1,.string s.2]
theorem lblE_len(s:Lbl):(lblE s).length=2:=rfl
def Lbls(w:World)(A:Option Addr)(l:List Lbl):Prop:=At w A (l.flatMap lblE)
theorem Lbls.below{w w':World}{A:Option Addr}{l:List Lbl}(h:Lbls w A l)(hb:Below w.heap.size w w'):Lbls w' A l:=At.below h hb
theorem Lbls.alloc{w:World}{A:Option Addr}{l:List Lbl}(h:Lbls w A l)(o:Obj):Lbls (w.alloc o) A l:=At.alloc h o
theorem Lbls.at_{w:World}{A:Option Addr}{l:List Lbl}(h:Lbls w A l){i:Nat}(hi:i<l.length):
 ∃b o,A=some ⟨b,o,none⟩/\b<w.heap.size/\w.cell? ⟨b,o+i*2,none⟩=some (.string (nmOf l i))/\w.cell? ⟨b,o+i*2+1,none⟩=some (.string (vlOf l i)):=by
 have hlen:=flat_len lblE 2 lblE_len l;rcases h with h|⟨b,o,rfl,hb,hc⟩
 ·rw [h] at hlen;simp at hlen;omega
 ·refine ⟨b,o,rfl,hb,?_,?_⟩
  ·have:=hc (i*2+0) _ (flat_get lblE 2 lblE_len l i _ 0 (getD_some l lbl0 hi) (by omega));exact this
  ·have:=hc (i*2+1) _ (flat_get lblE 2 lblE_len l i _ 1 (getD_some l lbl0 hi) (by omega));exact this
theorem Lbls.all{w:World}{A:Option Addr}{l:List Lbl}(h:Lbls w A l)(hl:0<l.length):
 ∃b o,A=some ⟨b,o,none⟩/\b<w.heap.size/\∀i,i<l.length->w.cell? ⟨b,o+i*2,none⟩=some (.string (nmOf l i))/\w.cell? ⟨b,o+i*2+1,none⟩=some (.string (vlOf l i)):=by
 obtain ⟨b,o,rfl,hb,_⟩:=h.at_ hl;refine ⟨b,o,rfl,hb,fun i hi=>?_⟩;obtain ⟨b',o',e,_,h1,h2⟩:=h.at_ hi;injection e with e;injection e with e1 e2 _;subst e1 e2;exact ⟨h1,h2⟩
def OwnL(w:World)(base:Nat)(v:Value)(l:List Lbl):Prop:=w.ownsRow base 118 2 v l.length (l.flatMap lblE)
section
variable {w w':World} {base:Nat} {v:Value} {l:List Lbl}
theorem ownl_nil(w:World)(base:Nat):OwnL w base (.slice none 0 0) []:=⟨rfl,.inl ⟨rfl,rfl⟩⟩
theorem ownl_empty{g:Nat}(h:Row w g 118 #[])(hb:base<=g):OwnL w base (.slice (some ⟨g,0,none⟩) 0 0) [] :=
 ⟨rfl,.inr ⟨g,0,#[],rfl,hb,h,Nat.le_refl _,by simp [maxLen],by simp,by simp⟩⟩
theorem ownl_below(h:OwnL w base v l)(hb:Below w.heap.size w w'):OwnL w' base v l:=rows_below h hb
theorem ownl_lower{base':Nat}(h:OwnL w base v l)(hb:base'<=base):OwnL w base' v l:=rows_lower h hb
theorem ownl_slice(h:OwnL w base v l):∃P c,v=.slice P l.length c/\l.length<=c/\Lbls w P l/\∀ad,P=some ad->base<=ad.block:=rows_slice h
end
theorem label_info:(Tryz.prog.info? 118).map (fun i=>(i.zero,i.size,i.bytes))=some (some (.agg #[.string ⟨#[]⟩,.string ⟨#[]⟩]),2,32):=by kernel_rfl
theorem lbl_one(l:List Lbl):∀u∈l.flatMap lblE,u.oneCell'=true:=by
 intro u hu;simp only [List.mem_flatMap,lblE,List.mem_cons,List.not_mem_nil,or_false] at hu;obtain ⟨x,_,rfl|rfl⟩:=hu<;>rfl
theorem app_lbls{w:World}{ops:Array Oper}{rest:List Oper}{o:Oper}{a:Act}{Q:Exit->Act->World->Prop}(hgd:o.guard=none)(s y:Operand)
 (ho:o.op=.call { callee:=.builtin .append,args:=#[s,y],argTypes:=#[56,56] })
 (base:Nat)(v:Value)(x:List Lbl)(hs:a.eval s=v)(hown:OwnL w base v x)(A:Option Addr)(l:List Lbl)(c:Nat)(hy:a.eval y=.slice A l.length c)(hA:Lbls w A l)(hn:(x.length+l.length)*32<=140737488355328)(hbase:base<=w.heap.size)
 (h:∀v' w',OwnL w' base v' (x++l)->Below base w w'->w.grownBy w' v.ownBlock->wpList Tryz.prog ops Q rest (a.put o.dst v') w'):wpList Tryz.prog ops Q (o::rest) a w:=by
 obtain ⟨i0,hi,hz0,hz1,hz2⟩:=info_parts label_info;refine wpList_app_at hgd s y 56 ho base 118 i0 _ 2 32 Tryz.underlying56 hi hz0 hz1 hz2 rfl (by omega) v x.length (x.flatMap lblE) hs hown A l.length c (l.flatMap lblE) hy (flat_len lblE 2 lblE_len l) hA (lbl_one l)
  (by simp only [maxLen];omega) hn hbase ?_
 intro v' w' h1 h2 h3;refine h v' w' ?_ h2 h3;unfold OwnL;rw [List.flatMap_append,List.length_append];exact h1
theorem lbls_cell{w:World}{g:Nat}{t v:ByteArray}(h:Row w g 118 #[.string t,.string v]):Lbls w (some ⟨g,0,none⟩) [(t,v)]:=At.row h
def LFits(l:List Lbl):Prop:=∀i,i<l.length->(nmOf l i).size<=140737488351232/\(vlOf l i).size<=140737488351232
section
variable {H:Type} {enc:TypeId × Value->H} {W:World} {base:Nat} {sp:Nat->Bool} {held:Bool}
end
def intE(n:Int):List Value:=[.int .i64 n]
theorem intE_len(n:Int):(intE n).length=1:=rfl
def Zi(w:World)(A:Option Addr)(l:List Int):Prop:=At w A (l.flatMap intE)
theorem Zi.below{w w':World}{A:Option Addr}{l:List Int}(h:Zi w A l)(hb:Below w.heap.size w w'):Zi w' A l:=At.below h hb
theorem Zi.at_{w:World}{A:Option Addr}{l:List Int}(h:Zi w A l){i:Nat}(hi:i<l.length):
 ∃b o,A=some ⟨b,o,none⟩/\b<w.heap.size/\w.cell? ⟨b,o+i,none⟩=some (.int .i64 (l.getD i 0)):=by
 have hlen:=flat_len intE 1 intE_len l;rcases h with h|⟨b,o,rfl,hb,hc⟩
 ·rw [h] at hlen;simp at hlen;omega
 ·refine ⟨b,o,rfl,hb,?_⟩;have:=hc (i*1+0) _ (flat_get intE 1 intE_len l i _ 0 (getD_some l 0 hi) (by omega));rw [Nat.mul_one] at this;exact this
def OwnZ(w:World)(base:Nat)(v:Value)(l:List Int):Prop:=w.ownsRow base 3 1 v l.length (l.flatMap intE)
section
variable {w w':World} {base:Nat} {v:Value} {l:List Int}
theorem ownz_nil(w:World)(base:Nat):OwnZ w base (.slice none 0 0) []:=⟨rfl,.inl ⟨rfl,rfl⟩⟩
end
theorem zint_info:(Tryz.prog.info? 3).map (fun i=>(i.zero,i.size,i.bytes))=some (some (.int .i64 0),1,8):=by kernel_rfl
section
variable {H:Type} {enc:TypeId × Value->H} {W:World} {base:Nat} {sp:Nat->Bool} {held:Bool}
end
end Go.Proofs.YtgdmcnoogacdaaaGreatDoor
