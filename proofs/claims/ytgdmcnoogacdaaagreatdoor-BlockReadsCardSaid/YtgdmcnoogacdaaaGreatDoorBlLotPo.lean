/- In one text, written by lotify.py: PoOps. -/
import Derived.Test.YtgdmcnoogacdaaaGreatDoorBlLotC
import Derived.Test.YtgdmcnoogacdaaaGreatDoorBlLotD
/- Rows of numbers: lent with one more behind their end, and whether they were kept; held against one another; a number looked for; those that are in another row: as the laws and the document's own answer of layer 9 do it. -/
namespace Go.Proofs.YtgdmcnoogacdaaaGreatDoor
open Go.RowKit Go.Maps
set_option linter.unusedVariables false
theorem ext_getD{a b:List Int}(hl:a.length=b.length)(h:∀j,j<a.length->a.getD j 0=b.getD j 0):a=b:=by
 refine List.ext_getElem hl fun i h1 h2=>?_
 have:=h i h1;rwa [getD_in a 0 h1,getD_in b 0 h2] at this
theorem po_ret_bool{a b:Bool}(h:a=b):Ending.returned (.bool a)=.returned (.bool b):=by rw [h]
set_option maxHeartbeats 1000000 in
theorem po_same_ref(A B:Option Addr)(a b:List Int)(c d:Nat)(w:World)(hA:Zi w A a)(hB:Zi w B b)(hl:a.length<=281474976710656):
 Calls Tryz.prog 47 #[.slice A a.length c,.slice B b.length d] w fun e w'=>e=.returned (.bool (decide (a=b)))/\Below w.heap.size w w':=by
 have HA:=zz hA;have HB:=zz hB;clear hA hB
 by_cases hlen:a.length=b.length
 ·have i1:((a.length:Int) !=(b.length:Int))=false:=by rw [hlen];simp
  have i0:((a.length:Int)==(b.length:Int))=true:=by rw [hlen];simp
  have HL:=zz hlen;rw [<-hlen] at i1 i0 ⊢;clear hlen;go_enter Tryz.func47,Tryz.ntmps47
  go_wp2_with fail
  go_loopw [5] (fun i wr=>∃k:Nat,k<=a.length/\i=.int .i64 (k:Int)/\(∀j,j<k->a.getD j 0=b.getD j 0)/\Below w.heap.size w wr) (fun i _=>a.length-(intOf i).toNat)
  case atStart=>exact ⟨0,Nat.zero_le _,rfl,fun j hj=>absurd hj (Nat.not_lt_zero j),Below.refl _ _⟩
  case round =>
   obtain ⟨k,hk,rfl,hs,hbr⟩:=hrel;have HBR:=zz hbr;have HS:=zz hs
   by_cases hlt:k<a.length
   ·obtain ⟨b1,o1,rfl,hb1,g0⟩:=HA.out.at_ hlt;obtain ⟨b2,o2,rfl,hb2,g1⟩:=HB.out.at_ (i:=k) (by have:=HL.out;omega);have c0:=(hbr.cell (p:=⟨b1,o1+k,none⟩) hb1).trans g0;have c1:=(hbr.cell (p:=⟨b2,o2+k,none⟩) hb2).trans g1;have i2:(k:Int)<(a.length:Int):=by omega
    clear g0 g1 hs hbr
    by_cases he:a.getD k 0=b.getD k 0
    ·have HN:=zz (show ∀j,j<k+1->a.getD j 0=b.getD j 0 from fun j hj=>by
      rcases Nat.lt_or_ge j k with h|h
      ·exact HS.out j h
      ·rw [show j=k from by omega];exact he)
     rw [<-he] at c1;clear he;generalize a.getD k 0=n at *;have j1:(n !=n)=false:=by simp
     go_upto_region 6 with fail
     go_quiet (fail)
     go_wp2_with fail
     go_roundw
     case rel=>exact ⟨k+1,by omega,by go_num,HN.out,below_drewN' HBR.out _⟩
     case measure=>simp [intOf];omega
    ·have HR:=zz (show decide (a=b)=false by
      rw [decide_eq_false_iff_not];rintro rfl;exact he rfl)
     have j1:(a.getD k 0 !=b.getD k 0)=true:=bne_iff_ne.2 he;have j2:(a.getD k 0==b.getD k 0)=false:=beq_eq_false_iff_ne.2 he;clear he;generalize a.getD k 0=n at *;generalize b.getD k 0=m at *
     go_upto_region 6 with fail
     go_quiet (fail)
     go_wp2_with fail
     go_ret;exact ⟨po_ret_bool HR.out.symm,below_drewN' HBR.out _⟩
   ·have HR:=zz (show decide (a=b)=true from decide_eq_true (ext_getD HL.out (fun j hj=>hs j (by omega))));clear hs hbr
    go_wp2_with fail
    go_ret;exact ⟨po_ret_bool HR.out.symm,HBR.out⟩
 ·have i1:((a.length:Int) !=(b.length:Int))=true:=bne_iff_ne.2 (by omega);have i0:((a.length:Int)==(b.length:Int))=false:=beq_eq_false_iff_ne.2 (by omega);have HR:=zz (show decide (a=b)=false by rw [decide_eq_false_iff_not];rintro rfl;exact hlen rfl);clear hlen;go_enter Tryz.func47,Tryz.ntmps47
  go_wp2_with fail
  go_ret;exact ⟨po_ret_bool HR.out.symm,Below.refl _ _⟩
theorem same_yes(A B:Option Addr)(a:List Int)(c d:Nat)(w:World)(hA:Zi w A a)(hB:Zi w B a)(hl:a.length<=281474976710656):
 Calls Tryz.prog 47 #[.slice A a.length c,.slice B a.length d] w fun e w'=>e=.returned (.bool true)/\Below w.heap.size w w':=by
 refine (po_same_ref A B a a c d w hA hB hl).mono ?_;rintro e w' ⟨rfl,h⟩;exact ⟨po_ret_bool (decide_eq_true rfl),h⟩
end Go.Proofs.YtgdmcnoogacdaaaGreatDoor
