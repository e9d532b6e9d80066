/- In one text, written by lotify.py: IxRef3, IxChkT. -/
import Derived.Test.YtgdmcnoogacdaaaGreatDoorBlLotL
import Derived.Test.YtgdmcnoogacdaaaGreatDoorBlLotN
namespace Go.Proofs.YtgdmcnoogacdaaaGreatDoor
open Go.RowKit Go.Maps
set_option linter.unusedVariables false
theorem empty_sz(s:ByteArray):(s.toList==[])=decide (s.size=0):=by
 rw [ByteArray.toList_eq,Bool.eq_iff_iff,beq_iff_eq,decide_eq_true_eq];have:=strL_length s;unfold strL at this;constructor
 ·intro e;rw [e] at this;simpa using this.symm
 ·intro e;exact List.eq_nil_of_length_eq_zero (by omega)
theorem find_ref(V:Option Addr)(ss:List (List Lbl))(c:Nat)(M:Option Addr)(ms:List Mt)(cm:Nat)(w:World)(hV:Sets w V ss)(h256:ss.length<=256)
 (hC:∀x,Below w.heap.size w x->Calls Tryz.prog 86 #[.slice M ms.length cm] x fun e w'=>e=.returned (.int .i64 (mchkAll ms))/\Below x.heap.size x w')
 (hF:∀x,Below w.heap.size w x->∀i,i<ss.length->∀A c',Lbls x A (ss.getD i [])->Calls Tryz.prog 87 #[.slice M ms.length cm,.slice A (ss.getD i []).length c'] x fun e w'=>e=.returned (.bool (mall ms (ss.getD i [])))/\Below x.heap.size x w'):
 Calls Tryz.prog 46 #[.slice V ss.length c,.slice M ms.length cm] w fun e w'=>∃v,e=.returned (.tuple #[v,.int .i64 (mchkAll ms)])/\OwnZ w' w.heap.size v (if mchkAll ms=0 then findL ss ms else [])/\Below w.heap.size w w':=by
 have HV:=zz (fun (x:World) (h:Below w.heap.size w x)=>hV.below h);have HF:=zz hF;have HCA:=zz (hC w (Below.refl _ _));have HNX:=zz (fun k=>findK_next ss ms k);have HLN:=zz (fun k=>findK_len ss ms k)
 by_cases hz:mchkAll ms=0
 ·rw [hz] at HCA ⊢;rw [if_pos rfl];clear hV hF hC hz;go_enter Tryz.func46,Tryz.ntmps46
  go_wp2_with fail
  refine HCA.out.mono ?_;rintro e w1 ⟨rfl,hb1⟩;have HB1:=zz hb1;clear hb1
  go_wp2_with fail
  go_loopw [7,8] (fun u i wr=>∃j:Nat,j<=ss.length/\i=.int .i64 (j:Int)/\OwnZ wr w.heap.size u (findK ss ms j)/\Below w.heap.size w wr) (fun _ i _=>ss.length-(intOf i).toNat)
  case atStart=>exact ⟨0,Nat.zero_le _,rfl,ownz_nil _ _,HB1.out⟩
  case round =>
   obtain ⟨j,hj,rfl,ho,hb⟩:=hrel;have HO:=zz ho;have HB:=zz hb
   by_cases hlt:j<ss.length
   ·obtain ⟨b1,o1,A1,c1,rfl,hb1,g0,hL1,hlc1⟩:=(HV.out _ hb).at_ hlt;have i1:(j:Int)<(ss.length:Int):=by omega
    have HA:=zz (HF.out wr hb j hlt A1 c1 hL1);have HN:=zz (HNX.out j);have HL:=zz (HLN.out j);clear ho hb hL1;generalize mall ms (ss.getD j [])=q at *;generalize (ss.getD j []).length=nl at *
    cases q
    ·have HN2:=zz (show findK ss ms (j+1)=findK ss ms j from by rw [HN.out];simp)
     go_wp2_with (first|(go_at_call 87;refine HA.out.mono ?_;rintro e w5 ⟨rfl,hb5⟩;have HB5:=zz (below_then HB.out hb5);have HO5:=zz (ownz_below HO.out hb5);clear hb5))
     go_roundw
     case rel=>exact ⟨j+1,hlt,by go_num,by rw [HN2.out];exact HO5.out,HB5.out⟩
     case measure=>simp [intOf];omega
    ·have HN2:=zz (show findK ss ms (j+1)=findK ss ms j++[(j:Int)] from by rw [HN.out];simp)
     go_wp2_with (first
      | (go_at_call 87;refine HA.out.mono ?_;rintro e w5 ⟨rfl,hb5⟩;have HB5:=zz (below_then HB.out hb5);have HO5:=zz (ownz_below HO.out hb5);clear hb5)
      | (at_builtin;refine app_zs rfl (.tmp 26) (.tmp 28) rfl w.heap.size _ _ rfl (ownz_below HO5.out (below_one _ _)) _ [(j:Int)] 1 rfl (zs_cell (Row.new _ _ _)) (by have:=HL.out;rw [List.length_singleton];omega) (Nat.le_trans HB5.out.size (by simp)) ?_;intro v3 w3 hown3 hb3 _;rw [<-HN2.out] at hown3;have HO3:=zz hown3;have HB3:=zz ((HB5.out.alloc HB5.out.size _).trans hb3);clear hown3 hb3))
     go_roundw
     case rel=>exact ⟨j+1,hlt,by go_num,HO3.out,HB3.out⟩
     case measure=>simp [intOf];omega
   ·obtain rfl:j=ss.length:=by omega
    clear ho hb
    go_wp2_with fail
    go_ret2;exact ⟨_,rfl,HO.out,HB.out⟩
 ·rw [if_neg hz];have i1:(mchkAll ms !=0)=true:=bne_iff_ne.2 hz;have i2:(mchkAll ms==0)=false:=beq_eq_false_iff_ne.2 hz;generalize mchkAll ms=E at *;clear hV hF hC hz;go_enter Tryz.func46,Tryz.ntmps46
  go_wp2_with fail
  refine HCA.out.mono ?_;rintro e w1 ⟨rfl,hb1⟩
  go_wp2
  go_ret2;exact ⟨_,rfl,ownz_nil _ _,hb1⟩
theorem sets_ll{ss:List (List Lbl)}(hL:∀l∈ss,LFits l/\l.length*32<=140737488351232):∀i,(ss.getD i []).length<=100000000000000:=by
 intro i;rcases Nat.lt_or_ge i ss.length with h|h
 ·have:=(hL _ (ss_at h)).2;omega
 ·rw [List.getD_eq_getElem?_getD,List.getElem?_eq_none h];exact Nat.zero_le _
theorem sets_ff{ss:List (List Lbl)}(hL:∀l∈ss,LFits l/\l.length*32<=140737488351232):∀i,LFits (ss.getD i []):=by
 intro i;rcases Nat.lt_or_ge i ss.length with h|h
 ·exact (hL _ (ss_at h)).1
 ·rw [List.getD_eq_getElem?_getD,List.getElem?_eq_none h];intro j hj;exact absurd hj (Nat.not_lt_zero j)
theorem ixcheck_told(V:Option Addr)(ss:List (List Lbl))(c:Nat)(w:World)(hV:Sets w V ss)(hl:ss.length<=100000000000000)(hL:∀l∈ss,LFits l/\l.length*32<=140737488351232):
 Calls Tryz.prog 37 #[.slice V ss.length c] w fun e w'=>e=.returned (.int .i64 (ixChk ss))/\Below w.heap.size w w' :=
 ixcheck_ref V ss c w hV hl
  (fun x _ i _ A c' hA=>lbchk_ref A _ c' x hA (sets_ll hL i) (sets_ff hL i))
  (fun x _ i _ A c' B d' hA hB=>compare_ref A B _ _ c' d' x hA hB (sets_ll hL i) (sets_ll hL (i+1)))
end Go.Proofs.YtgdmcnoogacdaaaGreatDoor
