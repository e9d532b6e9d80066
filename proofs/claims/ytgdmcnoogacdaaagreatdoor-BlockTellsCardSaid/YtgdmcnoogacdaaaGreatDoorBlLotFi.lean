/- In one text, written by lotify.py: IxFind, IxFind2, IxFind3, IxFindsWalk. -/
import Derived.Test.YtgdmcnoogacdaaaGreatDoorBlLotRr
import Derived.Test.YtgdmcnoogacdaaaGreatDoorBlLotPo
import Derived.Test.YtgdmcnoogacdaaaGreatDoorBlLotR
import Derived.Test.YtgdmcnoogacdaaaGreatDoorIxHeld
import Derived.Test.YtgdmcnoogacdaaaGreatDoorBlLotRg
namespace Go.Proofs.YtgdmcnoogacdaaaGreatDoor
open Go.RowKit Go.Maps
set_option linter.unusedVariables false
set_option maxRecDepth 100000
theorem owntx_one{w:World}{g base:Nat}{s:ByteArray}(h:Row w g 9 #[.string s])(hb:base<=g):OwnTx w base (.slice (some ⟨g,0,none⟩) 1 1) [s] :=
 ⟨rfl,.inr ⟨g,1,#[.string s],rfl,hb,h,Nat.le_refl _,by simp [maxLen],rfl,rfl⟩⟩
theorem asked_one(ss:List (List Lbl)){k:Int}{n v:ByteArray}(h:v.size≠0/\(k=1\/k=2)):askedL ss (k,n,v)=[v]:=if_pos h
theorem asked_all(ss:List (List Lbl)){k:Int}{n v:ByteArray}(h:¬(v.size≠0/\(k=1\/k=2))):askedL ss (k,n,v)=ixValues ss n:=if_neg h
set_option maxHeartbeats 1000000 in
theorem asked_prog(X:Nat)(ss:List (List Lbl))(base:Nat)(k:Int)(n v:ByteArray)(w:World)(hI:IdxAt w base X ss)(hr:ixChk ss=0):
 Calls Tryz.prog 133 #[.pointer (some ⟨X,0,none⟩),.agg #[.int .i64 k,.string n,.string v]] w (TxsTold w (askedL ss (k,n,v))):=by
 have hB1:=below_one w (.cells #[.int .i64 k,.string n,.string v] 165);have hR:=Row.new w 165 #[.int .i64 k,.string n,.string v];have m0:=hR.cell 0;have m1:=hR.cell 1;have m2:=hR.cell 2;have HV:=zz (values_prog X ss base n (w.alloc (.cells #[.int .i64 k,.string n,.string v] 165)) (hI.below hB1) hr);have HB1:=zz hB1;clear hI hR hB1
 by_cases h0:v.size=0
 ·have e1:(v.toList==[])=true:=by rw [empty_sz];exact decide_eq_true h0
  have e2:(v.toList !=[])=false:=by unfold bne;rw [e1];rfl
  rw [asked_all ss (fun h=>h.1 h0)];clear h0;go_enter Tryz.func133,Tryz.ntmps133
  go_wp2_with (first|(go_at_call 177;refine HV.out.mono ?_;rintro e w2 ⟨v2,rfl,ho2,hb2⟩;have HO2:=zz ho2;have HB2:=zz hb2;clear ho2 hb2))
  go_ret;exact ⟨_,rfl,rows_lower HO2.out HB1.out.size,HB1.out.trans (HB2.out.mono HB1.out.size)⟩
 ·have e1:(v.toList==[])=false:=by rw [empty_sz];exact decide_eq_false h0
  have e2:(v.toList !=[])=true:=by unfold bne;rw [e1];rfl
  by_cases h1:k=1
  ·rw [asked_one ss ⟨h0,.inl h1⟩];subst h1;clear h0 HV;go_enter Tryz.func133,Tryz.ntmps133
   go_wp2_with fail
   go_ret;exact ⟨_,rfl,owntx_one (row_at w _ _ _) (Nat.le_succ _),HB1.out.alloc HB1.out.size _⟩
  ·have k1:(k==1)=false:=beq_eq_false_iff_ne.2 h1
   by_cases h2:k=2
   ·rw [asked_one ss ⟨h0,.inr h2⟩];subst h2;clear h0 HV h1;go_enter Tryz.func133,Tryz.ntmps133
    go_wp2_with fail
    go_ret;exact ⟨_,rfl,owntx_one (row_at w _ _ _) (Nat.le_succ _),HB1.out.alloc HB1.out.size _⟩
   ·have k2:(k==2)=false:=beq_eq_false_iff_ne.2 h2;rw [asked_all ss (fun h=>by rcases h.2 with h|h<;>contradiction)];clear h0 h1 h2;go_enter Tryz.func133,Tryz.ntmps133
    go_wp2_with (first|(go_at_call 177;refine HV.out.mono ?_;rintro e w2 ⟨v2,rfl,ho2,hb2⟩;have HO2:=zz ho2;have HB2:=zz hb2;clear ho2 hb2))
    go_ret;exact ⟨_,rfl,rows_lower HO2.out HB1.out.size,HB1.out.trans (HB2.out.mono HB1.out.size)⟩
def idsTo(n k:Nat):List Int:=(List.range n).map fun i=>if i<k then (i:Int) else 0
theorem idsTo_len(n k:Nat):(idsTo n k).length=n:=by unfold idsTo;simp
theorem idsTo_get(n k i:Nat)(h:i<(idsTo n k).length):(idsTo n k)[i]=if i<k then (i:Int) else 0:=by simp [idsTo]
theorem idsTo_set{n k:Nat}(h:k<n):(idsTo n k).set k (k:Int)=idsTo n (k+1):=by
 apply List.ext_getElem
 ·rw [List.length_set,idsTo_len,idsTo_len]
 ·intro i h1 h2;rw [List.getElem_set,idsTo_get,idsTo_get]
  by_cases e:k=i
  ·subst e;rw [if_pos rfl,if_pos (by omega)]
  ·rw [if_neg e]
   by_cases h3:i<k
   ·rw [if_pos h3,if_pos (by omega)]
   ·rw [if_neg h3,if_neg (by omega)]
theorem idsTo_all(n:Nat):idsTo n n=allIds n:=by
 unfold idsTo allIds
 apply List.map_congr_left
 intro i hi;rw [if_pos (List.mem_range.1 hi)];rfl
theorem idsTo_zero(n:Nat):idsTo n 0=List.replicate n 0:=by
 unfold idsTo
 apply List.ext_getElem
 ·simp
 ·intro i h1 h2;simp
theorem made_ints(m:Nat):madeCells (Value.int .i64 0).cells (m*1)=((List.replicate m (0:Int)).flatMap intE).toArray:=by
 have e:(List.replicate m (0:Int)).flatMap intE=List.replicate m (Value.int .i64 0):=by
  induction m with
  | zero=>rfl
  | succ m ih=>rw [List.replicate_succ,List.flatMap_cons,ih,List.replicate_succ];rfl
 rw [e]
 apply Array.ext
 ·simp [madeCells]
 ·intro i h1 h2;simp [madeCells,Value.cells,Nat.mod_one]
theorem make_ids(n:Nat)(hn:n<=1000000)(W:World):
 (Instr.makeSlice 59 (.int .i64 (n:Int)) (.int .i64 (n:Int))).run Tryz.prog W=.ok (.slice (some ⟨W.heap.size,0,none⟩) n n) (W.alloc (.cells ((List.replicate n (0:Int)).flatMap intE).toArray 3)):=by
 obtain ⟨i0,hi,hz0,hz1,hz2⟩:=info_parts zint_info;have hr:=run_make (P:=Tryz.prog) W 59 3 i0 (.int .i64 0) Tryz.underlying59 hi hz0 .i64 .i64 (n:Int) (n:Int) (by omega) (by omega) (by rw [hz2];omega) (by omega);simp only [hz1,Int.toNat_natCast,made_ints] at hr;exact hr
theorem ownz_made{w:World}{g base:Nat}{l:List Int}(h:Row w g 3 (l.flatMap intE).toArray)(hb:base<=g)(hl:l.length<=1000000):OwnZ w base (.slice (some ⟨g,0,none⟩) l.length l.length) l:=by
 have e:=flat_len intE 1 intE_len l;refine ⟨e,.inr ⟨g,l.length,_,rfl,hb,h,Nat.le_refl _,by simp only [maxLen];omega,by rw [List.size_toArray];exact e,?_⟩⟩
 show (l.flatMap intE).take (l.length*1)=l.flatMap intE
 exact List.take_of_length_le (by omega)
set_option maxHeartbeats 1000000 in
theorem ids_prog(X:Nat)(ss:List (List Lbl))(base:Nat)(w:World)(hI:IdxAt w base X ss)(h256:ss.length<=256):
 Calls Tryz.prog 136 #[.pointer (some ⟨X,0,none⟩)] w fun e w'=>∃v,e=.returned v/\OwnZ w' w.heap.size v (allIds ss.length)/\Below w.heap.size w w':=by
 obtain ⟨_,v,M,_,hX,hO,_⟩:=hI;obtain ⟨P,c,rfl,_,_,_⟩:=ownsets_slice hO;have x0:=hX.cell 0;have hmk:=make_ids ss.length (by omega) w;have hB1:=below_one w (.cells ((List.replicate ss.length (0:Int)).flatMap intE).toArray 3);have hO1:=ownz_made (Row.new w 3 ((List.replicate ss.length (0:Int)).flatMap intE).toArray) (Nat.le_refl _) (by rw [List.length_replicate];omega);rw [List.length_replicate,<-idsTo_zero] at hO1;rw [<-idsTo_zero] at hmk hB1;have HB1:=zz hB1;have HO1:=zz hO1;have HALL:=zz (idsTo_all ss.length);obtain ⟨n,hn⟩:∃n,ss.length=n:=⟨_,rfl⟩;rw [hn] at hmk x0 HB1 HO1 HALL h256 ⊢;clear hX hO hB1 hO1 hn;go_enter Tryz.func136,Tryz.ntmps136
 go_wp2_with fail
 clear hmk x0;generalize w.alloc (.cells ((idsTo n 0).flatMap intE).toArray 3)=w2 at *;obtain ⟨G,hG⟩:∃G,w.heap.size=G:=⟨_,rfl⟩;have HG:=zz hG;rw [hG] at HO1 HB1 ⊢;clear hG
 go_loopw [13] (fun i wr=>∃k:Nat,k<=n/\i=.int .i64 (k:Int)/\OwnZ wr G (.slice (some ⟨G,0,none⟩) n n) (idsTo n k)/\Below G w wr) (fun i _=>n-(intOf i).toNat)
 case atStart=>exact ⟨0,Nat.zero_le _,rfl,HO1.out,HB1.out⟩
 case round =>
  obtain ⟨k,hk,rfl,hO,hB⟩:=hrel;have HO:=zz hO;have HB:=zz hB
  by_cases hlt:k<n
  ·have i1:(k:Int)<(n:Int):=by omega
   have hO2:=hO;have el:=idsTo_len n k;obtain ⟨g,cap,hv,hg,hgl,hc,hfz,hcell⟩:=ownz_form hO (by rw [el];omega);rw [el] at hv;injection hv with hv1 _ hv3;injection hv1 with hv1;injection hv1 with hv1 _ _;subst hv1;have c0:=hcell k (by rw [el];exact hlt);have f0:=hfz k;have h3:OwnZ wr G (.slice (some ⟨G,0,none⟩) (idsTo n k).length n) (idsTo n k):=by rw [el];exact hO2
   have HS:=zz (ownz_set h3 (by rw [el];exact hlt) (k:Int));rw [idsTo_set hlt,idsTo_len] at HS;have HBS:=zz (Below.setCell hB (p:=⟨G,k,none⟩) (Nat.le_refl _) (.int .i64 (k:Int)));clear hO hB hO2 hcell hfz h3;generalize (idsTo n k).getD k 0=z at *
   go_wp2_with fail
   go_roundw
   case rel=>exact ⟨k+1,hlt,by go_num,HS.out,HBS.out⟩
   case measure=>simp [intOf];omega
  ·obtain rfl:k=n:=by omega
   rw [HALL.out] at HO;clear hO hB
   go_wp2_with fail
   go_ret;rw [HG.out];exact ⟨_,rfl,HO.out,HB.out⟩
theorem asked_len(ss:List (List Lbl))(m:Mt):(askedL ss m).length<=ss.length+1:=by
 unfold askedL
 split
 ·simp
 ·have:=values_len ss m.2.1;omega
theorem other_len(ss:List (List Lbl))(m:Mt)(vs:List ByteArray):(otherL ss m vs).length<=vs.length*ss.length:=by
 unfold otherL
 induction vs with
 | nil=>simp
 | cons v vs ih =>
   rw [List.flatMap_cons,List.length_append,List.length_cons,Nat.succ_mul];have:(if oddV m v=true then idsK ss ss.length (m.2.1,v) else []).length<=ss.length:=by
    split
    ·exact idsK_len _ _ _
    ·simp
   omega
theorem other_next(ss:List (List Lbl))(m:Mt)(vs:List ByteArray){j:Nat}(h:j<vs.length):otherL ss m (vs.take (j+1))=otherL ss m (vs.take j)++(if oddV m (vs.getD j txt0)=true then idsK ss ss.length (m.2.1,vs.getD j txt0) else []):=by
 unfold otherL;rw [take_next h,List.flatMap_append,List.flatMap_cons,List.flatMap_nil,List.append_nil]
theorem step_app_zs{w:World}{ops:Array Oper}{o:Oper}{a:Act}{K:Act->World->Prop}{Q:Exit->Act->World->Prop}{E:Prop}(hgd:o.guard=none)(s y:Operand)
 (ho:o.op=.call { callee:=.builtin .append,args:=#[s,y],argTypes:=#[59,59] })
 (base:Nat)(v:Value)(x:List Int)(hs:a.eval s=v)(hown:OwnZ w base v x)(A:Option Addr)(l:List Int)(c:Nat)(hy:a.eval y=.slice A l.length c)(hA:Zi w A l)(hn:(x.length+l.length)*8<=140737488355328)(hbase:base<=w.heap.size)
 (h:∀v' w',OwnZ w' base v' (x++l)->Below base w w'->w.grownBy w' v.ownBlock->K (a.put o.dst v') w'):
 if Region.wanted o (yielded ops a.tmps)=true then Oper.wp Tryz.prog o a w K Q else E:=by
 obtain ⟨i0,hi,hz0,hz1,hz2⟩:=info_parts zint_info;refine step_app_at hgd s y 59 ho base 3 i0 _ 1 8 Tryz.underlying59 hi hz0 hz1 hz2 rfl (by omega) v x.length (x.flatMap intE) hs hown A l.length c (l.flatMap intE) hy (flat_len intE 1 intE_len l) hA (int_one l)
  (by simp only [maxLen];omega) hn hbase ?_
 intro v' w' h1 h2 h3;refine h v' w' ?_ h2 h3;unfold OwnZ;rw [List.flatMap_append,List.length_append];exact h1
theorem zi_of{w:World}{base n c:Nat}{P:Option Addr}{l:List Int}(h:OwnZ w base (.slice P n c) l):Zi w P l:=by
 obtain ⟨P',c',e,_,hT,_⟩:=ownz_slice h;obtain ⟨rfl,_,_⟩:=Value.slice.inj e;exact hT
def FitTold(w:World)(zs:List Int)(e:Ending)(w':World):Prop:=∃v,e=.returned v/\OwnZ w' w.heap.size v zs/\Below w.heap.size w w'
set_option maxHeartbeats 4000000 in
theorem fitted_prog(X:Nat)(ss:List (List Lbl))(base:Nat)(k:Int)(n v:ByteArray)(w:World)(hI:IdxAt w base X ss)(hr:ixChk ss=0)(hn:n.size<=maxLen)(hv:v.size<=maxLen):
 Calls Tryz.prog 96 #[.pointer (some ⟨X,0,none⟩),.agg #[.int .i64 k,.string n,.string v]] w (FitTold w (findL ss [(k,n,v)])):=by
 obtain ⟨h256,_,hrr⟩:=ixChk_right hr;have hB1:=below_one w (.cells #[.int .i64 k,.string n,.string v] 165);have hR:=Row.new w 165 #[.int .i64 k,.string n,.string v];have hI1:=hI.below hB1;have m0:=hR.cell 0;have m1:=hR.cell 1;have m2:=hR.cell 2;have HF0:=zz (mfits_prog k n v none [] 0 (w.alloc (.cells #[.int .i64 k,.string n,.string v] 165)) (Lbls.nil _ _) (by simp));have HB1:=zz hB1;have HR1:=zz hR;have HI:=zz (fun (x:World) (h:Below w.heap.size w x)=>hI.below h);have HSZV:=zz (fun s (hs:s∈askedL ss (k,n,v))=>(show s.size<=maxLen from by
  unfold askedL at hs
  split at hs
  ·rw [List.mem_singleton.1 hs];exact hv
  ·obtain ⟨_,l,hl,e⟩:=(values_mem ss n s).1 hs;have hne:(valOf l n).size≠0:=by rw [e];assumption
   have:=label_sizes (hrr l hl) (valOf_in hne);rw [e] at this;simp only at this;simp only [maxLen];omega))
 have HSORT:=zz (fun (zs:List Int) (h1:zs.Perm (otherL ss (k,n,v) (askedL ss (k,n,v)))) (h2:zs.Pairwise (·<=·))=>other_sorted hrr (k,n,v) h1 h2);have HODD:=zz (odd_right (ss:=ss) h256 (k,n,v));have HALLR:=zz (all_right (n:=ss.length) h256);have HOF:=zz (fun h=>odd_find (ss:=ss) (k,n,v) h);have HLF:=zz (fun h=>less_find (ss:=ss) h256 (k,n,v) h);have HAL:=zz (asked_len ss (k,n,v));have HOL:=zz (other_len ss (k,n,v));have HON:=zz (fun j h=>other_next ss (k,n,v) (askedL ss (k,n,v)) (j:=j) h);have HIDS:=zz (fun p=>ids_all hrr p ss.length (Nat.le_refl _));have HRC:=zz hr;have H256:=zz h256;clear hI hI1 hB1 hR hr hrr hv
 cases hE:mfits (k,n,v) []
 all_goals
  rw [hE] at HF0;have HE:=zz hE;clear hE;go_enter Tryz.func96,Tryz.ntmps96
  go_upto_region 3 with (first|(go_at_call 132;refine HF0.out.mono ?_;rintro e w2 ⟨rfl,hb2⟩;have HB2:=zz hb2;clear hb2))
  have hR2:=HR1.out.below HB2.out HR1.out.lt;have HR2:=zz hR2;have HBB2:=zz (below_then HB1.out HB2.out);have HAS:=zz (asked_prog X ss base k n v w2 (HI.out _ HBB2.out) HRC.out);have q0:=hR2.cell 0;have q1:=hR2.cell 1;have q2:=hR2.cell 2;clear m0 m1 m2 hR2 HF0 HR1 HB1 HB2;obtain ⟨B,hB⟩:∃B,w.heap.size=B:=⟨_,rfl⟩;have HBEQ:=zz hB;rw [hB] at HR2 HBB2 q0 q1 q2
  try rw [hB]
  clear hB;have hbz2:B<=w2.heap.size:=by have:=HBB2.out.size;have:=HBEQ.out;omega
  go_wp2_with (first|(go_at_call 133;refine HAS.out.mono ?_;rintro e w3 ⟨v3,rfl,ho3,hb3⟩;obtain ⟨P3,c3,hv3,hc3,_,_⟩:=owntx_slice ho3;subst hv3;have HO3:=zz (rows_lower ho3 hbz2);have HB3:=zz hb3;clear ho3 hb3))
  have HR3:=zz (HR2.out.below HB3.out HR2.out.lt);have HBB3:=zz (HBB2.out.trans (HB3.out.mono hbz2));clear q0 q1 q2 HAS HR2 HBB2 HB3;obtain ⟨vs,hvs⟩:∃vs,askedL ss (k,n,v)=vs:=⟨_,rfl⟩;rw [hvs] at HO3 HSZV HSORT HAL HON hc3
  try rw [hvs]
  clear hvs
  go_loopw [6,17] (fun u i wr=>∃j:Nat,j<=vs.length/\i=.int .i64 (j:Int)/\OwnZ wr B u (otherL ss (k,n,v) (vs.take j))/\OwnTx wr B (.slice P3 vs.length c3) vs/\Row wr B 165 #[.int .i64 k,.string n,.string v]/\Below B w wr) (fun _ i _=>vs.length-(intOf i).toNat)
  case atStart=>exact ⟨0,Nat.zero_le _,rfl,ownz_nil _ _,HO3.out,HR3.out,HBB3.out⟩
  case round =>
   obtain ⟨j,hj,rfl,hO,hT,hR,hB⟩:=hrel;have HO:=zz hO;have HT:=zz hT;have HRW:=zz hR;have HB:=zz hB;have hbz:B<=wr.heap.size:=by have:=hB.size;have:=HBEQ.out;omega
   have hvl:vs.length<=257:=by have:=HAL.out;have:=H256.out;omega
   by_cases hlt:j<vs.length
   ·obtain ⟨b1,o1,rfl,hb1,g0⟩:=(owntx_tx hT).at_ hlt;have i1:(j:Int)<(vs.length:Int):=by omega
    have hms:vs.getD j txt0∈vs:=by rw [getD_at hlt];exact List.getElem_mem hlt
    have HNX:=zz (HON.out j hlt);have HSZ:=zz (HSZV.out _ hms);have q0:=hR.cell 0;have q1:=hR.cell 1;have q2:=hR.cell 2;have HLO:=zz (show (otherL ss (k,n,v) (vs.take j)).length<=70000 from by
     have h1:=HOL.out (vs.take j);rw [List.length_take] at h1;have h2:=HAL.out;have h3:=H256.out;have h4:min j vs.length*ss.length<=257*256:=Nat.mul_le_mul (by omega) h3;omega)
    generalize vs.getD j txt0=s at *;have hA4:=below_one wr (.cells #[.string n,.string s] 118);have HF:=zz (mfits_prog k n v (some ⟨wr.heap.size,0,none⟩) [(n,s)] 1 (wr.alloc (.cells #[.string n,.string s] 118)) (lbls_cell (Row.new wr _ _)) (by simp));have HA4:=zz hA4;clear hO hT hR hB hms hA4
    cases hF:mfits (k,n,v) [(n,s)]
    all_goals
     rw [hF] at HF
     first
      | (have hd:oddV (k,n,v) s=false:=by
          show (mfits (k,n,v) [(n,s)] !=mfits (k,n,v) [])=false
          rw [hF,HE.out];rfl
         have HN2:Hid (otherL ss (k,n,v) (vs.take (j+1))=otherL ss (k,n,v) (vs.take j)):=zz (by rw [HNX.out,if_neg (by rw [hd];simp),List.append_nil]);clear hd hF
         go_wp2_with (first|(go_at_call 132;refine HF.out.mono ?_;rintro e w5 ⟨rfl,hb5⟩;have HB5:=zz (HA4.out.trans (hb5.mono HA4.out.size));clear hb5))
         go_roundw
         case rel=>exact ⟨j+1,hlt,by go_num,by rw [HN2.out];exact rows_below HO.out HB5.out,rows_below HT.out HB5.out,HRW.out.below HB5.out HRW.out.lt,HB.out.trans (HB5.out.mono hbz)⟩
         case measure=>simp [intOf];omega)
      | (have hd:oddV (k,n,v) s=true:=by
          show (mfits (k,n,v) [(n,s)] !=mfits (k,n,v) [])=true
          rw [hF,HE.out];rfl
         have HN2:Hid (otherL ss (k,n,v) (vs.take (j+1))=otherL ss (k,n,v) (vs.take j)++idsK ss ss.length (n,s)):=zz (by rw [HNX.out,if_pos hd]);clear hd hF
         go_upto_region 7 with (first|(go_at_call 132;refine HF.out.mono ?_;rintro e w5 ⟨rfl,hb5⟩;have HB5:=zz (HA4.out.trans (hb5.mono HA4.out.size));clear hb5))
         have HBW5:=zz (HB.out.trans (HB5.out.mono hbz));obtain ⟨_,vX,M,_,hX5,_,hP5⟩:=HI.out w5 (by rw [HBEQ.out];exact HBW5.out);obtain ⟨lv,hrun,hlo⟩:=post_look (show PostAt w5.drew base M (evsAt ss ss.length 0) from hP5) (show Sz (n,s) from ⟨hn,HSZ.out⟩);rw [HIDS.out] at hlo;obtain ⟨PL,cL,hlv,_,hZL,_⟩:=ownz_slice hlo;subst hlv;have hrun2:(Instr.lookup 114 (.map (some M)) (.agg #[.string n,.string s]) false).run Tryz.prog w5.drew=.ok (.slice PL (idsK ss ss.length (n,s)).length cL) w5.drew:=hrun;have HR5:=zz (show Row w5.drew B 165 #[.int .i64 k,.string n,.string v] from HRW.out.below HB5.out.drew HRW.out.lt);have HX5:=zz (show Row w5.drew X 116 #[vX,.map (some M)] from hX5);have HO5:Hid (OwnZ w5.drew B u6 (otherL ss (k,n,v) (vs.take j))):=zz (rows_below HO.out HB5.out.drew);have HT5:Hid (OwnTx w5.drew B (.slice (some ⟨b1,o1,none⟩) vs.length c3) vs):=zz (rows_below HT.out HB5.out.drew);have HZL:=zz hZL;have hbz5:B<=w5.drew.heap.size:=Nat.le_trans hbz HB5.out.size;have HIL:=zz (idsK_len ss ss.length (n,s));have sD:w5.drew.cell? ⟨X,1,none⟩=some (.map (some M))/\w5.drew.cell? ⟨B,1,none⟩=some (.string n):=⟨(HX5.out.cell 1).trans rfl,(HR5.out.cell 1).trans rfl⟩;clear hrun hlo hZL hX5 hP5 g0 q0 q1 q2;generalize idsK ss ss.length (n,s)=il at *
         go_region_held3 (fun w'=>w'.cell? ⟨X,1,none⟩=some (.map (some M))/\w'.cell? ⟨B,1,none⟩=some (.string n))
          (first|with_reducible assumption|go_keep)
          (first
            | (refine step_app_zs rfl (.tmp 30) (.tmp 39) rfl B u6 _ rfl HO5.out PL il cL rfl HZL.out (by have:=HLO.out;have:=HIL.out;have:=H256.out;omega) hbz5 ?_
               intro v6 w6 ho6 hb6 hg6;have hiX:∀q,u6.ownBlock=some q->∃cs,Row w5.drew q 3 cs:=fun q hq=>ownz_block HO5.out hq
               have hX6:Row w6 X 116 #[vX,.map (some M)]:=grown_row HX5.out hg6 (fun e=>by obtain ⟨cs,hc⟩:=hiX _ e.symm;exact absurd (row_kind hc HX5.out) (by decide));have hR6:Row w6 B 165 #[.int .i64 k,.string n,.string v]:=grown_row HR5.out hg6 (fun e=>by obtain ⟨cs,hc⟩:=hiX _ e.symm;exact absurd (row_kind hc HR5.out) (by decide));have HR6:=zz hR6;have HT6:Hid (OwnTx w6 B (.slice (some ⟨b1,o1,none⟩) vs.length c3) vs):=zz (rows_move HT5.out fun q hq=>hg6.block q (World.ownsRow.lt HT5.out q hq).2 (fun e=>by
                obtain ⟨cs,hc⟩:=hiX _ e.symm;obtain ⟨cs',hc'⟩:=rows_block HT5.out hq;exact absurd (row_kind hc hc') (by decide)))
               have HO6:=zz ho6;have HB6:=zz ((HBW5.out.drew).trans hb6);have s6:w6.cell? ⟨X,1,none⟩=some (.map (some M))/\w6.cell? ⟨B,1,none⟩=some (.string n):=⟨(hX6.cell 1).trans rfl,(hR6.cell 1).trans rfl⟩;clear ho6 hb6 hg6 hiX hX6 hR6))
         all_goals
          go_wp2_with fail
          go_roundw
          case rel=>exact ⟨j+1,hlt,by go_num,by rw [HN2.out];exact HO6.out,HT6.out,HR6.out,HB6.out⟩
          case measure=>simp [intOf];omega)
   ·obtain rfl:j=vs.length:=by omega
    rw [List.take_length] at HO;have HSO:=zz (sort_i HO.out (by
     have h1:=HOL.out vs;have h2:=HAL.out;have h3:=H256.out;have h4:vs.length*ss.length<=257*256:=Nat.mul_le_mul (by omega) h3;omega))
    have HOB:=zz (fun q hq=>(World.ownsRow.lt HO.out q hq).1);clear hO hT hR hB
    first
     | (have he:mfits (k,n,v) []=false:=by rw [HE.out]
        have HFIN:=zz (HOF.out he);clear he
        go_wp2_with (first|(go_at_call 134;refine HSO.out.mono ?_;rintro e w7 ⟨rfl,us,ho7,hp7,hs7,hg7⟩;have HO7:=zz ho7;have HP7:=zz hp7;have HS7:=zz hs7;have HG7:=zz hg7;clear ho7 hp7 hs7 hg7))
        go_ret;have e1:=HSORT.out _ HP7.out HS7.out;refine ⟨_,rfl,?_,by rw [HBEQ.out];exact HB.out.grown HG7.out hbz (fun q hq=>HOB.out q hq)⟩;rw [HBEQ.out,<-HFIN.out,<-e1];exact HO7.out)
     | (have he:mfits (k,n,v) []=true:=by rw [HE.out]
        have HFIN:=zz (HLF.out he);clear he
        go_upto_region 10 with (first|(go_at_call 134;refine HSO.out.mono ?_;rintro e w7 ⟨rfl,us,ho7,hp7,hs7,hg7⟩;have HO7:=zz ho7;have HP7:=zz hp7;have HS7:=zz hs7;have HG7:=zz hg7;clear ho7 hp7 hs7 hg7))
        have HB7:=zz (HB.out.grown HG7.out hbz (fun q hq=>HOB.out q hq));have e1:=HSORT.out _ HP7.out HS7.out;rw [e1] at HO7;have hbz7:B<=w7.heap.size:=Nat.le_trans hbz HG7.out.size;have HID:=zz (ids_prog X ss base w7 (HI.out _ (by rw [HBEQ.out];exact HB7.out)) H256.out);obtain ⟨PO,cO,hvO,hcO,_,_⟩:=ownz_slice HO7.out;have HOL7:=zz (odd_len ss (k,n,v));obtain ⟨od,hod⟩:∃od,oddL ss (k,n,v)=od:=⟨_,rfl⟩;rw [hod] at HO7 HODD HFIN HOL7 hvO hcO;have HALL:=zz (show (allIds ss.length).length<=256 from by unfold allIds;rw [List.length_map,List.length_range];exact H256.out);obtain ⟨al,hal⟩:∃al,allIds ss.length=al:=⟨_,rfl⟩;rw [hal] at HID HALLR HFIN HALL;clear e1 hod HSO hal;subst hvO
        go_wp2_with (first
         | (go_at_call 136;refine HID.out.mono ?_;rintro e w8 ⟨v8,rfl,ho8,hb8⟩;obtain ⟨P8,c8,hv8,hc8,hZ8,_⟩:=ownz_slice ho8;subst hv8;have HZ8:=zz hZ8;have HB8:=zz hb8;have HO8:=zz (ownz_below HO7.out hb8);clear ho8 hZ8 hb8)
         | (go_at_call 135;refine (less_all P8 PO al od c8 cO w8 HZ8.out (zi_of HO8.out) (by have:=HALL.out;omega) (by have:=HOL7.out;have:=H256.out;omega) hc8 hcO).mono ?_;rintro e w9 ⟨v9,rfl,ho9,hb9⟩;have HO9:=zz ho9;have HB9:=zz hb9;clear ho9 hb9))
        go_ret;have e2:refE al od=0:=by unfold refE;rw [if_pos HALLR.out];exact HODD.out
        have e3:leV al od=lessL al od:=if_pos e2;have hO9:=HO9.out;rw [e3,HFIN.out] at hO9;have hbz8:B<=w8.heap.size:=Nat.le_trans hbz7 HB8.out.size;exact ⟨_,rfl,by rw [HBEQ.out];exact ownz_lower hO9 hbz8,by rw [HBEQ.out];exact (HB7.out.trans (HB8.out.mono hbz7)).trans (HB9.out.mono hbz8)⟩)
theorem merr_mem:∀{ms:List Mt},merr ms=0->∀m∈ms,mchk m=0:=by
 intro ms
 induction ms with
 | nil=>intro _ m hm;cases hm
 | cons x ms ih =>
   intro h m hm;unfold merr at h
   by_cases hx:mchk x=0
   ·rw [if_pos hx] at h;rcases List.mem_cons.1 hm with rfl|hm
    ·exact hx
    ·exact ih h m hm
   ·rw [if_neg hx] at h;exact absurd h hx
theorem mchk_sizes{k:Int}{n v:ByteArray}(h:mchk (k,n,v)=0):n.size<=maxLen/\v.size<=maxLen:=by
 cases hk:kindB k with
 | false=>rw [mchk_kind hk] at h;cases h
 | true =>
   cases hn:nameB (strL n) with
   | false=>rw [mchk_name hk hn] at h;cases h
   | true =>
     have hv:¬64<v.size:=fun hb=>by rw [mchk_big hk hn hb] at h;cases h
     have:=(nameB_size hn).2;exact ⟨by simp only [maxLen];omega,by simp only [maxLen];omega⟩
theorem chkall_some{ms:List Mt}(h:mchkAll ms=0):0<ms.length/\ms.length<=8/\∀i,i<ms.length->(mnOf ms i).size<=maxLen/\(mvOf ms i).size<=maxLen:=by
 obtain ⟨h8,h1,h2⟩:=chkall_zero.1 h;refine ⟨?_,h8,fun i hi=>?_⟩
 ·cases ms with
  | nil=>cases h2
  | cons x r=>simp
 ·have hm:(kdOf ms i,mnOf ms i,mvOf ms i)∈ms:=by
   rw [mt_of,List.getD_eq_getElem?_getD,List.getElem?_eq_getElem hi];exact List.getElem_mem hi
  exact mchk_sizes (merr_mem h1 _ hm)
theorem take_mt{ms:List Mt}{j:Nat}(h:j<ms.length):ms.take (j+1)=ms.take j++[(kdOf ms j,mnOf ms j,mvOf ms j)]:=by
 rw [List.take_succ_eq_append_getElem h,mt_of,List.getD_eq_getElem?_getD,List.getElem?_eq_getElem h];rfl
def FindTold(w:World)(ss:List (List Lbl))(ms:List Mt)(e:Ending)(w':World):Prop :=
 ∃v,e=.returned (.tuple #[v,.int .i64 (mchkAll ms)])/\OwnZ w' w.heap.size v (if mchkAll ms=0 then findL ss ms else [])/\Below w.heap.size w w'
theorem find_told{w w':World}{ss:List (List Lbl)}{ms:List Mt}{v:Value}(hz:mchkAll ms=0)(ho:OwnZ w' w.heap.size v (findL ss ms))(hb:Below w.heap.size w w'):FindTold w ss ms (.returned (.tuple #[v,.int .i64 0])) w':=by
 unfold FindTold;rw [hz];exact ⟨v,rfl,ho,hb⟩
set_option maxHeartbeats 4000000 in
theorem find_prog(X:Nat)(ss:List (List Lbl))(base:Nat)(A:Option Addr)(ms:List Mt)(c:Nat)(w:World)(hI:IdxAt w base X ss)(hr:ixChk ss=0)(hA:Mts w A ms)(hm:ms.length<=100000000000000)(hc:ms.length<=c):
 Calls Tryz.prog 55 #[.pointer (some ⟨X,0,none⟩),.slice A ms.length c] w (FindTold w ss ms):=by
 obtain ⟨h256,_,hrr⟩:=ixChk_right hr;have HC:=zz (chkall_prog A ms c w hA hm)
 by_cases hz:mchkAll ms=0
 ·rw [hz] at HC;obtain ⟨hpos,h8,hsz⟩:=chkall_some hz;have HZ:=zz hz;have HM:=zz (fun (x:World) (h:Below w.heap.size w x)=>hA.below h);have HI:=zz (fun (x:World) (h:Below w.heap.size w x)=>hI.below h);have HFI:=zz (fun (x:World) (h:Below w.heap.size w x) j (hj:j<ms.length)=>fitted_prog X ss base (kdOf ms j) (mnOf ms j) (mvOf ms j) x (hI.below h) hr (hsz j hj).1 (hsz j hj).2);have HTK:=zz (fun j (hj:j<ms.length)=>take_mt hj);have HBO:=zz (fun (a:List Mt) (m:Mt)=>both_find h256 a m);have HRI:=zz (fun (a:List Mt)=>find_right h256 a);have HFL:=zz (fun (a:List Mt)=>(show (findL ss a).length<=256 from Nat.le_trans (findK_len ss a ss.length) h256));have HTL:=zz (List.take_length (l:=ms));obtain ⟨b,o,rfl,hb,n0,n1,n2⟩:=hA.at_ hpos;have HCELL:=zz (fun j (hj:j<ms.length)=>(show w.cell? ⟨b,o+j*3,none⟩=some (.int .i64 (kdOf ms j))/\w.cell? ⟨b,o+j*3+1,none⟩=some (.string (mnOf ms j))/\w.cell? ⟨b,o+j*3+2,none⟩=some (.string (mvOf ms j)) from by
   obtain ⟨b',o',e,_,k0,k1,k2⟩:=hA.at_ hj;injection e with e;injection e with e1 e2 _;subst e1 e2;exact ⟨k0,k1,k2⟩))
  clear hA hI hz hrr hsz n0 n1 n2;obtain ⟨nm,hnm⟩:∃nm,ms.length=nm+1:=⟨ms.length-1,by omega⟩;have HCB:=zz (fun (x:World) (h:Below w.heap.size w x) j (hj:j<ms.length)=>(show x.cell? ⟨b,o+j*3,none⟩=some (.int .i64 (kdOf ms j))/\x.cell? ⟨b,o+j*3+1,none⟩=some (.string (mnOf ms j))/\x.cell? ⟨b,o+j*3+2,none⟩=some (.string (mvOf ms j)) from ⟨(h.cell hb).trans (HCELL.out j hj).1,(h.cell hb).trans (HCELL.out j hj).2.1,(h.cell hb).trans (HCELL.out j hj).2.2⟩));rw [hnm] at HC hc ⊢;have i0:(0:Int)<(nm:Int)+1:=by omega
  have i1:(1:Int)<=(nm:Int)+1:=by omega
  have i2:(1:Int)<=(c:Int):=by omega
  clear HCELL hm;go_enter Tryz.func55,Tryz.ntmps55
  go_upto_region 6 with (first|(go_at_call 95;refine HC.out.mono ?_;rintro e w2 ⟨rfl,hb2⟩;have HB2:=zz hb2;clear hb2))
  obtain ⟨p0,p1,p2⟩:=HCB.out _ HB2.out 0 (by omega);rw [Nat.zero_mul,Nat.add_zero] at p0 p1 p2;have HF0:=zz (HFI.out _ HB2.out 0 (by omega));have HT0:=zz (HTK.out 0 (by omega));rw [List.take_zero,List.nil_append] at HT0;generalize kdOf ms 0=k0 at *;generalize mnOf ms 0=t0 at *;generalize mvOf ms 0=v0 at *
  go_upto_region 7 with (first|(go_at_call 96;refine HF0.out.mono ?_;rintro e w3 ⟨v3,rfl,ho3,hb3⟩;have HO3:=zz (ownz_lower ho3 HB2.out.size);have HB3:=zz (HB2.out.trans (hb3.mono HB2.out.size));clear ho3 hb3))
  rw [<-HT0.out] at HO3;clear p0 p1 p2 HF0 HT0 HC
  by_cases hc1:c=1
  ·obtain rfl:nm=0:=by omega
   subst hc1;rw [show (ms.take (0+1))=ms from by rw [List.take_of_length_le (by omega)]] at HO3
   go_wp2_with fail
   go_loopw [7,25] (fun u i wr=>i=.int .i64 0/\u=v3/\wr=w3) (fun _ i _=>1-(intOf i).toNat)
   case atStart=>exact ⟨rfl,rfl,rfl⟩
   case round =>
    obtain ⟨rfl,rfl,rfl⟩:=hrel
    go_wp2_with fail
    go_ret2;exact find_told HZ.out HO3.out HB3.out
  ·go_wp2_with fail
   go_loopw [7,25] (fun u i wr=>∃j:Nat,j<=nm/\i=.int .i64 (j:Int)/\OwnZ wr w.heap.size u (findL ss (ms.take (j+1)))/\Below w.heap.size w wr) (fun _ i _=>nm-(intOf i).toNat)
   case atStart=>exact ⟨0,Nat.zero_le _,rfl,HO3.out,HB3.out⟩
   case round =>
    obtain ⟨j,hj,rfl,hO,hB⟩:=hrel;have HO:=zz hO;have HB:=zz hB
    by_cases hlt:j<nm
    ·have i3:(j:Int)<(nm:Int):=by omega
     obtain ⟨p0,p1,p2⟩:=HCB.out _ hB (j+1) (by omega);rw [show o+(j+1)*3=o+3+j*3 from by omega] at p0 p1 p2;have hB4:=hB.alloc hB.size (.cells #[.int .i64 (kdOf ms (j+1)),.string (mnOf ms (j+1)),.string (mvOf ms (j+1))] 165);have HF:=zz (HFI.out _ hB4 (j+1) (by omega));have HB4:=zz hB4;have HT:=zz (HTK.out (j+1) (by omega));have hR4:=Row.new wr 165 #[.int .i64 (kdOf ms (j+1)),.string (mnOf ms (j+1)),.string (mvOf ms (j+1))];have q0:=hR4.cell 0;have q1:=hR4.cell 1;have q2:=hR4.cell 2;have HOA:=zz (ownz_below hO (below_one wr (.cells #[.int .i64 (kdOf ms (j+1)),.string (mnOf ms (j+1)),.string (mvOf ms (j+1))] 165)));clear hO hB hB4 hR4;generalize kdOf ms (j+1)=k1 at *;generalize mnOf ms (j+1)=t1 at *;generalize mvOf ms (j+1)=v1 at *;obtain ⟨P7,c7,hv7,hc7,_,_⟩:=ownz_slice HO.out;subst hv7;have HRA:=zz (HRI.out (ms.take (j+1)));have HLA:=zz (HFL.out (ms.take (j+1)));have HRM:=zz (HRI.out [(k1,t1,v1)]);have HLM:=zz (HFL.out [(k1,t1,v1)]);have HBB:=zz (HBO.out (ms.take (j+1)) (k1,t1,v1));rw [<-HT.out] at HBB;generalize findL ss (ms.take (j+1))=fa at *;generalize findL ss [(k1,t1,v1)]=fm at *
     go_wp2_with (first
      | (go_at_call 96;refine HF.out.mono ?_;rintro e w5 ⟨v5,rfl,ho5,hb5⟩;obtain ⟨P5,c5,hv5,hc5,_,_⟩:=ownz_slice ho5;subst hv5;have HO5:=zz ho5;have HB5:=zz hb5;have HOA5:=zz (ownz_below HOA.out hb5);clear ho5 hb5)
      | (go_at_call 97;refine (both_all P7 P5 fa fm c7 c5 w5 (zi_of HOA5.out) (zi_of HO5.out) (by have:=HLA.out;omega) (by have:=HLM.out;omega) hc7 hc5).mono ?_;rintro e w6 ⟨v6,rfl,ho6,hb6⟩;have HO6:=zz ho6;have HB6:=zz hb6;clear ho6 hb6))
     have e2:refE fa fm=0:=by unfold refE;rw [if_pos HRA.out];exact HRM.out
     have e3:boV fa fm=bothL fa fm:=if_pos e2;have hO6:=HO6.out;rw [e3,HBB.out] at hO6;have hz5:w.heap.size<=w5.heap.size:=Nat.le_trans HB4.out.size HB5.out.size;have HO9:=zz (ownz_lower hO6 hz5);have HB9:=zz ((HB4.out.trans (HB5.out.mono HB4.out.size)).trans (HB6.out.mono hz5));clear e2 e3 hO6
     go_roundw
     case rel=>exact ⟨j+1,hlt,by go_num,HO9.out,HB9.out⟩
     case measure=>simp [intOf];omega
    ·obtain rfl:j=nm:=by omega
     rw [show (ms.take (j+1))=ms from by rw [List.take_of_length_le (by omega)]] at HO
     go_wp2_with fail
     go_ret2;exact find_told HZ.out HO.out HB.out
 ·have j1:(mchkAll ms !=0)=true:=bne_iff_ne.2 hz;have j2:(mchkAll ms==0)=false:=beq_eq_false_iff_ne.2 hz;unfold FindTold;rw [if_neg hz];obtain ⟨E,hE⟩:∃E,mchkAll ms=E:=⟨_,rfl⟩;rw [hE] at HC j1 j2 ⊢;clear hz hE hA hI;go_enter Tryz.func55,Tryz.ntmps55
  go_wp2_with (first|(go_at_call 95;refine HC.out.mono ?_;rintro e w2 ⟨rfl,hb2⟩;have HB2:=zz hb2;clear hb2))
  go_ret2;exact ⟨_,rfl,ownz_nil _ _,HB2.out⟩
end Go.Proofs.YtgdmcnoogacdaaaGreatDoor

namespace Go.Proofs.YtgdmcnoogacdaaaGreatDoor
open Go.RowKit Go.Maps
set_option linter.unusedVariables false
theorem find_told_ref(V:Option Addr)(ss:List (List Lbl))(c:Nat)(M:Option Addr)(ms:List Mt)(cm:Nat)(w:World)(hV:Sets w V ss)(h256:ss.length<=256)(hL:∀l∈ss,LFits l/\l.length*32<=140737488351232)
 (hM:Mts w M ms)(hf:MFits ms)(hm:ms.length<=100000000000000):
 Calls Tryz.prog 46 #[.slice V ss.length c,.slice M ms.length cm] w fun e w'=>∃v,e=.returned (.tuple #[v,.int .i64 (mchkAll ms)])/\OwnZ w' w.heap.size v (if mchkAll ms=0 then findL ss ms else [])/\Below w.heap.size w w' :=
 find_ref V ss c M ms cm w hV h256
  (fun x hx=>chkall_ref M ms cm x (show Mts x M ms from hM.below hx) hm (mnames_of hf))
  (fun x hx i _ A c' hA=>all_ref M ms cm A _ c' x (show Mts x M ms from hM.below hx) hm (mnames_of hf) hA (sets_ll hL i))
end Go.Proofs.YtgdmcnoogacdaaaGreatDoor
