/- In one text, written by lotify.py: RefPutG, RefBit, RefPutsG, RefGetNum, RefPutNumG. -/
import Derived.Test.YtgdmcnoogacdaaaGreatDoorBlLotB
import Derived.Deep.RegionHeld3
namespace Go.Proofs.YtgdmcnoogacdaaaGreatDoor.Ch
open Go.RowKit
set_option linter.unusedVariables false
theorem mk_more(F:Nat->Nat)(N m:Nat)(h:N<=8*m)(hF:∀i,F i<2):mk m (cutF F N)++[0]=mk (m+1) (cutF F N):=by
 apply bits_ext (by simp [length_mk])
 intro i hi;rw [List.length_append,length_mk,List.length_singleton] at hi;rw [bitN_mk (cutF_lt hF N) _ _ (by omega)]
 by_cases hl:i<8*m
 ·have e:bitN (mk m (cutF F N)++[0]) i=bitN (mk m (cutF F N)) i:=by
   unfold bitN;rw [getD_in _ _ (by simp [length_mk];omega),List.getElem_append_left (by rw [length_mk];omega),getD_in _ _ (by rw [length_mk];omega)]
  rw [e,bitN_mk (cutF_lt hF N) _ _ hl]
 ·have e:bitN (mk m (cutF F N)++[0]) i=0:=by
   unfold bitN;rw [getD_in _ _ (by simp [length_mk];omega),List.getElem_append_right (by rw [length_mk];omega)];simp [length_mk,show i/8=m from by omega]
  rw [e];unfold cutF;rw [if_neg (by omega)]
theorem set_zero{F:Nat->Nat}(hF:∀i,F i<2)(m N:Nat)(hN:N<8*m)(h0:F N=0):mk m (cutF F N)=mk m (cutF F (N+1)):=by
 congr 1
 funext i
 unfold cutF
 by_cases h:i<N
 ·rw [if_pos h,if_pos (by omega)]
 ·by_cases e:i=N
  ·subst e;rw [if_neg h,if_pos (by omega),h0]
  ·rw [if_neg h,if_neg (by omega)]
theorem pow_u8(k:Nat)(hk:k<7):((2^k:Nat):Int)*2%256=((2^(k+1):Nat):Int):=by
 have:k=0\/k=1\/k=2\/k=3\/k=4\/k=5\/k=6:=by omega
 rcases this with rfl|rfl|rfl|rfl|rfl|rfl|rfl<;>decide +kernel
theorem refput_room(F:Nat->Nat)(hF:∀i,F i<2)(g cap N m base:Nat)(w:World)(hm:m=N/8+1)(hN:N<=1125899906842600)(h8:¬N%8=0)(hbase:base<=g)
 (hown:Own w base (.slice (some ⟨g,0,none⟩) m cap) (mk m (cutF F N))):
 Calls Tryz.prog 191 #[.slice (some ⟨g,0,none⟩) m cap,.int .i64 N,.int .u64 (F N)] w fun e w'=>∃v,e=.returned v/\Own w' base v (mk m (cutF F (N+1)))/\Below base w w':=by
 have hq:((N:Int)%8==0)=false:=by rw [beq_eq_false_iff_ne];omega
 have hown':Own w base (.slice (some ⟨g,0,none⟩) (mk m (cutF F N)).length cap) (mk m (cutF F N)):=by rw [length_mk];exact hown
 obtain ⟨g',cap',hv,_,hglt,hcap,_,hcl⟩:=own_form hown (by rw [length_mk];omega);rw [length_mk] at hcap hcl hv;injection hv with hv1 _ hv3;injection hv1 with hv1;injection hv1 with hv1 _ _;subst hv1;subst hv3;have hfz:=own_frozen hown (N/8);have hci:=hcl (N/8) (by omega);obtain ⟨hz,hset⟩:=set_step hF m N (by omega);have Hset:=zz hset;have Hz:=zz hz;have Hown:=zz hown';have hFN:=hF N;have hx:=byte_toNat ((mk m (cutF F N)).getD (N/8) 0);have HZ:=zz (fun h=>set_zero hF m N (by omega) h);have hmlt:N/8<m:=by omega
 clear hset hz hcl hown hown' hF hm;generalize hl:mk m (cutF F N)=l at *;have hll:l.length=m:=by rw [<-hl];exact length_mk _ _
 have Hll:=zz hll;clear hl hll;generalize hxx:l.getD (N/8) 0=x at *;have Hxx:=zz hxx;clear hxx;generalize F N=d at *;go_enter Tryz.func191,Tryz.ntmps191
 go_wp2
 go_loop [7,8] (fun a i=>∃k:Nat,k<=7-N%8/\i=.int .i64 k/\a=.int .u8 (2^k:Nat)) (fun _ i=>8-(intOf i).toNat)
 case atStart=>exact ⟨0,Nat.zero_le _,rfl,rfl⟩
 case round =>
  obtain ⟨k,hk,rfl,rfl⟩:=hrel
  by_cases hlt:k<7-N%8
  ·have HP:=zz (pow_u8 k (by omega));generalize 2^k=p at *
   go_wp2
   exact ⟨⟨k+1,by omega,by go_num,by rw [HP.out]⟩,by simp [intOf];omega⟩
  ·have e:k=7-N%8:=by omega
   have HO:=zz (orByte_facts x (N%8) d (by omega) hFN (by rw [<-Hxx.out];exact Hz.out))
   by_cases h1:d=1
   ·have HV:=zz (show ((x.toNat:Int)+((2^k:Nat):Int))%256=((orByte x (N%8) d).toNat:Int) by
     have h2:=HO.out.2.1;have hb:=byte_toNat (orByte x (N%8) d);rw [h1,Nat.one_mul,<-e] at h2;rw [h1] at hb ⊢;omega)
    have hq1:((d:Int)==1)=true:=by rw [h1];rfl
    clear e;generalize 2^k=p at *;clear h1
    go_wp2
    go_ret;refine ⟨.slice (some ⟨g,0,none⟩) m cap,rfl,?_,(Below.refl _ _).setCell (p:=⟨g,N/8,none⟩) hbase _⟩;have h3:=own_set Hown.out (i:=N/8) (by rw [Hll.out];omega) (orByte x (N%8) d);rw [List.length_set,Hll.out] at h3;have h4:=Hset.out;rw [h4] at h3;rw [HV.out];exact h3
   ·have h0:d=0:=by omega
    have hq1:((d:Int)==1)=false:=by rw [h0];rfl
    have HZZ:=zz (HZ.out h0);clear e h0 h1;generalize 2^k=p at *
    go_wp2
    go_ret;refine ⟨.slice (some ⟨g,0,none⟩) m cap,rfl,?_,(Below.refl _ _)⟩;rw [<-HZZ.out];have h3:=Hown.out;rw [Hll.out] at h3;exact h3
theorem bys_0{w:World}{g:Nat}(h:Row w g 5 #[.int .u8 0]):Bys w (some ⟨g,0,none⟩) [0]:=Row.bys (l:=[0]) h
set_option maxHeartbeats 1000000 in
theorem refput_grow(F:Nat->Nat)(hF:∀i,F i<2)(v:Value)(N m base:Nat)(w:World)(hm:m=N/8+1)(hN:N<=1125899906842600)(h8:N%8=0)(hbw:base<=w.heap.size)
 (hown0:Own w base v (mk (N/8) (cutF F N))):
 Calls Tryz.prog 191 #[v,.int .i64 N,.int .u64 (F N)] w fun e w'=>∃v',e=.returned v'/\Own w' base v' (mk m (cutF F (N+1)))/\Below base w w':=by
 have hq:((N:Int)%8==0)=true:=by rw [beq_iff_eq];omega
 obtain ⟨i0,hi,hz0,hz1,hz2⟩:=info_parts u8_info;have HF:=zz hF;have Hm:=zz hm;have Hlen:(mk (N/8) (cutF F N)).length=N/8:=length_mk _ _;have hl1:(mk (N/8) (cutF F N)).length<=140737488355327:=by rw [Hlen];omega
 have H8:=zz h8;clear hF hm Hlen h8;have hd2:=HF.out N;generalize hd:F N=d at *;have Hd:=zz hd;clear hd;go_enter Tryz.func191,Tryz.ntmps191
 go_wp2_with (at_builtin;refine wpList_app _ rfl (.tmp 12) (.tmp 13) 24 rfl base i0 Tryz.underlying24 hi hz0 hz1 hz2 v (mk (N/8) (cutF F N)) rfl (own_alloc hown0 _) _ [0] 1 rfl (bys_0 (Row.new _ _ _)) (by simp only [List.length_singleton];omega) (Nat.le_trans hbw (by simp)) ?_;intro v1 w1 hown1 hg1 hat1)
 have hF:=HF.out;have hm:=Hm.out;have h8:=H8.out;rw [mk_more F N (N/8) (by omega) hF,<-hm] at hown1;have hbel1:Below base w w1:=Below.grown ((Below.refl base w).alloc hbw _) hg1 (Nat.le_trans hbw (by simp)) (fun k hk=>(World.ownsRow.lt hown0 _ hk).1);obtain ⟨g,cap,hv1,hbase,hgl1,_,_,_⟩:=own_form hown1 (by rw [length_mk];omega);rw [length_mk] at hv1;subst hv1;have hown:=hown1;clear hown1 hg1 hat1 hown0 hl1 HF Hm hz0 hz1 hz2 hi;have hown':Own w1 base (.slice (some ⟨g,0,none⟩) (mk m (cutF F N)).length cap) (mk m (cutF F N)):=by rw [length_mk];exact hown
 obtain ⟨g',cap',hv,_,hglt,hcap,_,hcl⟩:=own_form hown (by rw [length_mk];omega);rw [length_mk] at hcap hcl hv;injection hv with hv1 _ hv3;injection hv1 with hv1;injection hv1 with hv1 _ _;subst hv1;subst hv3;have hfz:=own_frozen hown (N/8);have hci:=hcl (N/8) (by omega);obtain ⟨hz,hset⟩:=set_step hF m N (by omega);have HZ:=zz (fun h=>set_zero hF m N (by omega) h);rw [Hd.out] at HZ hset;have Hset:=zz hset;have Hz:=zz hz;have Hown:=zz hown';have hFN:=hd2;have hx:=byte_toNat ((mk m (cutF F N)).getD (N/8) 0);have hmlt:N/8<m:=by omega
 clear hset hz hcl hown hown' hF hm h8;generalize hl:mk m (cutF F N)=l at *;have hll:l.length=m:=by rw [<-hl];exact length_mk _ _
 have Hll:=zz hll;clear hl hll;generalize hxx:l.getD (N/8) 0=x at *;have Hxx:=zz hxx;clear hxx
 go_loop [7,8] (fun a i=>∃k:Nat,k<=7-N%8/\i=.int .i64 k/\a=.int .u8 (2^k:Nat)) (fun _ i=>8-(intOf i).toNat)
 case atStart=>exact ⟨0,Nat.zero_le _,rfl,rfl⟩
 case round =>
  obtain ⟨k,hk,rfl,rfl⟩:=hrel
  by_cases hlt:k<7-N%8
  ·have HP:=zz (pow_u8 k (by omega));generalize 2^k=p at *
   go_wp2
   exact ⟨⟨k+1,by omega,by go_num,by rw [HP.out]⟩,by simp [intOf];omega⟩
  ·have e:k=7-N%8:=by omega
   have HO:=zz (orByte_facts x (N%8) d (by omega) hFN (by rw [<-Hxx.out];exact Hz.out))
   by_cases h1:d=1
   ·have HV:=zz (show ((x.toNat:Int)+((2^k:Nat):Int))%256=((orByte x (N%8) d).toNat:Int) by
     have h2:=HO.out.2.1;have hb:=byte_toNat (orByte x (N%8) d);rw [h1,Nat.one_mul,<-e] at h2;rw [h1] at hb ⊢;omega)
    have hq1:((d:Int)==1)=true:=by rw [h1];rfl
    clear e;generalize 2^k=p at *;clear h1
    go_wp2
    go_ret;refine ⟨.slice (some ⟨g,0,none⟩) m cap,rfl,?_,hbel1.setCell (p:=⟨g,N/8,none⟩) hbase _⟩;have h3:=own_set Hown.out (i:=N/8) (by rw [Hll.out];omega) (orByte x (N%8) d);rw [List.length_set,Hll.out] at h3;have h4:=Hset.out;rw [h4] at h3;rw [HV.out];exact h3
   ·have h0:d=0:=by omega
    have hq1:((d:Int)==1)=false:=by rw [h0];rfl
    have HZZ:=zz (HZ.out h0);clear e h0 h1;generalize 2^k=p at *
    go_wp2
    go_ret;refine ⟨.slice (some ⟨g,0,none⟩) m cap,rfl,?_,hbel1⟩;rw [<-HZZ.out];have h3:=Hown.out;rw [Hll.out] at h3;exact h3
theorem refput(F:Nat->Nat)(hF:∀i,F i<2)(v:Value)(N base:Nat)(w:World)(hN:N<=1125899906842600)(hbw:base<=w.heap.size)(hown:Own w base v (mk ((N+7)/8) (cutF F N))):
 Calls Tryz.prog 191 #[v,.int .i64 N,.int .u64 (F N)] w fun e w'=>∃v',e=.returned v'/\Own w' base v' (mk ((N+1+7)/8) (cutF F (N+1)))/\Below base w w':=by
 rw [show (N+1+7)/8=N/8+1 from by omega]
 by_cases h8:N%8=0
 ·rw [show (N+7)/8=N/8 from by omega] at hown;exact refput_grow F hF v N (N/8+1) base w rfl hN h8 hbw hown
 ·rw [show (N+7)/8=N/8+1 from by omega] at hown;obtain ⟨g,cap,hv,hb,_⟩:=own_form hown (by rw [length_mk];omega);rw [length_mk] at hv;subst hv;exact refput_room F hF g cap N (N/8+1) base w rfl hN h8 hb hown
theorem own_slice{w:World}{base:Nat}{v:Value}{x:List UInt8}(h:Own w base v x):∃B d,v=.slice B x.length d/\Bys w B x:=by
 rcases Nat.eq_zero_or_pos x.length with h0|h0
 ·obtain rfl:=List.eq_nil_of_length_eq_zero h0;rcases h.2 with ⟨rfl,_⟩|⟨g,cap,cur,rfl,_⟩
  ·exact ⟨none,0,rfl,Bys.empty _ _⟩
  ·exact ⟨some ⟨g,0,none⟩,cap,rfl,Bys.empty _ _⟩
 ·obtain ⟨g,cap,rfl,_⟩:=own_form h h0;exact ⟨_,_,rfl,own_bys h⟩
theorem bit_ref(A:Option Addr)(l:List UInt8)(c:Nat)(N:Int)(i:Nat)(w:World)(hA:Bys w A l)(hi:i<8*l.length)(hl:l.length<=562949953421312):
 Calls Tryz.prog 199 #[.agg #[.slice A l.length c,.int .i64 N],.int .i64 i] w fun e w'=>e=.returned (.int .u64 (bitN l i))/\Below w.heap.size w w':=by
 obtain ⟨b,o,rfl,hb,hc⟩:=hA.at_ (by omega);have hcell:=hc (i/8) (by omega);have hx:=byte_toNat (l.getD (i/8) 0);have Hn:=zz (show (l.getD (i/8) 0).toNat/2^(7-i%8)%2=bitN l i from rfl);generalize (l.getD (i/8) 0).toNat=x at *;clear hc;have hcell':∀o1,(w.alloc o1).cell? ⟨b,o+i/8,none⟩=some (.int .u8 (x:Int)):=fun o1=>by rw [World.cell?_alloc_past _ _ _ hb];exact hcell
 clear hcell;have hi2:i/8<l.length:=by omega
 go_enter Tryz.func199,Tryz.ntmps199
 go_wp2
 go_loop [5,6] (fun a k=>∃j:Nat,j<=7-i%8/\k=.int .i64 j/\a=.int .u64 (x/2^j:Nat)) (fun _ k=>8-(intOf k).toNat)
 case atStart=>exact ⟨0,Nat.zero_le _,rfl,by simp⟩
 case round =>
  obtain ⟨j,hj,rfl,rfl⟩:=hrel;have hle:x/2^j<=x:=Nat.div_le_self _ _;have H:=zz (show ((x/2^j:Nat):Int)/2=((x/2^(j+1):Nat):Int) by rw [Nat.pow_succ,<-Nat.div_div_eq_div_mul];omega);generalize hy:x/2^j=y at *;have Hy:=zz hy;clear hy
  by_cases hlt:j<7-i%8
  ·go_wp2
   go_round
   case rel=>exact ⟨j+1,by omega,by go_num,by rw [H.out]⟩
   case measure=>simp [intOf];omega
  ·go_wp2
   go_ret;refine ⟨ret_num ?_,below_one _ _⟩;have hjj:j=7-i%8:=by omega
   rw [<-Hn.out,<-hjj,Hy.out];omega
theorem right_ref_no(A:Option Addr)(l:List UInt8)(c:Nat)(N:Int)(w:World)(h0:N<0):
 Calls Tryz.prog 190 #[.agg #[.slice A l.length c,.int .i64 N]] w fun e w'=>e=.returned (.bool false)/\Below w.heap.size w w':=by
 go_enter Tryz.func190,Tryz.ntmps190
 go_wp2
 go_ret;exact ⟨rfl,below_one _ _⟩
theorem right_ref_len(A:Option Addr)(l:List UInt8)(c:Nat)(N:Nat)(w:World)(h1:N<=9223372036854775807)(hl:l.length<=562949953421312)(h:l.length≠(N+7)/8):
 Calls Tryz.prog 190 #[.agg #[.slice A l.length c,.int .i64 N]] w fun e w'=>e=.returned (.bool false)/\Below w.heap.size w w':=by
 have hne:((l.length:Int) !=(N:Int)/8+((N:Int)%8+7)/8)=true:=by rw [bne_iff_ne];omega
 have hn:decide ((N:Int)<0)=false:=by simp
 go_enter Tryz.func190,Tryz.ntmps190
 go_wp2
 go_ret;exact ⟨rfl,below_one _ _⟩
set_option maxHeartbeats 400000 in
theorem right_ref_loop(A:Option Addr)(l:List UInt8)(c:Nat)(N:Nat)(w:World)(hA:Bys w A l)(h1:N<=9223372036854775807)(hl:l.length<=562949953421312)(h:l.length=(N+7)/8):
 Calls Tryz.prog 190 #[.agg #[.slice A l.length c,.int .i64 N]] w fun e w'=>e=.returned (.bool (rightB l N))/\Below w.heap.size w w':=by
 have hne:((l.length:Int) !=(N:Int)/8+((N:Int)%8+7)/8)=false:=by rw [bne_eq_false_iff_eq];omega
 have hn:decide ((N:Int)<0)=false:=by simp
 have hN:N<=8*l.length:=by omega
 have H:=zz h;clear h;have hB0:(w.alloc (.cells #[.slice A l.length c,.int .i64 N] 126)).cell? ⟨w.heap.size,0,none⟩=some (.slice A l.length c):=by rw [World.cell?_alloc_at _ _ _ _ rfl];rfl
 have hB1:(w.alloc (.cells #[.slice A l.length c,.int .i64 N] 126)).cell? ⟨w.heap.size,1,none⟩=some (.int .i64 N):=by rw [World.cell?_alloc_at _ _ _ _ rfl];rfl
 have hW:=below_one w (.cells #[.slice A l.length c,.int .i64 N] 126);have hz:w.heap.size<(w.alloc (.cells #[.slice A l.length c,.int .i64 N] 126)).heap.size:=by simp
 go_enter Tryz.func190,Tryz.ntmps190
 go_wp2
 generalize (w.alloc (.cells #[.slice A l.length c,.int .i64 N] 126))=w1 at *;have hA1:=hA.below hW
 go_loopw [3] (fun i wr=>∃k:Nat,N<=k/\k<=8*l.length/\i=.int .i64 k/\Hid (∀j,N<=j->j<k->bitN l j=0)/\Below w1.heap.size w1 wr) (fun i _=>8*l.length-(intOf i).toNat)
 case atStart=>exact ⟨N,Nat.le_refl _,hN,rfl,fun j h1 h2=>by omega,Below.refl _ _⟩
 case round =>
  obtain ⟨k,hk1,hk2,rfl,hz0,hbr⟩:=hrel;have hB0r:=(hbr.cell (p:=⟨w.heap.size,0,none⟩) hz).trans hB0;have hB1r:=(hbr.cell (p:=⟨w.heap.size,1,none⟩) hz).trans hB1;have hAr:=hA1.below hbr;clear hB0 hB1
  by_cases hlt:k<8*l.length
  ·have hbt:=bitN_lt l k;have Hy:=zz (show bitN l k=bitN l k from rfl)
   by_cases hbit:bitN l k=0
   ·have hb:((bitN l k:Int) !=0)=false:=by rw [hbit];rfl
    have Hbit:=zz hbit;clear hbit
    go_wp2_with (go_at_call 199;refine (bit_ref A l c N k wr hAr hlt hl).mono ?_;rintro e w2 ⟨rfl,hb2⟩)
    go_roundw
    case rel =>
     refine ⟨k+1,by omega,by omega,by go_num,fun j h1 h2=>?_,below_then hbr hb2⟩
     by_cases e:j=k
     ·rw [e];exact Hbit.out
     ·exact hz0.out j h1 (by omega)
    case measure=>simp [intOf];omega
   ·have hb:((bitN l k:Int) !=0)=true:=by rw [bne_iff_ne];omega
    have hR:rightB l (N:Int)=false:=by
     rw [Bool.eq_false_iff];intro hr;exact hbit ((rightB_iff.1 hr).2.2 k (by rw [Int.toNat_natCast];exact hk1))
    have HR:=zz hR;clear hR hbit
    go_wp2_with (go_at_call 199;refine (bit_ref A l c N k wr hAr hlt hl).mono ?_;rintro e w2 ⟨rfl,hb2⟩)
    go_ret;exact ⟨ret_bool HR.out.symm,below_then (below_then hW hbr) hb2⟩
  ·have hR:rightB l (N:Int)=true:=by
    refine rightB_iff.2 ⟨by omega,by rw [Int.toNat_natCast];exact H.out,fun i hi=>?_⟩;rw [Int.toNat_natCast] at hi
    by_cases ho:8*l.length<=i
    ·exact bitN_out _ _ ho
    ·exact hz0.out i hi (by omega)
   have HR:=zz hR;clear hR
   go_wp2
   go_ret;exact ⟨ret_bool HR.out.symm,below_then hW hbr⟩
theorem right_ref(A:Option Addr)(l:List UInt8)(c:Nat)(N:Int)(w:World)(hA:Bys w A l)(h1:N<=9223372036854775807)(hl:l.length<=562949953421312):
 Calls Tryz.prog 190 #[.agg #[.slice A l.length c,.int .i64 N]] w fun e w'=>e=.returned (.bool (rightB l N))/\Below w.heap.size w w':=by
 by_cases h0:N<0
 ·rw [right_neg h0];exact right_ref_no A l c N w h0
 ·obtain ⟨k,rfl⟩:=Int.eq_ofNat_of_zero_le (show 0<=N by omega)
  by_cases h:l.length=(k+7)/8
  ·exact right_ref_loop A l c k w hA (by omega) hl h
  ·rw [right_size h];exact right_ref_len A l c k w (by omega) hl h
theorem get_bad_ref(A:Option Addr)(l:List UInt8)(c:Nat)(N a n:Int)(w:World)(hA:Bys w A l)(h1:N<=9223372036854775807)(hl:l.length<=562949953421312)
 (h:rightB l N=false\/n<0\/64<n\/a<0\/N<a):
 Calls Tryz.prog 164 #[.agg #[.slice A l.length c,.int .i64 N],.int .i64 a,.int .i64 n] w fun e w'=>e=.returned (.tuple #[.int .u64 0,.int .i64 2])/\Below w.heap.size w w':=by
 have hcase:rightB l N=false\/(rightB l N=true/\decide (n<0)=true)\/(rightB l N=true/\decide (n<0)=false/\decide (64<n)=true) \/
  (rightB l N=true/\decide (n<0)=false/\decide (64<n)=false/\decide (a<0)=true) \/
  (rightB l N=true/\decide (n<0)=false/\decide (64<n)=false/\decide (a<0)=false/\decide (N<a)=true):=by
  simp only [decide_eq_true_eq,decide_eq_false_iff_not];rcases h with h|h|h|h|h
  ·exact .inl h
  all_goals
   cases rightB l N
   ·exact .inl rfl
   ·simp only [Bool.true_eq_false,false_or,true_and];omega
 clear h;rcases hcase with h|⟨h,h2⟩|⟨h,h2,h3⟩|⟨h,h2,h3,h4⟩|⟨h,h2,h3,h4,h5⟩
 all_goals
  go_enter Tryz.func164,Tryz.ntmps164
  go_wp2_with (go_at_call 190;refine (right_ref A l c N _ (hA.below (below_one _ _)) h1 hl).mono ?_;rintro e w1 ⟨rfl,hb1⟩;obtain ⟨hs,hf⟩:=stands hb1)
  go_ret2;exact ⟨rfl,below_then (below_one _ _) hb1⟩
theorem get_short_ref(A:Option Addr)(l:List UInt8)(c:Nat)(N a n:Int)(w:World)(hA:Bys w A l)(h1:N<=9223372036854775807)(hl:l.length<=562949953421312)
 (hr:rightB l N=true)(hn0:0<=n)(hn:n<=64)(ha0:0<=a)(ha:a<=N)(h:N-a<n):
 Calls Tryz.prog 164 #[.agg #[.slice A l.length c,.int .i64 N],.int .i64 a,.int .i64 n] w fun e w'=>e=.returned (.tuple #[.int .u64 0,.int .i64 4])/\Below w.heap.size w w':=by
 have d1:decide (n<0)=false:=by simp;omega
 have d2:decide (64<n)=false:=by simp;omega
 have d3:decide (a<0)=false:=by simp;omega
 have d4:decide (N<a)=false:=by simp;omega
 go_enter Tryz.func164,Tryz.ntmps164
 go_wp2_with (go_at_call 190;refine (right_ref A l c N _ (hA.below (below_one _ _)) h1 hl).mono ?_;rintro e w1 ⟨rfl,hb1⟩;obtain ⟨hs,hf⟩:=stands hb1)
 go_ret2;exact ⟨rfl,below_then (below_one _ _) hb1⟩
set_option maxHeartbeats 400000 in
theorem get_ok_ref(A:Option Addr)(l:List UInt8)(c:Nat)(N a n:Nat)(w:World)(hA:Bys w A l)(hl:l.length<=562949953421312)
 (hr:rightB l (N:Int)=true)(hn:n<=64)(h:a+n<=N):
 Calls Tryz.prog 164 #[.agg #[.slice A l.length c,.int .i64 N],.int .i64 a,.int .i64 n] w fun e w'=>e=.returned (.tuple #[.int .u64 (getN l a n),.int .i64 0])/\Below w.heap.size w w':=by
 have hlen:=(rightB_iff.1 hr).2.1;rw [Int.toNat_natCast] at hlen;have hN:N<=8*l.length:=by omega
 clear hlen;have d1:decide ((n:Int)<0)=false:=by simp
 have d2:decide (64<(n:Int))=false:=by simp;omega
 have d3:decide ((a:Int)<0)=false:=by simp
 have d4:decide (N<a)=false:=by simp;omega
 have d5:decide ((N:Int)-(a:Int)<(n:Int))=false:=by simp;omega
 go_enter Tryz.func164,Tryz.ntmps164
 go_wp2_with (go_at_call 190;refine (right_ref A l c N _ (hA.below (below_one _ _)) (by omega) hl).mono ?_;rintro e w1 ⟨rfl,hb1⟩;obtain ⟨hs,hf⟩:=stands hb1)
 have hB0:w1.cell? ⟨w.heap.size,0,none⟩=some (.slice A l.length c):=by rw [hs _ _ (by simp),World.cell?_alloc_at _ _ _ _ rfl];rfl
 have hB1:w1.cell? ⟨w.heap.size,1,none⟩=some (.int .i64 N):=by rw [hs _ _ (by simp),World.cell?_alloc_at _ _ _ _ rfl];rfl
 have hz:w.heap.size<w1.heap.size:=by have:=hb1.size;simp at this;omega
 have hA1:Bys w1 A l:=hA.below (below_then (below_one _ _) hb1);clear hs hf
 go_loopw [8,9] (fun u i wr=>∃k:Nat,k<=n/\u=.int .u64 (getN l a k)/\i=.int .i64 k/\Below w1.heap.size w1 wr) (fun _ i _=>n-(intOf i).toNat)
 case atStart=>exact ⟨0,Nat.zero_le _,rfl,rfl,Below.refl _ _⟩
 case round =>
  obtain ⟨k,hk,rfl,rfl,hbr⟩:=hrel;have hB0r:=(hbr.cell (p:=⟨w.heap.size,0,none⟩) hz).trans hB0;have hB1r:=(hbr.cell (p:=⟨w.heap.size,1,none⟩) hz).trans hB1;have hAr:=hA1.below hbr;clear hB0 hB1
  by_cases hlt:k<n
  ·have hg:=getN_63 l a k (by omega);have hbt:=bitN_lt l (a+k);have Hn:=zz (show 2*getN l a k+bitN l (a+k)=getN l a (k+1) from rfl);have Hb:=zz (show ((a+k:Nat):Int)=(a:Int)+k by omega);generalize getN l a k=g at *
   go_wp2_with fail
   rw [<-Hb.out];refine (bit_ref A l c N (a+k) wr hAr (by omega) hl).mono ?_;rintro e w2 ⟨rfl,hb2⟩;generalize bitN l (a+k)=d at *
   go_wp2
   go_roundw
   case rel=>exact ⟨k+1,by omega,by rw [<-Hn.out];go_num,by go_num,below_then hbr hb2⟩
   case measure=>simp [intOf];omega
  ·have e:k=n:=by omega
   subst e
   go_wp2
   go_ret2;exact ⟨rfl,below_then (below_then (below_one _ _) hb1) hbr⟩
end Go.Proofs.YtgdmcnoogacdaaaGreatDoor.Ch

namespace Go.Proofs.YtgdmcnoogacdaaaGreatDoor.Ch
open Go.RowKit
set_option linter.unusedVariables false
set_option maxRecDepth 100000
theorem copy_same{l:List UInt8}{N:Nat}{F:Nat->Nat}(hr:rightB l (N:Int)=true)(hF2:∀i,F i<2)(hF:∀i,i<N->F i=bitN l i):l=mk ((N+7)/8) (cutF F N):=by
 have hlen:=(rightB_iff.1 hr).2.1;rw [Int.toNat_natCast] at hlen;have:=copy_start (m:=l.length) hr hF2 hF (Nat.le_refl _);rw [Nat.sub_self,List.replicate_zero,List.append_nil] at this;rw [<-hlen];exact this
set_option maxHeartbeats 1000000 in
theorem put_ok_ref(A:Option Addr)(l:List UInt8)(c:Nat)(N n u:Nat)(w:World)(hA:Bys w A l)(hl:l.length<=140737488355000)(hu:u<=18446744073709551615)
 (hr:rightB l (N:Int)=true)(hn:n<=64)(hsm:u<2^n):
 Calls Tryz.prog 151 #[.agg #[.slice A l.length c,.int .i64 N],.int .u64 u,.int .i64 n] w fun e w'=>∃v,
  e=.returned (.tuple #[.agg #[v,.int .i64 (N+n:Nat)],.int .i64 0])/\Own w' (w.heap.size+2) v (putL l N u n)/\Below w.heap.size w w':=by
 have hlen:=(rightB_iff.1 hr).2.1;rw [Int.toNat_natCast] at hlen;have hN:N<=1125899906842500:=by omega
 clear hlen;obtain ⟨i0,hi,hz0,hz1,hz2⟩:=info_parts u8_info;have d1:decide ((n:Int)<0)=false:=by simp
 have d2:decide (64<(n:Int))=false:=by simp;omega
 have d3:digs u<=n:=digs_le.2 hsm;have d4:decide (n<digs u)=false:=by simp;omega
 have HD:=zz (fun W=>digits_ref u W hu);clear hsm;generalize digs u=d at *;go_enter Tryz.func151,Tryz.ntmps151;have HPF:=zz (putF_lt l N u n);have HALL:=zz (show mk ((N+n+7)/8) (cutF (putF l N u n) (N+n))=putL l N u n from cut_all l N u n _);have HCS:=zz (copy_same hr (putF_lt l N u n) (fun i hi=>by unfold putF;rw [if_pos hi]));have HDD:=zz (show ∀k,k<n->putF l N u n (N+k)=dig u (n-1-k) from fun k hk=>by unfold putF;rw [if_neg (by omega),if_pos (by omega)];congr 1;omega)
 go_wp2_with (first
  | (go_at_call 190;refine (right_ref A l c N _ (hA.below (below_two _ _ _)) (by omega) (by omega)).mono ?_;rintro e w1 ⟨rfl,hb1⟩;obtain ⟨hs,hf⟩:=stands hb1;have hz1':w.heap.size+1<w1.heap.size:=(by have:=hb1.size;simp at this;omega);have hz0':w.heap.size<w1.heap.size:=(by omega))
  | (go_at_call 150;refine (HD.out _).mono ?_;rintro e w9 ⟨rfl,rfl⟩)
  | (at_builtin;refine wpList_app _ rfl (.tmp 27) (.tmp 29) 24 rfl (w.heap.size+2) i0 Tryz.underlying24 hi hz0 hz1 hz2 (.slice (some ⟨w1.heap.size,0,none⟩) 0 0) [] rfl (own_empty (Row.new w1 _ _) (by omega)) A l c rfl ((hA.below (below_then (below_two w _ _) hb1)).alloc _) (by show 0+l.length<=_;omega) (by simp;omega) ?_;intro v2 w2 hown2 hg2 hat2))
 have hW1:Below w.heap.size w (w1.alloc (.cells #[] 5)):=(below_then (below_two w _ _) hb1).alloc (by omega) _;have hW2:Below w.heap.size w w2:=hW1.grown hg2 hW1.size (fun k hk=>by simp [Value.ownBlock] at hk;omega);have RB:Row w2 w.heap.size 126 #[.slice A l.length c,.int .i64 N]:=grown_row ((((Row.new w 126 _).alloc _).below hb1 (by simp;omega)).alloc _) hg2 (by simp [Value.ownBlock];omega);have RR:Row w2 (w.heap.size+1) 126 #[.slice none 0 0,.int .i64 0]:=grown_row (((row_two w _ _ _).below hb1 (by simp)).alloc _) hg2 (by simp [Value.ownBlock];omega);have hs2:w.heap.size+2<=w2.heap.size:=by have:=hg2.size;simp at this;omega
 rw [List.nil_append] at hown2;have hown2':Own w2 (w.heap.size+2) v2 (mk ((N+7)/8) (cutF (putF l N u n) N)):=by rw [<-HCS.out];exact hown2
 have HRB:=zz RB;have HRR:=zz RR;have HO2:=zz hown2';have HW2:=zz hW2;clear hown2 hown2' hg2 hat2 hs hf RB RR hW1 hW2;generalize putF l N u n=F at *
 go_wp2_with fail
 go_loopw [8,9] (fun b i wr=>∃k:Nat,k<=n/\i=.int .i64 k/\Own wr (w.heap.size+2) b (mk ((N+k+7)/8) (cutF F (N+k)))/\Below (w.heap.size+2) w2 wr) (fun _ i _=>n-(intOf i).toNat)
 case atStart=>exact ⟨0,Nat.zero_le _,rfl,HO2.out,Below.refl _ _⟩
 case round =>
  obtain ⟨k,hk,rfl,hob,hbr⟩:=hrel;have HOB:=zz hob;clear hob;have x1:wr.cell? ⟨w.heap.size,1,none⟩=some (.int .i64 N):=(HRB.out.below hbr (by omega)).cell 1;have hsr:=hbr.size
  by_cases hlt:k<n
  ·have hw1:IntKind.i64.wrap ((n:Int)-1)=(n:Int)-1:=IntWalk.i64_in _ (by omega);have hw2:IntKind.i64.wrap ((n:Int)-1-k)=(n:Int)-1-k:=IntWalk.i64_in _ (by omega);have hw3:IntKind.i64.wrap ((N:Int)+k)=(N:Int)+k:=IntWalk.i64_in _ (by omega);have HG:=zz (show ∀W,Calls Tryz.prog 192 #[.int .u64 u,.int .i64 ((n:Int)-1-k)] W fun e w'=>e=.returned (.int .u64 (dig u (n-1-k)))/\W=w' from fun W=>by
    have:=digit_ref u (n-1-k) W hu (by omega);rw [show ((n-1-k:Nat):Int)=(n:Int)-1-k from by omega] at this;exact this)
   have HP:=zz (show ∀W b,w.heap.size+2<=W.heap.size->Own W (w.heap.size+2) b (mk ((N+k+7)/8) (cutF F (N+k)))->Calls Tryz.prog 191 #[b,.int .i64 ((N:Int)+k),.int .u64 (dig u (n-1-k))] W fun e w'=>∃v',e=.returned v'/\Own w' (w.heap.size+2) v' (mk ((N+(k+1)+7)/8) (cutF F (N+(k+1))))/\Below (w.heap.size+2) W w' from fun W b hB hO=>by
    have:=refput F HPF.out b (N+k) (w.heap.size+2) W (by omega) hB hO;rw [HDD.out k hlt,Int.natCast_add] at this;exact this)
   have HOd:Own wr.drew (w.heap.size+2) u8 (mk ((N+k+7)/8) (cutF F (N+k))):=HOB.out;have HOD:=zz HOd;clear HOd;generalize dig u (n-1-k)=dd at *
   go_wp2_with fail
   go_region_held3 (fun w'=>w'.cell? ⟨w.heap.size,1,none⟩=some (.int .i64 N))
    (first|exact y1|exact x1|go_keep)
    (first
      | (go_at_call 192;refine (HG.out _).mono ?_;rintro e w9 ⟨rfl,rfl⟩)
      | (go_at_call 191
         refine (HP.out _ _ (by first|exact Nat.le_trans (by omega) hsr) (by exact HOD.out)).mono ?_;rintro e w5 ⟨v5,rfl,hown5,hb5⟩;have y1:w5.cell? ⟨w.heap.size,1,none⟩=some (.int .i64 N):=(hb5.cell (p:=⟨w.heap.size,1,none⟩) (by show w.heap.size<w.heap.size+2;omega)).trans x1))
   all_goals
    go_wp2
    go_roundw
    case rel=>exact ⟨k+1,by omega,by go_num,hown5,hbr.drew.trans hb5⟩
    case measure=>simp [intOf];omega
  ·obtain rfl:k=n:=by omega
   have RR:=HRR.out.below hbr (by omega);have r0:wr.cell? ⟨w.heap.size+1,0,none⟩=some (.slice none 0 0):=RR.cell 0;have r1:wr.cell? ⟨w.heap.size+1,1,none⟩=some (.int .i64 0):=RR.cell 1;have f0:=RR.frozen 0;have f1:=RR.frozen 1;have HR:=zz RR;clear RR;obtain ⟨B,dd,rfl,_⟩:=own_slice HOB.out;generalize hlen:(mk ((N+k+7)/8) (cutF F (N+k))).length=ln at *;have Hlen:=zz hlen;clear hlen
   go_wp2
   have F1:=(HR.out.setAt 0 (.slice B ln dd)).setAt 1 (.int .i64 ((N:Int)+k));have O1:=ownsRow_setCell_below (ownsRow_setCell_below HOB.out (a:=⟨w.heap.size+1,0,none⟩) (by show w.heap.size+1<_;omega) (.slice B ln dd)) (a:=⟨w.heap.size+1,1,none⟩) (by show w.heap.size+1<_;omega) (.int .i64 ((N:Int)+k));have f5:=((HW2.out.trans (hbr.mono (by omega))).setCell (p:=⟨w.heap.size+1,0,none⟩) (by show _<=w.heap.size+1;omega) (.slice B ln dd)).setCell (p:=⟨w.heap.size+1,1,none⟩) (by show _<=w.heap.size+1;omega) (.int .i64 ((N:Int)+k));generalize hWW:((wr.setCell ⟨w.heap.size+1,0,none⟩ (.slice B ln dd)).setCell ⟨w.heap.size+1,1,none⟩ (.int .i64 ((N:Int)+k)))=WW at *;have q0:WW.cell? ⟨w.heap.size+1,0,none⟩=some (.slice B ln dd):=F1.cell 0;have q1:WW.cell? ⟨w.heap.size+1,1,none⟩=some (.int .i64 ((N:Int)+k)):=F1.cell 1;refine bodyPost_ret (v:=.tuple #[.agg #[.slice B ln dd,.int .i64 ((N:Int)+k)],.int .i64 0]) (by simp [results,Tryz.results151,go_sem,q0,q1]) rfl ⟨.slice B ln dd,by rw [Int.natCast_add],?_,f5⟩;have O2:Own WW (w.heap.size+2) (.slice B ln dd) (mk ((N+k+7)/8) (cutF F (N+k))):=O1;rw [HALL.out] at O2;exact O2
end Go.Proofs.YtgdmcnoogacdaaaGreatDoor.Ch

namespace Go.Proofs.YtgdmcnoogacdaaaGreatDoor.Ch
open Go.RowKit
set_option linter.unusedVariables false
theorem getnum_ref(A:Option Addr)(l:List UInt8)(c:Nat)(N a:Int)(w:World)(hA:Bys w A l)(h0:-9223372036854775808<=N)(h1:N<=9223372036854775807)(hl:l.length<=562949953421312):
 Calls Tryz.prog 126 #[.agg #[.slice A l.length c,.int .i64 N],.int .i64 a] w fun e w' =>
  e=.returned (.tuple #[.int .u64 (gnum l N a).1,.int .i64 (gnum l N a).2.1,.int .i64 (gnum l N a).2.2])/\Below w.heap.size w w':=by
 by_cases hbad:rightB l N=false\/a<0\/N<a
 ·have e0:gnum l N a=(0,0,2):=by unfold gnum;rw [if_pos hbad]
  rw [e0];go_enter Tryz.func126,Tryz.ntmps126
  go_wp2_with fail
  refine (get_bad_ref A l c N a 7 _ (hA.below (below_one _ _)) h1 hl (by rcases hbad with h|h|h<;>simp [h])).mono ?_;rintro e w1 ⟨rfl,hb1⟩
  go_wp2
  go_ret3;exact ⟨rfl,below_then (below_one _ _) hb1⟩
 have hr:rightB l N=true:=by
  cases h:rightB l N
  ·exact absurd (.inl h) hbad
  ·rfl
 have ha0:0<=a:=by omega
 have haN:a<=N:=by omega
 obtain ⟨b,rfl⟩:=Int.eq_ofNat_of_zero_le ha0;obtain ⟨M,rfl⟩:=Int.eq_ofNat_of_zero_le (show 0<=N by omega);have hlen:=(rightB_iff.1 hr).2.1;rw [Int.toNat_natCast] at hlen;have hM:M<=4503599627370496:=by omega
 clear hlen
 by_cases hs:(M:Int)-b<7
 ·have e0:gnum l M b=(0,0,4):=by unfold gnum;rw [if_neg hbad,if_pos hs]
  rw [e0];go_enter Tryz.func126,Tryz.ntmps126
  go_wp2_with fail
  refine (get_short_ref A l c M b 7 _ (hA.below (below_one _ _)) h1 hl hr (by omega) (by omega) (by omega) haN hs).mono ?_;rintro e w1 ⟨rfl,hb1⟩
  go_wp2
  go_ret3;exact ⟨rfl,below_then (below_one _ _) hb1⟩
 have hg7:=getN_lt l b 7;have first:∀W,Bys W A l->Calls Tryz.prog 164 #[.agg #[.slice A l.length c,.int .i64 M],.int .i64 b,.int .i64 7] W fun e w'=>e=.returned (.tuple #[.int .u64 (getN l b 7),.int .i64 0])/\Below W.heap.size W w' :=
  fun W hW=>get_ok_ref A l c M b 7 W hW hl hr (by omega) (by omega)
 have First:=zz first
 clear first
 by_cases h64:64<getN l b 7
 ·have e0:gnum l M b=(0,0,5):=by unfold gnum;rw [if_neg hbad,if_neg hs,Int.toNat_natCast,if_pos h64]
  rw [e0];clear e0;generalize getN l b 7=n at *;go_enter Tryz.func126,Tryz.ntmps126
  go_wp2_with fail
  refine (First.out _ (hA.below (below_one _ _))).mono ?_;rintro e w1 ⟨rfl,hb1⟩
  go_wp2
  go_ret3;exact ⟨rfl,below_then (below_one _ _) hb1⟩
 by_cases hs2:(M:Int)-(b+7)<getN l b 7
 ·have e0:gnum l M b=(0,0,4):=by unfold gnum;rw [if_neg hbad,if_neg hs,Int.toNat_natCast,if_neg h64,if_pos hs2]
  rw [e0];clear e0;generalize getN l b 7=n at *;go_enter Tryz.func126,Tryz.ntmps126
  go_wp2_with fail
  refine (First.out _ (hA.below (below_one _ _))).mono ?_;rintro e w1 ⟨rfl,hb1⟩;obtain ⟨hst,hfr⟩:=stands hb1
  go_wp2_with fail
  refine (get_short_ref A l c M (b+7) n w1 (hA.below (below_then (below_one _ _) hb1)) h1 hl hr (by omega) (by omega) (by omega) (by omega) hs2).mono ?_;rintro e w2 ⟨rfl,hb2⟩
  go_wp2
  go_ret3;exact ⟨rfl,below_then (below_then (below_one _ _) hb1) hb2⟩
 have second:∀W,Bys W A l->Calls Tryz.prog 164 #[.agg #[.slice A l.length c,.int .i64 M],.int .i64 ((b:Int)+7),.int .i64 (getN l b 7)] W fun e w' =>
  e=.returned (.tuple #[.int .u64 (getN l (b+7) (getN l b 7)),.int .i64 0])/\Below W.heap.size W w':=fun W hW=>by
  have:=get_ok_ref A l c M (b+7) (getN l b 7) W hW hl hr (by omega) (by omega);rw [Int.natCast_add] at this;exact this
 have Second:=zz second;clear second;have hu:=getN_64 l (b+7) (getN l b 7) (by omega);have hdle:=digs_64 hu;have len:∀W,Calls Tryz.prog 150 #[.int .u64 (getN l (b+7) (getN l b 7))] W fun e w'=>e=.returned (.int .i64 (digs (getN l (b+7) (getN l b 7))))/\W=w':=fun W=>digits_ref _ W hu
 have Len:=zz len;clear len
 by_cases hd:digs (getN l (b+7) (getN l b 7))≠getN l b 7
 ·have e0:gnum l M b=(0,0,5):=by unfold gnum;rw [if_neg hbad,if_neg hs,Int.toNat_natCast,if_neg h64,if_neg hs2,if_pos hd]
  rw [e0];clear e0;generalize getN l (b+7) (getN l b 7)=u at *;generalize getN l b 7=n at *;generalize digs u=k at *;have hne:((k:Int) !=(n:Int))=true:=by rw [bne_iff_ne];omega
  clear hd;go_enter Tryz.func126,Tryz.ntmps126
  go_wp2_with fail
  refine (First.out _ (hA.below (below_one _ _))).mono ?_;rintro e w1 ⟨rfl,hb1⟩;obtain ⟨hst,hfr⟩:=stands hb1
  go_wp2_with fail
  refine (Second.out w1 (hA.below (below_then (below_one _ _) hb1))).mono ?_;rintro e w2 ⟨rfl,hb2⟩
  go_wp2_with fail
  refine (Len.out w2).mono ?_;rintro e w3 ⟨rfl,rfl⟩
  go_wp2
  go_ret3;exact ⟨rfl,below_then (below_then (below_one _ _) hb1) hb2⟩
 ·have e0:gnum l M b=(getN l (b+7) (getN l b 7),(b:Int)+7+getN l b 7,0):=by unfold gnum;rw [if_neg hbad,if_neg hs,Int.toNat_natCast,if_neg h64,if_neg hs2,if_neg hd]
  rw [e0];clear e0;generalize getN l (b+7) (getN l b 7)=u at *;generalize getN l b 7=n at *;generalize digs u=k at *;have hne:((k:Int) !=(n:Int))=false:=by rw [bne_eq_false_iff_eq];omega
  clear hd;go_enter Tryz.func126,Tryz.ntmps126
  go_wp2_with fail
  refine (First.out _ (hA.below (below_one _ _))).mono ?_;rintro e w1 ⟨rfl,hb1⟩;obtain ⟨hst,hfr⟩:=stands hb1
  go_wp2_with fail
  refine (Second.out w1 (hA.below (below_then (below_one _ _) hb1))).mono ?_;rintro e w2 ⟨rfl,hb2⟩
  go_wp2_with fail
  refine (Len.out w2).mono ?_;rintro e w3 ⟨rfl,rfl⟩
  go_wp2
  go_ret3;exact ⟨rfl,below_then (below_then (below_one _ _) hb1) hb2⟩
set_option maxHeartbeats 1000000 in
theorem putnum_ok_ref(A:Option Addr)(l:List UInt8)(c:Nat)(N u:Nat)(w:World)(hA:Bys w A l)(hl:l.length<=140737488354000)(hu:u<=18446744073709551615)
 (hr:rightB l (N:Int)=true):
 Calls Tryz.prog 114 #[.agg #[.slice A l.length c,.int .i64 N],.int .u64 u] w fun e w'=>∃B d,
  e=.returned (.tuple #[.agg #[.slice B (numL l N u).length d,.int .i64 (N+(7+digs u):Nat)],.int .i64 0])/\Bys w' B (numL l N u)/\Below w.heap.size w w'/\∀ad,B=some ad->w.heap.size+1<ad.block:=by
 have hlen:=(rightB_iff.1 hr).2.1;rw [Int.toNat_natCast] at hlen;have hd:=digs_64 hu;have HD:=zz (fun W=>digits_ref u W hu);have HP:=zz (fun W hV=>put_ok_ref A l c N 7 (digs u) W hV (by omega) (by omega) hr (by omega) (by omega));have hpl:(putL l N (digs u) 7).length<=140737488355000:=by rw [putL,length_mk];omega
 have HQ:=zz (fun (B:Option Addr) (dd:Nat) W hV=>put_ok_ref B (putL l N (digs u) 7) dd (N+7) (digs u) u W hV hpl hu right_put (by omega) (digs_le.1 (Nat.le_refl _)));clear hpl hlen;have HN:=zz (show putL (putL l N (digs u) 7) (N+7) u (digs u)=numL l N u from rfl);generalize putL l N (digs u) 7=Y at *;rw [HN.out] at HQ;clear HN;generalize numL l N u=Z at *;generalize digs u=d at *;go_enter Tryz.func114,Tryz.ntmps114
 go_wp2_with (first
  | (go_at_call 150;refine (HD.out _).mono ?_;rintro e w9 ⟨rfl,rfl⟩))
 refine (HP.out _ (hA.below (below_two _ _ _))).mono ?_;rintro e w1 ⟨v1,rfl,hO1,hb1⟩;obtain ⟨B1,d1,rfl,hB1⟩:=own_slice hO1;have hW1:=below_then (below_two w _ _) hb1;have hR:Row w1 (w.heap.size+1) 126 #[.slice none 0 0,.int .i64 0]:=(row_two _ _ _ _).below hb1 (by simp);have HR:=zz hR;have k0:=hR.lt;clear hR hO1;have hB1a:=hB1.alloc;rw [Int.natCast_add]
 go_wp2_with fail
 refine (HQ.out B1 d1 _ (hB1a _)).mono ?_;rintro e w2 ⟨v2,rfl,hO2,hb2⟩;obtain ⟨B2,d2,rfl,hB2,hBb⟩:=own_slice' hO2;have RR:Row w2 (w.heap.size+1) 126 #[.slice none 0 0,.int .i64 0]:=(HR.out.alloc _).below hb2 (by simp;omega);have hW2:=below_then (hW1.alloc hW1.size _) hb2;have z0:w2.cell? ⟨w.heap.size+1,0,none⟩=some (.slice none 0 0):=RR.cell 0;have z1:w2.cell? ⟨w.heap.size+1,1,none⟩=some (.int .i64 0):=RR.cell 1;have f0:=RR.frozen 0;have f1:=RR.frozen 1;have HR2:=zz RR;have HBb:=zz hBb;have hk2:=hb2.size;simp at hk2;clear RR hO2 hBb;generalize hln:Z.length=ln at *;have Hln:=zz hln;clear hln
 go_wp2
 have F1:=(HR2.out.setAt 0 (.slice B2 ln d2)).setAt 1 (.int .i64 ((N:Int)+7+d));have O1:=(hB2.setAway (p:=⟨w.heap.size+1,0,none⟩) (fun ad e=>by have:=HBb.out ad e;simp at this;show ad.block≠w.heap.size+1;omega) (.slice B2 ln d2)).setAway (p:=⟨w.heap.size+1,1,none⟩) (fun ad e=>by have:=HBb.out ad e;simp at this;show ad.block≠w.heap.size+1;omega) (.int .i64 ((N:Int)+7+d));have f5:=(hW2.setCell (p:=⟨w.heap.size+1,0,none⟩) (by show _<=w.heap.size+1;omega) (.slice B2 ln d2)).setCell (p:=⟨w.heap.size+1,1,none⟩) (by show _<=w.heap.size+1;omega) (.int .i64 ((N:Int)+7+d));generalize hWW:((w2.setCell ⟨w.heap.size+1,0,none⟩ (.slice B2 ln d2)).setCell ⟨w.heap.size+1,1,none⟩ (.int .i64 ((N:Int)+7+d)))=WW at *;have q0:WW.cell? ⟨w.heap.size+1,0,none⟩=some (.slice B2 ln d2):=F1.cell 0;have q1:WW.cell? ⟨w.heap.size+1,1,none⟩=some (.int .i64 ((N:Int)+7+d)):=F1.cell 1;refine bodyPost_ret (v:=.tuple #[.agg #[.slice B2 ln d2,.int .i64 ((N:Int)+7+d)],.int .i64 0]) (by simp [results,Tryz.results114,go_sem,q0,q1]) rfl ⟨B2,d2,?_,O1,f5,fun ad e=>by have:=HBb.out ad e;simp at this;omega⟩;rw [Hln.out,show ((N+(7+d):Nat):Int)=(N:Int)+7+d from by omega]
end Go.Proofs.YtgdmcnoogacdaaaGreatDoor.Ch
