/- In one text, written by lotify.py: ChWrite, ChEncode, ChRead. -/
import Derived.Test.YtgdmcnoogacdaaaGreatDoorBlLotF
namespace Go.Proofs.YtgdmcnoogacdaaaGreatDoor.Ch
open Go.RowKit Go.Maps
set_option linter.unusedVariables false
theorem right_drop{y:List UInt8}{M:Nat}(h:rightB y (M:Int)=true):rightB (y.drop (M/8)) ((M%8:Nat):Int)=true:=by
 obtain ⟨_,h1,h2⟩:=rightB_iff.1 h;rw [Int.toNat_natCast] at h1 h2;refine rightB_iff.2 ⟨by omega,?_,fun i hi=>?_⟩
 ·rw [Int.toNat_natCast,List.length_drop,h1];omega
 ·rw [Int.toNat_natCast] at hi;have e:y=y.take (M/8)++y.drop (M/8):=(List.take_append_drop _ _).symm;have hl:(y.take (M/8)).length=M/8:=by rw [List.length_take,h1];omega
  have:=h2 (8*(M/8)+i) (by omega);have e2:bitN y (8*(M/8)+i)=bitN (y.drop (M/8)) i:=by
   have k:=bitN_behind (a:=y.take (M/8)) (l:=y.drop (M/8)) (i:=i);rw [<-e,hl] at k;exact k
  rw [<-e2];exact this
def Wr(w:World)(X base:Nat)(l:List UInt8)(N:Nat):Prop :=
 ∃(a r:List UInt8) (n:Nat) (vw:Value) (B:Option Addr) (d:Nat),l=a++r/\N=8*a.length+n/\n<8/\rightB r (n:Int)=true /\
  Row w X 128 #[vw,.slice B r.length d,.int .i64 (n:Int)]/\Own w base vw a/\Bys w B r/\(r=[]\/∃G o cs,B=some ⟨G,o,none⟩/\Row w G 5 cs)
theorem wr_new{w:World}{X base:Nat}(h:Row w X 128 #[.slice none 0 0,.slice none 0 0,.int .i64 0]):Wr w X base [] 0 :=
 ⟨[],[],0,_,none,0,rfl,rfl,by omega,right_nil,h,own_nil _ _,Bys.empty _ _,.inl rfl⟩
theorem Wr.below{w w':World}{X base:Nat}{l:List UInt8}{N:Nat}(h:Wr w X base l N)(hb:Below w.heap.size w w'):Wr w' X base l N:=by
 obtain ⟨a,r,n,vw,B,d,h1,h2,h3,h4,h5,h6,h7,h8⟩:=h;refine ⟨a,r,n,vw,B,d,h1,h2,h3,h4,h5.below hb h5.lt,own_below h6 hb,h7.below hb,?_⟩;rcases h8 with h8|⟨G,o,cs,e,hG⟩
 ·exact .inl h8
 ·exact .inr ⟨G,o,cs,e,hG.below hb hG.lt⟩
theorem row_types{w:World}{g g':Nat}{t t':TypeId}{cs cs':Array Value}(h:Row w g t cs)(k:Row w g' t' cs')(ht:t≠t'):g≠g':=by
 rintro rfl;unfold Row at h k;rw [h] at k;injection k with k;injection k with _ k _;exact ht k
theorem Wr.setFar{w:World}{X base:Nat}{l:List UInt8}{N:Nat}(h:Wr w X base l N){F:Nat}{t:TypeId}{cs:Array Value}(hF:Row w F t cs)(ht:t≠5)(hX:F≠X)(i:Nat)(u:Value):Wr (w.setCell ⟨F,i,none⟩ u) X base l N:=by
 obtain ⟨a,r,n,vw,B,d,h1,h2,h3,h4,h5,h6,h7,h8⟩:=h;have hne:vw.ownBlock≠some F:=fun e=>own_ne h6 hF ht e.symm
 refine ⟨a,r,n,vw,B,d,h1,h2,h3,h4,h5.setFar (p:=⟨F,i,none⟩) (Ne.symm hX) _,own_setFar h6 (p:=⟨F,i,none⟩) hne _,?_,?_⟩
 ·rcases h8 with h8|⟨G,o,cs',e,hG⟩
  ·exact .inl h8
  ·exact h7.setAway (p:=⟨F,i,none⟩) (fun ad e2=>by rw [e] at e2;injection e2 with e2;subst e2;exact Ne.symm (row_types hF hG ht)) _
 ·rcases h8 with h8|⟨G,o,cs',e,hG⟩
  ·exact .inl h8
  ·exact .inr ⟨G,o,cs',e,hG.setFar (p:=⟨F,i,none⟩) (Ne.symm (row_types hF hG ht)) _⟩
def Others(w w':World)(X:Nat):Prop:=∀g t cs,Row w g t cs->t≠5->g≠X->Row w' g t cs
theorem Others.set{w w':World}{X:Nat}(h:Others w w' X)(i:Nat)(u:Value):Others w (w'.setCell ⟨X,i,none⟩ u) X:=fun g t cs hr ht hg=>(h g t cs hr ht hg).setFar (p:=⟨X,i,none⟩) hg u
set_option maxRecDepth 20000 in
set_option maxHeartbeats 2000000 in
theorem num_prog{w:World}{X base:Nat}{l:List UInt8}{N u:Nat}(h:Wr w X base l N)(hX:base<=X)(hN:N<=1000000)(hu:u<=18446744073709551615):
 Calls Tryz.prog 69 #[.pointer (some ⟨X,0,none⟩),.int .u64 u] w fun e w'=>e=.returned (.tuple #[])/\Wr w' X base (numL l N u) (N+(7+digs u))/\Below base w w'/\Others w w' X:=by
 obtain ⟨a,r,n,vw,B,d,rfl,rfl,hn,hr,hR,hO,hB,_⟩:=h;have hrl:r.length<=1:=by have:=(rightB_iff.1 hr).2.1;rw [Int.toNat_natCast] at this;omega
 have hd:=digs_64 hu;have HP:=zz (fun W hV=>putnum_ok B r d n u W hV (by omega) hu hr);have hy:=right_num r n u;have hyl:=numL_length r n u;have hfr:=numL_front a r n u;rw [hfr];generalize hM:n+(7+digs u)=M at *;generalize numL r n u=y at *;have hcut:=right_drop hy;have HF:=zz (show ∀(w3:World) (v3:Value) (cs:Array Value) (x0 x1 x2:Value) (G L cap:Nat) (V:Option Addr),X≠G->Below base w w3->Others w w3 X->Row w3 X 128 #[x0,x1,x2]->Row w3 G 5 (bcells y)->Own w3 base v3 (a++y.take (M/8)) ->
  ((L=y.length-M/8/\V=some ⟨G,M/8,none⟩)\/(y.length=M/8/\L=0)) ->
  (Wr (((w3.setCell ⟨X,0,none⟩ v3).setCell ⟨X,1,none⟩ (.slice V L cap)).setCell ⟨X,2,none⟩ (.int .i64 ((M%8:Nat):Int))).drew X base (a++y) (8*a.length+n+(7+digs u)) /\
    Below base w (((w3.setCell ⟨X,0,none⟩ v3).setCell ⟨X,1,none⟩ (.slice V L cap)).setCell ⟨X,2,none⟩ (.int .i64 ((M%8:Nat):Int))).drew /\
    Others w (((w3.setCell ⟨X,0,none⟩ v3).setCell ⟨X,1,none⟩ (.slice V L cap)).setCell ⟨X,2,none⟩ (.int .i64 ((M%8:Nat):Int))).drew X) by
  intro w3 v3 cs x0 x1 x2 G L cap V hXG hb hoth h1 h2 h3 hV;have hne:v3.ownBlock≠some X:=fun e=>own_ne h3 h1 (by decide) e.symm
  have r1:=((h1.setAt 0 v3).setAt 1 (.slice V L cap)).setAt 2 (.int .i64 ((M%8:Nat):Int));have o1:=own_setFar (own_setFar (own_setFar h3 (p:=⟨X,0,none⟩) hne v3) (p:=⟨X,1,none⟩) hne (.slice V L cap)) (p:=⟨X,2,none⟩) hne (.int .i64 ((M%8:Nat):Int));have g1:=((h2.setFar (p:=⟨X,0,none⟩) (Ne.symm hXG) v3).setFar (p:=⟨X,1,none⟩) (Ne.symm hXG) (.slice V L cap)).setFar (p:=⟨X,2,none⟩) (Ne.symm hXG) (.int .i64 ((M%8:Nat):Int));refine ⟨⟨a++y.take (M/8),y.drop (M/8),M%8,v3,V,cap,by rw [List.append_assoc,List.take_append_drop],?_,by omega,hcut,?_,o1,?_,?_⟩,(((hb.setCell (p:=⟨X,0,none⟩) hX _).setCell (p:=⟨X,1,none⟩) hX _).setCell (p:=⟨X,2,none⟩) hX _).drew,((hoth.set 0 _).set 1 _).set 2 _⟩
  ·rw [List.length_append,List.length_take,hyl];omega
  ·have hL:(y.drop (M/8)).length=L:=by rw [List.length_drop];omega
   rw [hL];exact r1
  ·rcases hV with ⟨rfl,rfl⟩|⟨e,rfl⟩
   ·have:=g1.bys.from (M/8)
    rw [Nat.zero_add] at this;exact this
   ·rw [List.drop_eq_nil_of_le (by omega)];exact Bys.empty _ _
  ·rcases hV with ⟨rfl,rfl⟩|⟨e,rfl⟩
   ·exact .inr ⟨G,M/8,_,rfl,g1⟩
   ·exact .inl (List.drop_eq_nil_of_le (by omega)))
 have c1:w.cell? ⟨X,1,none⟩=some (.slice B r.length d):=hR.cell 1;have c2:w.cell? ⟨X,2,none⟩=some (.int .i64 (n:Int)):=hR.cell 2;have HR:=zz hR;have HO:=zz hO;have hXl:=hR.lt;have hyM:M/8<=y.length:=by omega
 have hMle:M<=100:=by omega
 have hk0:(M:Int)/8=((M/8:Nat):Int):=by omega
 have hm0:(M:Int)%8=((M%8:Nat):Int):=by omega
 have hm8:M%8<8:=by omega
 have hkm:M/8<=100:=by omega
 generalize M/8=k at *;generalize M%8=m8 at *;have hyM':(k:Int)<=(y.length:Int):=by omega
 clear hR hO hy hfr hcut hr hyl;go_enter Tryz.func69,Tryz.ntmps69
 go_wp2_with fail
 refine (HP.out w hB).mono ?_;rintro e w1 ⟨G,rfl,hG,hb1,hGw⟩;have hR1:=HR.out.below hb1 hXl;have hO1:=own_below HO.out hb1;obtain ⟨Pw,cw,hvw,_,_⟩:=own_slice' hO1;have hk1:(y.take (k)).length=k:=by rw [List.length_take];omega
 have hne:=own_ne hO1 hR1 (by decide);have hneG:some G≠vw.ownBlock:=by
  intro e;have:=(World.ownsRow.lt HO.out G e.symm).2;omega
 have hneB:some w1.heap.size≠vw.ownBlock:=by
  intro e;have:=(World.ownsRow.lt hO1 _ e.symm).2;omega
 have hXl1:=hR1.lt;have hGl:=hG.lt;have hXw:¬X=w1.heap.size:=by omega
 have hXw':¬w1.heap.size=X:=by omega
 obtain ⟨i0,hi,hz0,hz1,hz2⟩:=info_parts u8_info;have hbw:base<=w1.heap.size:=by have:=hb1.size;omega
 have HB0:=zz (show Below base w w1 from hb1.mono (by omega));generalize hW:(w1.alloc (.cells #[.slice (some ⟨G,0,none⟩) y.length y.length,.int .i64 (M:Int)] 126))=w2;have hRX:Row w2.drew X 128 #[vw,.slice B r.length d,.int .i64 (n:Int)]:=by subst hW;exact hR1.alloc _
 have hRB:Row w2.drew w1.heap.size 126 #[.slice (some ⟨G,0,none⟩) y.length y.length,.int .i64 (M:Int)]:=by subst hW;exact Row.new w1 _ _
 have hRG:Row w2.drew G 5 (bcells y):=by subst hW;exact hG.alloc _
 have hO2:Own w2.drew base vw a:=by subst hW;exact own_alloc hO1 _
 have hB2:Below base w w2.drew:=by subst hW;exact (HB0.out.alloc hbw _).drew
 have hs2:base<=w2.drew.heap.size:=Nat.le_trans (by omega) hB2.size;have hy1:Bys w2.drew (some ⟨G,0,none⟩) (y.take (k)):=hRG.bys.front _;have x0:w2.cell? ⟨X,0,none⟩=some vw:=hRX.cell 0;have q0:w2.cell? ⟨w1.heap.size,0,none⟩=some (.slice (some ⟨G,0,none⟩) y.length y.length):=hRB.cell 0;have q1:w2.cell? ⟨w1.heap.size,1,none⟩=some (.int .i64 (M:Int)):=hRB.cell 1;rw [hvw] at x0;have hT2:Others w w2.drew X:=by
  intro g t cs hr ht hg;have h1:=(hr.below hb1 hr.lt).alloc (.cells #[.slice (some ⟨G,0,none⟩) y.length y.length,.int .i64 (M:Int)] 126);subst hW;exact h1
 have HT2:=zz hT2;have HVW:=zz hvw;have HRX:=zz hRX;have HRB:=zz hRB;have HRG:=zz hRG;have HO2:=zz hO2;have HB2:=zz hB2;have HY1:=zz hy1;have HK1:=zz hk1;have hlen:a.length+(y.take (k)).length<=211106232532992:=by rw [hk1];omega
 have HLEN:=zz hlen;clear hT2 hR1 hG hO1 hvw hRX hRB hRG hO2 hB2 hy1 hk1 hlen
 go_wp2_with fail
 clear hW
 go_region_law
  (first
    | (refine step_app _ rfl (.tmp 23) (.tmp 27) 24 rfl base i0 Tryz.underlying24 hi hz0 hz1 hz2 vw a HVW.out.symm HO2.out (some ⟨G,0,none⟩) (y.take (k)) y.length (by rw [HK1.out];rfl) HY1.out HLEN.out hs2 ?_
       intro v3 w3 hown3 hg3 hat3;have hX3:=grown_row HRX.out hg3 hne;have hB3:=grown_row HRB.out hg3 hneB;have hG3:=grown_row HRG.out hg3 hneG;have y0:w3.cell? ⟨X,0,none⟩=some vw:=hX3.cell 0;have y1:w3.cell? ⟨X,1,none⟩=some (.slice B r.length d):=hX3.cell 1;have y2:w3.cell? ⟨X,2,none⟩=some (.int .i64 (n:Int)):=hX3.cell 2;have z0:=hX3.frozen 0;have z1:=hX3.frozen 1;have z2:=hX3.frozen 2;have p0:w3.cell? ⟨w1.heap.size,0,none⟩=some (.slice (some ⟨G,0,none⟩) y.length y.length):=hB3.cell 0;have p1:w3.cell? ⟨w1.heap.size,1,none⟩=some (.int .i64 (M:Int)):=hB3.cell 1;obtain ⟨B3,d3,hv3,_,_⟩:=own_slice' hown3;generalize (a++y.take (k)).length=ln at hv3;subst hv3;have HO3:=zz hown3;have HG3:=zz hG3;have HX3:=zz hX3;have HB3:=zz (show Below base w w3 from Below.grown HB2.out hg3 hs2 (fun k hk=>(World.ownsRow.lt HO2.out _ hk).1));have HT3:=zz (show Others w w3 X from fun g t cs hr ht hg=>by have h2:=HT2.out g t cs hr ht hg;exact grown_row h2 hg3 (own_ne HO2.out h2 ht));clear hX3 hB3 hG3 hown3 hg3 hat3))
 all_goals
  clear x0 q0 q1 c1 c2
  go_wp2_with fail
  go_region
 all_goals
  clear y0 y1 y2 z0 z1 z2 p0 p1
  go_wp2
  all_goals
   go_end0
   refine ⟨rfl,HF.out w3 _ #[] _ _ _ G _ _ _ (by omega) HB3.out HT3.out HX3.out HG3.out HO3.out ?_⟩
   first
    | exact .inl ⟨rfl,rfl⟩
    | exact .inr ⟨by assumption,rfl⟩
set_option maxRecDepth 20000 in
set_option maxHeartbeats 2000000 in
theorem bytes_prog{w:World}{X base:Nat}{l:List UInt8}{N:Nat}(h:Wr w X base l N)(hX:base<=X)(hN:N<=1000000):
 Calls Tryz.prog 70 #[.pointer (some ⟨X,0,none⟩)] w fun e w'=>∃v,e=.returned v/\Own w' base v l/\Below base w w':=by
 obtain ⟨a,r,n,vw,B,d,rfl,rfl,hn,hr,hR,hO,hB,_⟩:=h;have hrl:r.length<=1:=by have:=(rightB_iff.1 hr).2.1;rw [Int.toNat_natCast] at this;omega
 obtain ⟨Pw,cw,hvw,_,_⟩:=own_slice' hO;obtain ⟨i0,hi,hz0,hz1,hz2⟩:=info_parts u8_info;have c0:w.cell? ⟨X,0,none⟩=some vw:=hR.cell 0;have c1:w.cell? ⟨X,1,none⟩=some (.slice B r.length d):=hR.cell 1;have hXl:=hR.lt;have hs2:base<=w.drew.heap.size:=by show base<=w.heap.size;omega
 have HO:Hid (Own w.drew base vw a):=zz hO;have HB:Hid (Bys w.drew B r):=zz hB;have HVW:=zz hvw;have HLEN:=zz (show a.length+r.length<=211106232532992 by omega);have HD:=zz (show Below base w w.drew from (Below.refl _ _).drew);rw [hvw] at c0;clear hO hB hvw hR hr;go_enter Tryz.func70,Tryz.ntmps70
 go_wp2_with fail
 go_region_law
  (first
    | (refine step_app _ rfl (.tmp 6) (.tmp 11) 24 rfl base i0 Tryz.underlying24 hi hz0 hz1 hz2 vw a HVW.out.symm HO.out B r d rfl HB.out HLEN.out hs2 ?_
       intro v3 w3 hown3 hg3 hat3;obtain ⟨B3,d3,hv3,_,_⟩:=own_slice' hown3;generalize (a++r).length=ln at hv3;subst hv3;have HO3:=zz hown3;have HB3:=zz (show Below base w w3 from Below.grown HD.out hg3 hs2 (fun k hk=>(World.ownsRow.lt HO.out _ hk).1));clear hown3 hg3 hat3))
 all_goals
  go_wp2_with fail
  go_ret;exact ⟨_,rfl,HO3.out,HB3.out⟩
end Go.Proofs.YtgdmcnoogacdaaaGreatDoor.Ch

namespace Go.Proofs.YtgdmcnoogacdaaaGreatDoor.Ch
open Go.RowKit
set_option linter.unusedVariables false
def rowB(l:List Smp)(k:Nat):List UInt8 × Nat:=putNs ([],0) (l.length::body l k)
theorem rowB_next(l:List Smp)(k:Nat):rowB l (k+1)=(numL (numL (rowB l k).1 (rowB l k).2 (tnum l k)) ((rowB l k).2+(7+digs (tnum l k))) (vnum l k),(rowB l k).2+(7+digs (tnum l k))+(7+digs (vnum l k))):=by
 have e:l.length::body l (k+1)=((l.length::body l k)++[tnum l k])++[vnum l k]:=by
  show l.length::(body l k++[tnum l k,vnum l k])=_
  simp
 unfold rowB;rw [e,putNs_snoc,putNs_snoc]
theorem rowB_few{l:List Smp}(h:chk l=0){k:Nat}(hk:k<=l.length):(rowB l k).2<=20000:=by
 obtain ⟨_,h1,h2⟩:=chk_zero.1 h;unfold rowB;rw [putNs_end];have:=endN_few (l.length::body l k) 0 (fun u hu=>by
  rcases List.mem_cons.1 hu with rfl|hu
  ·omega
  ·exact body_lt h2 k hk u hu)
 rw [List.length_cons,body_len] at this
 show endN 0 _<=_
 omega
theorem rowB_all(l:List Smp):(rowB l l.length).1=encL l:=rfl
theorem plain_prog(k:Nat)(w:World)(hk:k<=1000):Calls Tryz.prog 106 #[.int .i64 (k:Int)] w fun e w'=>e=.returned (.bool (decide (k<2)))/\w=w':=by
 by_cases h:k<2
 ·have i1:decide ((k:Int)<2)=true:=by simp;omega
  rw [decide_eq_true h];go_enter Tryz.func106,Tryz.ntmps106
  go_wp2
  go_ret;exact ⟨rfl,rfl⟩
 ·have i1:decide ((k:Int)<2)=false:=by simp;omega
  rw [decide_eq_false h];go_enter Tryz.func106,Tryz.ntmps106
  go_wp2
  go_ret;exact ⟨rfl,rfl⟩
set_option maxRecDepth 20000 in
set_option maxHeartbeats 2000000 in
theorem lay_prog5{w:World}{X base:Nat}{l:List Smp}{A:Option Addr}{c:Nat}(h:Wr w X base [] 0)(hX:base<=X)(hXl:X<w.heap.size)(hl:chk l=0)(hA:∀W,Below base w W->Smps W A l):
 Calls Tryz.prog 68 #[.slice A l.length c,.func (.func 69) #[.pointer (some ⟨X,0,none⟩)] #[]] w fun e w'=>e=.returned (.tuple #[])/\Wr w' X base (rowB l l.length).1 (rowB l l.length).2/\Below base w w':=by
 obtain ⟨l0,l1,hg⟩:=chk_zero.1 hl;have HF:=zz (fun k (hk:k<=l.length)=>rowB_few hl hk);have HG:=zz hg;have HA:=zz hA;clear hA hg hl;go_enter Tryz.func68,Tryz.ntmps68
 go_wp2_with fail
 refine (num_prog h hX (by omega) (by omega)).mono ?_;rintro e w1 ⟨rfl,hw1,hb1,ho1⟩;rw [show (numL [] 0 l.length)=(rowB l 0).1 from rfl,show 0+(7+digs l.length)=(rowB l 0).2 from rfl] at hw1;have HW1:=zz hw1;have hbs:=hb1.size;have hF1:Row (w1.alloc (.cells #[.int .i64 0,.int .i64 0] 83)) w1.heap.size 83 #[.int .i64 0,.int .i64 0]:=Row.new w1 _ _;have hW1:=hw1.below (below_one w1 (.cells #[.int .i64 0,.int .i64 0] 83));have hB1:=hb1.alloc (by omega) (.cells #[.int .i64 0,.int .i64 0] 83);generalize hF:w1.heap.size=F at *;clear hw1 ho1 h
 go_wp2_with fail
 clear HW1
 go_loopw [5,17] (fun bf i wr=>∃k:Nat,k<=l.length/\i=.int .i64 (k:Int)/\bf=.int .i64 (preD l k)/\Row wr F 83 #[.int .i64 (preT l k),.int .i64 (preV l k)]/\Wr wr X base (rowB l k).1 (rowB l k).2/\Below base w wr) (fun _ i _=>l.length-(intOf i).toNat)
 case atStart=>exact ⟨0,Nat.zero_le _,rfl,rfl,hF1,hW1,hB1⟩
 case round =>
  clear hF1 hW1 hB1;obtain ⟨k,hk,rfl,rfl,hFr,hWr,hBr⟩:=hrel;have hsz:=hBr.size
  by_cases hlt:k<l.length
  ·obtain ⟨b,o,rfl,hb,g0,g1⟩:=(HA.out wr hBr).at_ hlt;have i2:(k:Int)<(l.length:Int):=by omega
   have b1:=good_at HG.out hlt;have b2:=good_pre HG.out hk;have b3:=good_dist HG.out hlt;have b4:=good_preD HG.out hk;have t1:=tnum_lt HG.out hlt;have v1:=vnum_lt HG.out hlt;have hFl:=hFr.lt;have HN:=zz (HF.out k hk);have HT:=zz (show preT l (k+1)=tOf l k from rfl);have HV:=zz (show preV l (k+1)=vOf l k from rfl);have HD:=zz (show preD l (k+1)=dist l k from rfl);have HDT:=zz (show tOf l k-preT l k=dist l k from rfl);have HTN:=zz (show if k<2 then dist l k=(tnum l k:Int) else tnum l k=zig (dist l k-preD l k) by
    unfold tnum
    split
    ·omega
    ·rfl)
   have HVN:=zz (show vnum l k=zig (vOf l k-preV l k) from rfl);have HNX:=zz (rowB_next l k);generalize tOf l k=T at *;generalize vOf l k=V at *;generalize preT l k=PT at *;generalize preV l k=PV at *;generalize hDV:V-PV=DV at HVN;have HDV:=zz hDV;have b5:-2305843009213693952<=DV/\DV<=2305843009213693952:=by omega
   clear hDV;generalize preD l k=PD at *;generalize dist l k=D at *;generalize tnum l k=tn at *;generalize vnum l k=vn at *;generalize hRR:rowB l (k+1)=R1 at *;have HRR:=zz hRR;clear hRR;generalize rowB l k=R0 at *;have hR1:Row (wr.alloc (.cells #[.int .i64 T,.int .i64 V] 83)) wr.heap.size 83 #[.int .i64 T,.int .i64 V]:=Row.new wr _ _;have hF1:Row (wr.alloc (.cells #[.int .i64 T,.int .i64 V] 83)) F 83 #[.int .i64 PT,.int .i64 PV]:=hFr.alloc _;have hW1:=hWr.below (below_one wr (.cells #[.int .i64 T,.int .i64 V] 83));have hB1:=hBr.alloc (by omega) (.cells #[.int .i64 T,.int .i64 V] 83);have f0:(wr.alloc (.cells #[.int .i64 T,.int .i64 V] 83)).cell? ⟨F,0,none⟩=some (.int .i64 PT):=hF1.cell 0;have f1:(wr.alloc (.cells #[.int .i64 T,.int .i64 V] 83)).cell? ⟨F,1,none⟩=some (.int .i64 PV):=hF1.cell 1;have Hfin:=zz (show ∀(w2:World),Below base w w2->Others (wr.alloc (.cells #[.int .i64 T,.int .i64 V] 83)) w2 X->Wr w2 X base (numL R0.1 R0.2 tn) (R0.2+(7+digs tn)) ->
    Row w2 F 83 #[.int .i64 PT,.int .i64 PV]/\Row w2 wr.heap.size 83 #[.int .i64 T,.int .i64 V] /\
    ∀(w3:World),Below base w2 w3->Others w2 w3 X->Wr w3 X base (numL (numL R0.1 R0.2 tn) (R0.2+(7+digs tn)) vn) (R0.2+(7+digs tn)+(7+digs vn)) ->
     Row w3 F 83 #[.int .i64 PT,.int .i64 PV]/\Row w3 wr.heap.size 83 #[.int .i64 T,.int .i64 V] /\
     Row ((w3.setCell ⟨F,0,none⟩ (.int .i64 T)).setCell ⟨F,1,none⟩ (.int .i64 V)) F 83 #[.int .i64 (preT l (k+1)),.int .i64 (preV l (k+1))] /\
     Wr ((w3.setCell ⟨F,0,none⟩ (.int .i64 T)).setCell ⟨F,1,none⟩ (.int .i64 V)) X base R1.1 R1.2/\Below base w ((w3.setCell ⟨F,0,none⟩ (.int .i64 T)).setCell ⟨F,1,none⟩ (.int .i64 V)) by
    intro w2 k1 k2 k3;have hFX:F≠X:=by omega
    have hSX:wr.heap.size≠X:=by omega
    have r1:=k2 _ _ _ hF1 (by decide) hFX;have r2:=k2 _ _ _ hR1 (by decide) hSX;refine ⟨r1,r2,fun w3 m1 m2 m3=>?_⟩;have r3:=m2 _ _ _ r1 (by decide) hFX;have r4:=m2 _ _ _ r2 (by decide) hSX;refine ⟨r3,r4,?_,?_,((k1.trans m1).setCell (p:=⟨F,0,none⟩) (by show base<=F;omega) _).setCell (p:=⟨F,1,none⟩) (by show base<=F;omega) _⟩
    ·rw [HT.out,HV.out];exact (r3.setAt 0 _).setAt 1 _
    ·rw [HNX.out];exact (m3.setFar r3 (by decide) hFX 0 _).setFar (r3.setAt 0 _) (by decide) hFX 1 _)
   clear hFr hWr
   by_cases hk2:k<2
   ·rw [if_pos hk2] at HTN;have hdec:decide (k<2)=true:=decide_eq_true hk2;have hTD:T-PT=(tn:Int):=by rw [HDT.out];exact HTN.out
    have hVD:V-PV=DV:=HDV.out;have HZ:=zz (fun W=>by have:=zig_prog DV W (by omega) (by omega);rw [<-HVN.out] at this;exact this);have HD2:=zz (show D=(tn:Int) from HTN.out)
    go_wp2_with fail
    refine (plain_prog k _ (by omega)).mono ?_;rintro e w2 ⟨rfl,rfl⟩;rw [hdec]
    go_wp2_with fail
    refine (num_prog hW1 hX (by have:=HN.out;omega) t1).mono ?_;rintro e w2 ⟨rfl,hw2,hb2,ho2⟩;obtain ⟨r1,r2,r3⟩:=Hfin.out w2 (hB1.trans hb2) ho2 hw2;have f1':w2.cell? ⟨F,1,none⟩=some (.int .i64 PV):=r1.cell 1;have s1':w2.cell? ⟨wr.heap.size,1,none⟩=some (.int .i64 V):=r2.cell 1;have Hr3:=zz r3;clear r1 r2 r3 ho2 f0 f1
    go_wp2_with fail
    refine (HZ.out _).mono ?_;rintro e w2' ⟨rfl,rfl⟩
    go_wp2_with fail
    refine (num_prog hw2 hX (by have:=HN.out;have:=digs_64 t1;omega) v1).mono ?_;rintro e w3 ⟨rfl,hw3,hb3,ho3⟩;obtain ⟨r1,r2,r3,r4,r5⟩:=Hr3.out w3 hb3 ho3 hw3;have f0:w3.cell? ⟨F,0,none⟩=some (.int .i64 PT):=r1.cell 0;have f1:w3.cell? ⟨F,1,none⟩=some (.int .i64 PV):=r1.cell 1;have z0:=r1.frozen 0;have z1:=r1.frozen 1;have s0:w3.cell? ⟨wr.heap.size,0,none⟩=some (.int .i64 T):=r2.cell 0;have s1:w3.cell? ⟨wr.heap.size,1,none⟩=some (.int .i64 V):=r2.cell 1;have H3:=zz r3;have H4:=zz r4;have H5:=zz r5;clear r1 r2 r3 r4 r5 hw2 hw3 ho3 f1' s1'
    go_wp2_with fail
    go_roundw
    case rel=>exact ⟨k+1,by omega,by go_num,by rw [HD.out,HD2.out],H3.out,by rw [HRR.out];exact H4.out,H5.out⟩
    case measure=>simp [intOf];omega
   ·rw [if_neg hk2] at HTN;have hdec:decide (k<2)=false:=decide_eq_false hk2;have hTD:T-PT=D:=HDT.out;have hVD:V-PV=DV:=HDV.out;have HZ:=zz (fun W=>by have:=zig_prog DV W (by omega) (by omega);rw [<-HVN.out] at this;exact this);have HZT:=zz (fun W=>by have:=zig_prog (D-PD) W (by omega) (by omega);rw [<-HTN.out] at this;exact this)
    go_wp2_with fail
    refine (plain_prog k _ (by omega)).mono ?_;rintro e w2 ⟨rfl,rfl⟩;rw [hdec]
    go_wp2_with fail
    refine (HZT.out _).mono ?_;rintro e w2 ⟨rfl,rfl⟩
    go_wp2_with fail
    refine (num_prog hW1 hX (by have:=HN.out;omega) t1).mono ?_;rintro e w2 ⟨rfl,hw2,hb2,ho2⟩;obtain ⟨r1,r2,r3⟩:=Hfin.out w2 (hB1.trans hb2) ho2 hw2;have f1':w2.cell? ⟨F,1,none⟩=some (.int .i64 PV):=r1.cell 1;have s1':w2.cell? ⟨wr.heap.size,1,none⟩=some (.int .i64 V):=r2.cell 1;have Hr3:=zz r3;clear r1 r2 r3 ho2 f0 f1
    go_wp2_with fail
    refine (HZ.out _).mono ?_;rintro e w2' ⟨rfl,rfl⟩
    go_wp2_with fail
    refine (num_prog hw2 hX (by have:=HN.out;have:=digs_64 t1;omega) v1).mono ?_;rintro e w3 ⟨rfl,hw3,hb3,ho3⟩;obtain ⟨r1,r2,r3,r4,r5⟩:=Hr3.out w3 hb3 ho3 hw3;have f0:w3.cell? ⟨F,0,none⟩=some (.int .i64 PT):=r1.cell 0;have f1:w3.cell? ⟨F,1,none⟩=some (.int .i64 PV):=r1.cell 1;have z0:=r1.frozen 0;have z1:=r1.frozen 1;have s0:w3.cell? ⟨wr.heap.size,0,none⟩=some (.int .i64 T):=r2.cell 0;have s1:w3.cell? ⟨wr.heap.size,1,none⟩=some (.int .i64 V):=r2.cell 1;have H3:=zz r3;have H4:=zz r4;have H5:=zz r5;clear r1 r2 r3 r4 r5 hw2 hw3 ho3 f1' s1'
    go_wp2_with fail
    go_roundw
    case rel=>exact ⟨k+1,by omega,by go_num,by rw [HD.out],H3.out,by rw [HRR.out];exact H4.out,H5.out⟩
    case measure=>simp [intOf];omega
  ·obtain rfl:k=l.length:=by omega
   go_wp2_with fail
   go_end0
   exact ⟨rfl,hWr,hBr⟩
theorem encode_prog(A:Option Addr)(l:List Smp)(c:Nat)(w:World)(hA:Smps w A l)(hlen:l.length<=100000000000000):
 Calls Tryz.prog 33 #[.slice A l.length c] w fun e w'=>∃v,e=.returned (.tuple #[v,.int .i64 (chk l)])/\Own w' w.heap.size v (if chk l=0 then encL l else [])/\Below w.heap.size w w':=by
 have HC:=zz (fun W (hW:Below w.heap.size w W)=>chk_prog A l c W (hA.below hW) hlen)
 by_cases h0:chk l=0
 ·rw [if_pos h0,h0];have HC0:=zz (fun W hW=>by have:=HC.out W hW;rw [h0] at this;exact this);have hmf:∀(fn:Fn) (first cap:Array Value) (w:World),(Instr.makeFunc fn first cap).run Tryz.prog w=.ok (.func fn first cap) w:=fun _ _ _ _=>rfl
  have HF:=zz (rowB_few h0 (Nat.le_refl _));have H0:=zz h0;clear h0;go_enter Tryz.func33,Tryz.ntmps33
  go_wp2_with fail
  refine (HC0.out _ (Below.refl _ _)).mono ?_;rintro e w1 ⟨rfl,hb1⟩;have hs1:=hb1.size;have hb2:=hb1.alloc hs1 (.cells #[.slice none 0 0,.slice none 0 0,.int .i64 0] 128);have hX:Row (w1.alloc (.cells #[.slice none 0 0,.slice none 0 0,.int .i64 0] 128)) w1.heap.size 128 #[.slice none 0 0,.slice none 0 0,.int .i64 0]:=Row.new w1 _ _;have hXl:=hX.lt
  go_wp2_with fail
  refine (lay_prog5 (base:=w.heap.size) (wr_new hX) hs1 hXl H0.out (fun W hW=>hA.below (hb2.trans hW))).mono ?_;rintro e w3 ⟨rfl,hw3,hb3⟩
  go_wp2_with fail
  refine (bytes_prog hw3 hs1 (by have:=HF.out;omega)).mono ?_;rintro e w4 ⟨v,rfl,hv,hb4⟩;have HV:=zz hv;obtain ⟨Pv,cv,hvv,_,_⟩:=own_slice' hv;rw [rowB_all] at HV hvv;generalize (encL l).length=ln at hvv;clear hv;subst hvv
  go_wp2_with fail
  go_ret2;exact ⟨_,rfl,HV.out,(hb2.trans hb3).trans hb4⟩
 ·rw [if_neg h0];have hne:(chk l !=0)=true:=by rw [bne_iff_ne];exact h0
  generalize chk l=e at *;go_enter Tryz.func33,Tryz.ntmps33
  go_wp2_with fail
  refine (HC.out _ (Below.refl _ _)).mono ?_;rintro e w1 ⟨rfl,hb1⟩
  go_wp2_with fail
  go_ret2;exact ⟨_,rfl,own_nil _ _,hb1⟩
end Go.Proofs.YtgdmcnoogacdaaaGreatDoor.Ch

namespace Go.Proofs.YtgdmcnoogacdaaaGreatDoor.Ch
open Go.RowKit Go.Maps
set_option linter.unusedVariables false
def broken:List PanicEntry:=[{ v:=.iface 25 (.int .i64 5),recovered:=false }]
theorem must_yes(w:World):Calls Tryz.prog 168 #[.bool true] w fun e w'=>e=.returned (.tuple #[])/\w=w':=by
 have hnot:∀(x:Bool) (w:World),(Op.unary .not (.bool x)).run Tryz.prog w=.ok (.bool (!x)) w:=fun _ _=>rfl
 go_enter Tryz.func168,Tryz.ntmps168
 go_wp2
 go_end0
 exact ⟨rfl,rfl⟩
theorem must_no(w:World):Calls Tryz.prog 168 #[.bool false] w fun e w'=>e=.panicked broken/\w=w':=by
 go_enter Tryz.func168,Tryz.ntmps168
 go_wp2
 exact ⟨rfl,rfl,rfl⟩
def Rd(w:World)(X:Nat)(A:Option Addr)(b:List UInt8)(c p:Nat):Prop :=
 Row w X 257 #[.slice A b.length c,.int .i64 ((8*b.length:Nat):Int),.int .i64 (p:Int)]
set_option maxRecDepth 20000 in
set_option maxHeartbeats 1000000 in
theorem rnum_yes{w:World}{X:Nat}{A:Option Addr}{b:List UInt8}{c p u q:Nat}(h:Rd w X A b c p)(hA:Bys w A b)(hl:b.length<=140737488355328)(hg:gnum b ((8*b.length:Nat):Int) p=(u,(q:Int),0)):
 Calls Tryz.prog 167 #[.pointer (some ⟨X,0,none⟩)] w fun e w'=>e=.returned (.int .u64 (u:Int))/\Rd w' X A b c q/\Two w w' X X:=by
 have HG:=zz (fun W hW=>by have:=getnum_prog A b c ((8*b.length:Nat):Int) p W hW (by omega) (by omega) (by omega);rw [hg] at this;exact this);have hX:Row w.drew X 257 #[.slice A b.length c,.int .i64 ((8*b.length:Nat):Int),.int .i64 (p:Int)]:=h;have c0:w.cell? ⟨X,0,none⟩=some (.slice A b.length c):=hX.cell 0;have c1:w.cell? ⟨X,1,none⟩=some (.int .i64 ((8*b.length:Nat):Int)):=hX.cell 1;have c2:w.cell? ⟨X,2,none⟩=some (.int .i64 (p:Int)):=hX.cell 2;have hAd:Bys w.drew A b:=hA;have HX:=zz hX;have HAd:=zz hAd;clear hX hAd h hA hg;generalize hN:8*b.length=N at *;have HNN:=zz hN;clear hN;go_enter Tryz.func167,Tryz.ntmps167
 go_wp2_with fail
 go_region_with (go_at_call 201
                 refine (HG.out _ HAd.out).mono ?_;rintro e w2 ⟨rfl,hb2⟩;have hX2:=HX.out.below hb2 HX.out.lt;have y2:w2.cell? ⟨X,2,none⟩=some (.int .i64 (p:Int)):=hX2.cell 2;have z2:=hX2.frozen 2;have HX2:=zz hX2;have HB2:=zz hb2)
 all_goals
  clear c0 c1 c2
  go_wp2_with fail
  refine (must_yes _).mono ?_;rintro e w3 ⟨rfl,rfl⟩
  go_wp2_with fail
  go_ret;refine ⟨rfl,(by unfold Rd;rw [HNN.out];exact HX2.out.setAt 2 _),?_⟩;have k:Two w w2 X X:=⟨HB2.out.os,HB2.out.tape,HB2.out.output,HB2.out.size,fun i hi _ _=>HB2.out.block i hi⟩;exact k.set (p:=⟨X,2,none⟩) (.inl rfl) _
set_option maxRecDepth 20000 in
set_option maxHeartbeats 1000000 in
theorem rnum_no{w:World}{X:Nat}{A:Option Addr}{b:List UInt8}{c p:Nat}{code:Int}(h:Rd w X A b c p)(hA:Bys w A b)(hl:b.length<=140737488355328)(hc:(code !=0)=true)(hg:gnum b ((8*b.length:Nat):Int) p=(0,0,code)):
 Calls Tryz.prog 167 #[.pointer (some ⟨X,0,none⟩)] w fun e w'=>e=.panicked broken/\Two w w' X X:=by
 have HG:=zz (fun W hW=>by have:=getnum_prog A b c ((8*b.length:Nat):Int) p W hW (by omega) (by omega) (by omega);rw [hg] at this;exact this);have hX:Row w.drew X 257 #[.slice A b.length c,.int .i64 ((8*b.length:Nat):Int),.int .i64 (p:Int)]:=h;have c0:w.cell? ⟨X,0,none⟩=some (.slice A b.length c):=hX.cell 0;have c1:w.cell? ⟨X,1,none⟩=some (.int .i64 ((8*b.length:Nat):Int)):=hX.cell 1;have c2:w.cell? ⟨X,2,none⟩=some (.int .i64 (p:Int)):=hX.cell 2;have hAd:Bys w.drew A b:=hA;have HX:=zz hX;have HAd:=zz hAd;have he:(code==0)=false:=by rw [beq_eq_false_iff_ne];exact bne_iff_ne.1 hc
 clear hX hAd h hA hg;generalize hN:8*b.length=N at *;have HNN:=zz hN;clear hN;go_enter Tryz.func167,Tryz.ntmps167
 go_wp2_with fail
 go_region_with (go_at_call 201
                 refine (HG.out _ HAd.out).mono ?_;rintro e w2 ⟨rfl,hb2⟩;have HB2:=zz hb2)
 all_goals
  clear c0 c1 c2
  go_wp2_with fail
  refine (must_no _).mono ?_;rintro e w3 ⟨rfl,rfl⟩
  go_wp2_with fail
  exact ⟨rfl,rfl,HB2.out.os,HB2.out.tape,HB2.out.output,HB2.out.size,fun i hi _ _=>HB2.out.block i hi⟩
end Go.Proofs.YtgdmcnoogacdaaaGreatDoor.Ch
