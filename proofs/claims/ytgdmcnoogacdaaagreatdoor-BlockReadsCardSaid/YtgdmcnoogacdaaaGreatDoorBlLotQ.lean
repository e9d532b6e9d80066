/- In one text, written by lotify.py: IxNew, IxSpoil, IxNewT. -/
import Derived.Test.YtgdmcnoogacdaaaGreatDoorBlLotP
namespace Go.Proofs.YtgdmcnoogacdaaaGreatDoor
open Go.RowKit Go.Maps
set_option linter.unusedVariables false
theorem row_kind{w:World}{k:Nat}{t t':TypeId}{cs cs':Array Value}(h:Row w k t cs)(h':Row w k t' cs'):t=t':=by
 unfold Row at h h';rw [h] at h';injection h' with h';injection h' with _ h2 _
theorem ownl_block{w:World}{base:Nat}{v:Value}{l:List Lbl}(h:OwnL w base v l){k:Nat}(hk:v.ownBlock=some k):∃cs,Row w k 118 cs:=by
 rcases h.2 with ⟨rfl,_⟩|⟨g,cap,cur,rfl,_,hh,_⟩
 ·cases hk
 ·simp only [Value.ownBlock,Option.some.injEq] at hk;subst hk;exact ⟨cur,hh⟩
theorem rows_block{w:World}{base e size n:Nat}{v:Value}{xs:List Value}(h:w.ownsRow base e size v n xs){k:Nat}(hk:v.ownBlock=some k):∃cs,Row w k e cs:=by
 rcases h.2 with ⟨rfl,_⟩|⟨g,cap,cur,rfl,_,hh,_⟩
 ·cases hk
 ·simp only [Value.ownBlock,Option.some.injEq] at hk;subst hk;exact ⟨cur,hh⟩
theorem ownsets_move{w w':World}{base:Nat}{v:Value}{ss:List (List Lbl)}(h:OwnSets w base v ss)(hr:∀k t cs,Row w k t cs->t=56\/t=118->w'.heap[k]?=w.heap[k]?):OwnSets w' base v ss:=by
 obtain ⟨ps,h1,h2,h3⟩:=h;refine ⟨ps,h1,rows_move h2 fun k hk=>?_,fun p hp=>?_⟩
 ·obtain ⟨cs,hc⟩:=rows_block h2 hk;exact hr k _ cs hc (.inl rfl)
 ·obtain ⟨⟨m1,m2⟩,m3⟩:=h3 p hp;have m4:OwnL w' base (slE p) p.2.2:=rows_move m3 fun k hk=>by
   obtain ⟨cs,hc⟩:=ownl_block m3 hk;exact hr k _ cs hc (.inr rfl)
  obtain ⟨P,c',e,_,m5,_⟩:=ownl_slice m4;obtain ⟨rfl,_,rfl⟩:=Value.slice.inj e;exact ⟨⟨m5,m2⟩,m4⟩
theorem ownsets_grown{w w':World}{base:Nat}{v:Value}{ss:List (List Lbl)}{row:Option Nat}(h:OwnSets w base v ss)(hg:w.grownBy w' row)(hne:∀k,row=some k->∀t cs,Row w k t cs->t≠56/\t≠118):OwnSets w' base v ss :=
 ownsets_move h fun k t cs hk ht=>hg.block k hk.lt fun e=>by
  have:=hne k e.symm t cs hk;rcases ht with ht|ht
  ·exact this.1 ht
  ·exact this.2 ht
theorem ownsets_setCell{w:World}{base g i:Nat}{t:TypeId}{cs:Array Value}{v:Value}{ss:List (List Lbl)}(h:OwnSets w base v ss)(hg:Row w g t cs)(h1:t≠56)(h2:t≠118)(u:Value):OwnSets (w.setCell ⟨g,i,none⟩ u) base v ss :=
 ownsets_move h fun k t' cs' hk ht=>Below.heap_setCell w _ _ _ fun e=>by
  have e2:k=g:=e;subst e2;have:=row_kind hk hg;subst this;rcases ht with ht|ht
  ·exact h1 ht
  ·exact h2 ht
theorem step_app_set{w0:World}{ops:Array Oper}{o:Oper}{a:Act}{K:Act->World->Prop}{Q:Exit->Act->World->Prop}{E:Prop}(hgd:o.guard=none)(s y:Operand)
 (ho:o.op=.call { callee:=.builtin .append,args:=#[s,y],argTypes:=#[78,78] })
 (base:Nat)(v:Value)(ss:List (List Lbl))(hs:a.eval s=v)(hF:OwnSets w0 base v ss)(B:Option Addr)(l:List Lbl)(d c:Nat)(hx:OwnL w0 base (.slice B l.length d) l)(hld:l.length<=d)
 (hy:a.eval y=.slice (some ⟨w0.heap.size,0,none⟩) 1 c)(hn:ss.length<=5864062014800)(hbase:base<=w0.heap.size)
 (h:∀v' w',OwnSets w' base v' (ss++[l])->Below base w0 w'->(w0.alloc (.cells #[.slice B l.length d] 56)).grownBy w' v.ownBlock->(∀k,v.ownBlock=some k->∃cs,Row w0 k 56 cs)->K (a.put o.dst v') w'):
 if Region.wanted o (yielded ops a.tmps)=true then Oper.wp Tryz.prog o a (w0.alloc (.cells #[.slice B l.length d] 56)) K Q else E:=by
 obtain ⟨i0,hi,hz0,hz1,hz2⟩:=info_parts set_info;have hA:=below_one w0 (.cells #[.slice B l.length d] 56);have hvb:∀k,v.ownBlock=some k->∃cs,Row w0 k 56 cs:=by
  obtain ⟨ps,_,h2,_⟩:=hF;exact fun k hk=>rows_block h2 hk
 obtain ⟨ps,rfl,h2,h3⟩:=ownsets_below hF hA;have hx1:=ownl_below hx hA;rw [List.length_map] at hn;refine step_app_at hgd s y 78 ho base 56 i0 _ 1 24 Tryz.underlying78 hi hz0 hz1 hz2 rfl (by omega) v ps.length (ps.map slE) hs h2 _ 1 c [.slice B l.length d] hy rfl (At.row (Row.new w0 _ _)) (by intro u hu;simp at hu;subst hu;rfl)
  (by simp only [maxLen];omega) (by omega) (Nat.le_trans hbase hA.size) ?_
 intro v' w' k1 _ k2;have hkeep:∀{u:Value} {x:List Lbl},OwnL _ base u x->OwnL w' base u x:=fun {u x} hu=>by
  refine rows_move hu fun k hk=>k2.block k (World.ownsRow.lt hu k hk).2 (fun e=>own_apart_sets hu h2 k hk e.symm)
 refine h v' w' ⟨ps++[(B,d,l)],by simp,by rw [List.length_append,List.map_append];exact k1,fun p hp=>?_⟩ (Below.grown (hA.mono hbase) k2 (Nat.le_trans hbase hA.size) (fun k hk=>(World.ownsRow.lt h2 _ hk).1)) k2 hvb;have key:OwnL w' base (slE p) p.2.2/\p.2.2.length<=p.2.1:=by
  rcases List.mem_append.1 hp with hp|hp
  ·obtain ⟨⟨_,m2⟩,m3⟩:=h3 p hp;exact ⟨hkeep m3,m2⟩
  ·obtain rfl:=List.mem_singleton.1 hp;exact ⟨hkeep hx1,hld⟩
 obtain ⟨P,c',e,_,m5,_⟩:=ownl_slice key.1;obtain ⟨rfl,_,rfl⟩:=Value.slice.inj e;exact ⟨⟨m5,key.2⟩,key.1⟩
set_option maxRecDepth 100000 in
theorem step_app_ids{w:World}{ops:Array Oper}{o:Oper}{a:Act}{K:Act->World->Prop}{Q:Exit->Act->World->Prop}{E:Prop}(hgd:o.guard=none)(s y:Operand)
 (ho:o.op=.call { callee:=.builtin .append,args:=#[s,y],argTypes:=#[59,59] })
 (base:Nat)(v:Value)(x:List Int)(hs:a.eval s=v)(hown:OwnZ w base v x)(g c:Nat)(n:Int)(hy:a.eval y=.slice (some ⟨g,0,none⟩) 1 c)(hg:Row w g 3 #[.int .i64 n])(hn:x.length<=1000000)(hbase:base<=w.heap.size)
 (h:∀v' w',OwnZ w' base v' (x++[n])->w.grownBy w' v.ownBlock->(v'.ownBlock=v.ownBlock\/∃k,v'.ownBlock=some k/\w.heap.size<=k)->K (a.put o.dst v') w'):
 if Region.wanted o (yielded ops a.tmps)=true then Oper.wp Tryz.prog o a w K Q else E:=by
 obtain ⟨i0,hi,hz0,hz1,hz2⟩:=info_parts zint_info;have hw:Region.wanted o (yielded ops a.tmps)=true:=by simp [Region.wanted,hgd]
 rw [if_pos hw];have hA:At w (some ⟨g,0,none⟩) [Value.int .i64 n]:=At.row hg;obtain ⟨v',w',hr,h2,h3,_,h5⟩:=run_append_own_at (P:=Tryz.prog) w base 59 o.type 3 i0 _ 1 8 Tryz.underlying59 hi hz0 hz1 hz2 rfl (by omega) v x.length (x.flatMap intE) hown ⟨g,0,none⟩ 1 c [.int .i64 n] rfl
  (fun j u hj=>by
    rcases hA with hA|⟨b,o,e,_,hc⟩
    ·cases hA
    ·injection e with e;injection e with e1 e2 _;subst e1 e2;rw [add_at];exact hc j u hj)
  (by intro u hu;simp at hu;subst hu;rfl) (by simp only [maxLen];omega) (by omega) hbase
 unfold Oper.wp execOp;simp only [ho,resolve,invoke,builtin,Sem.run_bind,Sem.run_pure,Result.andThen_ok,List.map_toArray,List.map_cons,List.map_nil,hs,hy,hr];refine h v' w' ?_ h3 (h5.imp id fun h=>⟨_,h,Nat.le_refl _⟩);unfold OwnZ;rw [List.flatMap_append,List.length_append];exact h2
def IdxAt(w:World)(base X:Nat)(ss:List (List Lbl)):Prop :=
 base<=X/\∃v b,base<=b/\Row w X 116 #[v,.map (some b)]/\OwnSets w base v ss/\PostAt w base b (evsAt ss ss.length 0)
theorem IdxAt.below{w w':World}{base X:Nat}{ss:List (List Lbl)}(h:IdxAt w base X ss)(hb:Below w.heap.size w w'):IdxAt w' base X ss:=by
 obtain ⟨h1,v,b,h2,h3,h4,h5⟩:=h;exact ⟨h1,v,b,h2,h3.below hb h3.lt,ownsets_below h4 hb,h5.below hb⟩
def NewTold(w:World)(ss:List (List Lbl))(e:Ending)(w':World):Prop :=
 Below w.heap.size w w'/\((ixChk ss≠0/\e=.returned (.tuple #[.pointer none,.int .i64 (ixChk ss)]))\/(ixChk ss=0/\∃X,e=.returned (.tuple #[.pointer (some ⟨X,0,none⟩),.int .i64 0])/\IdxAt w' w.heap.size X ss))
theorem lbl_sz{ss:List (List Lbl)}(hr:∀l∈ss,lbChk l=0){i k:Nat}(hi:i<ss.length)(hk:k<(ss.getD i []).length):Sz ((ss.getD i []).getD k lbl0):=by
 have hm:(ss.getD i []).getD k lbl0∈ss.getD i []:=by
  rw [List.getD_eq_getElem?_getD (l:=ss.getD i []),List.getElem?_eq_getElem hk];exact List.getElem_mem hk
 have:=label_sizes (hr _ (ss_at hi)) hm;refine ⟨?_,?_⟩<;>(simp only [maxLen];omega)
theorem evs_len(ss:List (List Lbl))(h8:∀l∈ss,l.length<=8):∀i,i<=ss.length->∀k,k<=8->(evsAt ss i k).length<=8*i+8:=by
 intro i hi k hk;unfold evsAt;rw [List.length_append,List.length_map,List.length_take];have:∀j,j<=ss.length->((List.range j).flatMap fun j=>(ss.getD j []).map fun x=>(x,j)).length<=8*j:=by
  intro j
  induction j with
  | zero=>intro _;simp
  | succ j ih =>
    intro hj;rw [List.range_succ,List.flatMap_append,List.length_append,List.flatMap_cons,List.flatMap_nil,List.append_nil,List.length_map];have:=ih (by omega);have:=h8 _ (ss_at (ss:=ss) (i:=j) (by omega));omega
 have:=this i hi;omega
set_option maxHeartbeats 4000000 in
set_option maxRecDepth 100000 in
theorem new_prog(V:Option Addr)(ss:List (List Lbl))(c:Nat)(w:World)(hV:Sets w V ss)(hl:ss.length<=5864062014634)(hll:∀i,(ss.getD i []).length<=100000000000000):
 Calls Tryz.prog 58 #[.slice V ss.length c] w (NewTold w ss):=by
 have HCK:=zz (ixcheck_prog V ss c w hV (by omega) hll)
 by_cases hz:ixChk ss=0
 ·rw [hz] at HCK;obtain ⟨h256,hup,hr⟩:=ixChk_right hz;have h8:∀l∈ss,l.length<=8:=fun l hl=>(lbChk_ok.1 (hr l hl)).1
  have HZ:=zz hz;have H256:=zz h256;have H8:=zz h8;have HR:=zz hr;have HV:=zz (fun (x:World) (h:Below w.heap.size w x)=>hV.below h);have HTK:=zz (fun i (hi:i<ss.length)=>sets_next (ss:=ss) hi);have hmm:=@run_makeMap Tryz.prog;clear hz hup hr h8 hV;go_enter Tryz.func58,Tryz.ntmps58
  go_wp2_with (first|(go_at_call 98;refine HCK.out.mono ?_;rintro e w1 ⟨rfl,hb1⟩;have HB1:=zz hb1;clear hb1))
  clear hmm;have hW2:Below w.heap.size w ((w1.alloc (.map #[] 0)).alloc (.cells #[.slice none 0 0,.map (some w1.heap.size)] 116)):=(HB1.out.alloc HB1.out.size _).alloc (by have:=HB1.out.size;simp;omega) _;have hX2:Row ((w1.alloc (.map #[] 0)).alloc (.cells #[.slice none 0 0,.map (some w1.heap.size)] 116)) (w1.heap.size+1) 116 #[.slice none 0 0,.map (some w1.heap.size)]:=row_at w1 (.map #[] 0) _ _;have hP2:PostAt ((w1.alloc (.map #[] 0)).alloc (.cells #[.slice none 0 0,.map (some w1.heap.size)] 116)) w.heap.size w1.heap.size []:=(post_made w1 _).alloc _;have HW2:=zz hW2;have HX2:=zz hX2;have HP2:=zz hP2;have hm1:w.heap.size<=w1.heap.size:=HB1.out.size;clear hW2 hX2 hP2;obtain ⟨M,hM⟩:∃M,w1.heap.size=M:=⟨_,rfl⟩;generalize ((w1.alloc (.map #[] 0)).alloc (.cells #[.slice none 0 0,.map (some w1.heap.size)] 116))=w2 at *;rw [hM] at HX2 HP2 hm1 ⊢;clear hM HB1
  go_loopw [21] (fun i wr=>∃(j:Nat) (v:Value),j<=ss.length/\i=.int .i64 (j:Int)/\Row wr (M+1) 116 #[v,.map (some M)]/\OwnSets wr w.heap.size v (ss.take j)/\PostAt wr w.heap.size M (evsAt ss j 0)/\Below w.heap.size w wr) (fun i _=>ss.length-(intOf i).toNat)
  case atStart=>exact ⟨0,_,Nat.zero_le _,rfl,HX2.out,by rw [List.take_zero];exact ownsets_nil _ _,HP2.out,HW2.out⟩
  case round =>
   obtain ⟨j,v,hj,rfl,hX,hO,hP,hB⟩:=hrel;have HX:=zz hX;have HO:=zz hO;have HP:=zz hP;have HB:=zz hB
   by_cases hlt:j<ss.length
   ·obtain ⟨b1,o1,A1,c1,rfl,hb1,g0w,hL1w,hlc1⟩:=(HV.out w (Below.refl _ _)).at_ hlt;have i2:(j:Int)<(ss.length:Int):=by omega
    have h8j:=H8.out _ (ss_at hlt);have HLW:=zz hL1w;have g0:=(hB.cell (p:=⟨b1,o1+j,none⟩) hb1).trans g0w;have hL1:Lbls wr A1 (ss.getD j []):=hL1w.below hB;have HCL:=zz (fun (x:World) (h:Below wr.heap.size wr x)=>ixclone_prog A1 (ss.getD j []) c1 x (hL1.below h) (by omega));have HL1:=zz hL1;have HNX:=zz (HTK.out j hlt);have HROW:=zz (evs_row ss j);have HSTEP:=zz (fun k (hk:k<(ss.getD j []).length)=>evs_step ss j hk);have HSZ:=zz (fun k (hk:k<(ss.getD j []).length)=>lbl_sz HR.out hlt hk);have HLEN:=zz (fun k (hk:k<=8)=>evs_len ss H8.out j hj k hk);have x0:=hX.cell 0;have x1:=hX.cell 1;have f0:=hX.frozen 0;clear hX hO hP hB hL1 hL1w g0w;have h32j:(ss.getD j []).length*32<=140737488355328:=by omega
    obtain ⟨l,hl2⟩:∃l,ss.getD j []=l:=⟨_,rfl⟩;rw [hl2] at HNX HROW HSTEP HSZ HL1 HLW HCL g0 h8j hlc1;have HL2:=zz hl2;clear hl2 h32j
    go_upto_region 8 with fail
    have HXD:=zz (show Row wr.drew (M+1) 116 #[v,.map (some M)] from HX.out);have x0d:wr.drew.cell? ⟨M+1,0,none⟩=some v:=x0;have HJ:(List.take j ss).length<=5864062014800:=by rw [List.length_take];omega
    have HJJ:=zz HJ;clear HJ
    go_region_law
     (first
       | (refine step_app_set rfl (.tmp 30) (.tmp 33) rfl w.heap.size v (ss.take j) rfl HO5.out P5 l d5 1 HL5.out HD5.out rfl HJJ.out HB5.out.size ?_
          intro v6 w6 ho6 hb6 hg6 hvb6;rw [<-HNX.out] at ho6;obtain ⟨P6,c6,hv6,_,_,_⟩:=ownsets_slice ho6;obtain ⟨n6,hn6⟩:∃n6,(ss.take (j+1)).length=n6:=⟨_,rfl⟩;rw [hn6] at hv6;clear hn6;subst hv6;have hX6:Row w6 (M+1) 116 #[v,.map (some M)]:=grown_row (HX5.out.alloc _) hg6 (fun e=>by
           obtain ⟨cs,hc⟩:=hvb6 _ e.symm;exact absurd (row_kind hc HX5.out) (by decide))
          have hP6:PostAt w6 w.heap.size M (evsAt ss j 0):=(HP5.out.alloc _).grown hg6 (fun k hk=>by
           obtain ⟨cs,hc⟩:=hvb6 k hk;exact ⟨cs,_,hc.alloc _,by decide⟩)
          have HX6:=zz (hX6.setAt 0 (.slice P6 n6 c6));have HO6:=zz (ownsets_setCell (i:=0) ho6 hX6 (by decide) (by decide) (.slice P6 n6 c6));have HP6:=zz (hP6.setCell (i:=0) hX6 (by decide) (.slice P6 n6 c6));have HB6:=zz (Below.setCell (HB5.out.trans hb6) (p:=⟨M+1,0,none⟩) (by show w.heap.size<=M+1;omega) (.slice P6 n6 c6));have x06:w6.cell? ⟨M+1,0,none⟩=some v:=(hX6.cell 0).trans rfl;have f06:=hX6.frozen 0;clear ho6 hb6 hg6 hvb6 hX6 hP6)
       | (go_simp
          go_at_call 91
          refine (HCL.out _ (Below.refl _ wr).drew).mono ?_;rintro e w5 ⟨v5,rfl,ho5,hb5⟩;obtain ⟨P5,d5,hv5,hd5,hL5,_⟩:=ownl_slice ho5;subst hv5;have hbb5:Below wr.heap.size wr w5:=(Below.refl wr.heap.size wr).drew.trans hb5;have HX5:=zz (HX.out.below hbb5 HX.out.lt);have x05:w5.cell? ⟨M+1,0,none⟩=some v:=(HX5.out.cell 0).trans rfl;have x05a:∀o,(w5.alloc o).cell? ⟨M+1,0,none⟩=some v:=fun o=>((HX5.out.alloc o).cell 0).trans rfl
          have HO5:=zz (ownsets_below HO.out hbb5);have HL5:=zz (ownl_lower ho5 (show w.heap.size<=wr.drew.heap.size from HB.out.size));have HP5:=zz (HP.out.below hbb5);have HB5:=zz (HB.out.trans (hbb5.mono HB.out.size));have HD5:=zz hd5;clear ho5 hb5 hbb5 hd5 hL5))
    all_goals
     generalize w6.setCell ⟨M+1,0,none⟩ (.slice P6 n6 c6)=w7 at *;generalize (Value.slice P6 n6 c6)=v7 at *;clear x05 x05a x06 f06 x0 x1 f0 x0d HX5 HO5 HL5 HP5 HB5 HD5 HXD;have hL7:=HLW.out.below HB6.out
     go_wp2_with fail
     go_loopw [39] (fun i wr=>∃k:Nat,k<=l.length/\i=.int .i64 (k:Int)/\Row wr (M+1) 116 #[v7,.map (some M)]/\OwnSets wr w.heap.size v7 (ss.take (j+1))/\PostAt wr w.heap.size M (evsAt ss j k)/\Below w.heap.size w wr) (fun i _=>l.length-(intOf i).toNat)
     case atStart=>exact ⟨0,Nat.zero_le _,rfl,HX6.out,HO6.out,HP6.out,HB6.out⟩
     case round =>
      obtain ⟨k,hk,rfl,hX,hO,hP,hB⟩:=hrel;have HX8:=zz hX;have HO8:=zz hO;have HP8:=zz hP;have HB8:=zz hB
      by_cases hkl:k<l.length
      ·obtain ⟨b2,o2,rfl,hb2,n0,n1⟩:=(HLW.out.below hB).at_ hkl;have i3:(k:Int)<(l.length:Int):=by omega
       have HS2:=zz (show evsAt ss j (k+1)=evsAt ss j k++[((nmOf l k,vlOf l k),j)] from HSTEP.out k hkl);have hsz:=HSZ.out k hkl;have HSZ2:=zz (show Sz (nmOf l k,vlOf l k) from hsz);have hln:(evsAt ss j k).length<maxLen:=by have:=HLEN.out k (by omega);simp only [maxLen];omega
       have HLN:=zz hln;have HIL:=zz (show (idsE (evsAt ss j k) (nmOf l k,vlOf l k)).length<=1000000 from by have:=HLEN.out k (by omega);have:=idsE_len (evsAt ss j k) (nmOf l k,vlOf l k);omega);clear hX hO hP hB hsz hln;generalize nmOf l k=nm at *;generalize vlOf l k=vl at *;generalize evsAt ss j k=ev at *
       go_upto_region 13 with fail
       have HXz:=zz ((HX8.out.alloc (.cells #[.string nm,.string vl] 118)).alloc (.cells #[.string nm,.string vl] 169));have HPz:=zz ((HP8.out.alloc (.cells #[.string nm,.string vl] 118)).alloc (.cells #[.string nm,.string vl] 169));have HOz:=zz (ownsets_below (ownsets_below HO8.out (below_one _ (.cells #[.string nm,.string vl] 118))) (below_one _ (.cells #[.string nm,.string vl] 169)));have HBz:=zz ((HB8.out.alloc HB8.out.size (.cells #[.string nm,.string vl] 118)).alloc (by have:=HB8.out.size;simp;omega) (.cells #[.string nm,.string vl] 169));have HRz:=zz (row_at wr (.cells #[.string nm,.string vl] 118) #[.string nm,.string vl] 169);generalize ((wr.alloc (.cells #[.string nm,.string vl] 118)).alloc (.cells #[.string nm,.string vl] 169))=z at *;obtain ⟨PB,hPB⟩:∃PB,wr.heap.size+1=PB:=⟨_,rfl⟩;rw [hPB] at HRz
       try rw [hPB]
       clear hPB n0 n1;have HPd:PostAt z.drew w.heap.size M ev:=HPz.out;obtain ⟨v0,st,W1,hrun,ho0,hg1,ho1,hback⟩:=post_entry (show PostAt (z.alloc (.cells #[.int .i64 (j:Int)] 3)).drew w.heap.size M ev from HPz.out.alloc (.cells #[.int .i64 (j:Int)] 3)) HSZ2.out HLN.out j;have hrun2:(Instr.mapEntry 114 (.map (some M)) (.agg #[.string nm,.string vl])).run Tryz.prog ((z.alloc (.cells #[.int .i64 (j:Int)] 3)).drew)=.ok (.tuple #[v0,.int .i64 st]) W1:=hrun;have HXd:Row z.drew (M+1) 116 #[v7,.map (some M)]:=HXz.out;have HRd:Row z.drew PB 169 #[.string nm,.string vl]:=HRz.out;have HX1:Hid (Row W1 (M+1) 116 #[v7,.map (some M)]):=zz (grown_row (HXd.alloc _) hg1 (fun e=>by injection e with e;omega));have hnM:PB≠M:=fun e=>by
        obtain ⟨es,ck,hmm⟩:=HPd.obj;have:=HRd;unfold Row at this;rw [e,hmm] at this
        cases this
       have HR1:Hid (Row W1 PB 169 #[.string nm,.string vl]):=zz (grown_row (HRd.alloc _) hg1 (fun e=>by injection e with e;exact hnM e));have HN1:Hid (Row W1 z.heap.size 3 #[.int .i64 (j:Int)]):=zz (grown_row (Row.new z.drew _ _) hg1 (fun e=>by injection e with e;have:=HPd.lt;have h9:z.heap.size=M:=e;have h8:M<z.heap.size:=this;omega));have HO1:Hid (OwnSets W1 w.heap.size v7 (ss.take (j+1))):=zz (ownsets_grown (ownsets_below (show OwnSets z.drew w.heap.size v7 (ss.take (j+1)) from HOz.out) (below_one _ _)) hg1 (fun q hq t cs hc=>by
        injection hq with hq;subst hq;obtain ⟨es,ck,hmm⟩:=(HPd.alloc (.cells #[.int .i64 (j:Int)] 3)).obj;unfold Row at hc;rw [hmm] at hc
        cases hc))
       have HB1:Hid (Below w.heap.size w W1):=zz (Below.grown (show Below w.heap.size w ((z.alloc (.cells #[.int .i64 (j:Int)] 3)).drew) from HBz.out.drew.alloc (show w.heap.size<=z.heap.size from HBz.out.size) _) hg1 (by have:=HBz.out.size;simp;show w.heap.size<=z.heap.size+1;omega) (fun q hq=>by injection hq with hq;omega));have HOZ1:=zz ho1;have HBK:=zz hback;have sD:z.drew.cell? ⟨M+1,1,none⟩=some (.map (some M))/\z.drew.cell? ⟨PB,0,none⟩=some (.string nm)/\z.drew.cell? ⟨PB,1,none⟩=some (.string vl):=⟨(HXd.cell 1).trans rfl,(HRd.cell 0).trans rfl,(HRd.cell 1).trans rfl⟩;have sZ:((z.alloc (.cells #[.int .i64 (j:Int)] 3)).drew).cell? ⟨M+1,1,none⟩=some (.map (some M))/\((z.alloc (.cells #[.int .i64 (j:Int)] 3)).drew).cell? ⟨PB,0,none⟩=some (.string nm)/\((z.alloc (.cells #[.int .i64 (j:Int)] 3)).drew).cell? ⟨PB,1,none⟩=some (.string vl):=⟨((HXd.alloc _).cell 1).trans rfl,((HRd.alloc _).cell 0).trans rfl,((HRd.alloc _).cell 1).trans rfl⟩;have s1:W1.cell? ⟨M+1,1,none⟩=some (.map (some M))/\W1.cell? ⟨PB,0,none⟩=some (.string nm)/\W1.cell? ⟨PB,1,none⟩=some (.string vl):=⟨(HX1.out.cell 1).trans rfl,(HR1.out.cell 0).trans rfl,(HR1.out.cell 1).trans rfl⟩;clear hrun ho0 hg1 ho1 hback HPd HXd HRd
       go_region_held3 (fun w'=>w'.cell? ⟨M+1,1,none⟩=some (.map (some M))/\w'.cell? ⟨PB,0,none⟩=some (.string nm)/\w'.cell? ⟨PB,1,none⟩=some (.string vl))
        (first|with_reducible assumption|go_keep)
        (first
          | (refine step_app_ids rfl (.tmp 53) (.tmp 55) rfl w.heap.size v0 _ rfl HOZ1.out z.heap.size 1 (j:Int) rfl HN1.out HIL.out HB1.out.size ?_
             intro v2 w2 ho2 hg2 hl2;obtain ⟨w3,hst,hg3,hP3,esk,ckk,hmk⟩:=HBK.out w2 v2 hg2 ho2 hl2;have hst2:(Instr.entryStore 114 (.map (some M)) (.int .i64 st) v2).run Tryz.prog w2=.ok () w3:=hst;have hiX:∀q,v0.ownBlock=some q->∃cs,Row W1 q 3 cs:=fun q hq=>ownz_block HOZ1.out hq
             have hX2:Row w2 (M+1) 116 #[v7,.map (some M)]:=grown_row HX1.out hg2 (fun e=>by obtain ⟨cs,hc⟩:=hiX _ e.symm;exact absurd (row_kind hc HX1.out) (by decide));have hR2:Row w2 PB 169 #[.string nm,.string vl]:=grown_row HR1.out hg2 (fun e=>by obtain ⟨cs,hc⟩:=hiX _ e.symm;exact absurd (row_kind hc HR1.out) (by decide));have HX3:=zz (grown_row hX2 hg3 (fun e=>by injection e with e;omega));have HR3:=zz (grown_row hR2 hg3 (fun e=>by injection e with e;exact hnM e));have hO2:OwnSets w2 w.heap.size v7 (ss.take (j+1)):=ownsets_grown HO1.out hg2 (fun q hq t cs hc=>by obtain ⟨cs',hc'⟩:=hiX q hq;have:=row_kind hc hc';subst this;exact ⟨by decide,by decide⟩);have HO3:=zz (ownsets_grown hO2 hg3 (fun q hq t cs hc=>by
              injection hq with hq;subst hq;unfold Row at hc;rw [hmk] at hc
              cases hc))
             have HB3:=zz (Below.grown (Below.grown HB1.out hg2 HB1.out.size (fun q hq=>(World.ownsRow.lt HOZ1.out q hq).1)) hg3 (Nat.le_trans HB1.out.size hg2.size) (fun q hq=>by injection hq with hq;omega));have HP3:=zz hP3;have s2:w2.cell? ⟨M+1,1,none⟩=some (.map (some M))/\w2.cell? ⟨PB,0,none⟩=some (.string nm)/\w2.cell? ⟨PB,1,none⟩=some (.string vl):=⟨(hX2.cell 1).trans rfl,(hR2.cell 0).trans rfl,(hR2.cell 1).trans rfl⟩;have s3:w3.cell? ⟨M+1,1,none⟩=some (.map (some M))/\w3.cell? ⟨PB,0,none⟩=some (.string nm)/\w3.cell? ⟨PB,1,none⟩=some (.string vl):=⟨(HX3.out.cell 1).trans rfl,(HR3.out.cell 0).trans rfl,(HR3.out.cell 1).trans rfl⟩;clear ho2 hg2 hl2 hst hg3 hP3 hmk hiX hX2 hR2 hO2))
       all_goals
        go_wp2_with fail
        go_roundw
        case rel=>exact ⟨k+1,hkl,by go_num,HX3.out,HO3.out,by rw [HS2.out];exact HP3.out,HB3.out⟩
        case measure=>simp [intOf];omega
      ·obtain rfl:k=l.length:=by omega
       rw [HROW.out] at HP8;clear hX hO hP hB
       go_wp2_with fail
       go_roundw
       case rel=>exact ⟨j+1,v7,hlt,by go_num,HX8.out,HO8.out,HP8.out,HB8.out⟩
       case measure=>simp [intOf];omega
   ·obtain rfl:j=ss.length:=by omega
    rw [List.take_length] at HO;clear hX hO hP hB
    go_wp2_with fail
    go_ret2;exact ⟨HB.out,.inr ⟨HZ.out,M+1,rfl,by omega,v,M,hm1,HX.out,HO.out,HP.out⟩⟩
 ·have j1:(ixChk ss !=0)=true:=bne_iff_ne.2 hz;have j2:(ixChk ss==0)=false:=beq_eq_false_iff_ne.2 hz;have HZ:=zz hz;obtain ⟨E,hE⟩:∃E,ixChk ss=E:=⟨_,rfl⟩;have HE:=zz hE;rw [hE] at HCK j1 j2;clear hz hV hE;go_enter Tryz.func58,Tryz.ntmps58
  go_wp2_with (first|(go_at_call 98;refine HCK.out.mono ?_;rintro e w1 ⟨rfl,hb1⟩;have HB1:=zz hb1;clear hb1))
  go_ret2;refine ⟨HB1.out,.inl ⟨HZ.out,?_⟩⟩;rw [HE.out];rfl
end Go.Proofs.YtgdmcnoogacdaaaGreatDoor

namespace Go.Proofs.YtgdmcnoogacdaaaGreatDoor
open Go.RowKit Go.Maps
set_option linter.unusedVariables false
set_option maxRecDepth 100000
theorem idx_keep{w w':World}{base X:Nat}{ss:List (List Lbl)}(h:IdxAt w base X ss)(hk:∀k,base<=k->w'.heap[k]?=w.heap[k]?):IdxAt w' base X ss:=by
 obtain ⟨h1,v,b,h2,h3,⟨ps,p1,p2,p3⟩,es,clock,q1,q2,q3,q4,q5,q6⟩:=h;refine ⟨h1,v,b,h2,(hk X h1).trans h3,⟨ps,p1,rows_move p2 fun k e=>hk k (World.ownsRow.lt p2 k e).1,fun p hp=>?_⟩,es,clock,(hk b h2).trans q1,q2,q3,fun x hx=>?_,q5,q6⟩
 ·obtain ⟨⟨_,m2⟩,m3⟩:=p3 p hp;have m4:OwnL w' base (slE p) p.2.2:=rows_move m3 fun k e=>hk k (World.ownsRow.lt m3 k e).1
  obtain ⟨P,c',e,_,m5,_⟩:=ownl_slice m4;obtain ⟨rfl,_,rfl⟩:=Value.slice.inj e;exact ⟨⟨m5,m2⟩,m4⟩
 ·obtain ⟨p,k1,k2,k3,k4⟩:=q4 x hx;exact ⟨p,k1,k2,k3,rows_move k4 fun k e=>hk k (World.ownsRow.lt k4 k e).1⟩
end Go.Proofs.YtgdmcnoogacdaaaGreatDoor

namespace Go.Proofs.YtgdmcnoogacdaaaGreatDoor
open Go.RowKit Go.Maps
set_option linter.unusedVariables false
theorem new_no{w w':World}{ss:List (List Lbl)}{e:Ending}(hz:ixChk ss≠0)(h:NewTold w ss e w'):e=.returned (.tuple #[.pointer none,.int .i64 (ixChk ss)])/\Below w.heap.size w w':=by
 obtain ⟨hb,⟨_,h⟩|⟨h,_⟩⟩:=h
 ·exact ⟨h,hb⟩
 ·exact absurd h hz
theorem new_yes{w w':World}{ss:List (List Lbl)}{e:Ending}(hz:ixChk ss=0)(h:NewTold w ss e w'):∃X,e=.returned (.tuple #[.pointer (some ⟨X,0,none⟩),.int .i64 0])/\IdxAt w' w.heap.size X ss/\Below w.heap.size w w':=by
 obtain ⟨hb,⟨h,_⟩|⟨_,X,h1,h2⟩⟩:=h
 ·exact absurd hz h
 ·exact ⟨X,h1,h2,hb⟩
end Go.Proofs.YtgdmcnoogacdaaaGreatDoor
