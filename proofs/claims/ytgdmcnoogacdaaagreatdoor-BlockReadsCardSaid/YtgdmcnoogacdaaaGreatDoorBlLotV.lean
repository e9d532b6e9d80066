/- In one text, written by lotify.py: BlPut, BlRd, BlPc. -/
import Derived.Test.YtgdmcnoogacdaaaGreatDoorBlMath
import Derived.Test.YtgdmcnoogacdaaaGreatDoorBlLotE
import Derived.Test.YtgdmcnoogacdaaaGreatDoorBlLotZ
namespace Go.Proofs.YtgdmcnoogacdaaaGreatDoor
open Go.RowKit Go.Maps
open Ch
set_option linter.unusedVariables false
def KeepU(base:Nat)(w w':World):Prop:=Below base w w'/\∀k t cs,Row w k t cs->t≠5->w'.heap[k]?=w.heap[k]?
theorem keepU_below{base:Nat}{w w':World}(h:Below w.heap.size w w')(hb:base<=w.heap.size):KeepU base w w':=⟨h.mono hb,fun k t cs hk _=>h.block k hk.lt⟩
theorem keepU_trans{base:Nat}{a b c:World}(h:KeepU base a b)(k:KeepU base b c):KeepU base a c :=
 ⟨h.1.trans k.1,fun i t cs hr ht=>(k.2 i t cs ((h.2 i t cs hr ht).trans hr) ht).trans (h.2 i t cs hr ht)⟩
theorem keepU_grown{base:Nat}{w w':World}{v:Value}{l:List UInt8}(h:w.grownBy w' v.ownBlock)(ho:Own w base v l)(hb:base<=w.heap.size):KeepU base w w' :=
 ⟨Below.grown (Below.refl base w) h hb (fun k hk=>(World.ownsRow.lt ho _ hk).1),fun k t cs hr ht=>h.block k hr.lt (own_ne ho hr ht)⟩
theorem below_grown{w w2 w3:World}{row:Option Nat}(h:Below w.heap.size w w2)(g:w2.grownBy w3 row):w.grownBy w3 row :=
 ⟨g.os.trans h.os,g.tape.trans h.tape,g.output.trans h.output,Nat.le_trans h.size g.size,fun k hk hne=>(g.block k (Nat.lt_of_lt_of_le hk h.size) hne).trans (h.block k hk)⟩
theorem blmust_yes(w:World):Calls Tryz.prog 80 #[.bool true] w fun e w'=>e=.returned (.tuple #[])/\w=w':=by
 have hnot:∀(x:Bool) (w:World),(Op.unary .not (.bool x)).run Tryz.prog w=.ok (.bool (!x)) w:=fun _ _=>rfl
 go_enter Tryz.func80,Tryz.ntmps80
 go_wp2
 go_end0
 exact ⟨rfl,rfl⟩
def blbroken:List PanicEntry:=[{ v:=.iface 138 (.int .i64 5),recovered:=false }]
theorem blmust_no(w:World):Calls Tryz.prog 80 #[.bool false] w fun e w'=>e=.panicked blbroken/\w=w':=by
 go_enter Tryz.func80,Tryz.ntmps80
 go_wp2
 exact ⟨rfl,rfl,rfl⟩
set_option maxHeartbeats 1000000 in
theorem putnum_prog{w:World}{base:Nat}{v:Value}{x:List UInt8}(ho:Own w base v x)(hb:base<=w.heap.size)(hx:x.length<=100000000000000)(n:Nat)(hn:n<=9223372036854775807):
 Calls Tryz.prog 32 #[v,.int .i64 (n:Int)] w fun e w'=>∃v',e=.returned v'/\Own w' base v' (x++uintL n)/\KeepU base w w'/\w.grownBy w' v.ownBlock:=by
 have HPU:=zz (putuint_prog none [] 0 n w (Bys.empty _ _) (by simp) hn);have HO:=zz ho;have hu:=uintL_9 (n:=n) (by omega);obtain ⟨P,c,rfl,_⟩:=own_slice' ho;clear ho;generalize hxl:x.length=xl at *;have HXL:=zz hxl;clear hxl;go_enter Tryz.func32,Tryz.ntmps32
 go_wp2_with fail
 refine HPU.out.mono ?_;rintro e w2 ⟨v2,rfl,ho2,hb2⟩;rw [List.nil_append] at ho2;obtain ⟨B2,d2,hv2,hB2,_⟩:=own_slice' ho2;subst hv2;have HBB2:=zz hB2;have HB2:=zz hb2;have HO2:=zz (own_below HO.out hb2);have hbw2:base<=w2.heap.size:=Nat.le_trans hb hb2.size;clear ho2 hB2 hb2
 go_wp2_with (at_builtin;refine app_u8 rfl (.tmp 12) (.tmp 13) rfl base (.slice P xl c) x rfl HO2.out B2 (uintL n) d2 rfl HBB2.out (by rw [HXL.out];omega) hbw2 ?_;intro v3 w3 ho3 hb3 hg3;have HO3:=zz ho3;have HK3:=zz (keepU_trans (keepU_below HB2.out hb) (keepU_grown hg3 HO2.out hbw2));have HG3:=zz (below_grown HB2.out hg3);obtain ⟨B3,d3,hv3,_,_⟩:=own_slice' ho3;obtain ⟨n3,hn3⟩:∃n3,(x++uintL n).length=n3:=⟨_,rfl⟩;rw [hn3] at hv3;subst hv3;clear ho3 hb3 hg3 hn3)
 go_ret;exact ⟨_,rfl,HO3.out,HK3.out,HG3.out⟩
set_option maxHeartbeats 1000000 in
theorem putcnt_prog{w:World}{base:Nat}{v:Value}{x:List UInt8}(ho:Own w base v x)(hb:base<=w.heap.size)(hx:x.length<=100000000000000)(A:Option Addr)(l:List UInt8)(c:Nat)(hA:Bys w A l)(hl:l.length<=1000000000)
 (hAv:∀ad,A=some ad->some ad.block≠v.ownBlock):
 Calls Tryz.prog 29 #[v,.slice A l.length c] w fun e w'=>∃v',e=.returned v'/\Own w' base v' (x++cntL l)/\KeepU base w w':=by
 have HPN:=zz (putnum_prog ho hb hx l.length (by omega));have hu:=uintL_9 (n:=l.length) (by omega);have HA:=zz hA;have HAV:=zz hAv;obtain ⟨P,cv,rfl,_⟩:=own_slice' ho;obtain ⟨xl,hxl⟩:∃xl,x.length=xl:=⟨_,rfl⟩;have HXL:=zz hxl;rw [hxl] at HPN HAV hx ⊢;have HX:=zz hx;clear ho hA hAv hx hxl;have HL:=zz hl;go_enter Tryz.func29,Tryz.ntmps29
 go_wp2_with fail
 refine HPN.out.mono ?_;rintro e w2 ⟨v2,rfl,ho2,hk2,hg2⟩;have hA2:=HA.out.grown hg2 HAV.out;obtain ⟨B2,d2,hv2,_,_⟩:=own_slice' ho2;have HO2:=zz ho2;have HK2:=zz hk2;have HA2:=zz hA2;have hbw2:base<=w2.heap.size:=Nat.le_trans hb hk2.1.size;have hyl:(x++uintL l.length).length<=100000000000100:=by rw [List.length_append];have:=HX.out;have:=HXL.out;omega
 have HY:=zz hyl;obtain ⟨n2,hn2⟩:∃n2,(x++uintL l.length).length=n2:=⟨_,rfl⟩;rw [hn2] at hv2;subst hv2;clear ho2 hk2 hA2 hg2 hyl hn2
 go_wp2_with (at_builtin;refine app_u8 rfl (.tmp 8) (.tmp 9) rfl base (.slice B2 n2 d2) (x++uintL l.length) rfl HO2.out A l c rfl HA2.out (by have:=HY.out;have:=HL.out;omega) hbw2 ?_;intro v3 w3 ho3 hb3 hg3;have HO3:=zz ho3;have HK3:=zz (keepU_trans HK2.out (keepU_grown hg3 HO2.out hbw2));obtain ⟨B3,d3,hv3,_,_⟩:=own_slice' ho3;obtain ⟨n3,hn3⟩:∃n3,(x++uintL l.length++l).length=n3:=⟨_,rfl⟩;rw [hn3] at hv3;subst hv3;clear ho3 hb3 hg3 hn3)
 go_ret;exact ⟨_,rfl,by unfold cntL;rw [<-List.append_assoc];exact HO3.out,HK3.out⟩
def OwnMk(w:World)(base:Nat)(v:Value)(x:List UInt8):Prop:=∃g,v=.slice (some ⟨g,0,none⟩) x.length x.length/\base<=g/\w.heap[g]?=some (.cells (bcells x) 5 (x.length,x.length+1))
theorem OwnMk.below{w w':World}{base:Nat}{v:Value}{x:List UInt8}(h:OwnMk w base v x)(hb:Below w.heap.size w w'):OwnMk w' base v x:=by
 obtain ⟨g,hv,hg,hh⟩:=h;refine ⟨g,hv,hg,(hb.block g ?_).trans hh⟩;rcases Nat.lt_or_ge g w.heap.size with h1|h1
 ·exact h1
 ·rw [Array.getElem?_eq_none h1] at hh;cases hh
theorem run_app_mark(w:World)(base ty:Nat)(v:Value)(x:List UInt8)(hown:OwnMk w base v x)(A:Option Addr)(l:List UInt8)(c:Nat)(hA:Bys w A l)(hl:0<l.length)(hn:x.length+l.length<=211106232532992)(hbase:base<=w.heap.size):
 ∃v' w',(Builtin.append_ #[24,24] ty #[v,.slice A l.length c]).run Tryz.prog w=.ok v' w'/\Own w' base v' (x++l)/\Below w.heap.size w w':=by
 obtain ⟨g,rfl,hg,hh⟩:=hown;obtain ⟨i,hi,hz,hs,hby⟩:=info_parts u8_info;rcases hA with rfl|⟨b,o,rfl,hb,hc⟩
 ·simp at hl
 have hcx:∀j u,(bcells x).toList[j]?=some u->w.cell? (Addr.add ⟨g,0,none⟩ j)=some u:=by
  intro j u hj;rw [add_at,Nat.zero_add];simp only [World.cell?,hh];simpa using hj
 have hcl:∀j u,(bcells l).toList[j]?=some u->w.cell? (Addr.add ⟨b,o,none⟩ j)=some u:=by
  intro j u hj;have hjl:j<l.length:=by
   have:=(List.getElem?_eq_some_iff.1 hj).1;simpa [bcells] using this
  have e:=bcells_get l j hjl;rw [<-Array.getElem?_toList,hj] at e;rw [e,add_at];exact hc j hjl
 have hr:=run_append_grow (P:=Tryz.prog) w 24 ty 5 i (.int .u8 0) Tryz.underlying24 hi hz ⟨g,0,none⟩ x.length x.length (bcells x).toList (by simp [bcells,hs]) hcx ⟨b,o,none⟩ l.length c (bcells l).toList (by simp [bcells,hs]) hcl (by omega) (by omega)
  (by rw [hby];have:=cap_quarter (need:=x.length+l.length) (old:=x.length) (by omega);omega)
 obtain ⟨m1,m2⟩:=own_made w base x l x.length (by omega) hn hbase none;exact ⟨_,_,hr,m1,m2.os,m2.tape,m2.output,m2.size,fun k hk=>m2.block k hk (by simp)⟩
theorem app_mark{w:World}{ops:Array Oper}{rest:List Oper}{o:Oper}{a:Act}{Q:Exit->Act->World->Prop}(hgd:o.guard=none)(s y:Operand)
 (ho:o.op=.call { callee:=.builtin .append,args:=#[s,y],argTypes:=#[24,24] })
 (base:Nat)(v:Value)(x:List UInt8)(hs:a.eval s=v)(hown:OwnMk w base v x)(A:Option Addr)(l:List UInt8)(c:Nat)(hy:a.eval y=.slice A l.length c)(hA:Bys w A l)(hl:0<l.length)(hn:x.length+l.length<=211106232532992)(hbase:base<=w.heap.size)
 (h:∀v' w',Own w' base v' (x++l)->Below w.heap.size w w'->wpList Tryz.prog ops Q rest (a.put o.dst v') w'):wpList Tryz.prog ops Q (o::rest) a w:=by
 refine wpList_plain hgd fun K hK=>?_
 obtain ⟨v',w',hr,h2,h3⟩:=run_app_mark w base o.type v x hown A l c hA hl hn hbase;unfold Oper.wp execOp;simp only [ho,resolve,invoke,builtin,Sem.run_bind,Sem.run_pure,Result.andThen_ok,List.map_toArray,List.map_cons,List.map_nil,hs,hy,hr];exact hK _ _ (h v' w' h2 h3)
set_option maxHeartbeats 1000000 in
theorem putnumM_prog{w:World}{base:Nat}{v:Value}{x:List UInt8}(ho:OwnMk w base v x)(hb:base<=w.heap.size)(hx:x.length<=100000000000000)(n:Nat)(hn:n<=9223372036854775807):
 Calls Tryz.prog 32 #[v,.int .i64 (n:Int)] w fun e w'=>∃v',e=.returned v'/\Own w' base v' (x++uintL n)/\Below w.heap.size w w':=by
 have HPU:=zz (putuint_prog none [] 0 n w (Bys.empty _ _) (by simp) hn);have HO:=zz ho;have hu:=uintL_9 (n:=n) (by omega);have hup:=uintL_pos n;obtain ⟨g,rfl,hg,_⟩:=ho;generalize hxl:x.length=xl at *;have HXL:=zz hxl;clear hxl;go_enter Tryz.func32,Tryz.ntmps32
 go_wp2_with fail
 refine HPU.out.mono ?_;rintro e w2 ⟨v2,rfl,ho2,hb2⟩;rw [List.nil_append] at ho2;obtain ⟨B2,d2,hv2,hB2,_⟩:=own_slice' ho2;subst hv2;have HBB2:=zz hB2;have HB2:=zz hb2;have HO2:=zz (HO.out.below hb2);have hbw2:base<=w2.heap.size:=Nat.le_trans hb hb2.size;clear ho2 hB2 hb2
 go_wp2_with (at_builtin;refine app_mark rfl (.tmp 12) (.tmp 13) rfl base (.slice (some ⟨g,0,none⟩) xl xl) x rfl HO2.out B2 (uintL n) d2 rfl HBB2.out hup (by rw [HXL.out];omega) hbw2 ?_;intro v3 w3 ho3 hb3;have HO3:=zz ho3;have HB3:=zz (HB2.out.trans (hb3.mono HB2.out.size));obtain ⟨B3,d3,hv3,_,_⟩:=own_slice' ho3;obtain ⟨n3,hn3⟩:∃n3,(x++uintL n).length=n3:=⟨_,rfl⟩;rw [hn3] at hv3;subst hv3;clear ho3 hb3 hn3)
 go_ret;exact ⟨_,rfl,HO3.out,HB3.out⟩
set_option maxHeartbeats 1000000 in
theorem putcntM_prog{w:World}{base:Nat}{v:Value}{x:List UInt8}(ho:OwnMk w base v x)(hb:base<=w.heap.size)(hx:x.length<=100000000000000)(A:Option Addr)(l:List UInt8)(c:Nat)(hA:Bys w A l)(hl:l.length<=1000000000):
 Calls Tryz.prog 29 #[v,.slice A l.length c] w fun e w'=>∃v',e=.returned v'/\Own w' base v' (x++cntL l)/\Below base w w':=by
 have HPN:=zz (putnumM_prog ho hb hx l.length (by omega));have hu:=uintL_9 (n:=l.length) (by omega);have HA:=zz hA;obtain ⟨g,rfl,hg,_⟩:=ho;obtain ⟨xl,hxl⟩:∃xl,x.length=xl:=⟨_,rfl⟩;have HXL:=zz hxl;rw [hxl] at HPN hx ⊢;have HX:=zz hx;clear hA hx hxl;have HL:=zz hl;go_enter Tryz.func29,Tryz.ntmps29
 go_wp2_with fail
 refine HPN.out.mono ?_;rintro e w2 ⟨v2,rfl,ho2,hb2⟩;obtain ⟨B2,d2,hv2,_,_⟩:=own_slice' ho2;have HO2:=zz ho2;have HB2:=zz (hb2.mono hb);have HA2:=zz (HA.out.below hb2);have hbw2:base<=w2.heap.size:=Nat.le_trans hb hb2.size;have hyl:(x++uintL l.length).length<=100000000000100:=by rw [List.length_append];have:=HX.out;have:=HXL.out;omega
 have HY:=zz hyl;obtain ⟨n2,hn2⟩:∃n2,(x++uintL l.length).length=n2:=⟨_,rfl⟩;rw [hn2] at hv2;subst hv2;clear ho2 hb2 hyl hn2
 go_wp2_with (at_builtin;refine app_u8 rfl (.tmp 8) (.tmp 9) rfl base (.slice B2 n2 d2) (x++uintL l.length) rfl HO2.out A l c rfl HA2.out (by have:=HY.out;have:=HL.out;omega) hbw2 ?_;intro v3 w3 ho3 hb3 hg3;have HO3:=zz ho3;have HB3:=zz (HB2.out.trans hb3);obtain ⟨B3,d3,hv3,_,_⟩:=own_slice' ho3;obtain ⟨n3,hn3⟩:∃n3,(x++uintL l.length++l).length=n3:=⟨_,rfl⟩;rw [hn3] at hv3;subst hv3;clear ho3 hb3 hg3 hn3)
 go_ret;exact ⟨_,rfl,by unfold cntL;rw [<-List.append_assoc];exact HO3.out,HB3.out⟩
theorem bl_bys4{w:World}{g base:Nat}{a b c d:UInt8}(h:Row w g 5 #[.int .u8 (a.toNat:Int),.int .u8 (b.toNat:Int),.int .u8 (c.toNat:Int),.int .u8 (d.toNat:Int)])(hb:base<=g):Own w base (.slice (some ⟨g,0,none⟩) 4 4) [a,b,c,d] :=
 own_whole (x:=[a,b,c,d]) h hb (by simp [maxLen])
set_option maxHeartbeats 1000000 in
theorem blsum_prog(A:Option Addr)(l:List UInt8)(c:Nat)(w:World)(hA:Bys w A l)(hl:l.length<=281474976710656):
 Calls Tryz.prog 34 #[.slice A l.length c] w fun e w'=>∃v,e=.returned v/\Own w' w.heap.size v (le4 (sumN l))/\Below w.heap.size w w':=by
 have HS:=sum_prog A l c w hA hl;have hS:=sumN_lt l;generalize sumN l=S at *;generalize l.length=n at *;have Hd0:=zz (show (S:Int)%256=((UInt8.ofNat S).toNat:Int) by rw [UInt8.toNat_ofNat'];omega);have Hd1:=zz (show (S:Int)/256%256=((UInt8.ofNat (S/256)).toNat:Int) by rw [UInt8.toNat_ofNat'];omega);have Hd2:=zz (show (S:Int)/65536%256=((UInt8.ofNat (S/65536)).toNat:Int) by rw [UInt8.toNat_ofNat'];omega);have Hd3:=zz (show (S:Int)/16777216=((UInt8.ofNat (S/16777216)).toNat:Int) by rw [UInt8.toNat_ofNat'];omega);have HSS:=zz HS;clear HS hA;go_enter Tryz.func34,Tryz.ntmps34
 go_wp2_with fail
 refine HSS.out.mono ?_;rintro e w2 ⟨rfl,rfl⟩
 go_wp2_with fail
 go_ret;refine ⟨_,rfl,?_,below_one w _⟩;unfold le4;refine bl_bys4 (g:=w.heap.size) ?_ (Nat.le_refl _);rw [<-Hd0.out,<-Hd1.out,<-Hd2.out,<-Hd3.out];exact Row.new _ _ _
end Go.Proofs.YtgdmcnoogacdaaaGreatDoor

namespace Go.Proofs.YtgdmcnoogacdaaaGreatDoor
open Go.RowKit Go.Maps
open Ch
set_option linter.unusedVariables false
set_option maxRecDepth 100000
def BRd(w:World)(R:Nat)(rest:List UInt8):Prop :=
 ∃b o c,Row w R 148 #[.slice (some ⟨b,o,none⟩) rest.length c]/\Bys w (some ⟨b,o,none⟩) rest/\rest.length+4<=c/\rest.length<=140737488355328/\b<R
theorem BRd.lt{w:World}{R:Nat}{rest:List UInt8}(h:BRd w R rest):R<w.heap.size:=by
 obtain ⟨_,_,_,h,_⟩:=h;exact h.lt
theorem BRd.below{w w':World}{R:Nat}{rest:List UInt8}(h:BRd w R rest)(hb:Below w.heap.size w w'):BRd w' R rest:=by
 obtain ⟨b,o,c,h1,h2,h3⟩:=h;exact ⟨b,o,c,h1.below hb h1.lt,h2.below hb,h3⟩
theorem BRd.len{w:World}{R:Nat}{rest:List UInt8}(h:BRd w R rest):rest.length<=140737488355328:=by
 obtain ⟨_,_,_,_,_,_,h,_⟩:=h;exact h
theorem bys_in{w w':World}{b o B:Nat}{l:List UInt8}(h:Bys w (some ⟨b,o,none⟩) l)(hb:Below B w w')(hB:b<B):Bys w' (some ⟨b,o,none⟩) l:=by
 rcases h with h|⟨b',o',e,hlt,hc⟩
 ·exact .inl h
 ·injection e with e;injection e with e1 e2 _;subst e1 e2;exact .inr ⟨b,o,rfl,Nat.lt_of_lt_of_le hlt hb.size,fun i hi=>(World.cell?_of_block (w:=w) (a:=⟨b,o+i,none⟩) (hb.block b hB)).trans (hc i hi)⟩
theorem BRd.in_{w w':World}{R B:Nat}{rest:List UInt8}(h:BRd w R rest)(hb:Below B w w')(hB:R<B):BRd w' R rest:=by
 obtain ⟨b,o,c,h1,h2,h3,h4,h5⟩:=h;exact ⟨b,o,c,h1.below hb hB,bys_in h2 hb (by omega),h3,h4,h5⟩
theorem two_then{w a b:World}{R:Nat}(h:Two w a R R)(hb:Below w.heap.size a b):Two w b R R :=
 ⟨hb.os.trans h.os,hb.tape.trans h.tape,hb.output.trans h.output,Nat.le_trans h.size hb.size,fun k hk h1 h2=>(hb.block k hk).trans (h.block k hk h1 h2)⟩
theorem bl_drewN{B:Nat}{a w:World}(h:Below B a w)(n:Nat):Below B a (w.drewN n):=⟨h.os,h.tape,h.output,h.size,h.block⟩
theorem two_below{w w':World}{R:Nat}(h:Below w.heap.size w w'):Two w w' R R:=⟨h.os,h.tape,h.output,h.size,fun i hi _ _=>h.block i hi⟩
def TakeTold(w:World)(R:Nat)(l rest:List UInt8)(e:Ending)(w':World):Prop :=
 ∃P c,e=.returned (.slice P l.length c)/\l.length<=c/\Bys w' P l/\BRd w' R rest/\Two w w' R R
set_option maxHeartbeats 1000000 in
theorem take_yes{w:World}{R:Nat}{rest:List UInt8}(h:BRd w R rest)(n:Nat)(hn:n<=rest.length):
 Calls Tryz.prog 82 #[.pointer (some ⟨R,0,none⟩),.int .i64 (n:Int)] w (TakeTold w R (rest.take n) (rest.drop n)):=by
 obtain ⟨b,o,c,hR,hB,hc,hl,hbR⟩:=h;have c0:w.cell? ⟨R,0,none⟩=some (.slice (some ⟨b,o,none⟩) rest.length c):=hR.cell 0;have f0:=hR.frozen 0;have HR:=zz hR;have HB:=zz hB;have HN:=zz hn;have hlt:(rest.take n).length=n:=by rw [List.length_take];omega
 have HLT:=zz hlt;have HLD:=zz (show (rest.drop n).length=rest.length-n from List.length_drop);obtain ⟨L,hL⟩:∃L,rest.length=L:=⟨_,rfl⟩;have HL:=zz hL;rw [hL] at c0 hc hl hn;have hq:¬c=n:=by omega
 have hnc:n<=c:=by omega
 have j1:decide ((n:Int)<=(L:Int))=true:=decide_eq_true (by omega);clear hR hB hL hlt;go_enter Tryz.func82,Tryz.ntmps82
 go_wp2_with (refine (blmust_yes _).mono ?_;rintro e w2 ⟨rfl,rfl⟩)
 go_ret;have hR2:=HR.out.setAt 0 (.slice (some ⟨b,o+n,none⟩) (L-n) (c-n));refine ⟨some ⟨b,o,none⟩,c,(by rw [HLT.out]<;>rfl),by rw [HLT.out];exact hnc,(HB.out.front n).setAway (p:=⟨R,0,none⟩) (fun ad e=>by injection e with e;subst e;exact Nat.ne_of_lt hbR) _,⟨b,o+n,c-n,?_,(HB.out.from n).setAway (p:=⟨R,0,none⟩) (fun ad e=>by injection e with e;subst e;exact Nat.ne_of_lt hbR) _,by rw [HLD.out,HL.out];omega,by rw [HLD.out,HL.out];omega,hbR⟩,(Two.refl _ _ _).set (p:=⟨R,0,none⟩) (.inl rfl) _⟩;rw [HLD.out,HL.out];exact hR2
set_option maxHeartbeats 1000000 in
theorem take_no{w:World}{R:Nat}{rest:List UInt8}(h:BRd w R rest)(n:Nat)(hn:rest.length<n):
 Calls Tryz.prog 82 #[.pointer (some ⟨R,0,none⟩),.int .i64 (n:Int)] w fun e w'=>e=.panicked blbroken/\w=w':=by
 obtain ⟨b,o,c,hR,hB,hc,hl,hbR⟩:=h;have c0:w.cell? ⟨R,0,none⟩=some (.slice (some ⟨b,o,none⟩) rest.length c):=hR.cell 0;obtain ⟨L,hL⟩:∃L,rest.length=L:=⟨_,rfl⟩;rw [hL] at c0 hc hl hn;have j1:decide ((n:Int)<=(L:Int))=false:=decide_eq_false (by omega);have j2:decide (n<=L)=false:=decide_eq_false (by omega);have j3:¬n<=L:=by omega
 clear hR hB hL;go_enter Tryz.func82,Tryz.ntmps82
 go_wp2_with (refine (blmust_no _).mono ?_;rintro e w2 ⟨rfl,rfl⟩)
 exact ⟨rfl,rfl,rfl⟩
def NumTold(w:World)(R:Nat)(o:Option (Nat × List UInt8))(e:Ending)(w':World):Prop :=
 (∃n rest,o=some (n,rest)/\n<9223372036854775808/\e=.returned (.int .i64 (n:Int))/\BRd w' R rest/\Two w w' R R)\/(o=none/\e=.panicked blbroken/\Two w w' R R)
set_option maxHeartbeats 1000000 in
theorem number_yes{w:World}{R:Nat}{rest:List UInt8}(h:BRd w R rest){n nx:Nat}(hg:GU rest 0 n nx 0)(hn:n<9223372036854775808):
 Calls Tryz.prog 122 #[.pointer (some ⟨R,0,none⟩)] w fun e w'=>e=.returned (.int .i64 (n:Int))/\BRd w' R (rest.drop nx)/\Two w w' R R:=by
 obtain ⟨b,o,c,hR,hB,hc,hl,hbR⟩:=h;have hnx:=(gu_bytes hg).2;have HG:=zz (getuint_prog (some ⟨b,o,none⟩) rest c 0 n nx 0 w hB (by omega) hl (Nat.zero_le _) hg);have c0:w.cell? ⟨R,0,none⟩=some (.slice (some ⟨b,o,none⟩) rest.length c):=hR.cell 0;have HR:=zz hR;have HB:=zz hB;have HLD:=zz (show (rest.drop nx).length=rest.length-nx from List.length_drop);obtain ⟨L,hL⟩:∃L,rest.length=L:=⟨_,rfl⟩;have HL:=zz hL;rw [hL] at c0 hc hl hnx HG;have hq:¬c=nx:=by omega
 have hnc:nx<=c:=by omega
 have hnl:(nx:Int)<=(L:Int):=by omega
 clear hR hB hL hg;go_enter Tryz.func122,Tryz.ntmps122
 go_wp2_with fail
 refine HG.out.mono ?_;rintro e w2 ⟨rfl,hb2⟩;have hR2:=HR.out.below hb2 HR.out.lt;have d0:w2.cell? ⟨R,0,none⟩=some (.slice (some ⟨b,o,none⟩) L c):=by
  have:=hR2.cell 0;rw [HL.out] at this;exact this
 have e0:=hR2.frozen 0;have HR2:=zz hR2;have HB2:=zz (HB.out.below hb2);have HT2:=zz (two_below (R:=R) hb2);clear hR2 hb2 c0
 go_wp2_with (refine (blmust_yes _).mono ?_;rintro e w3 ⟨rfl,rfl⟩)
 go_ret;have hR3:=HR2.out.setAt 0 (.slice (some ⟨b,o+nx,none⟩) (L-nx) (c-nx));refine ⟨rfl,⟨b,o+nx,c-nx,?_,(HB2.out.from nx).setAway (p:=⟨R,0,none⟩) (fun ad e=>by injection e with e;subst e;exact Nat.ne_of_lt hbR) _,by rw [HLD.out,HL.out];omega,by rw [HLD.out,HL.out];omega,hbR⟩,HT2.out.set (p:=⟨R,0,none⟩) (.inl rfl) _⟩;rw [HLD.out,HL.out];exact hR3
set_option maxHeartbeats 1000000 in
theorem number_no{w:World}{R:Nat}{rest:List UInt8}(h:BRd w R rest){n nx e0:Nat}(hg:GU rest 0 n nx e0)(he:e0≠0):
 Calls Tryz.prog 122 #[.pointer (some ⟨R,0,none⟩)] w fun e w'=>e=.panicked blbroken/\Two w w' R R:=by
 obtain ⟨b,o,c,hR,hB,hc,hl,hbR⟩:=h;have HG:=zz (getuint_prog (some ⟨b,o,none⟩) rest c 0 n nx e0 w hB (by omega) hl (Nat.zero_le _) hg);have c0:w.cell? ⟨R,0,none⟩=some (.slice (some ⟨b,o,none⟩) rest.length c):=hR.cell 0;have j1:((e0:Int)==0)=false:=by rw [beq_eq_false_iff_ne];omega
 obtain ⟨L,hL⟩:∃L,rest.length=L:=⟨_,rfl⟩;rw [hL] at c0 HG;clear hR hB hL hg he;go_enter Tryz.func122,Tryz.ntmps122
 go_wp2_with fail
 refine HG.out.mono ?_;rintro e w2 ⟨rfl,hb2⟩;have HT2:=zz (two_below (R:=R) hb2);clear hb2 c0
 go_wp2_with (refine (blmust_no _).mono ?_;rintro e w3 ⟨rfl,rfl⟩)
 exact ⟨rfl,rfl,HT2.out⟩
theorem gu_lt{l:List UInt8}{a n nx e:Nat}(h:GU l a n nx e):n<9223372036854775808:=by
 cases h with
 | short k hk hc he=>omega
 | nought k hk h0 hc he hz=>omega
 | long he hc=>omega
 | ok k hk hc he hl hz =>
   have h1:=digN_lt l a (k+1);have h2:128^(k+1)<=128^9:=Nat.pow_le_pow_right (by omega) (by omega);have h3:(128:Nat)^9=9223372036854775808:=by decide
   omega
theorem number_prog{w:World}{R:Nat}{rest:List UInt8}(h:BRd w R rest){o:Option (Nat × List UInt8)}(ho:NumO rest o):
 Calls Tryz.prog 122 #[.pointer (some ⟨R,0,none⟩)] w (NumTold w R o):=by
 cases ho with
 | yes hg =>
   refine (number_yes h hg (gu_lt hg)).mono ?_;rintro e w' ⟨rfl,h1,h2⟩;exact .inl ⟨_,_,rfl,gu_lt hg,rfl,h1,h2⟩
 | no hg he =>
   refine (number_no h hg he).mono ?_;rintro e w' ⟨rfl,h2⟩;exact .inr ⟨rfl,rfl,h2⟩
def CntTold(w:World)(R:Nat)(o:Option (List UInt8 × List UInt8))(e:Ending)(w':World):Prop :=
 (∃x rest,o=some (x,rest)/\TakeTold w R x rest e w')\/(o=none/\e=.panicked blbroken/\Two w w' R R)
set_option maxHeartbeats 1000000 in
theorem counted_prog{w:World}{R:Nat}{rest:List UInt8}(h:BRd w R rest){o:Option (List UInt8 × List UInt8)}(ho:CntO rest o):
 Calls Tryz.prog 84 #[.pointer (some ⟨R,0,none⟩)] w (CntTold w R o):=by
 cases ho with
 | no hn =>
   have HN:=zz (number_prog h hn);clear h hn;go_enter Tryz.func84,Tryz.ntmps84
   go_wp2_with fail
   refine HN.out.mono ?_;rintro e w2 (⟨n,r,h,_⟩|⟨_,rfl,h2⟩)
   ·cases h
   ·go_wp2_with fail
    exact ⟨rfl,.inr ⟨rfl,rfl,h2⟩⟩
 | short hn hr =>
   have HN:=zz (number_prog h hn);have HR:=zz hr;clear h hn hr;go_enter Tryz.func84,Tryz.ntmps84
   go_wp2_with fail
   refine HN.out.mono ?_;rintro e w2 (⟨n,r,h,hlt,rfl,hR2,h2⟩|⟨h,_⟩)
   ·injection h with h;injection h with h3 h4;subst h3 h4;have HT:=zz (take_no hR2 _ HR.out);have HW:=zz h2;clear hR2 h2
    go_wp2_with fail
    refine HT.out.mono ?_;rintro e w3 ⟨rfl,rfl⟩
    go_wp2_with fail
    exact ⟨rfl,.inr ⟨rfl,rfl,HW.out⟩⟩
   ·cases h
 | @yes N r0 hn hr =>
   have HN:=zz (number_prog h hn);have HR:=zz hr;clear h hn hr;go_enter Tryz.func84,Tryz.ntmps84
   go_wp2_with fail
   refine HN.out.mono ?_;rintro e w2 (⟨n,r,h,hlt,rfl,hR2,h2⟩|⟨h,_⟩)
   ·injection h with h;injection h with h3 h4;subst h3 h4;have HT:=zz (take_yes hR2 _ HR.out);have HW:=zz h2;clear hR2 h2 hlt
    go_wp2_with fail
    refine HT.out.mono ?_;rintro e w3 ⟨P,c,rfl,hc,hB,hR3,h3⟩;have HB:=zz hB;have HR3:=zz hR3;have HW3:=zz (HW.out.trans h3);have HC:=zz hc;clear hB hR3 h3 hc;obtain ⟨L,hL⟩:∃L,(r0.take N).length=L:=⟨_,rfl⟩;have HL:=zz hL;rw [hL];clear hL
    go_wp2_with fail
    go_ret;exact .inl ⟨_,_,rfl,P,c,(by rw [HL.out]<;>rfl),HC.out,HB.out,HR3.out,HW3.out⟩
   ·cases h
structure PcM where
 ba:Option Addr
 bc:Nat
abbrev PPl:=List Smp × PcM
def ppl0:PPl:=([],⟨none,0⟩)
def pcV(q:PPl):Value:=.slice q.2.ba (encL q.1).length q.2.bc
def pcE(q:PPl):List Value:=[pcV q,.int .i64 (q.1.length:Int),.int .i64 (tOf q.1 0),.int .i64 (tOf q.1 (q.1.length-1))]
theorem pcE_len(q:PPl):(pcE q).length=4:=rfl
def PcIn(w:World)(base:Nat)(q:PPl):Prop:=Own w base (pcV q) (encL q.1)
def OwnPc(w:World)(base:Nat)(v:Value)(ps:List (List Smp)):Prop :=
 ∃qs:List PPl,qs.map (·.1)=ps/\w.ownsRow base 105 4 v qs.length (qs.flatMap pcE)/\∀q∈qs,PcIn w base q
theorem ownpc_nil(w:World)(base:Nat):OwnPc w base (.slice none 0 0) []:=⟨[],rfl,⟨rfl,.inl ⟨rfl,rfl⟩⟩,fun q hq=>by cases hq⟩
theorem ownpc_keep{w w':World}{base:Nat}{v:Value}{ps:List (List Smp)}(h:OwnPc w base v ps)(hk:∀k t cs,base<=k->Row w k t cs->t=5\/t=105->w'.heap[k]?=w.heap[k]?):OwnPc w' base v ps:=by
 obtain ⟨qs,h1,h2,h3⟩:=h;have key:∀{e size n:Nat} {u:Value} {xs:List Value},w.ownsRow base e size u n xs->(e=5\/e=105)->w'.ownsRow base e size u n xs:=by
  intro e size n u xs hu he;refine rows_move hu fun k hk'=>?_
  rcases hu.2 with ⟨rfl,_⟩|⟨g,cap,cur,rfl,hb,hh,_⟩
  ·cases hk'
  ·simp only [Value.ownBlock,Option.some.injEq] at hk';subst hk';exact hk g e cur hb hh he
 exact ⟨qs,h1,key h2 (.inr rfl),fun q hq=>key (h3 q hq) (.inl rfl)⟩
theorem ownpc_below{w w':World}{base:Nat}{v:Value}{ps:List (List Smp)}(h:OwnPc w base v ps)(hb:Below w.heap.size w w'):OwnPc w' base v ps :=
 ownpc_keep h fun k t cs _ hr _=>hb.block k hr.lt
theorem ownpc_lower{w:World}{base base':Nat}{v:Value}{ps:List (List Smp)}(h:OwnPc w base v ps)(hb:base'<=base):OwnPc w base' v ps:=by
 obtain ⟨qs,h1,h2,h3⟩:=h;exact ⟨qs,h1,rows_lower h2 hb,fun q hq=>own_lower (h3 q hq) hb⟩
def PcAt(w:World)(base b o:Nat)(ps:List (List Smp))(i:Nat)(m:PcM):Prop :=
 w.cell? ⟨b,o+i*4,none⟩=some (pcV (ps.getD i [],m))/\w.cell? ⟨b,o+i*4+1,none⟩=some (.int .i64 ((ps.getD i []).length:Int))/\w.cell? ⟨b,o+i*4+2,none⟩=some (.int .i64 (tOf (ps.getD i []) 0)) /\
  w.cell? ⟨b,o+i*4+3,none⟩=some (.int .i64 (tOf (ps.getD i []) ((ps.getD i []).length-1)))/\PcIn w base (ps.getD i [],m)
theorem ownpc_slice{w:World}{base:Nat}{v:Value}{ps:List (List Smp)}(h:OwnPc w base v ps):
 ∃P c,v=.slice P ps.length c/\ps.length<=c/\(0<ps.length->∃b o,P=some ⟨b,o,none⟩/\b<w.heap.size/\base<=b/\∀i,i<ps.length->∃m,PcAt w base b o ps i m):=by
 obtain ⟨qs,rfl,h2,h3⟩:=h;obtain ⟨P,c,h4,h5,h6,h7⟩:=rows_slice h2;refine ⟨P,c,by rw [List.length_map];exact h4,by rw [List.length_map];exact h5,fun hl=>?_⟩;rw [List.length_map] at hl;have hlen:=flat_len pcE 4 pcE_len qs;rcases h6 with h6|⟨b,o,rfl,hb,hc⟩
 ·rw [h6] at hlen;simp at hlen;omega
 ·refine ⟨b,o,rfl,hb,h7 _ rfl,fun i hi=>?_⟩;rw [List.length_map] at hi;have hg:(qs.map (·.1)).getD i []=(qs.getD i ppl0).1:=by simp [List.getD_eq_getElem?_getD,hi]
  have hm:qs.getD i ppl0∈qs:=List.mem_of_getElem? (getD_some qs ppl0 hi);have hcell:∀j u,(pcE (qs.getD i ppl0))[j]?=some u->w.cell? ⟨b,o+(i*4+j),none⟩=some u:=by
   intro j u hj;have hj4:j<4:=by
    have:=(List.getElem?_eq_some_iff.1 hj).1;rw [pcE_len] at this;exact this
   exact hc (i*4+j) u ((flat_get pcE 4 pcE_len qs i _ j (getD_some qs ppl0 hi) hj4).trans hj)
  refine ⟨(qs.getD i ppl0).2,?_,?_,?_,?_,?_⟩
  ·rw [hg];exact hcell 0 _ rfl
  ·rw [hg,Nat.add_assoc];exact hcell 1 _ rfl
  ·rw [hg,Nat.add_assoc];exact hcell 2 _ rfl
  ·rw [hg,Nat.add_assoc];exact hcell 3 _ rfl
  ·rw [hg];exact h3 _ hm
theorem piece_info:(Tryz.prog.info? 105).map (fun i=>(i.zero,i.size,i.bytes))=some (some (.agg #[.slice none 0 0,.int .i64 0,.int .i64 0,.int .i64 0]),4,48):=by kernel_rfl
theorem app_piece{w0:World}{ops:Array Oper}{rest:List Oper}{o:Oper}{a:Act}{Q:Exit->Act->World->Prop}(hgd:o.guard=none)(s y:Operand)
 (ho:o.op=.call { callee:=.builtin .append,args:=#[s,y],argTypes:=#[103,103] })
 (base:Nat)(v:Value)(ps:List (List Smp))(hs:a.eval s=v)(hF:OwnPc w0 base v ps)(q:PPl)(c:Nat)(hx:PcIn w0 base q)
 (hy:a.eval y=.slice (some ⟨w0.heap.size,0,none⟩) 1 c)(hn:ps.length<=2000000000000)(hbase:base<=w0.heap.size)
 (h:∀v' w',OwnPc w' base v' (ps++[q.1])->Below base w0 w'->w0.grownBy w' v.ownBlock->wpList Tryz.prog ops Q rest (a.put o.dst v') w'):
 wpList Tryz.prog ops Q (o::rest) a (w0.alloc (.cells (pcE q).toArray 105)):=by
 obtain ⟨i0,hi,hz0,hz1,hz2⟩:=info_parts piece_info;have hA:=below_one w0 (.cells (pcE q).toArray 105);obtain ⟨qs,rfl,h2,h3⟩:=ownpc_below hF hA;have hx1:PcIn _ base q:=own_below hx hA;rw [List.length_map] at hn;refine wpList_app_at hgd s y 103 ho base 105 i0 _ 4 48 Tryz.underlying103 hi hz0 hz1 hz2 rfl (by omega) v qs.length (qs.flatMap pcE) hs h2 (some ⟨w0.heap.size,0,none⟩) 1 c (pcE q) hy (by rw [pcE_len]) (At.row (Row.new w0 _ _)) ?_
  (by simp only [maxLen];omega) (by omega) (Nat.le_trans hbase hA.size) ?_
 ·intro u hu;simp only [pcE,List.mem_cons,List.not_mem_nil,or_false] at hu;rcases hu with rfl|rfl|rfl|rfl<;>rfl
 intro v' w' k1 k2 k3;have hkeep:∀{r:PPl},PcIn _ base r->PcIn w' base r:=fun {r} hu=>by
  refine own_grown hu k3 fun k hk e=>?_
  rcases hu.2 with ⟨e1,_⟩|⟨g,cap,cur,e1,_,hh,_⟩
  ·rw [e1] at hk;cases hk
  ·rw [e1] at hk;simp only [Value.ownBlock,Option.some.injEq] at hk;subst hk;exact rows_ne hh h2 (by decide) e.symm
 refine h v' w' ⟨qs++[q],by simp,by rw [List.length_append,List.flatMap_append,List.flatMap_cons,List.flatMap_nil,List.append_nil];exact k1,fun r hr=>?_⟩ ((hA.mono hbase).trans k2) (below_grown hA k3);rcases List.mem_append.1 hr with hr|hr
 ·exact hkeep (h3 r hr)
 ·obtain rfl:=List.mem_singleton.1 hr;exact hkeep hx1
theorem bl_eql_nil{P:Program}(w:World)(t e:TypeId)(a:Option Addr)(l c:Nat)(h:P.underlying t=some (.slice e)):(binOp .eql t (.slice a l c) (.slice none 0 0)).run P w=.ok (.bool a.isNone) w:=by
 simp only [binOp];simp [run_equal_slice_nil w t e a l c h]
set_option maxHeartbeats 1000000 in
theorem bclone_prog(b o:Nat)(l:List UInt8)(c:Nat)(w:World)(hA:Bys w (some ⟨b,o,none⟩) l)(hl:l.length<=100000000):
 Calls Tryz.prog 160 #[.slice (some ⟨b,o,none⟩) l.length c] w fun e w'=>∃v,e=.returned v/\Own w' w.heap.size v l/\Below w.heap.size w w':=by
 have HA:=zz (hA.below (below_one w (.cells #[] 5)));have HE:=zz (own_empty (base:=w.heap.size) (Row.new w 5 #[]) (Nat.le_refl _));clear hA;have hq:=fun (w:World) a l c=>bl_eql_nil (P:=Tryz.prog) w 24 5 a l c Tryz.underlying24
 go_enter Tryz.func160,Tryz.ntmps160
 go_wp2_with (at_builtin;refine app_u8 rfl (.tmp 5) (.tmp 6) rfl w.heap.size (.slice (some ⟨w.heap.size,0,none⟩) 0 0) [] rfl HE.out (some ⟨b,o,none⟩) l c rfl HA.out (by simp only [List.length_nil];omega) (by simp) ?_;intro v3 w3 ho3 hb3 hg3;rw [List.nil_append] at ho3;have HO3:=zz ho3;have HB3:=zz ((below_one w (.cells #[] 5)).trans hb3);obtain ⟨B3,d3,hv3,_,_⟩:=own_slice' ho3;obtain ⟨n3,hn3⟩:∃n3,l.length=n3:=⟨_,rfl⟩;rw [hn3] at hv3;subst hv3;clear ho3 hb3 hg3 hn3)
 go_ret;exact ⟨_,rfl,HO3.out,HB3.out⟩
theorem ret_piece{fn:Func}{p:Tmp}(h:fn.results=#[.cell p 105])(tmps:Array Value)(w:World)(g:Nat)(cs:Array Value)(hp:tmps.getD p undef=.pointer (some ⟨g,0,none⟩))(hg:Row w g 105 cs)(hs:cs.size=4):
 (results fn tmps).run Tryz.prog w=.ok (.agg cs) w :=
 results_cell_row h tmps w g _ cs _ _ hp hg Tryz.underlying105 rfl (by rw [hs];kernel_rfl)
def PcoTold(w:World)(l:List Smp)(e:Ending)(w':World):Prop:=∃m:PcM,e=.returned (.agg (pcE (l,m)).toArray)/\PcIn w' w.heap.size (l,m)/\Below w.heap.size w w'
def pz:Array Value:=#[.slice none 0 0,.int .i64 0,.int .i64 0,.int .i64 0]
def put4(W:World)(g:Nat)(a b c d:Value):World:=(((W.setCell ⟨g,0,none⟩ a).setCell ⟨g,1,none⟩ b).setCell ⟨g,2,none⟩ c).setCell ⟨g,3,none⟩ d
theorem put4_row{W:World}{g:Nat}{t:TypeId}{c0 c1 c2 c3:Value}(h:Row W g t #[c0,c1,c2,c3])(a b c d:Value):Row (put4 W g a b c d) g t #[a,b,c,d]:=by
 have h1:=(((h.setAt 0 a).setAt 1 b).setAt 2 c).setAt 3 d;simp only [List.setIfInBounds_toArray,List.set_cons_zero,List.set_cons_succ] at h1;exact h1
theorem put4_below{B:Nat}{w0 W:World}{g:Nat}(h:Below B w0 W)(hg:B<=g)(a b c d:Value):Below B w0 (put4 W g a b c d) :=
 (((h.setCell (p:=⟨g,0,none⟩) hg a).setCell (p:=⟨g,1,none⟩) hg b).setCell (p:=⟨g,2,none⟩) hg c).setCell (p:=⟨g,3,none⟩) hg d
theorem put4_own{W:World}{base g:Nat}{t:TypeId}{cs:Array Value}{v:Value}{x:List UInt8}(h:Own W base v x)(hg:Row W g t cs)(ht:t≠5)(a b c d:Value):Own (put4 W g a b c d) base v x:=by
 have hne:v.ownBlock≠some g:=fun e=>own_ne h hg ht e.symm
 exact own_setFar (p:=⟨g,3,none⟩) (own_setFar (p:=⟨g,2,none⟩) (own_setFar (p:=⟨g,1,none⟩) (own_setFar (p:=⟨g,0,none⟩) h hne a) hne b) hne c) hne d
theorem bys_some{w:World}{A:Option Addr}{l:List UInt8}(h:Bys w A l)(hl:l≠[]):∃b o,A=some ⟨b,o,none⟩:=by
 rcases h with h|⟨b,o,h,_⟩
 ·exact absurd h hl
 ·exact ⟨b,o,h⟩
theorem enc_some{l:List Smp}(h:chk l=0):encL l≠[]:=fun e=>no_empty l h e
set_option maxHeartbeats 2000000 in
theorem pieceof_yes(A:Option Addr)(l:List Smp)(c:Nat)(w:World)(hA:Bys w A (encL l))(hc:chk l=0):
 Calls Tryz.prog 123 #[.slice A (encL l).length c] w (PcoTold w l):=by
 obtain ⟨b,o,rfl⟩:=bys_some hA (enc_some hc);have hfew:=enc_few hc;have hW1:=below_one w (.cells pz 105);have hR1:Row (w.alloc (.cells #[.slice none 0 0,.int .i64 0,.int .i64 0,.int .i64 0] 105)) w.heap.size 105 #[.slice none 0 0,.int .i64 0,.int .i64 0,.int .i64 0]:=Row.new _ _ _;have HBD:=zz (bounds_yes (c:=c) (hA.below hW1) (by omega) hc rfl);have HCL:=zz (fun x (hx:Below (w.alloc (.cells pz 105)).heap.size (w.alloc (.cells pz 105)) x)=>bclone_prog b o (encL l) c x ((hA.below hW1).below hx) (by omega));have HR1:=zz hR1;have HW1:=zz hW1;have hs1:(w.alloc (.cells pz 105)).heap.size=w.heap.size+1:=by simp
 clear hA hW1 hR1;unfold PcoTold pcE pcV;simp only;unfold pz at *;generalize tOf l 0=T0 at *;generalize tOf l (l.length-1)=T1 at *;generalize l.length=n at *;obtain ⟨L,hL⟩:∃L,(encL l).length=L:=⟨_,rfl⟩;rw [hL] at HBD HCL ⊢;have HLL:=zz hL;clear hL hfew;go_enter Tryz.func123,Tryz.ntmps123
 go_wp2_with fail
 refine HBD.out.mono ?_;rintro e w2 ⟨rfl,hb2⟩;have HB2:=zz hb2;clear hb2
 go_wp2_with (refine (blmust_yes _).mono ?_;rintro e w3 ⟨rfl,rfl⟩)
 refine (HCL.out _ HB2.out).mono ?_;rintro e w3 ⟨v3,rfl,ho3,hb3⟩;obtain ⟨P3,c3,hv3,_,_⟩:=own_slice' ho3;rw [HLL.out] at hv3;subst hv3;have hR3:=(HR1.out.below HB2.out (by omega)).below hb3 (by have:=HB2.out.size;omega);have HR3:=zz hR3;have HO3:=zz ho3;have HB3:=zz (HW1.out.trans ((HB2.out.trans (hb3.mono HB2.out.size)).mono (by omega)));have x0:=hR3.cell 0;have x1:=hR3.cell 1;have x2:=hR3.cell 2;have x3:=hR3.cell 3;have f0:=hR3.frozen 0;have f1:=hR3.frozen 1;have f2:=hR3.frozen 2;have f3:=hR3.frozen 3;clear ho3 hb3 hR3
 go_wp2_with fail
 (try simp only [Exit.inBlock,Exit.then])
 refine bodyPost_ret (ret_piece rfl _ _ _ _ rfl (put4_row HR3.out _ _ _ _) rfl) rfl ⟨⟨P3,c3⟩,rfl,?_,put4_below HB3.out (Nat.le_refl _) _ _ _ _⟩;have:=put4_own (own_lower HO3.out (show w.heap.size<=w2.heap.size by have:=HB2.out.size;omega)) HR3.out (by decide) (.slice P3 L c3) (.int .i64 n) (.int .i64 T0) (.int .i64 T1);rw [<-HLL.out] at this;rw [<-HLL.out];exact this
set_option maxHeartbeats 1000000 in
theorem pieceof_no(A:Option Addr)(b:List UInt8)(c:Nat)(w:World)(hA:Bys w A b)(hl:b.length<=140737488355328)(hc:NoChunk b):
 Calls Tryz.prog 123 #[.slice A b.length c] w fun e w'=>e=.panicked blbroken/\Below w.heap.size w w':=by
 have hW1:=below_one w (.cells #[.slice none 0 0,.int .i64 0,.int .i64 0,.int .i64 0] 105);have HBD:=zz (bounds_no (c:=c) (hA.below hW1) hl hc);have HW1:=zz hW1;generalize b.length=L at *;clear hA hW1;go_enter Tryz.func123,Tryz.ntmps123
 go_wp2_with fail
 refine HBD.out.mono ?_;rintro e w2 ⟨rfl,hb2⟩;have HB2:=zz (HW1.out.trans (hb2.mono HW1.out.size));clear hb2
 go_wp2_with (refine (blmust_no _).mono ?_;rintro e w3 ⟨rfl,rfl⟩)
 exact ⟨rfl,rfl,HB2.out⟩
end Go.Proofs.YtgdmcnoogacdaaaGreatDoor
