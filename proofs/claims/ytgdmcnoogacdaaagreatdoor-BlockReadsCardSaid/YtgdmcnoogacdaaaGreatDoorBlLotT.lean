/- In one text, written by lotify.py: IxPlace, IxBytes, IxBytesRef. -/
import Derived.Test.YtgdmcnoogacdaaaGreatDoorBlLotS
import Derived.Test.YtgdmcnoogacdaaaGreatDoorBlLotE
namespace Go.Proofs.YtgdmcnoogacdaaaGreatDoor
open Go.RowKit Go.Maps
set_option linter.unusedVariables false
set_option maxRecDepth 100000
theorem str_refl(s:ByteArray):(s.toList==s.toList)=true:=by simp
theorem nan_prog(s:ByteArray)(w:World):Calls Tryz.prog 187 #[.string s] w fun e w'=>e=.returned (.bool false)/\w'=w:=by
 have h:=str_refl s;go_enter Tryz.func187,Tryz.ntmps187
 go_wp2_with fail
 go_ret;exact ⟨rfl,rfl⟩
theorem lessT_prog(a b:ByteArray)(w:World):Calls Tryz.prog 143 #[.string a,.string b] w fun e w'=>e=.returned (.bool (Op.bytesLess a.toList b.toList))/\w'=w:=by
 cases hl:Op.bytesLess a.toList b.toList
 all_goals
  go_enter Tryz.func143,Tryz.ntmps143
  go_wp2_with (first|(go_at_call 187;refine (nan_prog _ _).mono ?_;rintro e w2 ⟨rfl,rfl⟩))
  go_ret;exact ⟨rfl,rfl⟩
theorem up_less{ts:List ByteArray}(hu:UpF cmpB ts){h p:Nat}(hh:h<ts.length)(hp:p<ts.length):Op.bytesLess (ts.getD h txt0).toList (ts.getD p txt0).toList=decide (h<p):=by
 rw [less_cmp,getD_at hh,getD_at hp];have key:∀i j (hi:i<ts.length) (hj:j<ts.length),i<j->cmpB ts[i] ts[j]<0:=fun i j hi hj hij=>List.pairwise_iff_getElem.1 hu i j hi hj hij
 rcases Nat.lt_trichotomy h p with h1|h1|h1
 ·have:=key h p hh hp h1;rw [decide_eq_true h1];refine decide_eq_true (show cmpB ts[h] ts[p]=-1 from ?_);rcases cmpB_cmp.rng ts[h] ts[p] with h3|h3|h3<;>omega
 ·subst h1;rw [decide_eq_false (Nat.lt_irrefl h),cmp_self cmpB_cmp];rfl
 ·have:=key p h hp hh h1;have h2:=cmpB_cmp.swap ts[p] ts[h];rw [show decide (h<p)=false from decide_eq_false (by omega)];exact decide_eq_false (show ¬cmpB ts[h] ts[p]=-1 from by omega)
set_option maxHeartbeats 1000000 in
theorem search_prog(A:Option Addr)(ts:List ByteArray)(c:Nat)(s:ByteArray)(w:World)(hA:Tx w A ts)(hu:UpF cmpB ts)(hs:s∈ts)(hl:ts.length<=1000000):
 Calls Tryz.prog 103 #[.slice A ts.length c,.string s] w fun e w'=>e=.returned (.tuple #[.int .i64 (placeF ts s:Int),.bool true])/\w'=w:=by
 obtain ⟨hp,hpe⟩:=place_get hs;obtain ⟨p,hpd⟩:∃p,placeF ts s=p:=⟨_,rfl⟩;rw [hpd] at hp ⊢;have hps:ts.getD p txt0=s:=by rw [getD_at hp];simp only [hpd] at hpe;exact hpe
 have HU:=zz (fun h (hh:h<ts.length)=>up_less hu hh hp);have HA:=zz hA;have HPS:=zz hps;rw [hps] at HU;clear hA hu hs hpe hpd hps;go_enter Tryz.func103,Tryz.ntmps103
 go_wp2_with fail
 go_loopw [7,8] (fun i j wr=>∃(x y:Nat),i=.int .i64 (x:Int)/\j=.int .i64 (y:Int)/\x<=p/\p<=y/\y<=ts.length/\wr=w) (fun i j _=>(intOf j).toNat-(intOf i).toNat)
 case atStart=>exact ⟨0,ts.length,rfl,rfl,Nat.zero_le _,Nat.le_of_lt hp,Nat.le_refl _,rfl⟩
 case round =>
  obtain ⟨x,y,rfl,rfl,hx,hy,hyl,rfl⟩:=hrel
  by_cases hxy:x<y
  ·have o1:IntKind.i64.wrap ((x:Int)+(y:Int))=((x+y:Nat):Int):=by rw [show (x:Int)+(y:Int)=((x+y:Nat):Int) from by omega];exact IntWalk.i64_in _ (by omega)
   have i1:decide ((x:Int)<(y:Int))=true:=decide_eq_true (by omega);obtain ⟨m,hm⟩:∃m,(x+y)/2=m:=⟨_,rfl⟩;have hxm:x<=m:=by omega
   have hmy:m<y:=by omega
   have hml:m<ts.length:=by omega
   obtain ⟨b1,o1',rfl,hb1,g0⟩:=HA.out.at_ hml;have i2:(m:Int)<(ts.length:Int):=by omega
   have i3:(0:Int)<=(m:Int):=by omega
   have HL:=zz (HU.out m hml);obtain ⟨t,ht⟩:∃t,ts.getD m txt0=t:=⟨_,rfl⟩;rw [ht] at g0 HL;have o2:IntKind.i64.wrap (((x:Int)+(y:Int))/2+1)=((x:Int)+(y:Int))/2+1:=IntWalk.i64_in _ (by omega);rw [<-hm] at g0;have HM:=zz hm;clear ht hm
   by_cases hmp:m<p
   ·have j1:Op.bytesLess t.toList s.toList=true:=by rw [HL.out];exact decide_eq_true hmp
    go_wp2_with (first|(go_at_call 143;refine (lessT_prog _ _ _).mono ?_;rintro e w2 ⟨rfl,rfl⟩))
    go_roundw
    case rel=>exact ⟨m+1,y,by rw [<-HM.out];go_num,rfl,hmp,hy,hyl,by first|rfl|trivial⟩
    case measure=>simp [intOf];have:=HM.out;omega
   ·have j1:Op.bytesLess t.toList s.toList=false:=by rw [HL.out];exact decide_eq_false hmp
    go_wp2_with (first|(go_at_call 143;refine (lessT_prog _ _ _).mono ?_;rintro e w2 ⟨rfl,rfl⟩))
    go_roundw
    case rel=>exact ⟨x,m,rfl,by rw [<-HM.out];go_num,hx,by omega,by omega,by first|rfl|trivial⟩
    case measure=>simp [intOf];have:=HM.out;omega
  ·obtain rfl:x=p:=by omega
   obtain ⟨b1,o1,rfl,hb1,g0⟩:=HA.out.at_ hp;rw [HPS.out] at g0;have i1:decide ((x:Int)<(y:Int))=false:=decide_eq_false (by omega);have i2:(x:Int)<(ts.length:Int):=by omega
   have h:=str_refl s
   go_wp2_with fail
   go_ret2;exact ⟨rfl,rfl⟩
theorem place_prog(A:Option Addr)(ts:List ByteArray)(c:Nat)(s:ByteArray)(w:World)(hA:Tx w A ts)(hu:UpF cmpB ts)(hs:s∈ts)(hl:ts.length<=1000000):
 Calls Tryz.prog 64 #[.slice A ts.length c,.string s] w fun e w'=>e=.returned (.int .i64 (placeF ts s:Int))/\w'=w:=by
 have HS:=zz (search_prog A ts c s w hA hu hs hl);clear hA hu hs hl;go_enter Tryz.func64,Tryz.ntmps64
 go_wp2_with (first|(go_at_call 103;refine HS.out.mono ?_;rintro e w2 ⟨rfl,rfl⟩))
 go_ret;exact ⟨rfl,rfl⟩
def KeepB(base:Nat)(w w':World):Prop:=Below base w w'/\∀k t cs,Row w k t cs->t≠24->t≠5->w'.heap[k]?=w.heap[k]?
theorem keepB_below{base:Nat}{w w':World}(h:Below w.heap.size w w')(hb:base<=w.heap.size):KeepB base w w':=⟨h.mono hb,fun k t cs hk _ _=>h.block k hk.lt⟩
theorem keepB_trans{base:Nat}{a b c:World}(h:KeepB base a b)(k:KeepB base b c):KeepB base a c :=
 ⟨h.1.trans k.1,fun q t cs hq h1 h2=>(k.2 q t cs ((h.2 q t cs hq h1 h2).trans hq) h1 h2).trans (h.2 q t cs hq h1 h2)⟩
theorem keepB_grown{base:Nat}{w w':World}{v:Value}{l:List UInt8}(h:w.grownBy w' v.ownBlock)(ho:Own w base v l)(hb:base<=w.heap.size):KeepB base w w' :=
 ⟨Below.grown (Below.refl base w) h hb (fun q hq=>(World.ownsRow.lt ho q hq).1),fun k t cs hk _ ht=>h.block k hk.lt fun e=>by
  obtain ⟨cs',hc⟩:=rows_block ho e.symm;exact ht (row_kind hk hc)⟩
theorem keepB_set{base LB i:Nat}{w:World}{cs:Array Value}(hL:Row w LB 24 cs)(hb:base<=LB)(u:Value):KeepB base w (w.setCell ⟨LB,i,none⟩ u) :=
 ⟨Below.setCell (Below.refl base w) (p:=⟨LB,i,none⟩) hb u,fun k t cs' hk ht _=>Below.heap_setCell w _ _ _ fun e=>by
  have e2:k=LB:=e;subst e2;exact ht (row_kind hk hL)⟩
theorem keepB_tx{base base':Nat}{w w':World}{v:Value}{ts:List ByteArray}(h:KeepB base w w')(ho:OwnTx w base' v ts):OwnTx w' base' v ts :=
 rows_move ho fun k hk=>by
  obtain ⟨cs,hc⟩:=rows_block ho hk;exact h.2 k _ cs hc (by decide) (by decide)
theorem owntx_tx{w:World}{base n c:Nat}{P:Option Addr}{ts:List ByteArray}(h:OwnTx w base (.slice P n c) ts):Tx w P ts:=by
 obtain ⟨P',c',e,_,hT,_⟩:=owntx_slice h;obtain ⟨rfl,_,_⟩:=Value.slice.inj e;exact hT
def Laid(w:World)(LB base:Nat)(l:List UInt8):Prop:=∃v,Row w LB 24 #[v]/\Own w base v l
theorem laid_next{w w':World}{LB base:Nat}{l m:List UInt8}{v v':Value}(hL:Row w LB 24 #[v])(ho:Own w base v l)(hb:base<=LB)(hbw:base<=w.heap.size)(hg:w.grownBy w' v.ownBlock)(ho':Own w' base v' m):
 Row w' LB 24 #[v]/\Laid (w'.setCell ⟨LB,0,none⟩ v') LB base m/\KeepB base w (w'.setCell ⟨LB,0,none⟩ v'):=by
 have hL':Row w' LB 24 #[v]:=grown_row hL hg (own_ne ho hL (by decide));refine ⟨hL',⟨v',hL'.setAt 0 v',own_setFar ho' (fun e=>?_) v'⟩,keepB_trans (keepB_grown hg ho hbw) (keepB_set hL' hb v')⟩;exact absurd e.symm (own_ne ho' hL' (by decide))
set_option maxHeartbeats 1000000 in
theorem num_prog{w:World}{LB base:Nat}{l:List UInt8}(hL:Laid w LB base l)(hl:l.length<=1000000)(hb:base<=LB)(hbw:base<=w.heap.size)(n:Nat)(hn:n<=9223372036854775807):
 Calls Tryz.prog 60 #[.int .i64 (n:Int),.pointer (some ⟨LB,0,none⟩)] w fun e w'=>e=.returned (.tuple #[])/\Laid w' LB base (l++uintL n)/\KeepB base w w':=by
 obtain ⟨v,hX,hO⟩:=hL;have HPU:=zz (putuint_prog none [] 0 n w (Bys.empty _ _) (by simp) hn);have HX:=zz hX;have HO:=zz hO;have hu:=uintL_9 (n:=n) (by omega);clear hX hO;go_enter Tryz.func60,Tryz.ntmps60
 go_upto_region 1 with (first|(go_at_call 61;refine HPU.out.mono ?_;rintro e w2 ⟨v2,rfl,ho2,hb2⟩;rw [List.nil_append] at ho2;obtain ⟨B2,d2,hv2,hB2,_⟩:=own_slice' ho2;subst hv2;have HBB2:=zz hB2;have HB2:=zz hb2;clear ho2 hB2 hb2))
 have hX2:=HX.out.below HB2.out HX.out.lt;have HX2:=zz hX2;have HO2:=zz (own_below HO.out HB2.out);have x0:=hX2.cell 0;have hbw2:base<=w2.heap.size:=Nat.le_trans hbw HB2.out.size;clear hX2
 go_wp2_with (first|(at_builtin;refine app_u8 rfl (.tmp 10) (.tmp 11) rfl base v l rfl HO2.out B2 (uintL n) d2 rfl HBB2.out (by omega) hbw2 ?_;intro v3 w3 ho3 hb3 hg3;obtain ⟨hX3,hL3,hK3⟩:=laid_next HX2.out HO2.out hb hbw2 hg3 ho3;obtain ⟨B3,d3,hv3,_,_⟩:=own_slice' ho3;have x3:=hX3.cell 0;have f3:=hX3.frozen 0;have HL3:=zz hL3;have HK3:=zz hK3;obtain ⟨n3,hn3⟩:∃n3,(l++uintL n).length=n3:=⟨_,rfl⟩;rw [hn3] at hv3;subst hv3;clear ho3 hb3 hg3 hX3 hL3 hK3 hn3))
 go_end0
 exact ⟨rfl,HL3.out,keepB_trans (keepB_below HB2.out hbw) HK3.out⟩
theorem acc_small{ss:List (List Lbl)}(h:ixChk ss=0){a r:List UInt8}(e:a++r=ixBytes ss):a.length<=1000000:=by
 have h1:=bytes_len h;rw [<-e,List.length_append] at h1;omega
set_option maxHeartbeats 4000000 in
theorem bytes_prog(X:Nat)(ss:List (List Lbl))(base0:Nat)(w:World)(hI:IdxAt w base0 X ss)(hr:ixChk ss=0):
 Calls Tryz.prog 30 #[.pointer (some ⟨X,0,none⟩)] w fun e w'=>∃v,e=.returned v/\Own w' w.heap.size v (ixBytes ss)/\Below w.heap.size w w':=by
 have hB1:=below_one w (.cells #[.slice none 0 0] 24);have HTX:=zz (texts_prog X ss base0 (w.alloc (.cells #[.slice none 0 0] 24)) (hI.below hB1) hr);have hL0:Laid (w.alloc (.cells #[.slice none 0 0] 24)) w.heap.size w.heap.size []:=⟨_,Row.new w _ _,own_nil _ _⟩;have HL0:=zz hL0;have HB1:=zz hB1;obtain ⟨h256,_,hrr⟩:=ixChk_right hr;have HT4:=zz (texts_len hr);have HTS:=zz (fun s (hs:s∈ixTexts ss)=>text_size hr hs);have HUP:=zz (setF_up cmpB_cmp (textsOf ss));have HRR:=zz hrr;have HAC:=zz (fun (a r:List UInt8) (e:a++r=ixBytes ss)=>acc_small hr e);obtain ⟨_,v0,M,_,hX,hO,_⟩:=hI;obtain ⟨V,cV,rfl,_,hS,_⟩:=ownsets_slice hO;have HV:=zz (fun (x:World) (h:Below w.heap.size w x)=>hS.below h);have HXR:=zz (fun (x:World) (h:Below w.heap.size w x)=>(hX.below h hX.lt).cell 0);have HST:=zz (bytes_start ss);have HTN:=zz (fun k (h:k<(ixTexts ss).length)=>restT_next ss h);have HTE:=zz (restT_end ss);have HSN:=zz (fun i (h:i<ss.length)=>restS_next ss h);have HSE:=zz (restS_end ss);have HLN:=zz (fun i k (h:k<(ss.getD i []).length)=>restL_next ss i h);have HLE:=zz (fun i=>restL_end ss i);have HIN:=zz (fun i (hi:i<ss.length) k (hk:k<(ss.getD i []).length)=>texts_in (ss_at hi) (show (nmOf (ss.getD i []) k,vlOf (ss.getD i []) k)∈ss.getD i [] from by
  have e:(ss.getD i [])[k]=(nmOf (ss.getD i []) k,vlOf (ss.getD i []) k):=by
   unfold nmOf vlOf;rw [List.getD_eq_getElem?_getD (l:=ss.getD i []),List.getElem?_eq_getElem hk];rfl
  rw [<-e];exact List.getElem_mem hk))
 have H8:=zz (fun i (hi:i<ss.length)=>(lbChk_ok.1 (hrr _ (ss_at hi))).1);clear hX hO hS hrr hr hL0 hB1;obtain ⟨ts,hts⟩:∃ts,ixTexts ss=ts:=⟨_,rfl⟩;rw [hts] at HTX HT4 HTS HST HTN HTE HLN HIN;have HUP2:Hid (UpF cmpB ts):=by rw [<-hts];exact HUP
 clear hts HUP;go_enter Tryz.func30,Tryz.ntmps30
 go_upto_region 6 with (first|(go_at_call 62;refine HTX.out.mono ?_;rintro e w2 ⟨v2,rfl,ho2,hb2⟩;obtain ⟨P,cP,hv2,hcP,_,_⟩:=owntx_slice ho2;subst hv2;have HO2:=zz ho2;have HB2:=zz hb2;clear ho2 hb2))
 obtain ⟨B,hB⟩:∃B,w.heap.size=B:=⟨_,rfl⟩;have hL2:Laid w2 B B []:=by
  obtain ⟨v,k1,k2⟩:=HL0.out;rw [hB] at k1 k2;exact ⟨v,k1.below HB2.out k1.lt,own_below k2 HB2.out⟩
 have HBB2:Hid (Below B w w2):=zz (by rw [<-hB];exact below_then HB1.out HB2.out);have HOT2:Hid (OwnTx w2 B (.slice P ts.length cP) ts):=zz (rows_lower HO2.out (by rw [<-hB];exact HB1.out.size));have HBS:=zz (show ∀x:World,Below B w x->B<=x.heap.size from fun x h=>by have:=h.size;omega);have HN6:=zz (num_prog hL2 (by simp) (Nat.le_refl _) (HBS.out _ HBB2.out) ts.length (by have:=HT4.out;omega));rw [hB] at HV HXR;have HBEQ:=zz hB
 try rw [hB]
 clear hB HL0 HTX hL2 HO2 HB2 HB1
 go_upto_region 7 with (first|(go_at_call 60;refine HN6.out.mono ?_;rintro e w3 ⟨rfl,hl3,hk3⟩;have HL3:=zz hl3;have HK3:=zz hk3;clear hl3 hk3))
 rw [List.nil_append] at HL3;have HB3:=zz (HBB2.out.trans HK3.out.1);have HOT3:=zz (keepB_tx HK3.out HOT2.out);clear HN6 HBB2 HK3 HOT2
 go_wp2_with fail
 go_loopw [25] (fun i wr=>∃(k:Nat) (acc:List UInt8),k<=ts.length/\i=.int .i64 (k:Int)/\Laid wr B B acc/\acc++restT ss k=ixBytes ss/\OwnTx wr B (.slice P ts.length cP) ts/\Below B w wr) (fun i _=>ts.length-(intOf i).toNat)
 case atStart=>exact ⟨0,uintL ts.length,Nat.zero_le _,rfl,HL3.out,HST.out.symm,HOT3.out,HB3.out⟩
 case round =>
  obtain ⟨k,acc,hk,rfl,hL,hE,hT,hB⟩:=hrel;have HL:=zz hL;have HE:=zz hE;have HT:=zz hT;have HB:=zz hB;have hbw:=HBS.out _ hB;clear hL hE hT hB
  by_cases hlt:k<ts.length
  ·obtain ⟨b1,o1,rfl,hb1,g0⟩:=(owntx_tx HT.out).at_ hlt;have i1:(k:Int)<(ts.length:Int):=by omega
   have HMEM:=zz (show ts.getD k txt0∈ts from by rw [getD_at hlt];exact List.getElem_mem hlt);have ht4:ts.length<=4096:=HT4.out;have HRN:=zz (HTN.out k hlt);generalize ts.getD k txt0=s at *;have hs64:=HTS.out s HMEM.out;have HPT:=zz (puttext_prog none [] 0 s wr (Bys.empty _ _) (by simp) (by omega))
   go_upto_region 11 with (first|(go_at_call 63;refine HPT.out.mono ?_;rintro e w5 ⟨v5,rfl,ho5,hb5⟩;rw [List.nil_append] at ho5;obtain ⟨B5,d5,hv5,hB5,_⟩:=own_slice' ho5;subst hv5;have HBB5:=zz hB5;have HB5:=zz hb5;clear ho5 hB5 hb5))
   obtain ⟨v,hX,hO⟩:=HL.out;have hX5:=hX.below HB5.out hX.lt;have HX5:=zz hX5;have HO5:=zz (own_below hO HB5.out);have x5:=hX5.cell 0;have hbw5:B<=w5.heap.size:=Nat.le_trans hbw HB5.out.size;have hac:=HAC.out _ _ HE.out;have htl:(textL s).length<=1000:=by
    unfold textL;have:=uintL_9 (n:=s.size) (by omega);rw [List.length_append,strL_length];omega
   clear hX hO hX5
   go_wp2_with (first|(at_builtin;refine app_u8 rfl (.tmp 34) (.tmp 35) rfl B v acc rfl HO5.out B5 (textL s) d5 rfl HBB5.out (by omega) hbw5 ?_;intro v6 w6 ho6 hb6 hg6;obtain ⟨hX6,hL6,hK6⟩:=laid_next HX5.out HO5.out (Nat.le_refl _) hbw5 hg6 ho6;obtain ⟨B6,d6,hv6,_,_⟩:=own_slice' ho6;have x6:=hX6.cell 0;have f6:=hX6.frozen 0;have HL6:=zz hL6;have HK6:=zz hK6;obtain ⟨n6,hn6⟩:∃n6,(acc++textL s).length=n6:=⟨_,rfl⟩;rw [hn6] at hv6;subst hv6;clear ho6 hb6 hg6 hX6 hL6 hK6 hn6))
   have HKK:=zz (keepB_trans (keepB_below HB5.out hbw) HK6.out)
   go_roundw
   case rel=>exact ⟨k+1,acc++textL s,hlt,by go_num,HL6.out,by rw [List.append_assoc,<-HE.out,HRN.out];rfl,keepB_tx HKK.out HT.out,HB.out.trans HKK.out.1⟩
   case measure=>simp [intOf];omega
  ·obtain rfl:k=ts.length:=by omega
   rw [HTE.out] at HE;have HN8:=zz (num_prog HL.out (HAC.out _ _ HE.out) (Nat.le_refl _) hbw ss.length (by omega));have x8:=HXR.out _ HB.out
   go_upto_region 14 with (first|(go_at_call 60;refine HN8.out.mono ?_;rintro e w8 ⟨rfl,hl8,hk8⟩;have HL8:=zz hl8;have HK8:=zz hk8;clear hl8 hk8))
   have HE8:Hid ((acc++uintL ss.length)++restS ss 0=ixBytes ss):=zz (by rw [List.append_assoc];exact HE.out);have HB8:=zz (HB.out.trans HK8.out.1);have HOT8:=zz (keepB_tx HK8.out HT.out);have x9:=HXR.out _ HB8.out;generalize acc++uintL ss.length=acc8 at *;clear HN8 HB HT HK8 HL HE x8 hbw
   go_wp2_with fail
   clear x9;generalize hwA:wr=wA at *;clear hwA
   go_loopw [50] (fun i wr=>∃(k:Nat) (acc:List UInt8),k<=ss.length/\i=.int .i64 (k:Int)/\Laid wr B B acc/\acc++restS ss k=ixBytes ss/\OwnTx wr B (.slice P ts.length cP) ts/\Below B w wr) (fun i _=>ss.length-(intOf i).toNat)
   case atStart=>exact ⟨0,acc8,Nat.zero_le _,rfl,HL8.out,HE8.out,HOT8.out,HB8.out⟩
   case round =>
    obtain ⟨i,acc,hi,rfl,hL,hE,hT,hB⟩:=hrel;have HL:=zz hL;have HE:=zz hE;have HT:=zz hT;have HB:=zz hB;have hbw:=HBS.out _ hB;clear hL hE hT hB
    by_cases hlt:i<ss.length
    ·obtain ⟨b1,o1,A1,c1,rfl,hb1,g0,hL1,hlc1⟩:=(HV.out w (by rw [<-HBEQ.out];exact Below.refl _ _)).at_ hlt;have g1:=(HB.out.cell (p:=⟨b1,o1+i,none⟩) (by rw [<-HBEQ.out];exact hb1)).trans g0;have HLW:=zz (fun (x:World) (h:Below B w x)=>hL1.below (show Below w.heap.size w x from by rw [HBEQ.out];exact h));have i1:(i:Int)<(ss.length:Int):=by omega
     have HRN:=zz (HSN.out i hlt);have HLN2:=zz (fun k h=>HLN.out i k h);have HLE2:=zz (HLE.out i);have HIN2:=zz (fun k hk=>HIN.out i hlt k hk);have h8:=H8.out i hlt;clear g0 hL1;obtain ⟨l,hl2⟩:∃l,ss.getD i []=l:=⟨_,rfl⟩;rw [hl2] at HRN HLN2 HLE2 HIN2 h8 g1 HLW hlc1;clear hl2;rw [HRN.out] at HE;have HN:=zz (num_prog HL.out (HAC.out _ _ HE.out) (Nat.le_refl _) hbw l.length (by omega))
     go_upto_region 18 with (first|(go_at_call 60;refine HN.out.mono ?_;rintro e w10 ⟨rfl,hl10,hk10⟩;have HL10:=zz hl10;have HK10:=zz hk10;clear hl10 hk10))
     have HE10:Hid ((acc++uintL l.length)++restL ss i 0=ixBytes ss):=zz (by rw [List.append_assoc];exact HE.out);have HB10:=zz (HB.out.trans HK10.out.1);have HOT10:=zz (keepB_tx HK10.out HT.out);generalize acc++uintL l.length=acc10 at *;clear HN HB HT HK10 HL HE g1 hbw
     go_wp2_with fail
     generalize hwB:wr=wB at *;clear hwB
     go_loopw [60] (fun j wr=>∃(k:Nat) (acc:List UInt8),k<=l.length/\j=.int .i64 (k:Int)/\Laid wr B B acc/\acc++restL ss i k=ixBytes ss/\OwnTx wr B (.slice P ts.length cP) ts/\Below B w wr) (fun j _=>l.length-(intOf j).toNat)
     case atStart=>exact ⟨0,acc10,Nat.zero_le _,rfl,HL10.out,HE10.out,HOT10.out,HB10.out⟩
     case round =>
      obtain ⟨k,acc,hk,rfl,hL,hE,hT,hB⟩:=hrel;have HL:=zz hL;have HE:=zz hE;have HT:=zz hT;have HB:=zz hB;have hbw:=HBS.out _ hB;have hLb:=HLW.out _ hB;clear hL hE hT hB
      by_cases hkl:k<l.length
      ·obtain ⟨b2,o2,rfl,hb2,n0,n1⟩:=hLb.at_ hkl;have i3:(k:Int)<(l.length:Int):=by omega
       have HRL:=zz (HLN2.out k hkl);obtain ⟨hmn,hmv⟩:=HIN2.out k hkl;have HMN:=zz hmn;have HMV:=zz hmv;clear hLb hmn hmv;generalize nmOf l k=nm at *;generalize vlOf l k=vl at *;rw [HRL.out] at HE;have hA2:=below_one wr (.cells #[.string nm,.string vl] 118);have hRL:=Row.new wr 118 #[.string nm,.string vl];have p0:=hRL.cell 0;have HT2:=zz (owntx_below HT.out hA2);have hLa:Laid (wr.alloc (.cells #[.string nm,.string vl] 118)) B B acc:=by
        obtain ⟨v,k1,k2⟩:=HL.out;exact ⟨v,k1.alloc _,own_below k2 hA2⟩
       have HPC:=zz (place_prog P ts cP nm (wr.alloc (.cells #[.string nm,.string vl] 118)) (owntx_tx HT2.out) HUP2.out HMN.out (by have:=HT4.out;omega));have hp1:placeF ts nm<ts.length:=(place_get HMN.out).1;have hp2:placeF ts vl<ts.length:=(place_get HMV.out).1;have HN1:=zz (num_prog hLa (HAC.out _ _ HE.out) (Nat.le_refl _) (Nat.le_trans hbw hA2.size) (placeF ts nm) (by have:=HT4.out;omega));have HRLH:=zz hRL;have HA2:=zz hA2;clear hRL hLa hA2
       go_upto_region 22 with (first
        | (go_at_call 64;refine HPC.out.mono ?_;rintro e w11 ⟨rfl,rfl⟩)
        | (go_at_call 60;refine HN1.out.mono ?_;rintro e w12 ⟨rfl,hl12,hk12⟩;have HL12:=zz hl12;have HK12:=zz hk12;clear hl12 hk12))
       have hq12:=HK12.out.2 _ _ _ HRLH.out (by decide) (by decide);have p1:=(show Row w12 wr.heap.size 118 #[.string nm,.string vl] from hq12.trans HRLH.out).cell 1;have HE12:Hid ((acc++uintL (placeF ts nm))++(uintL (placeF ts vl)++restL ss i (k+1))=ixBytes ss):=zz (by rw [List.append_assoc];exact HE.out);have HT12:=zz (keepB_tx HK12.out HT2.out);have HB12:=zz ((HB.out.trans (HA2.out.mono hbw)).trans HK12.out.1);have HPC2:=zz (place_prog P ts cP vl w12 (owntx_tx HT12.out) HUP2.out HMV.out (by have:=HT4.out;omega));have HN2:=zz (num_prog HL12.out (HAC.out _ _ HE12.out) (Nat.le_refl _) (HBS.out _ HB12.out) (placeF ts vl) (by have:=HT4.out;omega));clear hq12 HK12 HPC HN1 HT2 HE HA2
       go_wp2_with (first
        | (go_at_call 64;refine HPC2.out.mono ?_;rintro e w13 ⟨rfl,rfl⟩)
        | (go_at_call 60;refine HN2.out.mono ?_;rintro e w14 ⟨rfl,hl14,hk14⟩;have HL14:=zz hl14;have HK14:=zz hk14;clear hl14 hk14))
       go_roundw
       case rel=>exact ⟨k+1,_,hkl,by go_num,HL14.out,by rw [List.append_assoc];exact HE12.out,keepB_tx HK14.out HT12.out,HB12.out.trans HK14.out.1⟩
       case measure=>simp [intOf];omega
      ·obtain rfl:k=l.length:=by omega
       rw [HLE2.out] at HE
       go_wp2_with fail
       go_roundw
       case rel=>exact ⟨i+1,acc,hlt,by go_num,HL.out,HE.out,HT.out,HB.out⟩
       case measure=>simp [intOf];omega
    ·obtain rfl:i=ss.length:=by omega
     rw [HSE.out,List.append_nil] at HE;obtain ⟨v,hX,hO⟩:=HL.out;have x9:=hX.cell 0;have HO9:=zz hO;clear hX hO
     go_wp2_with fail
     go_ret;rw [<-HE.out,HBEQ.out];exact ⟨_,rfl,HO9.out,HB.out⟩
theorem acc_small'{ss:List (List Lbl)}(h:ixChk ss=0){a r:List UInt8}(e:a++r=ixBytes ss):a.length<=1000000:=by
 have h1:=bytes_len h;rw [<-e,List.length_append] at h1;omega
set_option maxHeartbeats 4000000 in
theorem bytes_ref(V:Option Addr)(ss:List (List Lbl))(c:Nat)(w:World)(hV:Sets w V ss)(hr:ixChk ss=0):
 Calls Tryz.prog 72 #[.slice V ss.length c] w fun e w'=>∃v,e=.returned v/\Own w' w.heap.size v (ixBytes ss)/\Below w.heap.size w w':=by
 obtain ⟨h256,_,hrr⟩:=ixChk_right hr;have HTX:=zz (texts_ref V ss c w hV h256 (fun l hl=>(lbChk_ok.1 (hrr l hl)).1));have HT4:=zz (texts_len hr);have HTS:=zz (fun s (hs:s∈ixTexts ss)=>text_size hr hs);have HAC:=zz (fun (a r:List UInt8) (e:a++r=ixBytes ss)=>acc_small' hr e);have HVV:=zz hV;have HST:=zz (bytes_start ss);have HTN:=zz (fun k (h:k<(ixTexts ss).length)=>restT_next ss h);have HTE:=zz (restT_end ss);have HSN:=zz (fun i (h:i<ss.length)=>restS_next ss h);have HSE:=zz (restS_end ss);have HLN:=zz (fun i k (h:k<(ss.getD i []).length)=>restL_next ss i h);have HLE:=zz (fun i=>restL_end ss i);have HIN:=zz (fun i (hi:i<ss.length) k (hk:k<(ss.getD i []).length)=>texts_in (ss_at hi) (show (nmOf (ss.getD i []) k,vlOf (ss.getD i []) k)∈ss.getD i [] from by
  have e:(ss.getD i [])[k]=(nmOf (ss.getD i []) k,vlOf (ss.getD i []) k):=by
   unfold nmOf vlOf;rw [List.getD_eq_getElem?_getD (l:=ss.getD i []),List.getElem?_eq_getElem hk];rfl
  rw [<-e];exact List.getElem_mem hk))
 have H8:=zz (fun i (hi:i<ss.length)=>(lbChk_ok.1 (hrr _ (ss_at hi))).1);clear hrr hr hV;obtain ⟨ts,hts⟩:∃ts,ixTexts ss=ts:=⟨_,rfl⟩;rw [hts] at HTX HT4 HTS HST HTN HTE HLN HIN;clear hts;have ht4:ts.length<=4096:=HT4.out;have HUI:=zz (fun (n:Nat) (W:World) (hn:n<=9223372036854775807)=>uint_ref n W hn);have HU9:=zz (fun (n:Nat) (hn:n<9223372036854775808)=>uintL_9 hn);go_enter Tryz.func72,Tryz.ntmps72
 go_upto_region 2 with (first|(go_at_call 109;refine HTX.out.mono ?_;rintro e w2 ⟨P,cP,rfl,hP,hcP,hb2⟩;have HP2:=zz hP;have HB2:=zz hb2;have HV2:=zz (HVV.out.below hb2);clear hP hb2))
 obtain ⟨B,hB⟩:∃B,w2.heap.size=B:=⟨_,rfl⟩;have HBEQ:=zz hB;have HTXX:=zz (show ∀x:World,Below B w2 x->Tx x P ts from fun x h=>HP2.out.below (by rw [hB];exact h));have HVX:=zz (show ∀x:World,Below B w2 x->Sets x V ss from fun x h=>HV2.out.below (by rw [hB];exact h));have HBS:=zz (show ∀x:World,Below B w2 x->B<=x.heap.size from fun x h=>by have:=h.size;omega);have HWB:=zz (show w.heap.size<=B from by have:=HB2.out.size;omega);clear hB HTX HVV
 go_wp2_with (first|(go_at_call 73;refine (HUI.out ts.length _ (by omega)).mono ?_;rintro e w3 ⟨v3,rfl,ho3,hb3⟩;have HO3:Hid (Own w3 B v3 (uintL ts.length)):=zz (by rw [<-HBEQ.out];exact ho3);have HB3:Hid (Below B w2 w3):=zz (by rw [<-HBEQ.out];exact hb3);clear ho3 hb3))
 go_loopw [4,5] (fun u i wr=>∃(k:Nat) (acc:List UInt8),k<=ts.length/\i=.int .i64 (k:Int)/\Own wr B u acc/\acc++restT ss k=ixBytes ss/\Below B w2 wr) (fun _ i _=>ts.length-(intOf i).toNat)
 case atStart=>exact ⟨0,uintL ts.length,Nat.zero_le _,rfl,HO3.out,HST.out.symm,HB3.out⟩
 case round =>
  obtain ⟨k,acc,hk,rfl,hO,hE,hB⟩:=hrel;have HO:=zz hO;have HE:=zz hE;have HB:=zz hB;have hbw:=HBS.out _ hB;have hac:=HAC.out _ _ hE;have hTx:=HTXX.out _ hB;clear hO hE hB
  by_cases hlt:k<ts.length
  ·obtain ⟨b1,o1,rfl,hb1,g0⟩:=hTx.at_ hlt;have i1:(k:Int)<(ts.length:Int):=by omega
   have HMEM:=zz (show ts.getD k txt0∈ts from by rw [getD_at hlt];exact List.getElem_mem hlt);have HRN:=zz (HTN.out k hlt);generalize ts.getD k txt0=s at *;have hs64:=HTS.out s HMEM.out;have htl:(textL s).length<=1000:=by
    unfold textL;have:=uintL_9 (n:=s.size) (by omega);rw [List.length_append,strL_length];omega
   clear hTx
   go_wp2_with (first
    | (go_at_call 110;refine (text_ref s _ (by omega)).mono ?_;rintro e w5 ⟨v5,rfl,ho5,hb5⟩;obtain ⟨B5,d5,hv5,hB5,_⟩:=own_slice' ho5;subst hv5;have HBB5:=zz hB5;have HB5:=zz (HB.out.trans (hb5.mono hbw));have HO5:=zz (own_below HO.out hb5);clear ho5 hB5 hb5)
    | (at_builtin;refine app_u8 rfl (.tmp 19) (.tmp 24) rfl B u4 acc rfl HO5.out B5 (textL s) d5 rfl HBB5.out (by omega) (HBS.out _ HB5.out) ?_;intro v6 w6 ho6 hb6 hg6;have HO6:=zz ho6;have HB6:=zz (HB5.out.trans hb6);clear ho6 hb6 hg6))
   go_roundw
   case rel=>exact ⟨k+1,acc++textL s,hlt,by go_num,HO6.out,by rw [List.append_assoc,<-HE.out,HRN.out];rfl,HB6.out⟩
   case measure=>simp [intOf];omega
  ·obtain rfl:k=ts.length:=by omega
   rw [HTE.out] at HE;have hu9:=HU9.out ss.length (by omega);clear hTx
   go_wp2_with (first
    | (go_at_call 73;refine (HUI.out ss.length _ (by omega)).mono ?_;rintro e w5 ⟨v5,rfl,ho5,hb5⟩;obtain ⟨B5,d5,hv5,hB5,_⟩:=own_slice' ho5;subst hv5;have HBB5:=zz hB5;have HB5:=zz (HB.out.trans (hb5.mono hbw));have HO5:=zz (own_below HO.out hb5);clear ho5 hB5 hb5)
    | (at_builtin;refine app_u8 rfl (.tmp 26) (.tmp 29) rfl B u4 acc rfl HO5.out B5 (uintL ss.length) d5 rfl HBB5.out (by omega) (HBS.out _ HB5.out) ?_;intro v8 w8 ho8 hb8 hg8;have HO8:=zz ho8;have HB8:=zz (HB5.out.trans hb8);clear ho8 hb8 hg8))
   have HE8:Hid ((acc++uintL ss.length)++restS ss 0=ixBytes ss):=zz (by rw [List.append_assoc];exact HE.out);generalize acc++uintL ss.length=acc8 at *;clear HB HO HE hbw hac hu9;generalize hwA:wr=wA at *;clear hwA
   go_loopw [4,6] (fun u i wr=>∃(k:Nat) (acc:List UInt8),k<=ss.length/\i=.int .i64 (k:Int)/\Own wr B u acc/\acc++restS ss k=ixBytes ss/\Below B w2 wr) (fun _ i _=>ss.length-(intOf i).toNat)
   case atStart=>exact ⟨0,acc8,Nat.zero_le _,rfl,HO8.out,HE8.out,HB8.out⟩
   case round =>
    obtain ⟨i,acc,hi,rfl,hO,hE,hB⟩:=hrel;have HO:=zz hO;have HE:=zz hE;have HB:=zz hB;have hbw:=HBS.out _ hB;clear hO hE hB
    by_cases hlt:i<ss.length
    ·obtain ⟨b1,o1,A1,c1,rfl,hb1,g0,hL1,hlc1⟩:=HV2.out.at_ hlt;have HG1:=zz (show ∀x:World,Below B w2 x->x.cell? ⟨b1,o1+i,none⟩=some (.slice A1 (ss.getD i []).length c1) from fun x h=>(h.cell (p:=⟨b1,o1+i,none⟩) (by rw [<-HBEQ.out];exact hb1)).trans g0);have HLX:=zz (show ∀x:World,Below B w2 x->Lbls x A1 (ss.getD i []) from fun x h=>hL1.below (by rw [HBEQ.out];exact h));have i1:(i:Int)<(ss.length:Int):=by omega
     have HRN:=zz (HSN.out i hlt);have HLN2:=zz (fun k h=>HLN.out i k h);have HLE2:=zz (HLE.out i);have HIN2:=zz (fun k hk=>HIN.out i hlt k hk);have h8:=H8.out i hlt;clear g0 hL1;obtain ⟨l,hl2⟩:∃l,ss.getD i []=l:=⟨_,rfl⟩;rw [hl2] at HRN HLN2 HLE2 HIN2 h8 HG1 HLX hlc1;clear hl2;rw [HRN.out] at HE;have hac:=HAC.out _ _ HE.out;have hu9:=HU9.out l.length (by omega);have g1:=HG1.out _ HB.out
     go_wp2_with (first
      | (go_at_call 73;refine (HUI.out l.length _ (by omega)).mono ?_;rintro e w9 ⟨v9,rfl,ho9,hb9⟩;obtain ⟨B9,d9,hv9,hB9,_⟩:=own_slice' ho9;subst hv9;have HBB9:=zz hB9;have HB9:=zz (HB.out.trans (hb9.mono hbw));have HO9:=zz (own_below HO.out hb9);clear ho9 hB9 hb9)
      | (at_builtin;refine app_u8 rfl (.tmp 37) (.tmp 43) rfl B u4 acc rfl HO9.out B9 (uintL l.length) d9 rfl HBB9.out (by omega) (HBS.out _ HB9.out) ?_;intro v10 w10 ho10 hb10 hg10;have HO10:=zz ho10;have HB10:=zz (HB9.out.trans hb10);clear ho10 hb10 hg10))
     have HE10:Hid ((acc++uintL l.length)++restL ss i 0=ixBytes ss):=zz (by rw [List.append_assoc];exact HE.out);generalize acc++uintL l.length=acc10 at *;clear HB HO HE g1 hbw hac hu9;generalize hwB:wr=wB at *;clear hwB
     go_loopw [4,7] (fun u j wr=>∃(k:Nat) (acc:List UInt8),k<=l.length/\j=.int .i64 (k:Int)/\Own wr B u acc/\acc++restL ss i k=ixBytes ss/\Below B w2 wr) (fun _ j _=>l.length-(intOf j).toNat)
     case atStart=>exact ⟨0,acc10,Nat.zero_le _,rfl,HO10.out,HE10.out,HB10.out⟩
     case round =>
      obtain ⟨k,acc,hk,rfl,hO,hE,hB⟩:=hrel;have HO:=zz hO;have HE:=zz hE;have HB:=zz hB;have hbw:=HBS.out _ hB;have g1:=HG1.out _ hB;clear hO hE hB
      by_cases hkl:k<l.length
      ·obtain ⟨b2,o2,rfl,hb2,n0,n1⟩:=(HLX.out _ (show Below B w2 w2 from Below.refl _ _)).at_ hkl;have i3:(k:Int)<(l.length:Int):=by omega
       have HRL:=zz (HLN2.out k hkl);obtain ⟨hmn,hmv⟩:=HIN2.out k hkl;have HSB:=zz (show ∀x:World,Below B w2 x->x.cell? ⟨b1,o1+i,none⟩=some (.slice (some ⟨b2,o2,none⟩) l.length c1)/\x.cell? ⟨b2,o2+k*2,none⟩=some (.string (nmOf l k))/\x.cell? ⟨b2,o2+k*2+1,none⟩=some (.string (vlOf l k)) from
        fun x h=>⟨HG1.out x h,(h.cell (p:=⟨b2,o2+k*2,none⟩) (by rw [<-HBEQ.out];exact hb2)).trans n0,(h.cell (p:=⟨b2,o2+k*2+1,none⟩) (by rw [<-HBEQ.out];exact hb2)).trans n1⟩)
       have hp1:placeF ts (nmOf l k)<ts.length:=(place_get hmn).1;have hp2:placeF ts (vlOf l k)<ts.length:=(place_get hmv).1;have HMN:=zz hmn;have HMV:=zz hmv;clear hmn hmv n0 n1;generalize nmOf l k=nm at *;generalize vlOf l k=vl at *;rw [HRL.out] at HE;have HP1:=zz (fun (x:World) (h:Below B w2 x)=>place_ref P ts cP nm x (HTXX.out x h) HMN.out (by omega));have HP2:=zz (fun (x:World) (h:Below B w2 x)=>place_ref P ts cP vl x (HTXX.out x h) HMV.out (by omega));have hu1:=HU9.out (placeF ts nm) (by omega);have hu2:=HU9.out (placeF ts vl) (by omega);have HAC1:=zz (HAC.out _ _ HE.out);have HQ1:=zz (fun (x:World)=>HUI.out (placeF ts nm) x (by omega));have HQ2:=zz (fun (x:World)=>HUI.out (placeF ts vl) x (by omega));generalize placeF ts nm=p1 at *;generalize placeF ts vl=p2 at *;obtain ⟨i0,hi0,hz0,hz1,hz2⟩:=info_parts u8_info;have HN1:=zz (show acc.length+(uintL p1).length<=211106232532992 by have:=HAC1.out;omega);have HN2:=zz (show (acc++uintL p1).length+(uintL p2).length<=211106232532992 by rw [List.length_append];have:=HAC1.out;omega);generalize uintL p1=t1 at *;generalize uintL p2=t2 at *;clear hu1 hu2 HMN HMV
       go_upto_region 15 with fail
       have HBD:Hid (Below B w2 wr.drew):=zz HB.out.drew;have HOD:Hid (Own wr.drew B u4 acc):=HO;have sD:=HSB.out _ HBD.out
       go_region_held3 (fun w'=>w'.cell? ⟨b1,o1+i,none⟩=some (.slice (some ⟨b2,o2,none⟩) l.length c1)/\w'.cell? ⟨b2,o2+k*2,none⟩=some (.string nm)/\w'.cell? ⟨b2,o2+k*2+1,none⟩=some (.string vl))
        (first|with_reducible assumption|go_keep)
        (first
          | (go_at_call_of 111 (Value.string nm);refine (HP1.out _ HBD.out).mono ?_;rintro e w3 ⟨rfl,rfl⟩)
          | (go_at_call_of 73 (Value.int IntKind.i64 (p1:Int));refine (HQ1.out _).mono ?_;rintro e w3 ⟨v3,rfl,ho3,hb3⟩
             obtain ⟨P3,d3,hv3,hP3,_⟩:=own_slice' ho3;subst hv3;have HB3:Hid (Below B w2 w3):=zz (HBD.out.trans (hb3.mono hbw));have HO3:Hid (Own w3 B u4 acc):=zz (own_below HOD.out hb3);have HP3:=zz hP3;have s3:=HSB.out _ HB3.out;clear ho3 hb3 hP3)
          | (refine step_app _ rfl (.tmp 54) (.tmp 65) 24 rfl B i0 Tryz.underlying24 hi0 hz0 hz1 hz2 u4 acc rfl HO3.out P3 t1 d3 rfl HP3.out HN1.out (HBS.out _ HB3.out) ?_
             intro v4 w4 hown4 hg4 _;have HB4:Hid (Below B w2 w4):=zz (Below.grown HB3.out hg4 (HBS.out _ HB3.out) (fun q hq=>(World.ownsRow.lt HO3.out q hq).1));have HO4:=zz hown4;have s4:=HSB.out _ HB4.out;clear hown4 hg4)
          | (go_at_call_of 111 (Value.string vl);refine (HP2.out _ HB4.out).mono ?_;rintro e w5 ⟨rfl,rfl⟩)
          | (go_at_call_of 73 (Value.int IntKind.i64 (p2:Int));refine (HQ2.out _).mono ?_;rintro e w6 ⟨v6,rfl,ho6,hb6⟩
             obtain ⟨P6,d6,hv6,hP6,_⟩:=own_slice' ho6;subst hv6;have HB6:Hid (Below B w2 w6):=zz (HB4.out.trans (hb6.mono (HBS.out _ HB4.out)));have HO6:Hid (Own w6 B v4 (acc++t1)):=zz (own_below HO4.out hb6);have HP6:=zz hP6;have s6:=HSB.out _ HB6.out;clear ho6 hb6 hP6)
          | (refine step_app _ rfl (.tmp 66) (.tmp 77) 24 rfl B i0 Tryz.underlying24 hi0 hz0 hz1 hz2 v4 (acc++t1) rfl HO6.out P6 t2 d6 rfl HP6.out HN2.out (HBS.out _ HB6.out) ?_
             intro v7 w7 hown7 hg7 _;have HB7:Hid (Below B w2 w7):=zz (Below.grown HB6.out hg7 (HBS.out _ HB6.out) (fun q hq=>(World.ownsRow.lt HO6.out q hq).1));have HO7:=zz hown7;have s7:=HSB.out _ HB7.out;clear hown7 hg7))
       all_goals
        go_wp2_with fail
        go_roundw
        case rel=>exact ⟨k+1,_,hkl,by go_num,HO7.out,by rw [List.append_assoc,List.append_assoc];exact HE.out,HB7.out⟩
        case measure=>simp [intOf];omega
      ·obtain rfl:k=l.length:=by omega
       rw [HLE2.out] at HE
       go_wp2_with fail
       go_roundw
       case rel=>exact ⟨i+1,acc,hlt,by go_num,HO.out,HE.out,HB.out⟩
       case measure=>simp [intOf];omega
    ·obtain rfl:i=ss.length:=by omega
     rw [HSE.out,List.append_nil] at HE
     go_wp2_with fail
     go_ret;rw [<-HE.out];exact ⟨_,rfl,own_lower HO.out HWB.out,HB2.out.trans (HB.out.mono HWB.out)⟩
end Go.Proofs.YtgdmcnoogacdaaaGreatDoor
