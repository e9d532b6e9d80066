/- In one text, written by lotify.py: FrSum, FrPutUint, FrGetUint, FrTextG. -/
import Derived.Test.YtgdmcnoogacdaaaGreatDoorBlLotD
import Derived.Test.YtgdmcnoogacdaaaGreatDoorBlLotA
import Derived.Deep.DeepCutAuto
namespace Go.Proofs.YtgdmcnoogacdaaaGreatDoor
open Go.RowKit
set_option linter.unusedVariables false
theorem ret_num'{k:IntKind}{a b:Int}(h:a=b):Ending.returned (.int k a)=.returned (.int k b):=by rw [h]
theorem u32_step(c:Nat)(h:c<2^32):bits BinOp.xor IntKind.u32 ((c:Int)/2) (2197175160*bits BinOp.and IntKind.u32 (c:Int) 1%4294967296)=(cstep c:Int):=by
 rw [show (1:Int)=((1:Nat):Int) from rfl,u32_and_nat c 1 (by omega) (by omega),Nat.and_one_is_mod];have h1:(2197175160:Int)*((c%2:Nat):Int)%4294967296=((2197175160*(c%2):Nat):Int):=by
  have:c%2<2:=Nat.mod_lt _ (by omega);omega
 have hm:c%2<2:=Nat.mod_lt _ (by omega);rw [h1,show (c:Int)/2=((c/2:Nat):Int) from by omega,u32_xor_nat _ _ (by omega) (by omega)];rfl
theorem u32_mix(c:Nat)(x:UInt8)(h:c<2^32):bits BinOp.xor IntKind.u32 (c:Int) (x.toNat:Int)=((c^^^x.toNat:Nat):Int) :=
 u32_xor_nat _ _ (by omega) (by have:=x.toNat_lt;omega)
theorem mix_lt(c:Nat)(x:UInt8)(h:c<2^32):c^^^x.toNat<2^32:=Nat.xor_lt_two_pow h (by have:=x.toNat_lt;omega)
theorem u32_not(c:Nat)(h:c<2^32):bits BinOp.xor IntKind.u32 IntKind.u32.max (c:Int)=((4294967295-c:Nat):Int):=by
 rw [show IntKind.u32.max=((4294967295:Nat):Int) from rfl,u32_xor_nat _ _ (by omega) (by omega),all_turn h]
theorem take_snoc(l:List UInt8){k:Nat}(h:k<l.length):l.take (k+1)=l.take k++[l.getD k 0]:=by
 rw [List.take_add_one,List.getElem?_eq_getElem h,getD_in l 0 h];rfl
theorem crc_next(c:Nat)(l:List UInt8){k:Nat}(h:k<l.length):crc c (l.take (k+1))=csteps 8 (crc c (l.take k)^^^(l.getD k 0).toNat):=by rw [take_snoc l h,crc_snoc]
theorem sum_prog(A:Option Addr)(l:List UInt8)(c:Nat)(w:World)(hA:Bys w A l)(hl:l.length<=281474976710656):
 Calls Tryz.prog 71 #[.slice A l.length c] w fun e w'=>e=.returned (.int .u32 (sumN l))/\w=w':=by
 go_enter Tryz.func71,Tryz.ntmps71
 go_wp2
 go_loop [3,8] (fun c i=>∃k:Nat,k<=l.length/\i=.int .i64 k/\c=.int .u32 (crc 4294967295 (l.take k))) (fun _ i=>l.length-(intOf i).toNat)
 case atStart=>exact ⟨0,Nat.zero_le _,rfl,rfl⟩
 case round =>
  obtain ⟨k,hk,rfl,rfl⟩:=hrel;have hc:=crc_lt (l.take k) (c:=4294967295) (by decide)
  by_cases hlt:k<l.length
  ·obtain ⟨b,o,rfl,hb,hcl⟩:=hA.at_ (by omega);have hx:=hcl k hlt;have H:=zz (crc_next 4294967295 l hlt);have hM:=u32_mix (crc 4294967295 (l.take k)) (l.getD k 0) hc;have hm:=mix_lt (crc 4294967295 (l.take k)) (l.getD k 0) hc;clear hcl hA;generalize (crc 4294967295 (l.take k))^^^(l.getD k 0).toNat=m at *;generalize crc 4294967295 (l.take k)=cc at *;have hbx:=(l.getD k 0).toNat_lt;generalize (l.getD k 0).toNat=x at *
   go_wp2
   go_loop [3,16] (fun c i=>∃j:Nat,j<=8/\i=.int .i64 j/\c=.int .u32 (csteps j m)) (fun _ i=>8-(intOf i).toNat)
   case atStart=>exact ⟨0,by omega,rfl,rfl⟩
   case round =>
    obtain ⟨j,hj,rfl,rfl⟩:=hrel;have hs:=csteps_lt j hm;have H2:=zz (u32_step (csteps j m) hs)
    by_cases hj8:j<8
    ·have H3:=zz (show cstep (csteps j m)=csteps (j+1) m from rfl);generalize csteps j m=y at *
     go_wp2
     go_round
     case rel=>exact ⟨j+1,by omega,by go_num,by rw [<-H3.out,<-H2.out]⟩
     case measure=>simp [intOf];omega
    ·have e:j=8:=by omega
     subst e;rw [<-H.out]
     go_wp2
     go_round
     case rel=>exact ⟨k+1,by omega,by go_num,rfl⟩
     case measure=>simp [intOf];omega
  ·have e:k=l.length:=by omega
   subst e;rw [List.take_length] at hc ⊢;have H:=zz (show sumN l=4294967295-crc 4294967295 l from rfl);generalize crc 4294967295 l=y at *
   go_wp2
   go_ret;exact ⟨ret_num' (by rw [H.out,<-u32_not y hc]),rfl⟩
theorem cstep_odd(c:Nat)(h:c<2^32)(h1:c%2=1):bits BinOp.xor IntKind.u32 ((c:Int)/2) 2197175160=(cstep c:Int):=by
 rw [show (2197175160:Int)=((2197175160:Nat):Int) from rfl,show (c:Int)/2=((c/2:Nat):Int) from by omega,u32_xor_nat _ _ (by omega) (by omega)];unfold cstep;rw [h1]
theorem cstep_even(c:Nat)(h1:c%2=0):(c:Int)/2=(cstep c:Int):=by
 unfold cstep;rw [h1,Nat.mul_zero,Nat.xor_zero];omega
theorem sum_ref(A:Option Addr)(l:List UInt8)(c:Nat)(w:World)(hA:Bys w A l)(hl:l.length<=281474976710656):
 Calls Tryz.prog 75 #[.slice A l.length c] w fun e w'=>e=.returned (.int .u32 (sumN l))/\w=w':=by
 go_enter Tryz.func75,Tryz.ntmps75
 go_wp2
 go_loop [3,4] (fun c i=>∃k:Nat,k<=l.length/\i=.int .i64 k/\c=.int .u32 (crc 4294967295 (l.take k))) (fun _ i=>l.length-(intOf i).toNat)
 case atStart=>exact ⟨0,Nat.zero_le _,rfl,rfl⟩
 case round =>
  obtain ⟨k,hk,rfl,rfl⟩:=hrel;have hc:=crc_lt (l.take k) (c:=4294967295) (by decide)
  by_cases hlt:k<l.length
  ·obtain ⟨b,o,rfl,hb,hcl⟩:=hA.at_ (by omega);have hx:=hcl k hlt;have H:=zz (crc_next 4294967295 l hlt);have hM:=u32_mix (crc 4294967295 (l.take k)) (l.getD k 0) hc;have hm:=mix_lt (crc 4294967295 (l.take k)) (l.getD k 0) hc;clear hcl hA;generalize (crc 4294967295 (l.take k))^^^(l.getD k 0).toNat=m at *;generalize crc 4294967295 (l.take k)=cc at *;have hbx:=(l.getD k 0).toNat_lt;generalize (l.getD k 0).toNat=x at *
   go_wp2
   go_loop [3,5] (fun c i=>∃j:Nat,j<=8/\i=.int .i64 j/\c=.int .u32 (csteps j m)) (fun _ i=>8-(intOf i).toNat)
   case atStart=>exact ⟨0,by omega,rfl,rfl⟩
   case round =>
    obtain ⟨j,hj,rfl,rfl⟩:=hrel;have hs:=csteps_lt j hm;have H3:=zz (show cstep (csteps j m)=csteps (j+1) m from rfl)
    by_cases hj8:j<8
    ·rcases Nat.mod_two_eq_zero_or_one (csteps j m) with h0|h0
     ·have H2:=zz (cstep_even (csteps j m) h0);generalize csteps j m=y at *;have hd:((y:Int)%2==1)=false:=by rw [beq_eq_false_iff_ne];omega
      clear h0
      go_wp2
      go_round
      case rel=>exact ⟨j+1,by omega,by go_num,by rw [<-H3.out,<-H2.out]⟩
      case measure=>simp [intOf];omega
     ·have H2:=zz (cstep_odd (csteps j m) hs h0);generalize csteps j m=y at *;have hd:((y:Int)%2==1)=true:=by rw [beq_iff_eq];omega
      clear h0
      go_wp2
      go_round
      case rel=>exact ⟨j+1,by omega,by go_num,by rw [<-H3.out,<-H2.out]⟩
      case measure=>simp [intOf];omega
    ·have e:j=8:=by omega
     subst e;rw [<-H.out]
     go_wp2
     go_round
     case rel=>exact ⟨k+1,by omega,by go_num,rfl⟩
     case measure=>simp [intOf];omega
  ·have e:k=l.length:=by omega
   subst e;rw [List.take_length] at hc ⊢;have H:=zz (show sumN l=4294967295-crc 4294967295 l from rfl);generalize crc 4294967295 l=y at *
   go_wp2
   go_ret;refine ⟨ret_num' ?_,rfl⟩;rw [H.out];omega
theorem bys_1{w:World}{g:Nat}{x:UInt8}(h:Row w g 5 #[.int .u8 (x.toNat:Int)]):Bys w (some ⟨g,0,none⟩) [x]:=Row.bys (l:=[x]) h
theorem byte_of(d:Nat)(h:d<256):(d:Int)=((UInt8.ofNat d).toNat:Int):=by rw [UInt8.toNat_ofNat'];omega
theorem longer_prog(A:Option Addr)(l:List UInt8)(c:Nat)(more:Int)(w:World)(hA:Bys w A l)(h0:0<=more)(h1:(l.length:Int)+more<=281474976710656)(hl:l.length<=140737488355328):
 Calls Tryz.prog 99 #[.slice A l.length c,.int .i64 more] w fun e w'=>∃v,e=.returned v/\Own w' w.heap.size v l/\Below w.heap.size w w':=by
 have hmk:=make_room ((l.length:Int)+more) (by omega) h1;have hcap:((l.length:Int)+more).toNat<=maxLen:=by simp [maxLen];omega
 generalize ((l.length:Int)+more).toNat=cap at *;go_enter Tryz.func99,Tryz.ntmps99
 go_wp2_with (at_builtin;refine app_u8 rfl (.tmp 9) (.tmp 10) rfl w.heap.size (.slice (some ⟨w.heap.size,0,none⟩) 0 cap) [] rfl (own_room (Row.new w _ _) (Nat.le_refl _) hcap) A l c rfl (hA.alloc _) (by simp only [List.length_nil];omega) (by simp) ?_;intro v1 w1 hown1 hb1 hg1)
 go_ret;exact ⟨v1,rfl,hown1,((Below.refl _ _).alloc (Nat.le_refl _) _).trans hb1⟩
theorem digit_put(d:Nat)(hd:d<256)(X:Nat)(v:Value)(x:List UInt8)(base:Nat)(w:World)(hX:Row w X 24 #[v])(hown:Own w base v x)(hb:base<=w.heap.size)(hbX:base<=X)(hn:x.length+1<=140737488355328):
 Calls Tryz.prog 100 #[.int .i64 d,.pointer (some ⟨X,0,none⟩)] w fun e w'=>∃v',e=.returned (.tuple #[])/\Row w' X 24 #[v']/\Own w' base v' (x++[UInt8.ofNat d])/\Below base w w':=by
 have hX0:=hX.cell 0;simp only [List.getElem?_toArray,List.getElem?_cons_zero] at hX0;have hne:=own_ne hown hX (by decide);have hXl:=hX.lt;have HX:=zz hX;have Hd:=zz (byte_of d hd);clear hX;go_enter Tryz.func100,Tryz.ntmps100
 go_wp2_with (at_builtin;refine app_u8 rfl (.tmp 3) (.tmp 6) rfl base v x rfl (own_alloc hown _) _ [UInt8.ofNat d] 1 rfl (bys_1 (by rw [<-Hd.out];exact Row.new _ _ _)) (by simp only [List.length_cons,List.length_nil];omega) (Nat.le_trans hb (by simp)) ?_;intro v1 w1 hown1 hb1 hg1;obtain ⟨B1,d1,hv1,_,_⟩:=own_slice' hown1;generalize (x++[UInt8.ofNat d]).length=ln at hv1;subst hv1;have hX1:=grown_row (HX.out.alloc _) hg1 hne;have hXf:=hX1.frozen 0;have hXc:=hX1.cell 0;simp only [List.getElem?_toArray,List.getElem?_cons_zero] at hXc;have HX1:=zz hX1;clear hX1)
 go_end0
 have h3:=own_ne hown1 HX1.out (by decide);exact ⟨.slice B1 ln d1,rfl,by simpa using HX1.out.setAt 0 (.slice B1 ln d1),own_setFar hown1 (fun e=>h3 e.symm) _,(((Below.refl _ _).alloc hb _).trans hb1).setCell hbX _⟩
theorem putuint_prog(A:Option Addr)(l:List UInt8)(c n:Nat)(w:World)(hA:Bys w A l)(hl:l.length<=140737488355000)(hn:n<=9223372036854775807):
 Calls Tryz.prog 61 #[.slice A l.length c,.int .i64 n] w fun e w'=>∃v,e=.returned (.tuple #[v,.int .i64 0])/\Own w' w.heap.size v (l++uintL n)/\Below w.heap.size w w':=by
 have d0:decide ((n:Int)<0)=false:=by simp
 have hmf:∀(fn:Fn) (first cap:Array Value) (w:World),(Instr.makeFunc fn first cap).run Tryz.prog w=.ok (.func fn first cap) w:=fun _ _ _ _=>rfl
 have hu9:=uintL_9 (n:=n) (by omega);go_enter Tryz.func61,Tryz.ntmps61
 go_wp2_with fail
 refine (longer_prog A l c 9 w hA (by omega) (by omega) (by omega)).mono ?_;rintro e w1 ⟨v1,rfl,hown1,hb1⟩;obtain ⟨B1,d1,hv1,_,_⟩:=own_slice' hown1;subst hv1;have hR1:=Row.new w1 24 #[.slice B1 l.length d1];have hown1':=own_alloc hown1 (.cells #[.slice B1 l.length d1] 24);have hB1:Below w.heap.size w (w1.alloc (.cells #[.slice B1 l.length d1] 24)):=hb1.alloc hb1.size _;have hs1:=hb1.size
 go_wp2_with fail
 generalize hxx:w1.alloc (.cells #[.slice B1 l.length d1] 24)=x1 at *;generalize hX:w1.heap.size=X at *;clear hxx
 go_loopw [1] (fun i wr=>∃(m:Nat) (v:Value) (x:List UInt8),m<=n/\i=.int .i64 m/\Row wr X 24 #[v]/\Own wr w.heap.size v x/\x++uintL m=l++uintL n/\Below w.heap.size w wr) (fun i _=>(intOf i).toNat)
 case atStart=>exact ⟨n,_,l,Nat.le_refl _,rfl,hR1,hown1',rfl,hB1⟩
 case round =>
  obtain ⟨m,v,x,hm,rfl,hRr,hor,hxm,hbr⟩:=hrel;have hlen:=congrArg List.length hxm;rw [List.length_append,List.length_append] at hlen;have hsr:=hbr.size
  by_cases hbig:m<128
  ·have Hx:=zz (show x++[UInt8.ofNat m]=l++uintL n by rw [<-hxm,uintL_small hbig]);have hup:=uintL_pos m;have dd:decide (128<=(m:Int))=false:=by simp;omega
   clear hxm
   go_wp2_with fail
   refine (digit_put m (by omega) X v x w.heap.size wr hRr hor hsr hs1 (by omega)).mono ?_;rintro e w2 ⟨v2,rfl,hR2,hO2,hb2⟩;have hX0:=hR2.cell 0;simp only [List.getElem?_toArray,List.getElem?_cons_zero] at hX0
   go_wp2
   go_ret2;exact ⟨v2,rfl,by rw [<-Hx.out];exact hO2,hbr.trans hb2⟩
  ·have Hx:=zz (show (x++[UInt8.ofNat (m%128+128)])++uintL (m/128)=l++uintL n by rw [<-hxm,uintL_big hbig];simp);have hup:=uintL_pos m;have dd:decide (128<=(m:Int))=true:=by simp;omega
   have hwr:(m:Int)%128+128=((m%128+128:Nat):Int):=by omega
   have HP:=zz (digit_put (m%128+128) (by omega) X v x w.heap.size wr hRr hor hsr hs1 (by omega));rw [<-hwr] at HP;clear hxm hwr
   go_wp2_with fail
   refine HP.out.mono ?_;rintro e w2 ⟨v2,rfl,hR2,hO2,hb2⟩
   go_wp2
   go_roundw
   case rel=>exact ⟨m/128,v2,_,by omega,by go_num,hR2,hO2,Hx.out,hbr.trans hb2⟩
   case measure=>simp [intOf];omega
theorem uint_ref(n:Nat)(w:World)(hn:n<=9223372036854775807):
 Calls Tryz.prog 73 #[.int .i64 n] w fun e w'=>∃v,e=.returned v/\Own w' w.heap.size v (uintL n)/\Below w.heap.size w w':=by
 have hu9:=uintL_9 (n:=n) (by omega);go_enter Tryz.func73,Tryz.ntmps73
 go_wp2
 go_loopw [0,3] (fun i v wr=>∃(m:Nat) (x:List UInt8),m<=n/\i=.int .i64 m/\Own wr w.heap.size v x/\x++uintL m=uintL n/\Below w.heap.size w wr) (fun i _ _=>(intOf i).toNat)
 case atStart=>exact ⟨n,[],Nat.le_refl _,rfl,own_nil _ _,rfl,Below.refl _ _⟩
 case round =>
  obtain ⟨m,x,hm,rfl,hor,hxm,hbr⟩:=hrel;have hlen:=congrArg List.length hxm;rw [List.length_append] at hlen;have hsr:=hbr.size;have hup:=uintL_pos m
  by_cases hbig:m<128
  ·have Hx:=zz (show x++[UInt8.ofNat m]=uintL n by rw [<-hxm,uintL_small hbig]);have dd:decide (127<(m:Int))=false:=by simp;omega
   have Hd:=zz (byte_of m (by omega));clear hxm
   go_wp2_with (at_builtin;refine app_u8 rfl (.tmp 15) (.tmp 18) rfl w.heap.size _ x rfl (own_alloc hor _) _ [UInt8.ofNat m] 1 rfl (bys_1 (by rw [<-Hd.out];exact Row.new _ _ _)) (by simp only [List.length_singleton];omega) (Nat.le_trans hsr (by simp)) ?_;intro v1 w1 hown1 hb1 hg1)
   go_ret;exact ⟨v1,rfl,by rw [<-Hx.out];exact hown1,(hbr.alloc hsr _).trans hb1⟩
  ·have Hx:=zz (show (x++[UInt8.ofNat (m%128+128)])++uintL (m/128)=uintL n by rw [<-hxm,uintL_big hbig];simp);have dd:decide (127<(m:Int))=true:=by simp;omega
   have Hd:=zz (show (m:Int)%128+128=((UInt8.ofNat (m%128+128)).toNat:Int) by rw [UInt8.toNat_ofNat'];omega);clear hxm
   go_wp2_with (at_builtin;refine app_u8 rfl (.tmp 6) (.tmp 11) rfl w.heap.size _ x rfl (own_alloc hor _) _ [UInt8.ofNat (m%128+128)] 1 rfl (bys_1 (by rw [<-Hd.out];exact Row.new _ _ _)) (by simp only [List.length_singleton];omega) (Nat.le_trans hsr (by simp)) ?_;intro v1 w1 hown1 hb1 hg1)
   go_roundw
   case rel=>exact ⟨m/128,_,by omega,by go_num,hown1,Hx.out,(hbr.alloc hsr _).trans hb1⟩
   case measure=>simp [intOf];omega
theorem next_end(D Bx:Nat)(A:Option Addr)(n c:Nat)(w:World)(hD:Row w D 3 #[.int .i64 n])(hB:Row w Bx 24 #[.slice A n c]):
 Calls Tryz.prog 227 #[.pointer (some ⟨D,0,none⟩),.pointer (some ⟨Bx,0,none⟩)] w fun e w'=>e=.returned (.tuple #[.int .i64 0,.bool false,.int .i64 4])/\Below w.heap.size w w':=by
 have h1:=hD.cell 0;have h2:=hB.cell 0;simp only [List.getElem?_toArray,List.getElem?_cons_zero] at h1 h2;clear hD hB;go_enter Tryz.func227,Tryz.ntmps227
 go_wp2
 go_ret3;exact ⟨rfl,Below.refl _ _⟩
theorem next_digit(D Bx:Nat)(A:Option Addr)(l:List UInt8)(c k:Nat)(w:World)(hD:Row w D 3 #[.int .i64 k])(hB:Row w Bx 24 #[.slice A l.length c])(hA:Bys w A l)(hk:k<l.length)(hl:l.length<=281474976710656):
 Calls Tryz.prog 227 #[.pointer (some ⟨D,0,none⟩),.pointer (some ⟨Bx,0,none⟩)] w fun e w' =>
  e=.returned (.tuple #[.int .i64 (((l.getD k 0).toNat:Int)%128),.bool (decide (((l.getD k 0).toNat:Int)<128)),.int .i64 0])/\Row w' D 3 #[.int .i64 ((k:Int)+1)]/\Two w w' D D:=by
 obtain ⟨b,o,rfl,hb,hcl⟩:=hA.at_ (by omega);have hx:=hcl k hk;have hbx:=byte_nat (l.getD k 0);have h1:=hD.cell 0;have h2:=hB.cell 0;have hf:=hD.frozen 0;have hDl:=hD.lt;simp only [List.getElem?_toArray,List.getElem?_cons_zero] at h1 h2;have HD:=zz hD;have q:((k:Int)==(l.length:Int))=false:=by rw [beq_eq_false_iff_ne];omega
 clear hcl hA hD hB;generalize (l.getD k 0).toNat=x at *;go_enter Tryz.func227,Tryz.ntmps227
 go_wp2
 go_ret3;exact ⟨rfl,by simpa using HD.out.setAt 0 (.int .i64 ((k:Int)+1)),(Two.refl _ _ _).set (.inl rfl) _⟩
theorem digits_start(R:Option Addr)(n d:Nat)(w:World):
 Calls Tryz.prog 195 #[.slice R n d] w fun e w'=>∃D Bx,e=.returned (.func (.func 227) #[] #[.pointer (some ⟨D,0,none⟩),.pointer (some ⟨Bx,0,none⟩)]) /\
  Row w' D 3 #[.int .i64 0]/\Row w' Bx 24 #[.slice R n d]/\Below w.heap.size w w'/\D≠Bx/\w.heap.size<=D:=by
 have hmf:∀(fn:Fn) (first cap:Array Value) (w:World),(Instr.makeFunc fn first cap).run Tryz.prog w=.ok (.func fn first cap) w:=fun _ _ _ _=>rfl
 have r1:Row ((w.alloc (.cells #[.slice R n d] 24)).alloc (.cells #[.int .i64 0] 3)) w.heap.size 24 #[.slice R n d]:=(Row.new w _ _).alloc _;have r2:Row ((w.alloc (.cells #[.slice R n d] 24)).alloc (.cells #[.int .i64 0] 3)) (w.heap.size+1) 3 #[.int .i64 0]:=row_at w _ _ _;have hb:Below w.heap.size w ((w.alloc (.cells #[.slice R n d] 24)).alloc (.cells #[.int .i64 0] 3)):=(below_one w _).alloc (by simp) _;go_enter Tryz.func195,Tryz.ntmps195
 go_wp2
 go_ret;exact ⟨w.heap.size+1,w.heap.size,rfl,r2,r1,hb,by omega,by omega⟩
theorem next_at(a D Bx:Nat)(R:Option Addr)(l:List UInt8)(d k:Nat)(W w:World)(hD:Row w D 3 #[.int .i64 k])(hB:Row w Bx 24 #[.slice R (l.drop a).length d])(hR:Bys W R (l.drop a))(hb:Below W.heap.size W w)(hDB:D≠Bx)(hDw:W.heap.size<=D)
 (hk:a+k<l.length)(hl:l.length<=140737488355328):
 Calls Tryz.prog 227 #[.pointer (some ⟨D,0,none⟩),.pointer (some ⟨Bx,0,none⟩)] w fun e w' =>
  e=.returned (.tuple #[.int .i64 (((l.getD (a+k) 0).toNat:Int)%128),.bool (decide (((l.getD (a+k) 0).toNat:Int)<128)),.int .i64 0])/\Row w' D 3 #[.int .i64 ((k:Int)+1)]/\Row w' Bx 24 #[.slice R (l.drop a).length d]/\Below W.heap.size W w':=by
 have e:(l.drop a).getD k 0=l.getD (a+k) 0:=by rw [getD_in l 0 hk,getD_in (l.drop a) 0 (by rw [List.length_drop];omega),List.getElem_drop]
 rw [<-e];refine (next_digit D Bx R (l.drop a) d k w hD hB (hR.below hb) (by rw [List.length_drop];omega) (by rw [List.length_drop];omega)).mono ?_;rintro e w' ⟨rfl,h1,h2⟩;exact ⟨rfl,h1,(h2.block Bx hB.lt (fun e=>hDB e.symm) (fun e=>hDB e.symm)).trans hB,Two.below hb h2 hb.size hDw hDw⟩
theorem ret_three{a b c a' b' c':Int}(h1:a=a')(h2:b=b')(h3:c=c'):Ending.returned (.tuple #[.int .i64 a,.int .i64 b,.int .i64 c])=.returned (.tuple #[.int .i64 a',.int .i64 b',.int .i64 c']):=by rw [h1,h2,h3]
theorem ofInt_64(a:Nat)(ha:a<9223372036854775808):(BitVec.ofInt 64 (a:Int)).toNat=a:=by
 rw [BitVec.ofInt_natCast,BitVec.toNat_ofNat];exact Nat.mod_eq_of_lt (by omega)
theorem i64_or_nat(a b:Nat)(ha:a<9223372036854775808)(hb:b<9223372036854775808):bits .or .i64 (a:Int) (b:Int)=((a|||b:Nat):Int):=by
 have hx:a|||b<2^63:=Nat.or_lt_two_pow (by omega) (by omega)
 show IntKind.i64.wrap ((BitVec.ofInt 64 (a:Int)|||BitVec.ofInt 64 (b:Int)).toNat:Int)=_
 rw [BitVec.toNat_or,ofInt_64 a ha,ofInt_64 b hb];exact IntWalk.i64_in _ (by omega)
theorem or_digit(n x k:Nat)(hn:n<128^k)(hk:k<9):bits BinOp.or IntKind.i64 (n:Int) (wrap64 ((x:Int)%128*2^(k*7)))=((n+x%128*128^k:Nat):Int):=by
 have e:2^(k*7)=128^k:=by rw [Nat.mul_comm,Nat.pow_mul]
 have h1:x%128<128:=Nat.mod_lt _ (by omega);have h2:128^(k+1)<=128^9:=Nat.pow_le_pow_right (by omega) (by omega);have h3:128^k*128=128^(k+1):=rfl;have h4:x%128*128^k<=127*128^k:=Nat.mul_le_mul_right _ (by omega);have e2:((x:Int)%128*2^(k*7))=((128^k*(x%128):Nat):Int):=by rw [<-e];simp [Int.mul_comm]
 rw [e2,IntWalk.wrap64_in _ (by rw [Nat.mul_comm];omega),i64_or_nat _ _ (by omega) (by rw [Nat.mul_comm];omega),Nat.or_comm,<-e,<-Nat.two_pow_add_eq_or_of_lt (by rw [e];exact hn),e,Nat.add_comm,Nat.mul_comm (128^k)]
theorem gu_stop{l:List UInt8}{a n nx e:Nat}(h:GU l a n nx e):∃K,K<=9/\a+K<=l.length/\(∀j,j<K->128<=(l.getD (a+j) 0).toNat) /\
 ((K<9/\a+K=l.length/\n=0/\nx=0/\e=4)\/(K<9/\0<K/\a+K<l.length/\(l.getD (a+K) 0).toNat=0/\n=0/\nx=0/\e=5)\/(K=9/\n=0/\nx=0/\e=5) \/
   (K<9/\a+K<l.length/\(l.getD (a+K) 0).toNat<128/\((l.getD (a+K) 0).toNat=0->K=0)/\n=digN l a K+(l.getD (a+K) 0).toNat%128*128^K/\nx=a+K+1/\e=0)):=by
 cases h with
 | short k hk hc he=>exact ⟨k,by omega,by omega,hc,.inl ⟨hk,he,rfl,rfl,rfl⟩⟩
 | nought k hk h0 hc he hz=>exact ⟨k,by omega,by omega,hc,.inr (.inl ⟨hk,h0,he,hz,rfl,rfl,rfl⟩)⟩
 | long he hc=>exact ⟨9,by omega,he,hc,.inr (.inr (.inl ⟨rfl,rfl,rfl,rfl⟩))⟩
 | ok k hk hc he hl hz=>exact ⟨k,by omega,by omega,hc,.inr (.inr (.inr ⟨hk,he,hl,hz,rfl,rfl,rfl⟩))⟩
set_option maxRecDepth 4000 in
set_option maxHeartbeats 2000000 in
theorem getuint_in(b o:Nat)(l:List UInt8)(c a n nx e:Nat)(w:World)(hA:Bys w (some ⟨b,o,none⟩) l)(hlc:l.length<=c)(hl:l.length<=140737488355328)(ha:a<l.length)(hg:GU l a n nx e):
 Calls Tryz.prog 158 #[.slice (some ⟨b,o,none⟩) l.length c,.int .i64 a] w fun e' w'=>e'=.returned (.tuple #[.int .i64 n,.int .i64 nx,.int .i64 e])/\Below w.heap.size w w':=by
 obtain ⟨K,hK9,haK,hcn,hstop⟩:=gu_stop hg;clear hg;have q1:decide ((a:Int)<0)=false:=by simp
 have q2:decide ((l.length:Int)<(a:Int))=false:=by simp;omega
 have q3:¬c=a:=by omega
 have hdl:(l.drop a).length=l.length-a:=List.length_drop;have HA:=zz (hA.from a);have HC:=zz hcn;have HS:=zz hstop;clear hA hcn hstop;go_enter Tryz.func158,Tryz.ntmps158
 go_wp2_with fail
 refine (digits_start _ _ _ w).mono ?_;rintro e' w1 ⟨D,Bx,rfl,hD,hB,hbx,hDB,hDw⟩;rw [<-hdl] at hB;clear hdl;have HD0:=zz hD;have HB0:=zz hB;have Hb0:=zz hbx;clear hD hB hbx
 go_wp2_with fail
 go_loopw [8,25] (fun s8 s25 wr=>∃k:Nat,k<=K/\s25=.int .i64 k/\s8=.int .i64 (digN l a k)/\Row wr D 3 #[.int .i64 k]/\Row wr Bx 24 #[.slice (some ⟨b,o+a,none⟩) (l.drop a).length (c-a)]/\Below w.heap.size w wr) (fun _ i _=>9-(intOf i).toNat)
 case atStart=>exact ⟨0,Nat.zero_le _,rfl,rfl,HD0.out,HB0.out,Hb0.out⟩
 case round =>
  obtain ⟨k,hkK,rfl,rfl,hDr,hBr,hbr⟩:=hrel;have HDr:=zz hDr;have HBr:=zz hBr;have Hbr:=zz hbr;clear hDr hBr hbr;have hy:=digN_lt l a k
  by_cases hlt:k<K
  ·have HP:=zz (next_at a D Bx _ l _ k w wr HDr.out HBr.out HA.out Hbr.out hDB hDw (by omega) hl);have hx:=HC.out k hlt;have Hn:=zz (show digN l a (k+1)=digN l a k+(l.getD (a+k) 0).toNat%128*128^k from rfl);generalize (l.getD (a+k) 0).toNat=x at *;have hq:decide ((x:Int)<128)=false:=by simp;omega
   have Ho:=zz (or_digit (digN l a k) x k hy (by omega));rw [<-Hn.out] at Ho;have Hy:=zz hy;clear hy;generalize digN l a k=y at *;rw [hq] at HP;clear hx hq Hn
   go_wp2_with fail
   refine HP.out.mono ?_;rintro e w2 ⟨rfl,hD2,hB2,hb2⟩;have HD2:=zz hD2;have HB2:=zz hB2;have Hb2:=zz hb2;clear hD2 hB2 hb2
   go_wp2_with fail
   go_roundw
   case rel=>exact ⟨k+1,by omega,by go_num,by rw [Ho.out],HD2.out,HB2.out,Hb2.out⟩
   case measure=>simp [intOf];omega
  ·obtain rfl:k=K:=by omega
   rcases HS.out with ⟨hk,he,rfl,rfl,rfl⟩|⟨hk,h0,he,hz,rfl,rfl,rfl⟩|⟨rfl,rfl,rfl,rfl⟩|⟨hk,he,hx,hz,hn,rfl,rfl⟩
   ·have HP:=zz (next_end D Bx (some ⟨b,o+a,none⟩) k (c-a) wr HDr.out (by have:=HBr.out;rw [show (l.drop a).length=k from by rw [List.length_drop];omega] at this;exact this));clear HS;generalize digN l a k=y at *
    go_wp2_with fail
    refine HP.out.mono ?_;rintro e w2 ⟨rfl,hb2⟩;have Hb2:=zz hb2;clear hb2
    go_wp2
    go_ret3;exact ⟨rfl,below_then Hbr.out Hb2.out⟩
   ·have HP:=zz (next_at a D Bx _ l _ k w wr HDr.out HBr.out HA.out Hbr.out hDB hDw (by omega) hl);have hi:decide ((0:Int)<(k:Int))=true:=by simp;omega
    rw [hz] at HP;clear HS hz;have Ho:=zz (or_digit (digN l a k) 0 k hy (by omega));have Hy:=zz hy;clear hy;generalize digN l a k=y at *
    go_wp2_with fail
    refine HP.out.mono ?_;rintro e w2 ⟨rfl,hD2,hB2,hb2⟩;have Hb2:=zz hb2;clear hb2 hD2 hB2
    go_wp2
    go_ret3;exact ⟨rfl,Hb2.out⟩
   ·clear HS;generalize digN l a 9=y at *
    go_wp2
    go_ret3;exact ⟨rfl,Hbr.out⟩
   ·have HP:=zz (next_at a D Bx _ l _ k w wr HDr.out HBr.out HA.out Hbr.out hDB hDw (by omega) hl);clear HS;have Hn:=zz hn;clear hn;generalize (l.getD (a+k) 0).toNat=x at *;have hq:decide ((x:Int)<128)=true:=by simp;omega
    have Ho:=zz (or_digit (digN l a k) x k hy (by omega));have Hy:=zz hy;clear hy;generalize digN l a k=y at *;rw [hq] at HP
    by_cases hx0:x=0
    ·have hi:k=0:=hz hx0;subst hi;subst hx0;clear hz hq
     go_wp2_with fail
     refine HP.out.mono ?_;rintro e w2 ⟨rfl,hD2,hB2,hb2⟩;have Hb2:=zz hb2;clear hb2 hD2 hB2
     go_wp2
     go_ret3;exact ⟨ret_three (by rw [Hn.out];simpa [wrap64] using Ho.out) (by omega) rfl,Hb2.out⟩
    ·have hxx:((x:Int)%128==0)=false:=by rw [beq_eq_false_iff_ne];omega
     clear hz hq hx0
     go_wp2_with fail
     refine HP.out.mono ?_;rintro e w2 ⟨rfl,hD2,hB2,hb2⟩;have Hb2:=zz hb2;clear hb2 hD2 hB2
     go_wp2
     go_ret3;exact ⟨ret_three (by rw [Hn.out];exact Ho.out) (by omega) rfl,Hb2.out⟩
theorem gu_end{l:List UInt8}{n nx e:Nat}(h:GU l l.length n nx e):n=0/\nx=0/\e=4:=by
 cases h with
 | short k hk hc he=>exact ⟨rfl,rfl,rfl⟩
 | nought k hk h0 hc he hz=>omega
 | long he hc=>omega
 | ok k hk hc he hl hz=>omega
set_option maxRecDepth 4000 in
set_option maxHeartbeats 2000000 in
theorem getuint_end(A:Option Addr)(m c:Nat)(w:World)(hlc:m<=c)(hl:m<=140737488355328):
 Calls Tryz.prog 158 #[.slice A m c,.int .i64 m] w fun e' w'=>e'=.returned (.tuple #[.int .i64 0,.int .i64 0,.int .i64 4])/\Below w.heap.size w w':=by
 have q1:decide ((m:Int)<0)=false:=by simp
 have q2:decide ((m:Int)<(m:Int))=false:=by simp
 go_enter Tryz.func158,Tryz.ntmps158;rcases A with _|⟨b,o,s⟩
 all_goals go_wp2_with fail
 all_goals (refine (digits_start _ _ _ w).mono ?_;rintro e' w1 ⟨D,Bx,rfl,hD,hB,hbx,hDB,hDw⟩;have HD0:=zz hD;have HB0:=zz hB;have Hb0:=zz hbx;clear hD hB hbx)
 all_goals go_wp2_with fail
 all_goals
  go_loopw [8,25] (fun s8 s25 wr=>s25=.int .i64 0/\s8=.int .i64 0/\Row wr D 3 #[.int .i64 (0:Nat)]/\(∃R d,Row wr Bx 24 #[.slice R 0 d])/\Below w.heap.size w wr) (fun _ _ _=>0)
  case atStart=>exact ⟨rfl,rfl,HD0.out,⟨_,_,HB0.out⟩,Hb0.out⟩
  case round =>
   obtain ⟨rfl,rfl,hDr,⟨R,d,hBr⟩,hbr⟩:=hrel;have HP:=zz (next_end D Bx R 0 d wr hDr hBr);have Hbr:=zz hbr;clear hDr hBr hbr
   go_wp2_with fail
   refine HP.out.mono ?_;rintro e w2 ⟨rfl,hb2⟩;have Hb2:=zz hb2;clear hb2
   go_wp2
   go_ret3;exact ⟨rfl,below_then Hbr.out Hb2.out⟩
theorem getuint_prog(A:Option Addr)(l:List UInt8)(c a n nx e:Nat)(w:World)(hA:Bys w A l)(hlc:l.length<=c)(hl:l.length<=140737488355328)(ha:a<=l.length)(hg:GU l a n nx e):
 Calls Tryz.prog 158 #[.slice A l.length c,.int .i64 a] w fun e' w'=>e'=.returned (.tuple #[.int .i64 n,.int .i64 nx,.int .i64 e])/\Below w.heap.size w w':=by
 rcases Nat.lt_or_ge a l.length with h|h
 ·obtain ⟨b,o,rfl,_⟩:=hA.at_ (by omega);exact getuint_in b o l c a n nx e w hA hlc hl h hg
 ·obtain rfl:a=l.length:=by omega
  obtain ⟨rfl,rfl,rfl⟩:=gu_end hg;exact getuint_end A l.length c w hlc hl
theorem wrap_digit(y x k:Nat)(hy:y<128^k)(hx:x<256)(hk:k<9):wrap64 ((y:Int)+wrap64 ((x:Int)%128*((128^k:Nat):Int)))=((y+x%128*128^k:Nat):Int):=by
 have h2:128^(k+1)<=128^9:=Nat.pow_le_pow_right (by omega) (by omega);have h3:128^k*128=128^(k+1):=rfl;have h4:x%128*128^k<=127*128^k:=Nat.mul_le_mul_right _ (by omega);have e:(x:Int)%128*((128^k:Nat):Int)=((x%128*128^k:Nat):Int):=by simp
 rw [e,IntWalk.wrap64_in ((x%128*128^k:Nat):Int) (by omega),<-Int.natCast_add];exact IntWalk.wrap64_in _ (by omega)
set_option maxRecDepth 4000 in
set_option maxHeartbeats 2000000 in
theorem getuint_ref(A:Option Addr)(l:List UInt8)(c a n nx e:Nat)(w:World)(hA:Bys w A l)(hl:l.length<=140737488355328)(ha:a<=l.length)(hg:GU l a n nx e):
 Calls Tryz.prog 88 #[.slice A l.length c,.int .i64 a] w fun e' w'=>e'=.returned (.tuple #[.int .i64 n,.int .i64 nx,.int .i64 e])/\w=w':=by
 obtain ⟨K,hK9,haK,hcn,hstop⟩:=gu_stop hg;clear hg;have q1:decide ((a:Int)<0)=false:=by simp
 have q2:decide ((l.length:Int)<(a:Int))=false:=by simp;omega
 have HC:=zz hcn;have HS:=zz hstop;have HA:=zz hA;clear hcn hstop hA;go_enter Tryz.func88,Tryz.ntmps88
 go_wp2
 go_loop [7,8,9] (fun s7 s8 s9=>∃k:Nat,k<=K/\s9=.int .i64 k/\s7=.int .i64 (digN l a k)/\((k<9/\s8=.int .i64 ((128^k:Nat):Int))\/(k=9/\∃z,s8=.int .i64 z))) (fun _ _ i=>9-(intOf i).toNat)
 case atStart=>exact ⟨0,Nat.zero_le _,rfl,rfl,.inl ⟨by omega,rfl⟩⟩
 case round =>
  obtain ⟨k,hkK,rfl,rfl,h8⟩:=hrel;have hy:=digN_lt l a k
  by_cases hlt:k<K
  ·obtain ⟨b,o,rfl,hb,hcl⟩:=HA.out.at_ (by omega);have hcx:=hcl (a+k) (by omega);have hx:=HC.out k hlt;have hbx:=byte_nat (l.getD (a+k) 0);have Hn:=zz (show digN l a (k+1)=digN l a k+(l.getD (a+k) 0).toNat%128*128^k from rfl);rcases h8 with ⟨hk9,rfl⟩|⟨hk9,_⟩
   ·generalize (l.getD (a+k) 0).toNat=x at *;have Hg:=zz (wrap_digit (digN l a k) x k hy hbx hk9);have hp:(128:Nat)^k<=72057594037927936:=Nat.pow_le_pow_right (n:=128) (by omega) (show k<=8 by omega);have Hp:=zz (show ((128^k:Nat):Int)*128=((128^(k+1):Nat):Int) by rw [Nat.pow_succ];omega);rw [<-Hn.out] at Hg;have hy':digN l a k<=9223372036854775807:=by omega
    clear hcl Hn hy;generalize digN l a k=y at *
    by_cases h8:k<8
    ·have hp8:128^k<=562949953421312:=Nat.pow_le_pow_right (n:=128) (by omega) (show k<=7 by omega);generalize 128^k=p at *
     go_wp2
     go_round
     case rel=>exact ⟨k+1,by omega,by go_num,by rw [<-Hg.out],.inl ⟨by omega,by rw [<-Hp.out]⟩⟩
     case measure=>simp [intOf];omega
    ·generalize 128^k=p at *
     go_wp2
     go_round
     case rel=>exact ⟨k+1,by omega,by go_num,by rw [<-Hg.out],.inr ⟨by omega,_,rfl⟩⟩
     case measure=>simp [intOf];omega
   ·omega
  ·obtain rfl:k=K:=by omega
   rcases HS.out with ⟨hk,he,rfl,rfl,rfl⟩|⟨hk,h0,he,hz,rfl,rfl,rfl⟩|⟨rfl,rfl,rfl,rfl⟩|⟨hk,he,hx,hz,hn,rfl,rfl⟩
   ·clear HS hy;generalize digN l a k=y at *;rcases h8 with ⟨_,rfl⟩|⟨h9,z,rfl⟩
    ·go_wp2
     go_ret3;exact ⟨rfl,rfl⟩
    ·omega
   ·obtain ⟨b,o,rfl,hb,hcl⟩:=HA.out.at_ (by omega);have hcx:=hcl (a+k) (by omega);rw [hz] at hcx;clear HS hz hcl hy;have hi:decide ((0:Int)<(k:Int))=true:=by simp;omega
    generalize digN l a k=y at *;rcases h8 with ⟨_,rfl⟩|⟨_,z,rfl⟩
    ·generalize 128^k=p at *
     go_wp2
     go_ret3;exact ⟨rfl,rfl⟩
    ·omega
   ·clear HS;generalize digN l a 9=y at *;rcases h8 with ⟨h,_⟩|⟨_,z,rfl⟩
    ·omega
    ·go_wp2
     go_ret3;exact ⟨ret_three rfl rfl rfl,rfl⟩
   ·obtain ⟨b,o,rfl,hb,hcl⟩:=HA.out.at_ (by omega);have hcx:=hcl (a+k) (by omega);have hbx:=byte_nat (l.getD (a+k) 0);rcases h8 with ⟨_,rfl⟩|⟨_,z,rfl⟩
    ·have Hn:=zz hn;clear hn HS hcl;generalize (l.getD (a+k) 0).toNat=x at *;have Hg:=zz (wrap_digit (digN l a k) x k hy hbx hk);clear hy;rw [<-Hn.out] at Hg;generalize digN l a k=y at *;generalize 128^k=p at *
     by_cases hx0:x=0
     ·have hi:k=0:=hz hx0;subst hi;subst hx0;clear hz;simp only [Nat.add_zero] at hcx he
      go_wp2
      go_ret3;exact ⟨ret_three (by simpa [wrap64] using Hg.out) (by omega) rfl,rfl⟩
     ·have hxx:((x:Int)==0)=false:=by rw [beq_eq_false_iff_ne];omega
      clear hz
      go_wp2
      rw [Hg.out];go_ret3;exact ⟨ret_three rfl (by omega) rfl,rfl⟩
    ·omega
def textL(s:ByteArray):List UInt8:=uintL s.size++strL s
theorem puttext_prog(A:Option Addr)(l:List UInt8)(c:Nat)(s:ByteArray)(w:World)(hA:Bys w A l)(hl:l.length<=140737488351232)(hs:s.size<=65535):
 Calls Tryz.prog 63 #[.slice A l.length c,.string s] w fun e w'=>∃v,e=.returned (.tuple #[v,.int .i64 0])/\Own w' w.heap.size v (l++textL s)/\Below w.heap.size w w':=by
 have d0:decide ((65535:Int)<(s.size:Int))=false:=by simp;omega
 have hu9:=uintL_9 (n:=s.size) (by omega);have Ht:=zz (show (l++uintL s.size)++strL s=l++textL s by simp [textL]);go_enter Tryz.func63,Tryz.ntmps63
 go_wp2_with fail
 refine (putuint_prog A l c s.size w hA (by omega) (by omega)).mono ?_;rintro e w1 ⟨v1,rfl,hown1,hb1⟩;obtain ⟨B1,d1,hv1,_⟩:=own_slice' hown1;subst hv1;have hlen:(l++uintL s.size).length<=140737488351300:=by rw [List.length_append];omega
 generalize l++uintL s.size=y at *
 go_wp2_with (at_builtin;refine app_str rfl (.tmp 21) (.tmp 22) rfl w.heap.size _ y rfl hown1 s rfl (by omega) hb1.size ?_;intro v2 w2 hown2 hb2 hg2)
 go_ret2;exact ⟨v2,rfl,by rw [<-Ht.out];exact hown2,hb1.trans hb2⟩
theorem text_ref(s:ByteArray)(w:World)(hs:s.size<=65535):
 Calls Tryz.prog 110 #[.string s] w fun e w'=>∃v,e=.returned v/\Own w' w.heap.size v (textL s)/\Below w.heap.size w w':=by
 have hu9:=uintL_9 (n:=s.size) (by omega);have Ht:=zz (show uintL s.size++strL s=textL s from rfl);go_enter Tryz.func110,Tryz.ntmps110
 go_wp2_with fail
 refine (uint_ref s.size w (by omega)).mono ?_;rintro e w1 ⟨v1,rfl,hown1,hb1⟩;obtain ⟨B1,d1,hv1,_⟩:=own_slice' hown1;subst hv1;generalize uintL s.size=y at *
 go_wp2_with (at_builtin;refine app_str rfl (.tmp 5) (.tmp 6) rfl w.heap.size _ y rfl hown1 s rfl (by omega) hb1.size ?_;intro v2 w2 hown2 hb2 hg2)
 go_ret;exact ⟨v2,rfl,by rw [<-Ht.out];exact hown2,hb1.trans hb2⟩
inductive GT(l:List UInt8):Nat->Nat->Nat->ByteArray->Nat->Nat->Prop
 | no (n nx e:Nat) (h:e≠0):GT l n nx e ⟨#[]⟩ 0 e
 | big (n nx:Nat) (h:65535<n):GT l n nx 0 ⟨#[]⟩ 0 3
 | short (n nx:Nat) (h:n<=65535) (hx:nx<=l.length) (hs:l.length-nx<n):GT l n nx 0 ⟨#[]⟩ 0 4
 | ok (n nx:Nat) (h:n<=65535) (hx:nx<=l.length) (hs:n<=l.length-nx):GT l n nx 0 (txt ((l.drop nx).take n)) (nx+n) 0
theorem gt_total(l:List UInt8)(n nx e:Nat)(h:e=0->nx<=l.length):∃s k e2,GT l n nx e s k e2:=by
 by_cases he:e=0
 ·subst he
  by_cases hn:65535<n
  ·exact ⟨_,_,_,.big n nx hn⟩
  ·by_cases hs:l.length-nx<n
   ·exact ⟨_,_,_,.short n nx (by omega) (h rfl) hs⟩
   ·exact ⟨_,_,_,.ok n nx (by omega) (h rfl) (by omega)⟩
 ·exact ⟨_,_,_,.no n nx e he⟩
theorem gu_place{l:List UInt8}{a n nx e:Nat}(h:GU l a n nx e):e=0->nx<=l.length/\0<nx/\a<nx:=by
 intro he
 cases h with
 | short k hk hc he'=>cases he
 | nought k hk h0 hc he' hz=>cases he
 | long he' hc=>cases he
 | ok k hk hc he' hl hz=>omega
theorem gu_small{l:List UInt8}{a n nx e:Nat}(h:GU l a n nx e):n<9223372036854775808:=by
 cases h with
 | short k hk hc he'=>omega
 | nought k hk h0 hc he' hz=>omega
 | long he' hc=>omega
 | ok k hk hc he' hl hz =>
   have h1:=digN_lt l a (k+1);have h2:128^(k+1)<=128^9:=Nat.pow_le_pow_right (by omega) (by omega);omega
theorem ret_text{s s':ByteArray}{b c b' c':Int}(h1:s=s')(h2:b=b')(h3:c=c'):Ending.returned (.tuple #[.string s,.int .i64 b,.int .i64 c])=.returned (.tuple #[.string s',.int .i64 b',.int .i64 c']):=by rw [h1,h2,h3]
set_option maxHeartbeats 1000000 in
theorem gettext_prog(A:Option Addr)(l:List UInt8)(c:Nat)(a:Int)(n nx e:Nat)(s:ByteArray)(k e2:Nat)(w:World)(hA:Bys w A l)(hlc:l.length<=c)(hl:l.length<=140737488355328)(hn:n<9223372036854775808)(hnx:e=0->0<nx)
 (hu:Calls Tryz.prog 158 #[.slice A l.length c,.int .i64 a] w fun e' w'=>e'=.returned (.tuple #[.int .i64 n,.int .i64 nx,.int .i64 e])/\Below w.heap.size w w')(hg:GT l n nx e s k e2):
 Calls Tryz.prog 193 #[.slice A l.length c,.int .i64 a] w fun e' w'=>e'=.returned (.tuple #[.string s,.int .i64 k,.int .i64 e2])/\Below w.heap.size w w':=by
 go_enter Tryz.func193,Tryz.ntmps193
 go_wp2_with fail
 refine hu.mono ?_;rintro e' w1 ⟨rfl,hb1⟩;have hA1:=hA.below hb1;have Hb:=zz hb1;clear hu hb1
 cases hg with
 | no e h =>
   have q:((e:Int) !=0)=true:=by rw [bne_iff_ne];omega
   clear hnx
   go_wp2
   go_ret3;exact ⟨rfl,Hb.out⟩
 | big h =>
   have q:decide ((65535:Int)<(n:Int))=true:=by simp;omega
   clear hnx
   go_wp2
   go_ret3;exact ⟨rfl,Hb.out⟩
 | short h hx hs =>
   have q:decide ((65535:Int)<(n:Int))=false:=by simp;omega
   have q2:decide ((l.length:Int)-(nx:Int)<(n:Int))=true:=by simp;omega
   clear hnx
   go_wp2
   go_ret3;exact ⟨rfl,Hb.out⟩
 | ok h hx hs =>
   have q:decide ((65535:Int)<(n:Int))=false:=by simp;omega
   have q2:decide ((l.length:Int)-(nx:Int)<(n:Int))=false:=by simp;omega
   have hp:=hnx rfl;clear hnx;obtain ⟨b,o,rfl,_⟩:=hA.at_ (by omega);have hln:((l.drop nx).take n).length=n:=by simp;omega
   have hBX:=(hA1.from nx).front n;have HT:=zz (show ∀W,W=w1->True from fun _ _=>trivial)
   by_cases hc:c=nx
   ·have h0:n=0:=by omega
    have c1:(convert 24 9 (.slice (some ⟨b,o,none⟩) n 0)).run Tryz.prog w1=.ok (.string (txt [])) w1:=by
     subst h0;exact conv_bys w1 (some ⟨b,o,none⟩) [] 0 (Bys.empty _ _)
    have HTX:=zz (show txt []=txt ((l.drop nx).take n) by rw [h0,List.take_zero]);clear hBX hln HT h0
    go_wp2
    go_ret3;exact ⟨ret_text HTX.out (by omega) rfl,Hb.out⟩
   ·have c1:=conv_bys w1 (some ⟨b,o+nx,none⟩) ((l.drop nx).take n) (c-nx) hBX;rw [hln] at c1;generalize hT:txt ((l.drop nx).take n)=T at *;have HTT:=zz hT;clear hBX hln HT hT
    go_wp2
    go_ret3;exact ⟨ret_text HTT.out.symm (by omega) rfl,Hb.out⟩
set_option maxHeartbeats 1000000 in
theorem gettext_ref(A:Option Addr)(l:List UInt8)(c:Nat)(a:Int)(n nx e:Nat)(s:ByteArray)(k e2:Nat)(w:World)(hA:Bys w A l)(hlc:l.length<=c)(hl:l.length<=140737488355328)(hn:n<9223372036854775808)(hnx:e=0->0<nx)
 (hu:Calls Tryz.prog 88 #[.slice A l.length c,.int .i64 a] w fun e' w'=>e'=.returned (.tuple #[.int .i64 n,.int .i64 nx,.int .i64 e])/\Below w.heap.size w w')(hg:GT l n nx e s k e2):
 Calls Tryz.prog 89 #[.slice A l.length c,.int .i64 a] w fun e' w'=>e'=.returned (.tuple #[.string s,.int .i64 k,.int .i64 e2])/\Below w.heap.size w w':=by
 go_enter Tryz.func89,Tryz.ntmps89
 go_wp2_with fail
 refine hu.mono ?_;rintro e' w1 ⟨rfl,hb1⟩;have hA1:=hA.below hb1;have Hb:=zz hb1;clear hu hb1
 cases hg with
 | no e h =>
   have q:((e:Int) !=0)=true:=by rw [bne_iff_ne];omega
   clear hnx
   go_wp2
   go_ret3;exact ⟨rfl,Hb.out⟩
 | big h =>
   have q:decide ((65535:Int)<(n:Int))=true:=by simp;omega
   clear hnx
   go_wp2
   go_ret3;exact ⟨rfl,Hb.out⟩
 | short h hx hs =>
   have q:decide ((65535:Int)<(n:Int))=false:=by simp;omega
   have q2:decide ((l.length:Int)-(nx:Int)<(n:Int))=true:=by simp;omega
   clear hnx
   go_wp2
   go_ret3;exact ⟨rfl,Hb.out⟩
 | ok h hx hs =>
   have q:decide ((65535:Int)<(n:Int))=false:=by simp;omega
   have q2:decide ((l.length:Int)-(nx:Int)<(n:Int))=false:=by simp;omega
   have hp:=hnx rfl;clear hnx;obtain ⟨b,o,rfl,_⟩:=hA.at_ (by omega);have hln:((l.drop nx).take n).length=n:=by simp;omega
   have hBX:=(hA1.from nx).front n;have HT:=zz (show ∀W,W=w1->True from fun _ _=>trivial)
   by_cases hc:c=nx
   ·have h0:n=0:=by omega
    have c1:(convert 24 9 (.slice (some ⟨b,o,none⟩) n 0)).run Tryz.prog w1=.ok (.string (txt [])) w1:=by
     subst h0;exact conv_bys w1 (some ⟨b,o,none⟩) [] 0 (Bys.empty _ _)
    have HTX:=zz (show txt []=txt ((l.drop nx).take n) by rw [h0,List.take_zero]);clear hBX hln HT h0
    go_wp2
    go_ret3;exact ⟨ret_text HTX.out (by omega) rfl,Hb.out⟩
   ·have c1:=conv_bys w1 (some ⟨b,o+nx,none⟩) ((l.drop nx).take n) (c-nx) hBX;rw [hln] at c1;generalize hT:txt ((l.drop nx).take n)=T at *;have HTT:=zz hT;clear hBX hln HT hT
    go_wp2
    go_ret3;exact ⟨ret_text HTT.out.symm (by omega) rfl,Hb.out⟩
end Go.Proofs.YtgdmcnoogacdaaaGreatDoor
