/- In one text, written by lotify.py: BitInts, BitAt, BitGet, BitLay, BitExtendG, BitPutG, BitPutNumG, BitGetNum, BitRowsMathG. -/
import Derived.Test.YtgdmcnoogacdaaaGreatDoorBlLotA
import Derived.BigQuiet
import Derived.Laws.CopyOwn
import Derived.Deep.DeepCutAuto
import Derived.Test.YtgdmcnoogacdaaaGreatDoorBitLen
namespace Go.Proofs.YtgdmcnoogacdaaaGreatDoor.Ch
open Go.RowKit
set_option linter.unusedVariables false
def zig(n:Int):Nat:=if 0<=n then (2*n).toNat else (2*(-(n+1))+1).toNat
def zag(u:Nat):Int:=if u%2=0 then ((u/2:Nat):Int) else -((u/2:Nat):Int)-1
theorem ret_num{k:IntKind}{a b:Int}(h:a=b):Ending.returned (.int k a)=.returned (.int k b):=by rw [h]
theorem u64_and_one(u:Nat)(h:u<=18446744073709551615):bits BinOp.and IntKind.u64 (u:Int) 1=((u%2:Nat):Int):=by
 rw [show (1:Int)=((1:Nat):Int) from rfl,u64_and_nat u 1 (by omega) (by omega),Nat.and_one_is_mod]
theorem u64_or_one(k:Nat)(h:2*k+1<=18446744073709551615)(d:Nat)(hd:d<2):bits BinOp.or IntKind.u64 ((2*k:Nat):Int) (d:Int)=((2*k+d:Nat):Int):=by
 rw [u64_or_nat (2*k) d (by omega) (by omega)]
 congr 1
 have:=Nat.two_pow_add_eq_or_of_lt (i:=1) (b:=d) (by omega) k;simp only [Nat.pow_one] at this;exact this.symm
theorem u64_and_one_even(u:Nat)(h:u<=18446744073709551615)(h2:u%2=0):(bits BinOp.and IntKind.u64 (u:Int) 1==0)=true:=by rw [u64_and_one u h,h2];rfl
theorem u64_and_one_odd(u:Nat)(h:u<=18446744073709551615)(h2:¬u%2=0):(bits BinOp.and IntKind.u64 (u:Int) 1==0)=false:=by
 rw [u64_and_one u h,show u%2=1 from by omega];rfl
theorem zig_prog(n:Int)(w:World)(h0:-9223372036854775808<=n)(h1:n<=9223372036854775807):
 Calls Tryz.prog 107 #[.int .i64 n] w fun e w'=>e=.returned (.int .u64 (zig n))/\w=w':=by
 by_cases h:0<=n
 ·have H:=Lib.hid (show n*2=(zig n:Int) by unfold zig;rw [if_pos h];omega);go_enter Tryz.func107,Tryz.ntmps107
  go_wp2
  go_ret;exact ⟨ret_num H.out,rfl⟩
 ·have H:=Lib.hid (show bits BinOp.or IntKind.u64 (-(n+1)*2) 1=(zig n:Int) by
   obtain ⟨k,hk⟩:∃k:Nat,-(n+1)=k:=⟨(-(n+1)).toNat,by omega⟩;unfold zig;rw [if_neg h,hk,show (k:Int)*2=((2*k:Nat):Int) from by omega,show (1:Int)=((1:Nat):Int) from rfl,u64_or_one k (by omega) 1 (by omega)];omega)
  go_enter Tryz.func107,Tryz.ntmps107
  go_wp2
  go_ret;exact ⟨ret_num H.out,rfl⟩
theorem zag_prog(u:Nat)(w:World)(h1:u<=18446744073709551615):
 Calls Tryz.prog 200 #[.int .u64 u] w fun e w'=>e=.returned (.int .i64 (zag u))/\w=w':=by
 by_cases h:u%2=0
 ·have H:=Lib.hid (show (u:Int)/2=zag u by unfold zag;rw [if_pos h];omega);have hb:=u64_and_one_even u h1 h;clear h;go_enter Tryz.func200,Tryz.ntmps200
  go_wp2
  go_ret;exact ⟨ret_num H.out,rfl⟩
 ·have H:=Lib.hid (show -((u:Int)/2)-1=zag u by unfold zag;rw [if_neg h];omega);have hb:=u64_and_one_odd u h1 h;clear h;go_enter Tryz.func200,Tryz.ntmps200
  go_wp2
  go_ret;exact ⟨ret_num H.out,rfl⟩
theorem zig_ref(n:Int)(w:World)(h0:-9223372036854775808<=n)(h1:n<=9223372036854775807):
 Calls Tryz.prog 113 #[.int .i64 n] w fun e w'=>e=.returned (.int .u64 (zig n))/\w=w':=by
 by_cases h:0<=n
 ·have H:=Lib.hid (show 2*n=(zig n:Int) by unfold zig;rw [if_pos h];omega);go_enter Tryz.func113,Tryz.ntmps113
  go_wp2
  go_ret;exact ⟨ret_num H.out,rfl⟩
 ·have H:=Lib.hid (show 2*-(n+1)+1=(zig n:Int) by unfold zig;rw [if_neg h];omega);go_enter Tryz.func113,Tryz.ntmps113
  go_wp2
  go_ret;exact ⟨ret_num H.out,rfl⟩
theorem zag_ref(u:Nat)(w:World)(h1:u<=18446744073709551615):
 Calls Tryz.prog 127 #[.int .u64 u] w fun e w'=>e=.returned (.int .i64 (zag u))/\w=w':=by
 by_cases h:u%2=0
 ·have H:=Lib.hid (show (u:Int)/2=zag u by unfold zag;rw [if_pos h];omega);have hb:((u:Int)%2==0)=true:=by rw [beq_iff_eq];omega
  clear h;go_enter Tryz.func127,Tryz.ntmps127
  go_wp2
  go_ret;exact ⟨ret_num H.out,rfl⟩
 ·have H:=Lib.hid (show -((u:Int)/2)-1=zag u by unfold zag;rw [if_neg h];omega);have hb:((u:Int)%2==0)=false:=by rw [beq_eq_false_iff_ne];omega
  clear h;go_enter Tryz.func127,Tryz.ntmps127
  go_wp2
  go_ret;exact ⟨ret_num H.out,rfl⟩
theorem bytesOf_prog(n:Nat)(w:World)(h1:n<=9223372036854775807):
 Calls Tryz.prog 188 #[.int .i64 n] w fun e w'=>e=.returned (.int .i64 ((n+7)/8:Nat))/\w=w':=by
 go_enter Tryz.func188,Tryz.ntmps188
 go_wp2
 go_ret;exact ⟨ret_num (by omega),rfl⟩
theorem digit_ref(u k:Nat)(w:World)(h1:u<=18446744073709551615)(h2:k<=9223372036854775806):
 Calls Tryz.prog 192 #[.int .u64 u,.int .i64 k] w fun e w'=>e=.returned (.int .u64 (dig u k))/\w=w':=by
 go_enter Tryz.func192,Tryz.ntmps192
 go_wp2
 go_loop [0,5] (fun a i=>∃j:Nat,j<=k/\i=.int .i64 j/\a=.int .u64 (u/2^j:Nat)) (fun _ i=>k-(intOf i).toNat)
 case atStart=>exact ⟨0,Nat.zero_le _,rfl,by simp⟩
 case round =>
  obtain ⟨j,hj,rfl,rfl⟩:=hrel;have hle:u/2^j<=u:=Nat.div_le_self _ _;have H:=Lib.hid (show ((u/2^j:Nat):Int)/2=((u/2^(j+1):Nat):Int) by rw [Nat.pow_succ,<-Nat.div_div_eq_div_mul];omega);generalize hx:u/2^j=x at *;have Hx:=Lib.hid hx;clear hx
  by_cases hlt:j<k
  ·go_wp2
   go_round
   case rel=>exact ⟨j+1,by omega,by go_num,by rw [H.out]⟩
   case measure=>simp [intOf];omega
  ·go_wp2
   go_ret;refine ⟨ret_num ?_,rfl⟩;have:j=k:=by omega
   subst this;unfold dig;rw [Hx.out];omega
theorem digits_ref(u:Nat)(w:World)(h1:u<=18446744073709551615):
 Calls Tryz.prog 150 #[.int .u64 u] w fun e w'=>e=.returned (.int .i64 (digs u))/\w=w':=by
 have hd:=digs_64 h1;go_enter Tryz.func150,Tryz.ntmps150
 go_wp2
 go_loop [0,3] (fun a i=>∃j x:Nat,x<=u/\j+digs x<=digs u/\digs u<=j+digs x/\i=.int .i64 j/\a=.int .u64 x) (fun a _=>(intOf a).toNat)
 case atStart=>exact ⟨0,u,Nat.le_refl _,by omega,by omega,rfl,rfl⟩
 case round =>
  obtain ⟨j,x,hx,hj1,hj2,rfl,rfl⟩:=hrel
  by_cases hlt:0<x
  ·have hh:=digs_half (u:=x) (by omega);have e1:j+1+digs (x/2)<=digs u:=by omega
   have e2:digs u<=j+1+digs (x/2):=by omega
   clear hh hj2
   go_wp2
   go_round
   case rel=>exact ⟨j+1,x/2,by omega,e1,e2,by go_num,by go_num⟩
   case measure=>simp [intOf];omega
  ·have e:digs x=0:=by rw [show x=0 from by omega];exact digs_zero
   have e1:j<=digs u:=by omega
   have e2:digs u<=j:=by omega
   clear e hj1 hj2
   go_wp2
   go_ret;exact ⟨ret_num (by omega),rfl⟩
theorem ret_bool{a b:Bool}(h:a=b):Ending.returned (.bool a)=.returned (.bool b):=by rw [h]
theorem u8_pow_div(x k:Nat):x/2^k<=x:=Nat.div_le_self _ _
theorem u64_bit(x k:Nat)(hx:x<256):bits BinOp.and IntKind.u64 (IntKind.u64.wrap ((x:Int)/2^k)) 1=((x/2^k%2:Nat):Int):=by
 have h1:=u8_pow_div x k;have e:(x:Int)/2^k=((x/2^k:Nat):Int):=by rw [Int.natCast_ediv,Int.natCast_pow];rfl
 rw [e];generalize x/2^k=y at *;rw [IntWalk.u64_in _ (by omega),u64_and_one _ (by omega)]
theorem bitAt_prog(A:Option Addr)(l:List UInt8)(c:Nat)(N:Int)(i:Nat)(w:World)(hA:Bys w A l)(hi:i<8*l.length)(hl:l.length<=562949953421312):
 Calls Tryz.prog 248 #[.agg #[.slice A l.length c,.int .i64 N],.int .i64 i] w fun e w'=>e=.returned (.int .u64 (bitN l i))/\Below w.heap.size w w':=by
 obtain ⟨b,o,rfl,hb,hc⟩:=hA.at_ (by omega);have hcell:=hc (i/8) (by omega);have hx:=byte_toNat (l.getD (i/8) 0);have Hn:=zz (show (l.getD (i/8) 0).toNat/2^(7-i%8)%2=bitN l i from rfl);generalize (l.getD (i/8) 0).toNat=x at *;clear hc;have hcell':∀o1,(w.alloc o1).cell? ⟨b,o+i/8,none⟩=some (.int .u8 (x:Int)):=fun o1=>by rw [World.cell?_alloc_past _ _ _ hb];exact hcell
 clear hcell;have hi2:i/8<l.length:=by omega
 go_enter Tryz.func248,Tryz.ntmps248
 go_wp2
 go_ret;exact ⟨ret_num (by rw [u64_bit x _ hx,Hn.out]),below_one _ _⟩
theorem right_no(A:Option Addr)(l:List UInt8)(c:Nat)(N:Int)(w:World)(h0:N<0):
 Calls Tryz.prog 145 #[.agg #[.slice A l.length c,.int .i64 N]] w fun e w'=>e=.returned (.bool false)/\Below w.heap.size w w':=by
 go_enter Tryz.func145,Tryz.ntmps145
 go_wp2_with fail
 go_quiet (fail)
 go_wp2
 go_ret;exact ⟨rfl,below_drewN' (below_one _ _) _⟩
theorem right_len(A:Option Addr)(l:List UInt8)(c:Nat)(N:Nat)(w:World)(h1:N<=9223372036854775807)(hl:l.length<=562949953421312)(h:l.length≠(N+7)/8):
 Calls Tryz.prog 145 #[.agg #[.slice A l.length c,.int .i64 N]] w fun e w'=>e=.returned (.bool false)/\Below w.heap.size w w':=by
 have hne:((l.length:Int) !=((N:Int)+7)/8)=true:=by rw [bne_iff_ne];omega
 have hn:decide ((N:Int)<0)=false:=by simp
 go_enter Tryz.func145,Tryz.ntmps145
 go_wp2_with fail
 go_quiet ((go_at_call 188;exact Calls.quiet_of_same ((bytesOf_prog _ _ h1).mono fun _ _ h=>⟨h.1,h.2.symm⟩)))
 go_wp2
 go_ret;exact ⟨rfl,below_drewN' (below_one _ _) _⟩
theorem right_even(A:Option Addr)(l:List UInt8)(c:Nat)(N:Nat)(w:World)(h1:N<=9223372036854775807)(hl:l.length<=562949953421312)(h:l.length=(N+7)/8)(h8:N%8=0):
 Calls Tryz.prog 145 #[.agg #[.slice A l.length c,.int .i64 N]] w fun e w'=>e=.returned (.bool true)/\Below w.heap.size w w':=by
 have hne:((l.length:Int) !=((N:Int)+7)/8)=false:=by rw [bne_eq_false_iff_eq];omega
 have hn:decide ((N:Int)<0)=false:=by simp
 have hu:((N:Int)%8==0)=true:=by rw [beq_iff_eq];omega
 clear h h8;go_enter Tryz.func145,Tryz.ntmps145
 go_wp2_with fail
 go_quiet ((go_at_call 188;exact Calls.quiet_of_same ((bytesOf_prog _ _ h1).mono fun _ _ h=>⟨h.1,h.2.symm⟩)))
 go_wp2
 go_ret;exact ⟨rfl,below_drewN' (below_one _ _) _⟩
theorem right_odd(A:Option Addr)(l:List UInt8)(c:Nat)(N:Nat)(w:World)(hA:Bys w A l)(h1:N<=9223372036854775807)(hl:l.length<=562949953421312)(h:l.length=(N+7)/8)(h8:¬N%8=0):
 Calls Tryz.prog 145 #[.agg #[.slice A l.length c,.int .i64 N]] w fun e w' =>
  e=.returned (.bool (decide ((l.getD (l.length-1) 0).toNat*2^(N%8)%256=0)))/\Below w.heap.size w w':=by
 obtain ⟨b,o,rfl,hb,hc⟩:=hA.at_ (by omega);have hcell:=hc (l.length-1) (by omega);have hx:=byte_toNat (l.getD (l.length-1) 0);generalize (l.getD (l.length-1) 0).toNat=x at *;clear hc;have hcell':∀o1,(w.alloc o1).cell? ⟨b,o+(l.length-1),none⟩=some (.int .u8 (x:Int)):=fun o1=>by rw [World.cell?_alloc_past _ _ _ hb];exact hcell
 clear hcell;have hne:((l.length:Int) !=((N:Int)+7)/8)=false:=by rw [bne_eq_false_iff_eq];omega
 have hn:decide ((N:Int)<0)=false:=by simp
 have hu:((N:Int)%8==0)=false:=by rw [beq_eq_false_iff_ne];omega
 have hl1:1<=l.length:=by omega
 clear h h8;go_enter Tryz.func145,Tryz.ntmps145
 go_wp2_with fail
 go_quiet ((go_at_call 188;exact Calls.quiet_of_same ((bytesOf_prog _ _ h1).mono fun _ _ h=>⟨h.1,h.2.symm⟩)))
 go_wp2
 go_ret;refine ⟨ret_bool ?_,below_drewN' (below_one _ _) _⟩;have e:(x:Int)*2^(N%8)%256=((x*2^(N%8)%256:Nat):Int):=by simp
 show ((x:Int)*2^(N%8)%256==0)=_
 rw [e,Bool.eq_iff_iff,beq_iff_eq,decide_eq_true_eq];omega
theorem right_prog(A:Option Addr)(l:List UInt8)(c:Nat)(N:Int)(w:World)(hA:Bys w A l)(h1:N<=9223372036854775807)(hl:l.length<=562949953421312):
 Calls Tryz.prog 145 #[.agg #[.slice A l.length c,.int .i64 N]] w fun e w'=>e=.returned (.bool (rightB l N))/\Below w.heap.size w w':=by
 by_cases h0:N<0
 ·rw [right_neg h0];exact right_no A l c N w h0
 ·obtain ⟨k,rfl⟩:=Int.eq_ofNat_of_zero_le (show 0<=N by omega)
  by_cases h:l.length=(k+7)/8
  ·by_cases h8:k%8=0
   ·rw [right_whole h h8];exact right_even A l c k w (by omega) hl h h8
   ·rw [<-right_last h h8];exact right_odd A l c k w hA (by omega) hl h h8
  ·rw [right_size h];exact right_len A l c k w (by omega) hl h
theorem get_bad(A:Option Addr)(l:List UInt8)(c:Nat)(N a n:Int)(w:World)(hA:Bys w A l)(h1:N<=9223372036854775807)(hl:l.length<=562949953421312)
 (h:rightB l N=false\/n<0\/64<n\/a<0\/N<a):
 Calls Tryz.prog 232 #[.agg #[.slice A l.length c,.int .i64 N],.int .i64 a,.int .i64 n] w fun e w'=>e=.returned (.tuple #[.int .u64 0,.int .i64 2])/\Below w.heap.size w w':=by
 have hcase:rightB l N=false\/(rightB l N=true/\decide (n<0)=true)\/(rightB l N=true/\decide (n<0)=false/\decide (64<n)=true) \/
  (rightB l N=true/\decide (n<0)=false/\decide (64<n)=false/\decide (a<0)=true) \/
  (rightB l N=true/\decide (n<0)=false/\decide (64<n)=false/\decide (a<0)=false/\decide (N<a)=true):=by
  simp only [decide_eq_true_eq,decide_eq_false_iff_not];rcases h with h|h|h|h|h
  ·exact .inl h
  all_goals
   cases rightB l N
   ·exact .inl rfl
   ·simp only [Bool.true_eq_false,false_or,true_and];omega
 clear h;rcases hcase with h|⟨h,h2⟩|⟨h,h2,h3⟩|⟨h,h2,h3,h4⟩|⟨h,h2,h3,h4,h5⟩
 all_goals
  go_enter Tryz.func232,Tryz.ntmps232
  go_wp2_with (go_at_call 145;refine (right_prog A l c N _ (hA.below (below_one _ _)) h1 hl).mono ?_;rintro e w1 ⟨rfl,hb1⟩;obtain ⟨hs,hf⟩:=stands hb1)
  go_ret2;exact ⟨rfl,below_then (below_one _ _) hb1⟩
theorem get_short(A:Option Addr)(l:List UInt8)(c:Nat)(N a n:Int)(w:World)(hA:Bys w A l)(h1:N<=9223372036854775807)(hl:l.length<=562949953421312)
 (hr:rightB l N=true)(hn0:0<=n)(hn:n<=64)(ha0:0<=a)(ha:a<=N)(h:N-a<n):
 Calls Tryz.prog 232 #[.agg #[.slice A l.length c,.int .i64 N],.int .i64 a,.int .i64 n] w fun e w'=>e=.returned (.tuple #[.int .u64 0,.int .i64 4])/\Below w.heap.size w w':=by
 have d1:decide (n<0)=false:=by simp;omega
 have d2:decide (64<n)=false:=by simp;omega
 have d3:decide (a<0)=false:=by simp;omega
 have d4:decide (N<a)=false:=by simp;omega
 go_enter Tryz.func232,Tryz.ntmps232
 go_wp2_with (go_at_call 145;refine (right_prog A l c N _ (hA.below (below_one _ _)) h1 hl).mono ?_;rintro e w1 ⟨rfl,hb1⟩;obtain ⟨hs,hf⟩:=stands hb1)
 go_ret2;exact ⟨rfl,below_then (below_one _ _) hb1⟩
theorem getN_63(l:List UInt8)(a k:Nat)(hk:k<64):getN l a k<=9223372036854775807:=by
 have h1:=getN_lt l a k;have h2:2^k<=2^63:=Nat.pow_le_pow_right (by omega) (by omega);omega
theorem getN_64(l:List UInt8)(a k:Nat)(hk:k<=64):getN l a k<=18446744073709551615:=by
 have h1:=getN_lt l a k;have h2:2^k<=2^64:=Nat.pow_le_pow_right (by omega) hk;omega
set_option maxHeartbeats 400000 in
theorem get_ok(A:Option Addr)(l:List UInt8)(c:Nat)(N a n:Nat)(w:World)(hA:Bys w A l)(hl:l.length<=562949953421312)
 (hr:rightB l (N:Int)=true)(hn:n<=64)(h:a+n<=N):
 Calls Tryz.prog 232 #[.agg #[.slice A l.length c,.int .i64 N],.int .i64 a,.int .i64 n] w fun e w'=>e=.returned (.tuple #[.int .u64 (getN l a n),.int .i64 0])/\Below w.heap.size w w':=by
 have hlen:=(rightB_iff.1 hr).2.1;rw [Int.toNat_natCast] at hlen;have hN:N<=8*l.length:=by omega
 clear hlen;have d1:decide ((n:Int)<0)=false:=by simp
 have d2:decide (64<(n:Int))=false:=by simp;omega
 have d3:decide ((a:Int)<0)=false:=by simp
 have d4:decide (N<a)=false:=by simp;omega
 have d5:decide ((N:Int)-(a:Int)<(n:Int))=false:=by simp;omega
 go_enter Tryz.func232,Tryz.ntmps232
 go_wp2_with (go_at_call 145;refine (right_prog A l c N _ (hA.below (below_one _ _)) (by omega) hl).mono ?_;rintro e w1 ⟨rfl,hb1⟩;obtain ⟨hs,hf⟩:=stands hb1)
 have hB0:w1.cell? ⟨w.heap.size,0,none⟩=some (.slice A l.length c):=by rw [hs _ _ (by simp),World.cell?_alloc_at _ _ _ _ rfl];rfl
 have hB1:w1.cell? ⟨w.heap.size,1,none⟩=some (.int .i64 N):=by rw [hs _ _ (by simp),World.cell?_alloc_at _ _ _ _ rfl];rfl
 have hz:w.heap.size<w1.heap.size:=by have:=hb1.size;simp at this;omega
 have hA1:Bys w1 A l:=hA.below (below_then (below_one _ _) hb1);clear hs hf
 go_loopw [8,38] (fun u i wr=>∃k:Nat,k<=n/\u=.int .u64 (getN l a k)/\i=.int .i64 k/\Below w1.heap.size w1 wr) (fun _ i _=>n-(intOf i).toNat)
 case atStart=>exact ⟨0,Nat.zero_le _,rfl,rfl,Below.refl _ _⟩
 case round =>
  obtain ⟨k,hk,rfl,rfl,hbr⟩:=hrel;have hB0r:=(hbr.cell (p:=⟨w.heap.size,0,none⟩) hz).trans hB0;have hB1r:=(hbr.cell (p:=⟨w.heap.size,1,none⟩) hz).trans hB1;have hAr:=hA1.below hbr;clear hB0 hB1
  by_cases hlt:k<n
  ·have hg:=getN_63 l a k (by omega);have hbt:=bitN_lt l (a+k);have Hn:=zz (show 2*getN l a k+bitN l (a+k)=getN l a (k+1) from rfl);have Hb:=zz (show ((a+k:Nat):Int)=(a:Int)+k by omega);generalize getN l a k=g at *
   go_wp2_with fail
   rw [<-Hb.out];refine (bitAt_prog A l c N (a+k) wr hAr (by omega) hl).mono ?_;rintro e w2 ⟨rfl,hb2⟩;generalize bitN l (a+k)=d at *
   go_wp2
   go_roundw
   case rel=>exact ⟨k+1,by omega,by rw [show (g:Int)*2=((2*g:Nat):Int) from by omega,u64_or_one g (by omega) d hbt,Hn.out],by go_num,below_then hbr hb2⟩
   case measure=>simp [intOf];omega
  ·have e:k=n:=by omega
   subst e
   go_wp2
   go_ret2;exact ⟨rfl,below_then (below_then (below_one _ _) hb1) hbr⟩
theorem lay_val(x:UInt8)(u e k:Nat)(hk:k<8)(hz:x.toNat/2^(7-k)%2=0):
 bits BinOp.or IntKind.u8 (x.toNat:Int) (bits BinOp.and IntKind.u8 ((u:Int)/2^e%256) 1*2^(7-k)%256)=((orByte x k (dig u e)).toNat:Int):=by
 have hd:=dig_lt u e;obtain ⟨h1,h2,_⟩:=orByte_facts x k (dig u e) hk hd hz;have hlt:=byte_toNat (orByte x k (dig u e));have hx:=byte_toNat x;have e1:(u:Int)/2^e%256=((u/2^e%256:Nat):Int):=by simp
 have e2:bits BinOp.and IntKind.u8 ((u/2^e%256:Nat):Int) 1=((dig u e:Nat):Int):=by
  rw [show (1:Int)=((1:Nat):Int) from rfl,u8_and_nat _ 1 (by omega) (by omega),Nat.and_one_is_mod];unfold dig
  congr 1
  omega
 have e3:((dig u e:Nat):Int)*2^(7-k)%256=((dig u e*2^(7-k):Nat):Int):=by
  have:dig u e*2^(7-k)<256:=by omega
  rw [show ((dig u e:Nat):Int)*2^(7-k)=((dig u e*2^(7-k):Nat):Int) from by simp];omega
 rw [e1,e2,e3,u8_or_nat _ _ hx (by omega),h1]
set_option maxHeartbeats 400000 in
theorem lay_prog(F:Nat->Nat)(hF:∀i,F i<2)(m p u n L At G N':Nat)(w:World)(hu:u<=18446744073709551615)(hn:n<=64)(hp:p+n<=8*m)(hm:m<=562949953421312)
 (hd:∀j,j<n->F (p+j)=dig u (n-1-j))(hL:Row w L 126 #[.slice (some ⟨G,0,none⟩) m m,.int .i64 N'])(hA:Row w At 3 #[.int .i64 p])(hG:Row w G 5 (bcells (mk m (cutF F p))))
 (hAG:At≠G)(hLA:L≠At)(hLG:L≠G):
 Calls Tryz.prog 189 #[.int .u64 u,.int .i64 n,.pointer (some ⟨L,0,none⟩),.pointer (some ⟨At,0,none⟩)] w fun e w' =>
  e=.returned (.tuple #[])/\Row w' At 3 #[.int .i64 (p+n:Nat)]/\Row w' G 5 (bcells (mk m (cutF F (p+n))))/\Two w w' G At:=by
 go_enter Tryz.func189,Tryz.ntmps189
 go_wp2
 go_loopw [9] (fun i wr=>∃k:Nat,k<=n/\i=.int .i64 k/\Row wr At 3 #[.int .i64 (p+k:Nat)]/\Row wr G 5 (bcells (mk m (cutF F (p+k))))/\Two w wr G At) (fun i _=>n-(intOf i).toNat)
 case atStart=>exact ⟨0,Nat.zero_le _,rfl,hA,hG,Two.refl _ _ _⟩
 case round =>
  obtain ⟨k,hk,rfl,hAr,hGr,htwo⟩:=hrel
  by_cases hlt:k<n
  ·have hL0:wr.cell? ⟨L,0,none⟩=some (.slice (some ⟨G,0,none⟩) m m):=(htwo.cell (p:=⟨L,0,none⟩) hL.lt hLG hLA).trans (hL.cell 0);have hA0:wr.cell? ⟨At,0,none⟩=some (.int .i64 ((p+k:Nat):Int)):=hAr.cell 0;have hAf:=hAr.frozen 0;obtain ⟨hz,hset⟩:=set_step hF m (p+k) (by omega);have hG0:=(hGr.cell ((p+k)/8)).trans (bcells_get _ _ (by rw [length_mk];omega));have hGf:=hGr.frozen ((p+k)/8);have hAGb:¬At=G:=hAG;have hdk:=hd k hlt;generalize hl:mk m (cutF F (p+k))=l at *;have hx:=byte_toNat (l.getD ((p+k)/8) 0);have Hl:=zz hl;clear hl;have Hz:=zz hz;have Hset:=zz hset;have Hdk:=zz hdk;have HAr:=zz hAr;have HGr:=zz hGr;clear hz hset hdk hd hAr hGr hG hA;generalize hxx:l.getD ((p+k)/8) 0=x at *;have Hx:=zz hxx;clear hxx;have hi1:(p+k)/8<m:=by omega
   simp only [Int.natCast_add] at hA0
   go_wp2
   go_region
   go_wp2
   rw [lay_val x u (n-1-k) ((p+k)%8) (by omega) (by rw [<-Hx.out];exact Hz.out),<-Hdk.out];refine ⟨⟨k+1,by omega,by go_num,?_,?_,(((htwo.set (p:=⟨G,(p+k)/8,none⟩) (.inl rfl) _).set (p:=⟨At,0,none⟩) (.inr rfl) _)).drewN 1⟩,by simp [intOf];omega⟩
   ·have h1:=(HAr.out.setFar (p:=⟨G,(p+k)/8,none⟩) hAG (.int .u8 ((orByte x ((p+k)%8) (F (p+k))).toNat:Int))).setAt 0 (.int .i64 ((p:Int)+k+1));rw [show ((p+(k+1):Nat):Int)=(p:Int)+k+1 from by omega];exact h1
   ·have h1:=(HGr.out.setAt ((p+k)/8) (.int .u8 ((orByte x ((p+k)%8) (F (p+k))).toNat:Int))).setFar (p:=⟨At,0,none⟩) (fun e=>hAG e.symm) (.int .i64 ((p:Int)+k+1));rw [bcells_set,Hset.out] at h1;exact h1
  ·have e:k=n:=by omega
   subst e
   go_wp2
   go_end0
   exact ⟨rfl,hAr,hGr,htwo⟩
theorem _root_.Go.Proofs.YtgdmcnoogacdaaaGreatDoor.Two.set_row(w:World)(g:Nat)(cs:Array Value):Two w (w.setRow g cs) g g :=
 ⟨rfl,rfl,rfl,by simp,fun k _ h _=>setRow_other w g k cs h⟩
theorem add_plain(b o j:Nat):(⟨b,o,none⟩:Addr).add j=⟨b,o+j,none⟩:=by
 unfold Addr.add
 split
 ·rename_i h;subst h;rfl
 ·rfl
theorem copy_two{P:Program}{w:World}{ops:Array Oper}{rest:List Oper}{o:Oper}{a:Act}{Q:Exit->Act->World->Prop}(hgd:o.guard=none)(d s:Operand)(dT sT:TypeId)
 (ho:o.op=.call { callee:=.builtin .copy,args:=#[d,s],argTypes:=#[dT,sT] })(elem:TypeId)(hu:P.underlying dT=some (.slice elem))(hsz:(P.info? elem).map (·.size)=some 1)
 (A:Option Addr)(g m sCap:Nat)(l:List UInt8)(hd:a.eval d=.slice (some ⟨g,0,none⟩) m m)(hs:a.eval s=.slice A l.length sCap)(hA:Bys w A l)
 (hle:l.length<=m)(t:TypeId)(hg:Row w g t (bcells (List.replicate m 0)))
 (h:∀w',Row w' g t (bcells (l++List.replicate (m-l.length) 0))->Two w w' g g->wpList P ops Q rest (a.put o.dst (goInt l.length)) w'):wpList P ops Q (o::rest) a w:=by
 have hmin:Nat.min l.length m=l.length:=Nat.min_eq_left hle;rcases hA with rfl|⟨b,off,rfl,hb,hc⟩
 ·exact wpList_copy_nothing hgd d s dT sT ho elem hu hsz _ _ _ _ _ _ hd hs hmin (h w (by simpa using hg) (Two.refl _ _ _))
 ·refine wpList_copy_own hgd d s dT sT ho elem hu hsz g 0 m m ⟨b,off,none⟩ l.length sCap hd hs (bcells (List.replicate m 0)) t hg (bcells l).toList ?_ ?_ ?_ ?_ ?_
  ·rw [hmin];simp [bcells]
  ·intro j v hj;have hjl:j<l.length:=by
    have:=(List.getElem?_eq_some_iff.1 hj).1;simpa [bcells] using this
   have:=hc j hjl;have hv:v=.int .u8 ((l.getD j 0).toNat:Int):=by
    have e:=bcells_get l j hjl;rw [<-Array.getElem?_toList] at e;rw [e] at hj;injection hj with hj;exact hj.symm
   rw [hv,add_plain];exact this
  ·simp [bcells];exact hle
  ·intro v hv;simp [bcells] at hv;obtain ⟨x,_,rfl⟩:=hv;rfl
  ·have hlen:(bcells l).toList.length=l.length:=by simp [bcells]
   rw [hlen];refine h _ ?_ (Two.set_row _ _ _);have:=setRow_heap w g _ (((bcells (List.replicate m 0)).toList.take 0++((bcells l).toList++(bcells (List.replicate m 0)).toList.drop (0+(bcells l).toList.length))).toArray) t _ hg;rw [hlen] at this;have e:((bcells (List.replicate m 0)).toList.take 0++((bcells l).toList++(bcells (List.replicate m 0)).toList.drop (0+l.length))).toArray=bcells (l++List.replicate (m-l.length) 0):=by
    simp [bcells]
   unfold Row;rw [<-e];exact this
theorem make_bytes(m:Nat)(hm:m<=281474976710656)(W:World):
 (Instr.makeSlice 24 (.int .i64 (m:Int)) (.int .i64 (m:Int))).run Tryz.prog W=.ok (.slice (some ⟨W.heap.size,0,none⟩) m m) (W.alloc (.cells (bcells (List.replicate m 0)) 5)):=by
 obtain ⟨i0,hi,hz0,hz1,hz2⟩:=info_parts u8_info;have hr:=run_make (P:=Tryz.prog) W 24 5 i0 (.int .u8 0) Tryz.underlying24 hi hz0 .i64 .i64 m m (by omega) (by omega) (by rw [hz2];omega) (by omega);simp only [Int.toNat_natCast,hz1,made_bytes] at hr;exact hr
theorem two_alloc(W0:World)(g:Nat)(hg:W0.heap.size=g)(c1 c2:Array Value)(t1 t2:TypeId):
 Row ((W0.alloc (.cells c1 t1)).alloc (.cells c2 t2)).drew g t1 c1/\Row ((W0.alloc (.cells c1 t1)).alloc (.cells c2 t2)).drew (g+1) t2 c2/\Below g W0 ((W0.alloc (.cells c1 t1)).alloc (.cells c2 t2)).drew:=by
 subst hg;refine ⟨(Row.new W0 t1 c1).alloc _,?_,(((Below.refl _ _).alloc (Nat.le_refl _) _).alloc (by simp) _).drew⟩;have:=Row.new (W0.alloc (.cells c1 t1)) t2 c2;rw [show (W0.alloc (.cells c1 t1)).heap.size=W0.heap.size+1 from by simp] at this;exact this
theorem bytesOf_sum(a b m:Nat)(w:World)(h:a+b<=9223372036854775807)(hm:Hid ((a+b+7)/8=m)):
 Calls Tryz.prog 188 #[.int .i64 ((a:Int)+b)] w fun e w'=>e=.returned (.int .i64 (m:Nat))/\w=w':=by
 rw [<-hm.out,<-Int.natCast_add];exact bytesOf_prog (a+b) w h
set_option maxHeartbeats 4000000 in
theorem extend_prog(A:Option Addr)(l:List UInt8)(c N more:Nat)(F:Nat->Nat)(w:World)(hA:Bys w A l)(hl:l.length<=281474976710000)(hr:rightB l (N:Int)=true)
 (hF2:∀i,F i<2)(hF:∀i,i<N->F i=bitN l i)(hm:more<=128):
 Calls Tryz.prog 147 #[.agg #[.slice A l.length c,.int .i64 N],.int .i64 more] w fun e w'=>∃L At G,
  e=.returned (.tuple #[.agg #[.slice (some ⟨G,0,none⟩) ((N+more+7)/8) ((N+more+7)/8),.int .i64 (N+more:Nat)],.func (.func 189) #[] #[.pointer (some ⟨L,0,none⟩),.pointer (some ⟨At,0,none⟩)]]) /\
  Row w' L 126 #[.slice (some ⟨G,0,none⟩) ((N+more+7)/8) ((N+more+7)/8),.int .i64 (N+more:Nat)]/\Row w' At 3 #[.int .i64 N] /\
  Row w' G 5 (bcells (mk ((N+more+7)/8) (cutF F N)))/\Below w.heap.size w w'/\w.heap.size<=L/\w.heap.size<=At/\w.heap.size<=G/\At≠G/\L≠At/\L≠G:=by
 have hlen:=(rightB_iff.1 hr).2.1;rw [Int.toNat_natCast] at hlen;have hN:N<=8*l.length:=by omega
 have hle:l.length<=(N+more+7)/8:=by omega
 have hmle:(N+more+7)/8<=281474976710656:=by omega
 have hst:=copy_start hr hF2 hF hle;have Hst:=zz hst;clear hst hlen;obtain ⟨m,hmm⟩:∃m,(N+more+7)/8=m:=⟨_,rfl⟩;rw [hmm] at hle hmle Hst ⊢;have Hm:=zz hmm;clear hmm;have hmk:=fun W=>make_bytes m hmle W
 have hmf:∀(fn:Fn) (first cap:Array Value) (w:World),(Instr.makeFunc fn first cap).run Tryz.prog w=.ok (.func fn first cap) w:=fun _ _ _ _=>rfl
 have hbd:N+more<=9223372036854775807:=by omega
 go_enter Tryz.func147,Tryz.ntmps147
 go_upto_region 1 with fail
 go_cut [6] (fun s6 wx=>∃L G,s6=.pointer (some ⟨L,0,none⟩)/\Row wx L 126 #[.slice (some ⟨G,0,none⟩) m m,.int .i64 ((N:Int)+more)]/\Row wx G 5 (bcells (List.replicate m 0)) /\
  w.heap.size+2<=L/\w.heap.size+2<=G/\L≠G/\Below (w.heap.size+2) ((w.alloc (.cells #[.slice A l.length c,.int .i64 N] 126)).alloc (.cells #[.slice none 0 0,.int .i64 0] 126)) wx)
 case first =>
  have hwr:IntKind.i64.wrap ((N:Int)+more)=(N:Int)+more:=IntWalk.i64_in _ (by omega);clear hA hl hr hF2 hF hN hle hmle Hst hm
  go_region_with ((go_at_call 188;refine (bytesOf_sum N more m _ hbd Hm).mono ?_;rintro e w1 ⟨rfl,rfl⟩))
  all_goals (go_wp2_with fail;go_meet)
  all_goals first
   | (obtain ⟨r1,r2,r3⟩:=two_alloc ((w.alloc (.cells #[.slice A l.length c,.int .i64 N] 126)).alloc (.cells #[.slice none 0 0,.int .i64 0] 126)) (w.heap.size+1+1) (by simp) (bcells (List.replicate m 0)) #[.slice (some ⟨w.heap.size+1+1,0,none⟩) m m,.int .i64 ((N:Int)+more)] 5 126
      exact ⟨_,_,rfl,r2,r1,by omega,by omega,by omega,r3⟩)
   | (obtain ⟨r1,r2,r3⟩:=two_alloc ((w.alloc (.cells #[.slice A l.length c,.int .i64 N] 126)).alloc (.cells #[.slice none 0 0,.int .i64 0] 126)) (w.heap.size+1+1) (by simp) #[.slice (some ⟨w.heap.size+1+1+1,0,none⟩) m m,.int .i64 ((N:Int)+more)] (bcells (List.replicate m 0)) 126 5
      exact ⟨_,_,rfl,r1,r2,by omega,by omega,by omega,r3⟩)
 case rest =>
  obtain ⟨L,G,rfl,hL,hG,hL2,hG2,hLG,hbx⟩:=hcut;have hB0:wc.cell? ⟨w.heap.size,0,none⟩=some (.slice A l.length c):=by
   rw [hbx.cell (by simp),World.cell?_alloc_past _ _ _ (by simp),World.cell?_alloc_at _ _ _ _ rfl];rfl
  have hB1:wc.cell? ⟨w.heap.size,1,none⟩=some (.int .i64 N):=by
   rw [hbx.cell (by simp),World.cell?_alloc_past _ _ _ (by simp),World.cell?_alloc_at _ _ _ _ rfl];rfl
  have hR:Row wc (w.heap.size+1) 126 #[.slice none 0 0,.int .i64 0]:=by
   have:=Row.new (w.alloc (.cells #[.slice A l.length c,.int .i64 N] 126)) 126 #[.slice none 0 0,.int .i64 0];rw [show (w.alloc (.cells #[.slice A l.length c,.int .i64 N] 126)).heap.size=w.heap.size+1 from by simp] at this;exact this.below hbx (by omega)
  have hW:Below w.heap.size w wc:=((below_one w _).alloc (by simp) _).trans (hbx.mono (by omega));have hAc:=hA.below hW;have hL0:=hL.cell 0;have hL1:=hL.cell 1;simp only [List.getElem?_toArray,List.getElem?_cons_zero,List.getElem?_cons_succ] at hL0 hL1;clear hbx hbd;have HL:=zz hL;have HG:=zz hG;have HR:=zz hR;clear hL hG hR
  go_wp2_with (with_reducible refine copy_two rfl (.tmp 21) (.tmp 23) 24 24 rfl 5 Tryz.underlying24 u8_size A G m c l rfl rfl hAc hle 5 HG.out ?_)
  intro w3 hG3 h3;have hsz:w.heap.size+1<wc.heap.size:=by have:=HR.out.lt;exact this
  have hB13:=(h3.cell (p:=⟨w.heap.size,1,none⟩) (by show w.heap.size<_;omega) (by show w.heap.size≠_;omega) (by show w.heap.size≠_;omega)).trans hB1;have hL3:Row w3 L 126 _:=(h3.block L HL.out.lt hLG hLG).trans HL.out;have hR3:Row w3 (w.heap.size+1) 126 _:=(h3.block (w.heap.size+1) hsz (by omega) (by omega)).trans HR.out;have hW3:Below w.heap.size w w3:=Two.below hW h3 hW.size (by omega) (by omega);have hLl:=hL3.lt;have hsz3:=hR3.lt;have hsz4:w.heap.size<w3.heap.size:=by omega
  have hGl:=hG3.lt;have hL0:=hL3.cell 0;have hL1:=hL3.cell 1;have hR0:=hR3.cell 0;have hR1:=hR3.cell 1;have hRf0:=hR3.frozen 0;have hRf1:=hR3.frozen 1;simp only [List.getElem?_toArray,List.getElem?_cons_zero,List.getElem?_cons_succ] at hL0 hL1 hR0 hR1;rw [Hst.out] at hG3;have HG3:=zz hG3;have HL3:=zz hL3;have HR3:=zz hR3;clear hG3 hL3 hR3 hB0 hB1 hsz hAc
  go_wp2
  have f1:=((HR3.out.setAt 0 (.slice (some ⟨G,0,none⟩) m m)).setAt 1 (.int .i64 ((N:Int)+more))).alloc (.cells #[.int .i64 N] 3);have f2:=((HL3.out.setFar (p:=⟨w.heap.size+1,0,none⟩) (by show L≠w.heap.size+1;omega) (.slice (some ⟨G,0,none⟩) m m)).setFar (p:=⟨w.heap.size+1,1,none⟩) (by show L≠w.heap.size+1;omega) (.int .i64 ((N:Int)+more))).alloc (.cells #[.int .i64 N] 3);have f3:=((HG3.out.setFar (p:=⟨w.heap.size+1,0,none⟩) (by show G≠w.heap.size+1;omega) (.slice (some ⟨G,0,none⟩) m m)).setFar (p:=⟨w.heap.size+1,1,none⟩) (by show G≠w.heap.size+1;omega) (.int .i64 ((N:Int)+more))).alloc (.cells #[.int .i64 N] 3);have f4:=Row.new ((w3.setCell ⟨w.heap.size+1,0,none⟩ (.slice (some ⟨G,0,none⟩) m m)).setCell ⟨w.heap.size+1,1,none⟩ (.int .i64 ((N:Int)+more))) 3 #[.int .i64 N];rw [show ((w3.setCell ⟨w.heap.size+1,0,none⟩ (.slice (some ⟨G,0,none⟩) m m)).setCell ⟨w.heap.size+1,1,none⟩ (.int .i64 ((N:Int)+more))).heap.size=w3.heap.size from by simp [World.setCell]] at f4;have f5:Below w.heap.size w (((w3.setCell ⟨w.heap.size+1,0,none⟩ (.slice (some ⟨G,0,none⟩) m m)).setCell ⟨w.heap.size+1,1,none⟩ (.int .i64 ((N:Int)+more))).alloc (.cells #[.int .i64 N] 3)) :=
   ((hW3.setCell (p:=⟨w.heap.size+1,0,none⟩) (by show _<=w.heap.size+1;omega) _).setCell (p:=⟨w.heap.size+1,1,none⟩) (by show _<=w.heap.size+1;omega) _).alloc (by simp [World.setCell];omega) _
  generalize hWW:(((w3.setCell ⟨w.heap.size+1,0,none⟩ (.slice (some ⟨G,0,none⟩) m m)).setCell ⟨w.heap.size+1,1,none⟩ (.int .i64 ((N:Int)+more))).alloc (.cells #[.int .i64 N] 3))=WW at *;have r0:WW.cell? ⟨w.heap.size+1,0,none⟩=some (.slice (some ⟨G,0,none⟩) m m):=f1.cell 0;have r1:WW.cell? ⟨w.heap.size+1,1,none⟩=some (.int .i64 ((N:Int)+more)):=f1.cell 1;refine bodyPost_ret (v:=.tuple #[.agg #[.slice (some ⟨G,0,none⟩) m m,.int .i64 ((N:Int)+more)],.func (.func 189) #[] #[.pointer (some ⟨L,0,none⟩),.pointer (some ⟨w3.heap.size,0,none⟩)]])
   (by simp [results,Tryz.results147,go_sem,r0,r1]) rfl ⟨L,w3.heap.size,G,?_,?_,f4,f3,f5,by omega,by omega,by omega,by omega,by omega,hLG⟩
  ·rw [Int.natCast_add]
  ·rw [Int.natCast_add];exact f2
theorem row_two(w:World)(o:Obj)(cs:Array Value)(t:TypeId):Row ((w.alloc o).alloc (.cells cs t)) (w.heap.size+1) t cs:=by
 have:=Row.new (w.alloc o) t cs;rw [show (w.alloc o).heap.size=w.heap.size+1 from by simp] at this;exact this
theorem below_two(w:World)(o o':Obj):Below w.heap.size w ((w.alloc o).alloc o'):=(below_one w o).alloc (by simp) o'
def numL(l:List UInt8)(N u:Nat):List UInt8:=putL (putL l N (digs u) 7) (N+7) u (digs u)
def numF(l:List UInt8)(N u:Nat):Nat->Nat:=putF (putL l N (digs u) 7) (N+7) u (digs u)
theorem numF_old{l:List UInt8}{N u i:Nat}(hi:i<N):numF l N u i=bitN l i:=by
 unfold numF putF;rw [if_pos (by omega),bit_put (by omega)];unfold putF;rw [if_pos hi]
theorem numF_len{l:List UInt8}{N u j:Nat}(hj:j<7):numF l N u (N+j)=dig (digs u) (7-1-j):=by
 unfold numF putF;rw [if_pos (by omega),bit_put (by omega)];unfold putF;rw [if_neg (by omega),if_pos (by omega)]
 congr 1
 omega
theorem numF_num{l:List UInt8}{N u j:Nat}(hj:j<digs u):numF l N u (N+7+j)=dig u (digs u-1-j):=by
 unfold numF putF;rw [if_neg (by omega),if_pos (by omega)]
 congr 1
 omega
theorem numF_lt(l:List UInt8)(N u i:Nat):numF l N u i<2:=putF_lt _ _ _ _ _
theorem numL_length(l:List UInt8)(N u:Nat):(numL l N u).length=(N+(7+digs u)+7)/8:=by
 unfold numL putL;rw [length_mk]
 congr 1
 omega
set_option maxHeartbeats 1000000 in
theorem putnum_ok(A:Option Addr)(l:List UInt8)(c:Nat)(N u:Nat)(w:World)(hA:Bys w A l)(hl:l.length<=281474976710000)(hu:u<=18446744073709551615)
 (hr:rightB l (N:Int)=true):
 Calls Tryz.prog 108 #[.agg #[.slice A l.length c,.int .i64 N],.int .u64 u] w fun e w'=>∃G,
  e=.returned (.tuple #[.agg #[.slice (some ⟨G,0,none⟩) (numL l N u).length (numL l N u).length,.int .i64 (N+(7+digs u):Nat)],.int .i64 0]) /\
  Row w' G 5 (bcells (numL l N u))/\Below w.heap.size w w'/\w.heap.size<=G:=by
 have hlen:=(rightB_iff.1 hr).2.1;rw [Int.toNat_natCast] at hlen;have hN:N<=2251799813680000:=by omega
 clear hlen;have hd:=digs_64 hu;have Hpl:=zz (numL_length l N u);have len:∀W,Calls Tryz.prog 146 #[.int .u64 u] W fun e w'=>e=.returned (.int .i64 (digs u))/\W=w':=fun W=>len64_prog u W hu
 have Len:=zz len;have H7:=zz (show ∀j,j<7->numF l N u (N+j)=dig (digs u) (7-1-j) from fun j hj=>numF_len hj);have HU:=zz (show ∀j,j<digs u->numF l N u (N+7+j)=dig u (digs u-1-j) from fun j hj=>numF_num hj);have HE:=zz (show bcells (mk ((N+(7+digs u)+7)/8) (cutF (numF l N u) (N+7+digs u)))=bcells (numL l N u) by
  unfold numF;rw [cut_all,show (N+(7+digs u)+7)/8=(N+7+digs u+7)/8 from by omega];rfl)
 clear len;generalize hdd:digs u=d at *;have Hdd:=zz hdd;clear hdd;go_enter Tryz.func108,Tryz.ntmps108
 go_wp2_with (first
  | (go_at_call 145;refine (right_prog A l c N _ (hA.below (below_two _ _ _)) (by omega) (by omega)).mono ?_;rintro e w1 ⟨rfl,hb1⟩;obtain ⟨hs,hf⟩:=stands hb1)
  | (go_at_call 146;refine (Len.out _).mono ?_;rintro e w9 ⟨rfl,rfl⟩))
 have hR:Row w1 (w.heap.size+1) 126 _:=(row_two _ _ _ _).below hb1 (by simp);rw [show (7:Int)+(d:Int)=((7+d:Nat):Int) from by omega];refine (extend_prog A l c N (7+d) (numF l N u) w1 (hA.below (below_then (below_two w _ _) hb1)) hl hr (numF_lt l N u) (fun i hi=>numF_old hi) (by omega)).mono ?_;rintro e w2 ⟨L,At,G,rfl,hL,hAt,hG,hb2,hL1,hA2,hG1,hAG,hLA,hLG⟩;have hz1:=hR.lt;have hR2:=hR.below hb2 hz1;have HL:=zz hL;have HAt:=zz hAt;have HG:=zz hG;have HR2:=zz hR2;clear hL hAt hG hR hR2;obtain ⟨m,hmm⟩:∃m,(N+(7+d)+7)/8=m:=⟨_,rfl⟩;rw [hmm] at HL HG Hpl HE;have Hm:=zz hmm;have hm1:N+7<=8*m:=by omega
 have hm2:N+7+d<=8*m:=by omega
 have hm3:m<=562949953421312:=by omega
 rw [hmm];clear hmm
 go_wp2_with fail
 have hLlt:=HL.out.lt;have hAlt:=HAt.out.lt;have hGlt:=HG.out.lt;have hRlt:=HR2.out.lt;have hbel2:=below_then (below_then (below_two w _ _) hb1) hb2;refine (lay_prog (numF l N u) (numF_lt l N u) m N d 7 L At G (N+(7+d)) _ (by omega) (by omega) hm1 hm3 H7.out (HL.out.alloc _) (HAt.out.alloc _) (HG.out.alloc _) hAG hLA hLG).mono ?_;rintro e w3 ⟨rfl,hAt3,hG3,h3⟩;have hX:Row (w2.alloc (.cells #[.slice (some ⟨G,0,none⟩) m m,.int .i64 ((N+(7+d):Nat):Int)] 126)) w2.heap.size 126 _:=Row.new _ _ _;have hX3:Row w3 w2.heap.size 126 _:=(h3.block w2.heap.size (by simp) (by omega) (by omega)).trans hX;have hR3:Row w3 (w.heap.size+1) 126 _:=(h3.block (w.heap.size+1) (by simp;omega) (by omega) (by omega)).trans (HR2.out.alloc _);have hL3:Row w3 L 126 _:=(h3.block L (by simp;omega) hLG hLA).trans (HL.out.alloc _);have HX3:=zz hX3;have HR3:=zz hR3;have HL3:=zz hL3;have HA3:=zz hAt3;have HG3:=zz hG3;have hsz3:=h3.size;simp at hsz3;have hwb:=(below_then (below_two w _ _) hb1).size;have hbel3:Below w.heap.size w w3:=Two.below (hbel2.alloc hbel2.size _) h3 (by have:=hbel2.size;simp;omega) (by omega) (by omega);clear hX hX3 hR3 hL3 hAt3 hG3
 go_wp2_with fail
 refine (lay_prog (numF l N u) (numF_lt l N u) m (N+7) u d L At G (N+(7+d)) _ hu (by omega) hm2 hm3 HU.out HL3.out HA3.out HG3.out hAG hLA hLG).mono ?_;rintro e w4 ⟨rfl,hAt4,hG4,h4⟩;have hX4:Row w4 w2.heap.size 126 _:=(h4.block w2.heap.size (by omega) (by omega) (by omega)).trans HX3.out;have hR4:Row w4 (w.heap.size+1) 126 _:=(h4.block (w.heap.size+1) (by omega) (by omega) (by omega)).trans HR3.out;rw [HE.out] at hG4;have hx0:w4.cell? ⟨w2.heap.size,0,none⟩=some (.slice (some ⟨G,0,none⟩) m m):=hX4.cell 0;have hx1:w4.cell? ⟨w2.heap.size,1,none⟩=some (.int .i64 ((N:Int)+(7+(d:Int)))):=by
  rw [show (N:Int)+(7+(d:Int))=((N+(7+d):Nat):Int) from by omega];exact hX4.cell 1
 have hr0:w4.cell? ⟨w.heap.size+1,0,none⟩=some (.slice none 0 0):=hR4.cell 0;have hr1:w4.cell? ⟨w.heap.size+1,1,none⟩=some (.int .i64 0):=hR4.cell 1;have hf0:=hR4.frozen 0;have hf1:=hR4.frozen 1;have hbel4:Below w.heap.size w w4:=Two.below hbel3 h4 hbel3.size (by omega) (by omega);have hGw:w.heap.size<=G:=by omega
 have f1:=((hR4.setAt 0 (.slice (some ⟨G,0,none⟩) m m)).setAt 1 (.int .i64 ((N:Int)+(7+(d:Int)))));have f3:=((hG4.setFar (p:=⟨w.heap.size+1,0,none⟩) (by show G≠w.heap.size+1;omega) (.slice (some ⟨G,0,none⟩) m m)).setFar (p:=⟨w.heap.size+1,1,none⟩) (by show G≠w.heap.size+1;omega) (.int .i64 ((N:Int)+(7+(d:Int)))));have f5:=((hbel4.setCell (p:=⟨w.heap.size+1,0,none⟩) (by show _<=w.heap.size+1;omega) (.slice (some ⟨G,0,none⟩) m m)).setCell (p:=⟨w.heap.size+1,1,none⟩) (by show _<=w.heap.size+1;omega) (.int .i64 ((N:Int)+(7+(d:Int)))));have F1:=zz f1;have F3:=zz f3;clear hR4 hX4 hAt4 hG4 f1 f3
 go_wp2
 generalize hWW:((w4.setCell ⟨w.heap.size+1,0,none⟩ (.slice (some ⟨G,0,none⟩) m m)).setCell ⟨w.heap.size+1,1,none⟩ (.int .i64 ((N:Int)+(7+(d:Int)))))=WW at *;have r0:WW.cell? ⟨w.heap.size+1,0,none⟩=some (.slice (some ⟨G,0,none⟩) m m):=F1.out.cell 0;have r1:WW.cell? ⟨w.heap.size+1,1,none⟩=some (.int .i64 ((N:Int)+(7+(d:Int)))):=F1.out.cell 1;refine bodyPost_ret (v:=.tuple #[.agg #[.slice (some ⟨G,0,none⟩) m m,.int .i64 ((N:Int)+(7+(d:Int)))],.int .i64 0]) (by simp [results,Tryz.results108,go_sem,r0,r1]) rfl ⟨G,?_,F3.out,f5,hGw⟩;rw [Hpl.out,show ((N+(7+d):Nat):Int)=(N:Int)+(7+(d:Int)) from by omega]
def gnum(l:List UInt8)(N a:Int):Nat × Int × Int :=
 if rightB l N=false\/a<0\/N<a then (0,0,2)
 else if N-a<7 then (0,0,4)
 else if 64<getN l a.toNat 7 then (0,0,5)
 else if N-(a+7)<getN l a.toNat 7 then (0,0,4)
 else if digs (getN l (a.toNat+7) (getN l a.toNat 7))≠getN l a.toNat 7 then (0,0,5)
 else (getN l (a.toNat+7) (getN l a.toNat 7),a+7+getN l a.toNat 7,0)
theorem getnum_prog(A:Option Addr)(l:List UInt8)(c:Nat)(N a:Int)(w:World)(hA:Bys w A l)(h0:-9223372036854775808<=N)(h1:N<=9223372036854775807)(hl:l.length<=562949953421312):
 Calls Tryz.prog 201 #[.agg #[.slice A l.length c,.int .i64 N],.int .i64 a] w fun e w' =>
  e=.returned (.tuple #[.int .u64 (gnum l N a).1,.int .i64 (gnum l N a).2.1,.int .i64 (gnum l N a).2.2])/\Below w.heap.size w w':=by
 by_cases hbad:rightB l N=false\/a<0\/N<a
 ·have e0:gnum l N a=(0,0,2):=by unfold gnum;rw [if_pos hbad]
  rw [e0];go_enter Tryz.func201,Tryz.ntmps201
  go_wp2_with fail
  refine (get_bad A l c N a 7 _ (hA.below (below_one _ _)) h1 hl (by rcases hbad with h|h|h<;>simp [h])).mono ?_;rintro e w1 ⟨rfl,hb1⟩
  go_wp2
  go_ret3;exact ⟨rfl,below_then (below_one _ _) hb1⟩
 have hr:rightB l N=true:=by
  cases h:rightB l N
  ·exact absurd (.inl h) hbad
  ·rfl
 have ha0:0<=a:=by omega
 have haN:a<=N:=by omega
 obtain ⟨b,rfl⟩:=Int.eq_ofNat_of_zero_le ha0;obtain ⟨M,rfl⟩:=Int.eq_ofNat_of_zero_le (show 0<=N by omega);have hlen:=(rightB_iff.1 hr).2.1;rw [Int.toNat_natCast] at hlen;have hM:M<=4503599627370496:=by omega
 clear hlen
 by_cases hs:(M:Int)-b<7
 ·have e0:gnum l M b=(0,0,4):=by unfold gnum;rw [if_neg hbad,if_pos hs]
  rw [e0];go_enter Tryz.func201,Tryz.ntmps201
  go_wp2_with fail
  refine (get_short A l c M b 7 _ (hA.below (below_one _ _)) h1 hl hr (by omega) (by omega) (by omega) haN hs).mono ?_;rintro e w1 ⟨rfl,hb1⟩
  go_wp2
  go_ret3;exact ⟨rfl,below_then (below_one _ _) hb1⟩
 have hg7:=getN_lt l b 7;have first:∀W,Bys W A l->Calls Tryz.prog 232 #[.agg #[.slice A l.length c,.int .i64 M],.int .i64 b,.int .i64 7] W fun e w'=>e=.returned (.tuple #[.int .u64 (getN l b 7),.int .i64 0])/\Below W.heap.size W w' :=
  fun W hW=>get_ok A l c M b 7 W hW hl hr (by omega) (by omega)
 have First:=zz first
 clear first
 by_cases h64:64<getN l b 7
 ·have e0:gnum l M b=(0,0,5):=by unfold gnum;rw [if_neg hbad,if_neg hs,Int.toNat_natCast,if_pos h64]
  rw [e0];clear e0;generalize getN l b 7=n at *;go_enter Tryz.func201,Tryz.ntmps201
  go_wp2_with fail
  refine (First.out _ (hA.below (below_one _ _))).mono ?_;rintro e w1 ⟨rfl,hb1⟩
  go_wp2
  go_ret3;exact ⟨rfl,below_then (below_one _ _) hb1⟩
 by_cases hs2:(M:Int)-(b+7)<getN l b 7
 ·have e0:gnum l M b=(0,0,4):=by unfold gnum;rw [if_neg hbad,if_neg hs,Int.toNat_natCast,if_neg h64,if_pos hs2]
  rw [e0];clear e0;generalize getN l b 7=n at *;go_enter Tryz.func201,Tryz.ntmps201
  go_wp2_with fail
  refine (First.out _ (hA.below (below_one _ _))).mono ?_;rintro e w1 ⟨rfl,hb1⟩;obtain ⟨hst,hfr⟩:=stands hb1
  go_wp2_with fail
  refine (get_short A l c M (b+7) n w1 (hA.below (below_then (below_one _ _) hb1)) h1 hl hr (by omega) (by omega) (by omega) (by omega) hs2).mono ?_;rintro e w2 ⟨rfl,hb2⟩
  go_wp2
  go_ret3;exact ⟨rfl,below_then (below_then (below_one _ _) hb1) hb2⟩
 have second:∀W,Bys W A l->Calls Tryz.prog 232 #[.agg #[.slice A l.length c,.int .i64 M],.int .i64 ((b:Int)+7),.int .i64 (getN l b 7)] W fun e w' =>
  e=.returned (.tuple #[.int .u64 (getN l (b+7) (getN l b 7)),.int .i64 0])/\Below W.heap.size W w':=fun W hW=>by
  have:=get_ok A l c M (b+7) (getN l b 7) W hW hl hr (by omega) (by omega);rw [Int.natCast_add] at this;exact this
 have Second:=zz second;clear second;have hu:=getN_64 l (b+7) (getN l b 7) (by omega);have hdle:=digs_64 hu;have len:∀W,Calls Tryz.prog 146 #[.int .u64 (getN l (b+7) (getN l b 7))] W fun e w'=>e=.returned (.int .i64 (digs (getN l (b+7) (getN l b 7))))/\W=w':=fun W=>len64_prog _ W hu
 have Len:=zz len;clear len
 by_cases hd:digs (getN l (b+7) (getN l b 7))≠getN l b 7
 ·have e0:gnum l M b=(0,0,5):=by unfold gnum;rw [if_neg hbad,if_neg hs,Int.toNat_natCast,if_neg h64,if_neg hs2,if_pos hd]
  rw [e0];clear e0;generalize getN l (b+7) (getN l b 7)=u at *;generalize getN l b 7=n at *;generalize digs u=k at *;have hne:((k:Int) !=(n:Int))=true:=by rw [bne_iff_ne];omega
  clear hd;go_enter Tryz.func201,Tryz.ntmps201
  go_wp2_with fail
  refine (First.out _ (hA.below (below_one _ _))).mono ?_;rintro e w1 ⟨rfl,hb1⟩;obtain ⟨hst,hfr⟩:=stands hb1
  go_wp2_with fail
  refine (Second.out w1 (hA.below (below_then (below_one _ _) hb1))).mono ?_;rintro e w2 ⟨rfl,hb2⟩
  go_wp2_with fail
  refine (Len.out w2).mono ?_;rintro e w3 ⟨rfl,rfl⟩
  go_wp2
  go_ret3;exact ⟨rfl,below_then (below_then (below_one _ _) hb1) hb2⟩
 ·have e0:gnum l M b=(getN l (b+7) (getN l b 7),(b:Int)+7+getN l b 7,0):=by unfold gnum;rw [if_neg hbad,if_neg hs,Int.toNat_natCast,if_neg h64,if_neg hs2,if_neg hd]
  rw [e0];clear e0;generalize getN l (b+7) (getN l b 7)=u at *;generalize getN l b 7=n at *;generalize digs u=k at *;have hne:((k:Int) !=(n:Int))=false:=by rw [bne_eq_false_iff_eq];omega
  clear hd;go_enter Tryz.func201,Tryz.ntmps201
  go_wp2_with fail
  refine (First.out _ (hA.below (below_one _ _))).mono ?_;rintro e w1 ⟨rfl,hb1⟩;obtain ⟨hst,hfr⟩:=stands hb1
  go_wp2_with fail
  refine (Second.out w1 (hA.below (below_then (below_one _ _) hb1))).mono ?_;rintro e w2 ⟨rfl,hb2⟩
  go_wp2_with fail
  refine (Len.out w2).mono ?_;rintro e w3 ⟨rfl,rfl⟩
  go_wp2
  go_ret3;exact ⟨rfl,below_then (below_then (below_one _ _) hb1) hb2⟩
end Go.Proofs.YtgdmcnoogacdaaaGreatDoor.Ch

namespace Go.Proofs.YtgdmcnoogacdaaaGreatDoor.Ch
set_option linter.unusedVariables false
def Has(L:List UInt8)(p u:Nat):Prop :=
 (∀j,j<7->bitN L (p+j)=dig (digs u) (7-1-j))/\(∀j,j<digs u->bitN L (p+7+j)=dig u (digs u-1-j))
theorem right_num(l:List UInt8)(N u:Nat):rightB (numL l N u) ((N+(7+digs u):Nat):Int)=true:=by
 rw [<-Nat.add_assoc];exact right_put
theorem bit_num{l:List UInt8}{N u i:Nat}(hi:i<N+(7+digs u)):bitN (numL l N u) i=numF l N u i:=bit_put (by omega)
theorem has_num(l:List UInt8)(N u:Nat):Has (numL l N u) N u :=
 ⟨fun j hj=>(bit_num (by omega)).trans (numF_len hj),fun j hj=>(bit_num (by omega)).trans (numF_num hj)⟩
theorem gnum_has{L:List UInt8}{M p u:Nat}(hr:rightB L (M:Int)=true)(h:Has L p u)(hu:u<=18446744073709551615)(hp:p+(7+digs u)<=M):
 gnum L M p=(u,((p+(7+digs u):Nat):Int),0):=by
 have hd:=digs_64 hu;have e7:getN L p 7=digs u:=getN_of_dig (by omega) h.1;have eu:getN L (p+7) (digs u)=u:=getN_of_dig (digs_le.1 (Nat.le_refl _)) h.2;unfold gnum;rw [if_neg (by rw [hr];simp;omega),if_neg (by omega),Int.toNat_natCast,e7,if_neg (by omega),if_neg (by omega),eu,if_neg (by simp)]
 congr 2
 omega
end Go.Proofs.YtgdmcnoogacdaaaGreatDoor.Ch
