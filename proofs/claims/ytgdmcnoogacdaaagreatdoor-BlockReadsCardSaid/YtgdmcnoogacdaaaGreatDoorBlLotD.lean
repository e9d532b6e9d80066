/- In one text, written by lotify.py: FrameMath, FrameMath3. -/
import Derived.Test.YtgdmcnoogacdaaaGreatDoorBitMath
namespace Go.Proofs.YtgdmcnoogacdaaaGreatDoor
set_option linter.unusedVariables false
def cstep(c:Nat):Nat:=c/2^^^2197175160*(c%2)
def csteps:Nat->Nat->Nat
 | 0,c=>c
 | k+1,c=>cstep (csteps k c)
def crc(c:Nat):List UInt8->Nat
 | []=>c
 | x::l=>crc (csteps 8 (c^^^x.toNat)) l
def sumN(l:List UInt8):Nat:=4294967295-crc 4294967295 l
theorem cstep_lt{x:Nat}(h:x<2^32):cstep x<2^32:=by
 unfold cstep
 apply Nat.xor_lt_two_pow
 ·omega
 ·have:x%2<2:=Nat.mod_lt _ (by omega);omega
theorem csteps_lt(k:Nat){x:Nat}(h:x<2^32):csteps k x<2^32:=by
 induction k with
 | zero=>exact h
 | succ k ih=>exact cstep_lt ih
theorem crc_snoc(c:Nat)(l:List UInt8)(x:UInt8):crc c (l++[x])=csteps 8 (crc c l^^^x.toNat):=by
 induction l generalizing c with
 | nil=>rfl
 | cons y l ih=>exact ih _
theorem crc_lt(l:List UInt8){c:Nat}(h:c<2^32):crc c l<2^32:=by
 induction l generalizing c with
 | nil=>exact h
 | cons y l ih=>exact ih (csteps_lt 8 (Nat.xor_lt_two_pow h (Nat.lt_trans y.toNat_lt (by decide))))
theorem all_turn{c:Nat}(h:c<2^32):4294967295-c=4294967295^^^c:=by
 rw [show 4294967295-c=2^32-(c+1) from by omega]
 apply Nat.eq_of_testBit_eq
 intro i;rw [Nat.testBit_two_pow_sub_succ h,Nat.testBit_xor,show (4294967295:Nat)=2^32-1 from rfl,Nat.testBit_two_pow_sub_one]
 by_cases hi:i<32
 ·simp [hi]
 ·rw [Nat.testBit_lt_two_pow (x:=c) (i:=i) (Nat.lt_of_lt_of_le h (Nat.pow_le_pow_right (by omega) (by omega)))];simp [hi]
theorem sumN_lt(l:List UInt8):sumN l<2^32:=by
 have:=crc_lt l (c:=4294967295) (by decide);unfold sumN;omega
def le4(s:Nat):List UInt8:=[UInt8.ofNat s,UInt8.ofNat (s/256),UInt8.ofNat (s/65536),UInt8.ofNat (s/16777216)]
def uintL(n:Nat):List UInt8:=if n<128 then [UInt8.ofNat n] else UInt8.ofNat (n%128+128)::uintL (n/128)
theorem uintL_small{n:Nat}(h:n<128):uintL n=[UInt8.ofNat n]:=by rw [uintL,if_pos h]
theorem uintL_big{n:Nat}(h:¬n<128):uintL n=UInt8.ofNat (n%128+128)::uintL (n/128):=by rw [uintL,if_neg h]
theorem uintL_len(k:Nat):∀n,n<128^(k+1)->(uintL n).length<=k+1:=by
 induction k with
 | zero=>intro n h;rw [uintL_small (by omega)];simp
 | succ k ih =>
   intro n h
   by_cases hn:n<128
   ·rw [uintL_small hn];simp
   ·rw [uintL_big hn];have:=ih (n/128) (by rw [Nat.pow_succ] at h;omega);simp;omega
theorem uintL_pos(n:Nat):0<(uintL n).length:=by
 by_cases hn:n<128
 ·rw [uintL_small hn];simp
 ·rw [uintL_big hn];simp
theorem uintL_9{n:Nat}(h:n<9223372036854775808):(uintL n).length<=9:=uintL_len 8 n (by omega)
def digN(l:List UInt8)(a:Nat):Nat->Nat
 | 0=>0
 | k+1=>digN l a k+(l.getD (a+k) 0).toNat%128*128^k
theorem digN_lt(l:List UInt8)(a k:Nat):digN l a k<128^k:=by
 induction k with
 | zero=>simp [digN]
 | succ k ih =>
   unfold digN;have:(l.getD (a+k) 0).toNat%128<=127:=by omega
   have h2:=Nat.mul_le_mul_right (128^k) this;rw [Nat.pow_succ];omega
inductive GU(l:List UInt8)(a:Nat):Nat->Nat->Nat->Prop
 | short (k:Nat) (hk:k<9) (hc:∀j,j<k->128<=(l.getD (a+j) 0).toNat) (he:a+k=l.length):GU l a 0 0 4
 | nought (k:Nat) (hk:k<9) (h0:0<k) (hc:∀j,j<k->128<=(l.getD (a+j) 0).toNat) (he:a+k<l.length) (hz:(l.getD (a+k) 0).toNat=0):GU l a 0 0 5
 | long (he:a+9<=l.length) (hc:∀j,j<9->128<=(l.getD (a+j) 0).toNat):GU l a 0 0 5
 | ok (k:Nat) (hk:k<9) (hc:∀j,j<k->128<=(l.getD (a+j) 0).toNat) (he:a+k<l.length) (hl:(l.getD (a+k) 0).toNat<128) (hz:(l.getD (a+k) 0).toNat=0->k=0):GU l a (digN l a (k+1)) (a+k+1) 0
theorem gu_total(l:List UInt8)(a:Nat)(ha:a<=l.length):∃n x e,GU l a n x e:=by
 have key:∀k,k<=9->(∃n x e,GU l a n x e)\/(a+k<=l.length/\∀j,j<k->128<=(l.getD (a+j) 0).toNat):=by
  intro k
  induction k with
  | zero=>intro _;exact .inr ⟨by omega,fun j hj=>by omega⟩
  | succ k ih =>
    intro hk;rcases ih (by omega) with h|⟨h1,h2⟩
    ·exact .inl h
    ·by_cases he:a+k=l.length
     ·exact .inl ⟨_,_,_,.short k (by omega) h2 he⟩
     ·by_cases hb:128<=(l.getD (a+k) 0).toNat
      ·refine .inr ⟨by omega,fun j hj=>?_⟩;rcases Nat.lt_or_ge j k with h|h
       ·exact h2 j h
       ·rw [show j=k from by omega];exact hb
      ·by_cases hz:(l.getD (a+k) 0).toNat=0/\0<k
       ·exact .inl ⟨_,_,_,.nought k (by omega) hz.2 h2 (by omega) hz.1⟩
       ·exact .inl ⟨_,_,_,.ok k (by omega) h2 (by omega) (by omega) (by omega)⟩
 rcases key 9 (Nat.le_refl _) with h|⟨h1,h2⟩
 ·exact h
 ·exact ⟨_,_,_,.long h1 h2⟩
theorem digN_front(l:List UInt8)(k:Nat):∀a,digN l a (k+1)=(l.getD a 0).toNat%128+128*digN l (a+1) k:=by
 induction k with
 | zero=>intro a;simp [digN]
 | succ k ih =>
   intro a;rw [digN,ih a,digN,show a+1+k=a+(k+1) from by omega,Nat.pow_succ,Nat.mul_add];generalize (l.getD (a+(k+1)) 0).toNat%128=z;generalize 128^k=p;have:z*(p*128)=128*(z*p):=by rw [<-Nat.mul_assoc,Nat.mul_comm]
   omega
theorem digN_pos(l:List UInt8)(a k:Nat)(h:(l.getD (a+k) 0).toNat%128≠0):0<digN l a (k+1):=by
 unfold digN;have h1:0<128^k:=Nat.pow_pos (by omega);have h2:0<(l.getD (a+k) 0).toNat%128*128^k:=Nat.mul_pos (by omega) h1;omega
theorem byte_back(x:UInt8)(h:128<=x.toNat):UInt8.ofNat (x.toNat%128+128)=x:=by
 apply UInt8.toNat.inj
 rw [UInt8.toNat_ofNat'];have:=x.toNat_lt;omega
theorem byte_self(x:UInt8)(h:x.toNat<128):UInt8.ofNat (x.toNat%128)=x:=by
 apply UInt8.toNat.inj
 rw [UInt8.toNat_ofNat'];omega
theorem uintL_digN(l:List UInt8)(k:Nat):∀a,a+k<l.length->(∀j,j<k->128<=(l.getD (a+j) 0).toNat)->(l.getD (a+k) 0).toNat<128->((l.getD (a+k) 0).toNat=0->k=0) ->
 uintL (digN l a (k+1))=(l.drop a).take (k+1):=by
 induction k with
 | zero =>
   intro a ha _ hl _;rw [Nat.add_zero] at hl;have e:digN l a 1=(l.getD a 0).toNat%128:=by simp [digN]
   rw [e,uintL_small (by omega),byte_self _ hl,List.drop_eq_getElem_cons (l:=l) (i:=a) (by omega),getD_in l 0 (by omega)];rfl
 | succ k ih =>
   intro a ha hc hl hz;have h0:=hc 0 (by omega);rw [Nat.add_zero] at h0;have hk:a+1+k=a+(k+1):=by omega
   have hne:(l.getD (a+(k+1)) 0).toNat%128≠0:=by
    intro h;have:=hz (by omega);omega
   have hp:=digN_pos l (a+1) k (by rw [hk];exact hne);rw [digN_front,uintL_big (by omega),show ((l.getD a 0).toNat%128+128*digN l (a+1) (k+1))%128=(l.getD a 0).toNat%128 from by omega,byte_back _ h0,
    show ((l.getD a 0).toNat%128+128*digN l (a+1) (k+1))/128=digN l (a+1) (k+1) from by omega,
    ih (a+1) (by omega) (fun j hj=>by have:=hc (j+1) (by omega);rwa [show a+(j+1)=a+1+j from by omega] at this) (by rw [hk];exact hl) (fun h=>by rw [hk] at h;exact absurd (by omega) hne)]
   rw [List.drop_eq_getElem_cons (l:=l) (i:=a) (by omega),getD_in l 0 (by omega)];rfl
theorem gu_bytes{l:List UInt8}{a n nx:Nat}(h:GU l a n nx 0):uintL n=(l.drop a).take (nx-a)/\nx<=l.length:=by
 generalize he:(0:Nat)=e at h
 cases h with
 | short k hk hc he'=>cases he
 | nought k hk h0 hc he' hz=>cases he
 | long he' hc=>cases he
 | ok k hk hc he' hl hz=>exact ⟨by rw [show a+k+1-a=k+1 from by omega];exact uintL_digN l k a he' hc hl hz,by omega⟩
theorem digN_congr(l m:List UInt8)(a b k:Nat)(h:∀j,j<k->l.getD (a+j) 0=m.getD (b+j) 0):digN l a k=digN m b k:=by
 induction k with
 | zero=>rfl
 | succ k ih=>rw [digN,digN,ih (fun j hj=>h j (by omega)),h k (by omega)]
theorem uint_facts:∀n:Nat,∃K,(uintL n).length=K+1/\(∀j,j<K->128<=((uintL n).getD j 0).toNat)/\((uintL n).getD K 0).toNat<128/\(((uintL n).getD K 0).toNat=0->n=0)/\digN (uintL n) 0 (K+1)=n:=by
 intro n
 induction n using Nat.strongRecOn with
 | _ n ih =>
   by_cases h:n<128
   ·refine ⟨0,by rw [uintL_small h];rfl,fun j hj=>by omega,?_,?_,?_⟩
    ·rw [uintL_small h];simp [UInt8.toNat_ofNat'];omega
    ·rw [uintL_small h];simp [UInt8.toNat_ofNat'];omega
    ·rw [uintL_small h];simp [digN,UInt8.toNat_ofNat'];omega
   ·obtain ⟨K,h1,h2,h3,h4,h5⟩:=ih (n/128) (by omega);rw [uintL_big h];refine ⟨K+1,by simp [h1],?_,?_,?_,?_⟩
    ·intro j hj;rcases j with _|j
     ·simp [UInt8.toNat_ofNat'];omega
     ·simpa using h2 j (by omega)
    ·simpa using h3
    ·intro hz;have:=h4 (by simpa using hz);omega
    ·rw [digN_front,Nat.zero_add,digN_congr (UInt8.ofNat (n%128+128)::uintL (n/128)) (uintL (n/128)) 1 0 (K+1) (fun j hj=>by rw [Nat.add_comm 1 j,Nat.zero_add];simp),h5];simp [UInt8.toNat_ofNat'];omega
theorem gu_of(b more:List UInt8)(n:Nat)(hn:n<9223372036854775808):GU (b++uintL n++more) b.length n (b.length+(uintL n).length) 0:=by
 obtain ⟨K,h1,h2,h3,h4,h5⟩:=uint_facts n;have h9:=uintL_9 hn;have at_:∀j,j<K+1->(b++uintL n++more).getD (b.length+j) 0=(uintL n).getD j 0:=by
  intro j hj;rw [getD_in _ 0 (by simp;omega),getD_in _ 0 (by omega),List.getElem_append_left (by simp;omega),List.getElem_append_right (by omega)];simp
 have e:digN (b++uintL n++more) b.length (K+1)=n:=by
  rw [digN_congr _ (uintL n) _ 0 (K+1) (fun j hj=>by rw [at_ j hj,Nat.zero_add]),h5]
 have hz:((b++uintL n++more).getD (b.length+K) 0).toNat=0->K=0:=by
  rw [at_ K (by omega)];intro h;have hn0:=h4 h;subst hn0;rw [uintL_small (by omega)] at h1;simpa using h1.symm
 have:=GU.ok (l:=b++uintL n++more) (a:=b.length) K (by omega) (fun j hj=>by rw [at_ j (by omega)];exact h2 j hj) (by simp;omega) (by rw [at_ K (by omega)];exact h3) hz;rw [e] at this;rwa [h1,<-Nat.add_assoc]
end Go.Proofs.YtgdmcnoogacdaaaGreatDoor
