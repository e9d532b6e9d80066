/- Plain mathematics of rows of bits laid down in bytes: no program in sight. -/
import Derived.Laws.BitsAllLaws
namespace Go.Proofs.YtgdmcnoogacdaaaGreatDoor
theorem getD_out{α:Type}(l:List α)(d:α){i:Nat}(h:l.length<=i):l.getD i d=d:=by
 rw [List.getD_eq_getElem?_getD,List.getElem?_eq_none h];rfl
theorem getD_in{α:Type}(l:List α)(d:α){i:Nat}(h:i<l.length):l.getD i d=l[i]:=by
 rw [List.getD_eq_getElem?_getD,List.getElem?_eq_getElem h];rfl
theorem getD_set_ne{α:Type}(l:List α)(d v:α){i j:Nat}(h:i≠j):(l.set i v).getD j d=l.getD j d:=by
 simp only [List.getD_eq_getElem?_getD,List.getElem?_set_ne h]
theorem getD_set_self{α:Type}(l:List α)(d v:α){i:Nat}(h:i<l.length):(l.set i v).getD i d=v:=by
 simp [List.getD_eq_getElem?_getD,h]
def bitN(l:List UInt8)(i:Nat):Nat:=(l.getD (i/8) 0).toNat/2^(7-i%8)%2
def dig(u k:Nat):Nat:=u/2^k%2
def digs(u:Nat):Nat:=if u=0 then 0 else Nat.log2 u+1
def rightB(l:List UInt8)(N:Int):Bool :=
 decide (0<=N)&&decide (l.length=(N.toNat+7)/8)&&(List.range (8*l.length)).all fun i=>decide (i<N.toNat)||decide (bitN l i=0)
def getN(l:List UInt8)(at_:Nat):Nat->Nat
 | 0=>0
 | n+1=>2*getN l at_ n+bitN l (at_+n)
def byteOf(f:Nat->Nat):UInt8:=UInt8.ofNat (f 0*128+f 1*64+f 2*32+f 3*16+f 4*8+f 5*4+f 6*2+f 7)
def mk(m:Nat)(f:Nat->Nat):List UInt8:=(List.range m).map fun j=>byteOf fun k=>f (8*j+k)
def cutF(f:Nat->Nat)(n:Nat):Nat->Nat:=fun i=>if i<n then f i else 0
def putF(l:List UInt8)(N u n:Nat):Nat->Nat:=fun i=>if i<N then bitN l i else if i<N+n then dig u (N+n-1-i) else 0
def putL(l:List UInt8)(N u n:Nat):List UInt8:=mk ((N+n+7)/8) (putF l N u n)
theorem rightB_iff{l:List UInt8}{N:Int}:rightB l N=true↔0<=N/\l.length=(N.toNat+7)/8/\∀i,N.toNat<=i->bitN l i=0:=by
 unfold rightB;simp only [Bool.and_eq_true,decide_eq_true_eq,List.all_eq_true,List.mem_range,Bool.or_eq_true];constructor
 ·rintro ⟨⟨h0,h1⟩,h2⟩;refine ⟨h0,h1,fun i hi=>?_⟩
  by_cases h:i<8*l.length
  ·rcases h2 i h with h3|h3
   ·omega
   ·exact h3
  ·unfold bitN;rw [getD_out _ _ (by omega)];simp
 ·rintro ⟨h0,h1,h2⟩;refine ⟨⟨h0,h1⟩,fun i _=>?_⟩
  by_cases h:i<N.toNat
  ·exact .inl h
  ·exact .inr (h2 i (by omega))
theorem bitN_lt(l:List UInt8)(i:Nat):bitN l i<2:=Nat.mod_lt _ (by omega)
theorem dig_lt(u k:Nat):dig u k<2:=Nat.mod_lt _ (by omega)
theorem putF_lt(l:List UInt8)(N u n i:Nat):putF l N u n i<2:=by
 unfold putF;have:=bitN_lt l i;have:=dig_lt u (N+n-1-i)
 split
 ·assumption
 ·split
  ·assumption
  ·omega
theorem cutF_lt{f:Nat->Nat}(hf:∀i,f i<2)(n i:Nat):cutF f n i<2:=by
 unfold cutF;have:=hf i
 split<;>omega
theorem byte_toNat(x:UInt8):x.toNat<256:=x.toNat_lt
theorem byte_ext{a b:UInt8}(h:∀k,k<8->a.toNat/2^(7-k)%2=b.toNat/2^(7-k)%2):a=b:=by
 have ha:=byte_toNat a;have hb:=byte_toNat b;have h0:=h 0 (by omega);have h1:=h 1 (by omega);have h2:=h 2 (by omega);have h3:=h 3 (by omega);have h4:=h 4 (by omega);have h5:=h 5 (by omega);have h6:=h 6 (by omega);have h7:=h 7 (by omega);simp only [Nat.reduceSub,Nat.reducePow,Nat.pow_zero,Nat.div_one] at h0 h1 h2 h3 h4 h5 h6 h7
 apply UInt8.toNat_inj.1
 omega
theorem byteOf_bit{f:Nat->Nat}(hf:∀k,f k<2)(k:Nat)(hk:k<8):(byteOf f).toNat/2^(7-k)%2=f k:=by
 have g0:=hf 0;have g1:=hf 1;have g2:=hf 2;have g3:=hf 3;have g4:=hf 4;have g5:=hf 5;have g6:=hf 6;have g7:=hf 7;unfold byteOf;rw [UInt8.toNat_ofNat'];have hk':k=0\/k=1\/k=2\/k=3\/k=4\/k=5\/k=6\/k=7:=by omega
 rcases hk' with rfl|rfl|rfl|rfl|rfl|rfl|rfl|rfl<;>simp only [Nat.reduceSub,Nat.reducePow,Nat.pow_zero,Nat.div_one]<;>omega
theorem length_mk(m:Nat)(f:Nat->Nat):(mk m f).length=m:=by simp [mk]
theorem bitN_mk{f:Nat->Nat}(hf:∀k,f k<2)(m i:Nat)(hi:i<8*m):bitN (mk m f) i=f i:=by
 unfold bitN mk;rw [getD_in _ _ (by simp;omega)];simp only [List.getElem_map,List.getElem_range];rw [byteOf_bit (f:=fun k=>f (8*(i/8)+k)) (fun k=>hf _) (i%8) (by omega)]
 congr 1
 omega
theorem bitN_out(l:List UInt8)(i:Nat)(hi:8*l.length<=i):bitN l i=0:=by
 unfold bitN;rw [getD_out _ _ (by omega)];simp
theorem bits_ext{l l':List UInt8}(hl:l.length=l'.length)(h:∀i,i<8*l.length->bitN l i=bitN l' i):l=l':=by
 apply List.ext_getElem hl
 intro j h1 h2
 apply byte_ext
 intro k hk;have:=h (8*j+k) (by omega);unfold bitN at this;rw [show (8*j+k)/8=j from by omega,show (8*j+k)%8=k from by omega,getD_in _ _ h1,getD_in _ _ h2] at this;exact this
def orByte(x:UInt8)(k d:Nat):UInt8:=UInt8.ofNat (x.toNat+d*2^(7-k))
theorem fin_or:∀x:Fin 256,∀k:Fin 8,∀d:Fin 2,x.val/2^(7-k.val)%2=0 ->
 (x.val|||d.val*2^(7-k.val))=x.val+d.val*2^(7-k.val)/\x.val+d.val*2^(7-k.val)<256 /\
   ∀j:Fin 8,(x.val+d.val*2^(7-k.val))/2^(7-j.val)%2=if j.val=k.val then d.val else x.val/2^(7-j.val)%2:=by decide +kernel
theorem orByte_facts(x:UInt8)(k d:Nat)(hk:k<8)(hd:d<2)(h:x.toNat/2^(7-k)%2=0):
 (x.toNat|||d*2^(7-k))=(orByte x k d).toNat/\x.toNat+d*2^(7-k)=(orByte x k d).toNat /\
   ∀j,j<8->(orByte x k d).toNat/2^(7-j)%2=if j=k then d else x.toNat/2^(7-j)%2:=by
 obtain ⟨h1,h2,h3⟩:=fin_or ⟨x.toNat,byte_toNat x⟩ ⟨k,hk⟩ ⟨d,hd⟩ h;simp only at h1 h2 h3;have e:(orByte x k d).toNat=x.toNat+d*2^(7-k):=by
  unfold orByte;rw [UInt8.toNat_ofNat'];exact Nat.mod_eq_of_lt h2
 refine ⟨h1.trans e.symm,e.symm,fun j hj=>?_⟩;rw [e];exact h3 ⟨j,hj⟩
theorem set_step{f:Nat->Nat}(hf:∀k,f k<2)(m n:Nat)(hn:n<8*m):
 bitN (mk m (cutF f n)) n=0 /\
  (mk m (cutF f n)).set (n/8) (orByte ((mk m (cutF f n)).getD (n/8) 0) (n%8) (f n))=mk m (cutF f (n+1)):=by
 have h0:bitN (mk m (cutF f n)) n=0:=by rw [bitN_mk (cutF_lt hf n) m n hn];simp [cutF]
 refine ⟨h0,?_⟩;have hlen:=length_mk m (cutF f n)
 apply bits_ext (by simp [length_mk])
 intro i hi;rw [List.length_set,hlen] at hi;rw [bitN_mk (cutF_lt hf _) m i hi];obtain ⟨_,_,h3⟩:=orByte_facts ((mk m (cutF f n)).getD (n/8) 0) (n%8) (f n) (by omega) (hf n) h0
 by_cases hb:i/8=n/8
 ·have hg:bitN ((mk m (cutF f n)).set (n/8) (orByte ((mk m (cutF f n)).getD (n/8) 0) (n%8) (f n))) i=(orByte ((mk m (cutF f n)).getD (n/8) 0) (n%8) (f n)).toNat/2^(7-i%8)%2:=by
   unfold bitN;rw [hb,getD_set_self _ _ _ (by rw [length_mk];omega)]
  rw [hg,h3 (i%8) (by omega)]
  by_cases he:i=n
  ·subst he;simp [cutF]
  ·rw [if_neg (by omega)];have:=bitN_mk (cutF_lt hf n) m i hi;unfold bitN at this;rw [hb] at this;rw [this];unfold cutF
   by_cases h:i<n
   ·rw [if_pos h,if_pos (by omega)]
   ·rw [if_neg h,if_neg (by omega)]
 ·have hg:bitN ((mk m (cutF f n)).set (n/8) (orByte ((mk m (cutF f n)).getD (n/8) 0) (n%8) (f n))) i=bitN (mk m (cutF f n)) i:=by
   unfold bitN;rw [getD_set_ne _ _ _ (by omega)]
  rw [hg,bitN_mk (cutF_lt hf n) m i hi];unfold cutF
  by_cases h:i<n
  ·rw [if_pos h,if_pos (by omega)]
  ·rw [if_neg h,if_neg (by omega)]
theorem copy_start{l:List UInt8}{N m:Nat}{F:Nat->Nat}(hr:rightB l (N:Int)=true)(hF2:∀i,F i<2)(hF:∀i,i<N->F i=bitN l i)(hle:l.length<=m):
 l++List.replicate (m-l.length) 0=mk m (cutF F N):=by
 obtain ⟨_,h1,h2⟩:=rightB_iff.1 hr;rw [Int.toNat_natCast] at h1 h2
 apply bits_ext (by simp [length_mk];omega)
 intro i hi;rw [List.length_append,List.length_replicate] at hi;rw [bitN_mk (cutF_lt hF2 _) m i (by omega)];have hg:bitN (l++List.replicate (m-l.length) 0) i=bitN l i:=by
  unfold bitN
  by_cases h:i/8<l.length
  ·rw [getD_in _ _ (by simp;omega),List.getElem_append_left h,getD_in _ _ h]
  ·rw [getD_in _ _ (by simp;omega),List.getElem_append_right (by omega),List.getElem_replicate,getD_out _ _ (by omega)]
 rw [hg];unfold cutF
 by_cases h:i<N
 ·rw [if_pos h,hF i h]
 ·rw [if_neg h];exact h2 i (by omega)
theorem cut_all(l:List UInt8)(N u n m:Nat):mk m (cutF (putF l N u n) (N+n))=mk m (putF l N u n):=by
 congr 1
 funext i
 unfold cutF putF
 by_cases h:i<N+n
 ·rw [if_pos h]
 ·rw [if_neg h,if_neg (by omega),if_neg h]
theorem right_put{l:List UInt8}{N u n:Nat}:rightB (putL l N u n) ((N+n:Nat):Int)=true:=by
 refine rightB_iff.2 ⟨by omega,?_,fun i hi=>?_⟩
 ·rw [Int.toNat_natCast,putL,length_mk]
 ·rw [Int.toNat_natCast] at hi
  by_cases h:i<8*((N+n+7)/8)
  ·rw [putL,bitN_mk (putF_lt l N u n) _ _ h];unfold putF;rw [if_neg (by omega),if_neg (by omega)]
  ·exact bitN_out _ _ (by rw [putL,length_mk];omega)
theorem bit_put{l:List UInt8}{N u n i:Nat}(hi:i<N+n):bitN (putL l N u n) i=putF l N u n i :=
 bitN_mk (putF_lt l N u n) _ _ (by omega)
theorem getN_lt(l:List UInt8)(a n:Nat):getN l a n<2^n:=by
 induction n with
 | zero=>simp [getN]
 | succ n ih =>
   have:=bitN_lt l (a+n);unfold getN;rw [Nat.pow_succ];omega
theorem getN_of_dig{l:List UInt8}{a n u:Nat}(hu:u<2^n)(h:∀j,j<n->bitN l (a+j)=dig u (n-1-j)):getN l a n=u:=by
 have key:∀k,k<=n->getN l a k=u/2^(n-k):=by
  intro k
  induction k with
  | zero=>intro _;simp [getN,Nat.div_eq_of_lt hu]
  | succ k ih =>
    intro hk;unfold getN;rw [ih (by omega),h k (by omega)];unfold dig;have e:n-k=(n-(k+1))+1:=by omega
    rw [e,Nat.pow_succ,<-Nat.div_div_eq_div_mul,show n-1-k=n-(k+1) from by omega];omega
 have:=key n (Nat.le_refl _);simpa using this
theorem dig_getN(l:List UInt8)(a:Nat):∀n j,j<n->dig (getN l a n) (n-1-j)=bitN l (a+j):=by
 intro n
 induction n with
 | zero=>intro j hj;omega
 | succ n ih =>
   intro j hj;have hb:=bitN_lt l (a+n);unfold getN
   by_cases h:j=n
   ·subst h;simp only [Nat.add_sub_cancel,Nat.sub_self];unfold dig;simp only [Nat.pow_zero,Nat.div_one];omega
   ·have:=ih j (by omega);rw [<-this];unfold dig;rw [show n+1-1-j=(n-1-j)+1 from by omega,Nat.pow_succ,Nat.mul_comm (2^(n-1-j)) 2,<-Nat.div_div_eq_div_mul]
    congr 2
    omega
theorem digs_le{u n:Nat}:digs u<=n↔u<2^n:=by
 unfold digs
 by_cases h:u=0
 ·subst h;simp;exact Nat.pos_of_ne_zero (by simp)
 ·rw [if_neg h];have:=Nat.log2_lt (k:=n) h;omega
theorem digs_half{u:Nat}(h:u≠0):digs u=digs (u/2)+1:=by
 have key:∀n,digs u<=n↔digs (u/2)+1<=n:=by
  intro n
  cases n with
  | zero =>
    have:digs u≠0:=by unfold digs;rw [if_neg h];omega
    omega
  | succ n =>
    rw [digs_le,Nat.add_le_add_iff_right,digs_le,Nat.pow_succ];omega
 have h1:=(key (digs u)).1 (Nat.le_refl _);have h2:=(key (digs (u/2)+1)).2 (Nat.le_refl _);omega
theorem digs_zero:digs 0=0:=by simp [digs]
theorem digs_64{u:Nat}(h:u<=18446744073709551615):digs u<=64:=by rw [digs_le];omega
theorem fin_last:∀x:Fin 256,∀s:Fin 8,(x.val*2^s.val%256=0)↔∀j:Fin 8,s.val<=j.val->x.val/2^(7-j.val)%2=0:=by decide +kernel
theorem right_last{l:List UInt8}{N:Nat}(h:l.length=(N+7)/8)(h8:¬N%8=0):
 decide ((l.getD (l.length-1) 0).toNat*2^(N%8)%256=0)=rightB l (N:Int):=by
 have key:=fin_last ⟨_,byte_toNat (l.getD (l.length-1) 0)⟩ ⟨N%8,by omega⟩;simp only at key;rw [Bool.eq_iff_iff,decide_eq_true_eq,rightB_iff,key,Int.toNat_natCast];constructor
 ·intro hk;refine ⟨by omega,h,fun i hi=>?_⟩
  by_cases ho:8*l.length<=i
  ·exact bitN_out _ _ ho
  ·have:=hk ⟨i%8,by omega⟩ (by show N%8<=i%8;omega);unfold bitN;rw [show i/8=l.length-1 from by omega];exact this
 ·rintro ⟨_,_,hk⟩ j hj;have:=hk (8*(l.length-1)+j.val) (by omega);unfold bitN at this;rw [show (8*(l.length-1)+j.val)/8=l.length-1 from by omega,show (8*(l.length-1)+j.val)%8=j.val from by omega] at this;exact this
theorem right_whole{l:List UInt8}{N:Nat}(h:l.length=(N+7)/8)(h8:N%8=0):rightB l (N:Int)=true:=by
 refine rightB_iff.2 ⟨by omega,by rw [Int.toNat_natCast];exact h,fun i hi=>bitN_out _ _ (by rw [Int.toNat_natCast] at hi;omega)⟩
theorem right_neg{l:List UInt8}{N:Int}(h:N<0):rightB l N=false:=by
 rw [Bool.eq_false_iff];intro hr;have:=(rightB_iff.1 hr).1;omega
theorem right_size{l:List UInt8}{N:Nat}(h:l.length≠(N+7)/8):rightB l (N:Int)=false:=by
 rw [Bool.eq_false_iff];intro hr;have:=(rightB_iff.1 hr).2.1;rw [Int.toNat_natCast] at this;exact h this
end Go.Proofs.YtgdmcnoogacdaaaGreatDoor
