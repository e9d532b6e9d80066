/- In one text, written by lotify.py: LbOrd, LbName, LbName2, LbCheck, LbCheckRef, LbCmp, LbCmp2. -/
import Derived.Test.YtgdmcnoogacdaaaGreatDoorBlLotC
import Derived.Lib.Bytealg
import Derived.Test.YtgdmcnoogacdaaaGreatDoorShelf
namespace Go.Proofs.YtgdmcnoogacdaaaGreatDoor
open Go.RowKit
set_option linter.unusedVariables false
structure IsCmp{α:Type}(f:α->α->Int):Prop where
 swap:∀a b,f b a=- f a b
 zero:∀a b,f a b=0↔a=b
 rng:∀a b,f a b=-1\/f a b=0\/f a b=1
 trans:∀a b c,f a b<=0->f b c<=0->f a c<=0
theorem IsCmp.strict{α:Type}{f:α->α->Int}(h:IsCmp f){a b c:α}(h1:f a b<0)(h2:f b c<=0):f a c<0:=by
 have h3:=h.trans a b c (by omega) h2;rcases h.rng a c with h4|h4|h4
 ·omega
 ·exfalso
  rw [h.zero] at h4;subst h4;have:=h.swap a b;omega
 ·omega
def lex2{α β:Type}(f:α->α->Int)(g:β->β->Int)(x y:α × β):Int:=if f x.1 y.1≠0 then f x.1 y.1 else g x.2 y.2
theorem lex2_cmp{α β:Type}{f:α->α->Int}{g:β->β->Int}(hf:IsCmp f)(hg:IsCmp g):IsCmp (lex2 f g):=by
 refine ⟨?_,?_,?_,?_⟩
 ·intro a b;unfold lex2;rw [hf.swap a.1 b.1,hg.swap a.2 b.2]
  by_cases h:f a.1 b.1=0
  ·rw [if_neg (by omega),if_neg (by omega)]
  ·rw [if_pos (by omega),if_pos h]
 ·intro a b;unfold lex2
  by_cases h:f a.1 b.1=0
  ·rw [if_neg (by omega),hg.zero];rw [hf.zero] at h;constructor
   ·intro h2;exact Prod.ext h h2
   ·intro h2;rw [h2]
  ·rw [if_pos h];constructor
   ·intro h2;exact absurd h2 h
   ·intro h2;exact (hf.zero _ _).2 (by rw [h2])
 ·intro a b;unfold lex2
  split
  ·exact hf.rng _ _
  ·exact hg.rng _ _
 ·intro a b c h1 h2;unfold lex2 at *
  by_cases e1:f a.1 b.1=0
  ·rw [if_neg (by omega)] at h1;have e:=(hf.zero _ _).1 e1;rw [e]
   by_cases e2:f b.1 c.1=0
   ·rw [if_neg (by omega)] at h2 ⊢;exact hg.trans _ _ _ h1 h2
   ·rw [if_pos e2] at h2 ⊢;exact h2
  ·rw [if_pos e1] at h1;have h3:f b.1 c.1<=0:=by
    by_cases e2:f b.1 c.1=0
    ·omega
    ·rw [if_pos e2] at h2;exact h2
   have:=hf.strict (show f a.1 b.1<0 by omega) h3;rw [if_pos (by omega)];omega
def lexL{α:Type}(f:α->α->Int):List α->List α->Int
 | [],[]=>0
 | [],_::_=>-1
 | _::_,[]=>1
 | x::a,y::b=>if f x y≠0 then f x y else lexL f a b
theorem lexL_cmp{α:Type}{f:α->α->Int}(hf:IsCmp f):IsCmp (lexL f):=by
 refine ⟨?_,?_,?_,?_⟩
 ·intro a
  induction a with
  | nil=>intro b;cases b<;>rfl
  | cons x a ih =>
    intro b
    cases b with
    | nil=>rfl
    | cons y b =>
      simp only [lexL];rw [hf.swap x y,ih b]
      by_cases h:f x y=0
      ·rw [if_neg (by omega),if_neg (by omega)]
      ·rw [if_pos (by omega),if_pos h]
 ·intro a
  induction a with
  | nil=>intro b;cases b<;>simp [lexL]
  | cons x a ih =>
    intro b
    cases b with
    | nil=>simp [lexL]
    | cons y b =>
      simp only [lexL,List.cons.injEq]
      by_cases h:f x y=0
      ·rw [if_neg (by omega),ih b];rw [hf.zero] at h;exact ⟨fun h2=>⟨h,h2⟩,fun h2=>h2.2⟩
      ·rw [if_pos h];exact ⟨fun h2=>absurd h2 h,fun h2=>absurd ((hf.zero _ _).2 h2.1) h⟩
 ·intro a
  induction a with
  | nil=>intro b;cases b<;>simp [lexL]
  | cons x a ih =>
    intro b
    cases b with
    | nil=>simp [lexL]
    | cons y b =>
      simp only [lexL]
      split
      ·exact hf.rng _ _
      ·exact ih b
 ·intro a
  induction a with
  | nil =>
    intro b c h1 h2
    cases c with
    | nil=>simp [lexL]
    | cons z c=>simp [lexL]
  | cons x a ih =>
    intro b c h1 h2
    cases b with
    | nil=>simp [lexL] at h1
    | cons y b =>
      cases c with
      | nil=>simp [lexL] at h2
      | cons z c =>
        simp only [lexL] at *
        by_cases e1:f x y=0
        ·rw [if_neg (by omega)] at h1;have e:=(hf.zero _ _).1 e1;subst e
         by_cases e2:f x z=0
         ·rw [if_neg (by omega)] at h2 ⊢;exact ih b c h1 h2
         ·rw [if_pos e2] at h2 ⊢;exact h2
        ·rw [if_pos e1] at h1;have h3:f y z<=0:=by
          by_cases e2:f y z=0
          ·omega
          ·rw [if_pos e2] at h2;exact h2
         have:=hf.strict (show f x y<0 by omega) h3;rw [if_pos (by omega)];omega
def cmpU(a b:UInt8):Int:=if a<b then -1 else if b<a then 1 else 0
theorem cmpU_cases(a b:UInt8):(a.toNat<b.toNat/\cmpU a b=-1)\/(a.toNat=b.toNat/\cmpU a b=0)\/(b.toNat<a.toNat/\cmpU a b=1):=by
 unfold cmpU
 by_cases h1:a<b
 ·exact .inl ⟨UInt8.lt_iff_toNat_lt.1 h1,if_pos h1⟩
 ·have n1:¬a.toNat<b.toNat:=fun h=>h1 (UInt8.lt_iff_toNat_lt.2 h)
  by_cases h2:b<a
  ·exact .inr (.inr ⟨UInt8.lt_iff_toNat_lt.1 h2,by rw [if_neg h1,if_pos h2]⟩)
  ·have n2:¬b.toNat<a.toNat:=fun h=>h2 (UInt8.lt_iff_toNat_lt.2 h)
   exact .inr (.inl ⟨by omega,by rw [if_neg h1,if_neg h2]⟩)
theorem cmpU_cmp:IsCmp cmpU:=by
 refine ⟨?_,?_,?_,?_⟩
 ·intro a b;rcases cmpU_cases a b with ⟨h,e⟩|⟨h,e⟩|⟨h,e⟩<;>rcases cmpU_cases b a with ⟨h',e'⟩|⟨h',e'⟩|⟨h',e'⟩<;>omega
 ·intro a b;rw [<-UInt8.toNat_inj];rcases cmpU_cases a b with ⟨h,e⟩|⟨h,e⟩|⟨h,e⟩<;>omega
 ·intro a b;rcases cmpU_cases a b with ⟨h,e⟩|⟨h,e⟩|⟨h,e⟩<;>omega
 ·intro a b c;rcases cmpU_cases a b with ⟨h,e⟩|⟨h,e⟩|⟨h,e⟩<;>rcases cmpU_cases b c with ⟨h',e'⟩|⟨h',e'⟩|⟨h',e'⟩<;>rcases cmpU_cases a c with ⟨h2,e2⟩|⟨h2,e2⟩|⟨h2,e2⟩<;>omega
theorem compare_lex:∀a b:List UInt8,Lib.compareBytes a b=lexL cmpU a b
 | [],[]=>rfl
 | [],_::_=>rfl
 | _::_,[]=>rfl
 | a::x,b::y=>by
   rw [Lib.compareBytes,lexL,compare_lex x y];unfold cmpU
   by_cases h1:a<b
   ·rw [if_pos h1,if_pos h1];rfl
   ·rw [if_neg h1,if_neg h1]
    by_cases h2:b<a
    ·rw [if_pos h2,if_pos h2];rfl
    ·rw [if_neg h2,if_neg h2];rfl
theorem less_lex:∀a b:List UInt8,Op.bytesLess a b=decide (lexL cmpU a b=-1)
 | [],[]=>rfl
 | [],_::_=>rfl
 | _::_,[]=>rfl
 | a::x,b::y=>by
   rw [Op.bytesLess,lexL,less_lex x y];have hz:=cmpU_cmp.zero a b
   by_cases h1:a<b
   ·have:cmpU a b=-1:=by unfold cmpU;rw [if_pos h1]
    rw [this];simp [h1]
   ·by_cases h2:a=b
    ·subst h2;have:cmpU a a=0:=hz.2 rfl;rw [this];simp
    ·have h3:cmpU a b=1:=by
      unfold cmpU;rw [if_neg h1];unfold cmpU at hz
      by_cases h4:b<a
      ·rw [if_pos h4]
      ·rw [if_neg h1,if_neg h4] at hz;exact absurd (hz.1 rfl) h2
     rw [h3];simp [h1,h2]
def cmpB(a b:ByteArray):Int:=lexL cmpU (strL a) (strL b)
theorem strL_inj{a b:ByteArray}(h:strL a=strL b):a=b:=by rw [<-txt_strL a,h,txt_strL]
theorem cmpB_cmp:IsCmp cmpB:=by
 have h:=lexL_cmp cmpU_cmp;exact ⟨fun a b=>h.swap _ _,fun a b=>⟨fun e=>strL_inj ((h.zero _ _).1 e),fun e=>(h.zero _ _).2 (by rw [e])⟩,fun a b=>h.rng _ _,fun a b c=>h.trans _ _ _⟩
def cmpLbl:Lbl->Lbl->Int:=lex2 cmpB cmpB
theorem cmpLbl_cmp:IsCmp cmpLbl:=lex2_cmp cmpB_cmp cmpB_cmp
def cmpLs:List Lbl->List Lbl->Int:=lexL cmpLbl
theorem cmpLs_cmp:IsCmp cmpLs:=lexL_cmp cmpLbl_cmp
theorem less_cmp(a b:ByteArray):Op.bytesLess a.toList b.toList=decide (cmpB a b=-1):=by
 rw [ByteArray.toList_eq,ByteArray.toList_eq,less_lex];rfl
theorem eq_cmp(a b:ByteArray):(a.toList==b.toList)=decide (cmpB a b=0):=by
 rw [ByteArray.toList_eq,ByteArray.toList_eq,Bool.eq_iff_iff,beq_iff_eq,decide_eq_true_eq,cmpB_cmp.zero];constructor
 ·intro h;exact strL_inj h
 ·intro h;rw [h]
theorem strL_get(s:ByteArray){k:Nat}(h:k<s.size):(strL s).getD k 0=s[k]:=by
 rw [getD_in _ 0 (by rw [strL_length];exact h)];rfl
theorem ret_bool{a b:Bool}(h:a=b):Ending.returned (.bool a)=.returned (.bool b):=by rw [h]
theorem letter_cases(c:UInt8)(n:Nat)(hn:c.toNat=n):(decide (97<=n)=true/\decide (n<=122)=true/\letterB c=true) \/
 (decide (97<=n)=true/\decide (n<=122)=false/\decide (65<=n)=true/\decide (n<=90)=false/\(n==95)=false/\letterB c=false) \/
 (decide (97<=n)=false/\decide (65<=n)=true/\decide (n<=90)=true/\letterB c=true) \/
 (decide (97<=n)=false/\decide (65<=n)=true/\decide (n<=90)=false/\(n==95)=true/\letterB c=true) \/
 (decide (97<=n)=false/\decide (65<=n)=true/\decide (n<=90)=false/\(n==95)=false/\letterB c=false) \/
 (decide (97<=n)=false/\decide (65<=n)=false/\(n==95)=false/\letterB c=false):=by
 subst hn;unfold letterB
 by_cases h1:97<=c.toNat<;>by_cases h2:c.toNat<=122<;>by_cases h3:65<=c.toNat<;>by_cases h4:c.toNat<=90<;>by_cases h5:c.toNat=95<;>simp [h1,h2,h3,h4,h5]<;>omega
theorem letter_prog(c:UInt8)(w:World):
 Calls Tryz.prog 202 #[.int .u8 (c.toNat:Int)] w fun e w'=>e=.returned (.bool (letterB c))/\w=w':=by
 have hc:=c.toNat_lt;obtain ⟨n,hn⟩:∃n,c.toNat=n:=⟨_,rfl⟩;have k1:decide ((97:Int)<=(n:Int))=decide (97<=n):=by rw [decide_eq_decide];omega
 have k2:decide ((n:Int)<=122)=decide (n<=122):=by rw [decide_eq_decide];omega
 have k3:decide ((65:Int)<=(n:Int))=decide (65<=n):=by rw [decide_eq_decide];omega
 have k4:decide ((n:Int)<=90)=decide (n<=90):=by rw [decide_eq_decide];omega
 have k5:((n:Int)==95)=(n==95):=by rw [Bool.eq_iff_iff,beq_iff_eq,beq_iff_eq];omega
 have key:=letter_cases c n hn;rw [hn] at *;rcases key with ⟨h1,h2,h⟩|⟨h1,h2,h3,h4,h5,h⟩|⟨h1,h3,h4,h⟩|⟨h1,h3,h4,h5,h⟩|⟨h1,h3,h4,h5,h⟩|⟨h1,h3,h5,h⟩
 all_goals
  rw [h];simp only [h1] at k1
  try simp only [h2] at k2
  try simp only [h3] at k3
  try simp only [h4] at k4
  try simp only [h5] at k5
  clear h hn hc;go_enter Tryz.func202,Tryz.ntmps202
  go_wp2
  go_ret;exact ⟨rfl,rfl⟩
theorem digit_prog(c:UInt8)(w:World):
 Calls Tryz.prog 203 #[.int .u8 (c.toNat:Int)] w fun e w'=>e=.returned (.bool (digitB c))/\w=w':=by
 have hc:=c.toNat_lt;unfold digitB;generalize c.toNat=n at *;have k1:decide ((48:Int)<=(n:Int))=decide (48<=n):=by rw [decide_eq_decide];omega
 have k2:decide ((n:Int)<=57)=decide (n<=57):=by rw [decide_eq_decide];omega
 cases h1:decide (48<=n)<;>cases h2:decide (n<=57)
 all_goals
  rw [h1] at k1;rw [h2] at k2;go_enter Tryz.func203,Tryz.ntmps203
  go_wp2
  go_ret;exact ⟨rfl,rfl⟩
theorem name_prog(s:ByteArray)(w:World):
 Calls Tryz.prog 171 #[.string s] w fun e w'=>e=.returned (.bool (nameB (strL s)))/\w=w':=by
 by_cases h0:s.size=0
 ·have e:nameB (strL s)=false:=by unfold nameB;rw [strL_length,h0];rfl
  rw [e];have d0:((s.size:Int)==0)=true:=by rw [h0];rfl
  clear e;go_enter Tryz.func171,Tryz.ntmps171
  go_wp2
  go_ret;exact ⟨rfl,rfl⟩
 have d0:((s.size:Int)==0)=false:=by rw [beq_eq_false_iff_ne];omega
 by_cases h1:32<s.size
 ·have e:nameB (strL s)=false:=by unfold nameB;rw [strL_length,decide_eq_true (show 0<s.size by omega),decide_eq_false (show ¬s.size<=32 by omega)];rfl
  rw [e];have d1:decide ((32:Int)<(s.size:Int))=true:=by simp;omega
  clear e;go_enter Tryz.func171,Tryz.ntmps171
  go_wp2
  go_ret;exact ⟨rfl,rfl⟩
 have d1:decide ((32:Int)<(s.size:Int))=false:=by simp;omega
 have HE:=zz (show nameB (strL s)=okF (strL s) s.size 0 by unfold nameB;rw [strL_length,decide_eq_true (show 0<s.size by omega),decide_eq_true (show s.size<=32 by omega)];rfl);rw [HE.out];go_enter Tryz.func171,Tryz.ntmps171
 go_wp2_with fail
 go_loop [14] (fun i=>∃k:Nat,k<=s.size/\i=.int .i64 (k:Int)/\okF (strL s) (s.size-k) k=okF (strL s) s.size 0) (fun i=>s.size-(intOf i).toNat)
 case atStart=>exact ⟨0,Nat.zero_le _,rfl,rfl⟩
 case round =>
  obtain ⟨k,hk,rfl,hall⟩:=hrel
  by_cases hlt:k<s.size
  ·rw [show s.size-k=(s.size-(k+1))+1 from by omega,okF,strL_get s hlt] at hall;have HA:=zz hall;clear hall;have HL:=zz (letter_prog s[k] w);have HD:=zz (digit_prog s[k] w)
   cases hl:letterB s[k]
   ·rw [hl] at HL
    by_cases hk0:k=0
    ·have eb:okB s[k] k=false:=by unfold okB;rw [hl,decide_eq_false (by omega)];rfl
     rw [eb] at HA;have i0:((k:Int)==0)=true:=by rw [hk0];rfl
     clear eb hl hk0
     go_wp2_with fail
     refine HL.out.mono ?_;rintro e w1 ⟨rfl,rfl⟩
     go_wp2_with fail
     go_ret;exact ⟨by rw [<-HA.out];rfl,rfl⟩
    ·have i0:((k:Int)==0)=false:=by rw [beq_eq_false_iff_ne];omega
     cases hd:digitB s[k]
     ·have eb:okB s[k] k=false:=by unfold okB;rw [hl,hd];simp
      rw [eb] at HA;rw [hd] at HD;clear eb hl hd hk0
      go_wp2_with fail
      refine HL.out.mono ?_;rintro e w1 ⟨rfl,rfl⟩
      go_wp2_with fail
      refine HD.out.mono ?_;rintro e w1 ⟨rfl,rfl⟩
      go_wp2_with fail
      go_ret;exact ⟨by rw [<-HA.out];rfl,rfl⟩
     ·have eb:okB s[k] k=true:=by unfold okB;rw [hl,hd,decide_eq_true (by omega)];rfl
      rw [eb,if_pos rfl] at HA;rw [hd] at HD;clear eb hl hd hk0
      go_wp2_with fail
      refine HL.out.mono ?_;rintro e w1 ⟨rfl,rfl⟩
      go_wp2_with fail
      refine HD.out.mono ?_;rintro e w1 ⟨rfl,rfl⟩
      go_wp2_with fail
      exact ⟨⟨k+1,by omega,by go_num,HA.out⟩,by simp [intOf];omega⟩
   ·have eb:okB s[k] k=true:=by unfold okB;rw [hl];rfl
    rw [eb,if_pos rfl] at HA;rw [hl] at HL;clear eb hl
    go_wp2_with fail
    refine HL.out.mono ?_;rintro e w1 ⟨rfl,rfl⟩
    go_wp2_with fail
    exact ⟨⟨k+1,by omega,by go_num,HA.out⟩,by simp [intOf];omega⟩
  ·obtain rfl:k=s.size:=by omega
   rw [Nat.sub_self,okF] at hall;have HA:=zz hall;clear hall
   go_wp2_with fail
   go_ret;exact ⟨ret_bool HA.out,rfl⟩
theorem name_end(s:ByteArray)(hs:s.size<=140737488351232)(h:okF (strL s) s.size 0=true):nameB (strL s)=(!(s.toList==[])&&decide ((s.size:Int)<=32)):=by
 have e1:(s.toList==[])=decide (s.size=0):=by
  rw [ByteArray.toList_eq,Bool.eq_iff_iff,beq_iff_eq,decide_eq_true_eq];have:=strL_length s;unfold strL at this;constructor
  ·intro e;rw [e] at this;simpa using this.symm
  ·intro e;exact List.eq_nil_of_length_eq_zero (by omega)
 unfold nameB;rw [strL_length,h,e1]
 by_cases h0:s.size=0
 ·simp [h0]
 ·by_cases h1:s.size<=32
  ·rw [decide_eq_true (show 0<s.size by omega),decide_eq_true h1,decide_eq_false h0,decide_eq_true (show (s.size:Int)<=32 by omega)];rfl
  ·rw [decide_eq_true (show 0<s.size by omega),decide_eq_false h1,decide_eq_false h0,decide_eq_false (show ¬(s.size:Int)<=32 by omega)];rfl
theorem name_stop(s:ByteArray)(h:okF (strL s) s.size 0=false):nameB (strL s)=false:=by
 unfold nameB;rw [strL_length,h,Bool.and_false]
theorem name_ref(s:ByteArray)(w:World)(hs:s.size<=140737488351232):
 Calls Tryz.prog 115 #[.string s] w fun e w'=>e=.returned (.bool (nameB (strL s)))/\w=w':=by
 have HE:=zz (name_end s hs);have HF:=zz (name_stop s);go_enter Tryz.func115,Tryz.ntmps115
 go_wp2_with fail
 go_loop [3] (fun i=>∃k:Nat,k<=s.size/\i=.int .i64 (k:Int)/\okF (strL s) (s.size-k) k=okF (strL s) s.size 0) (fun i=>s.size-(intOf i).toNat)
 case atStart=>exact ⟨0,Nat.zero_le _,rfl,rfl⟩
 case round =>
  obtain ⟨k,hk,rfl,hall⟩:=hrel
  by_cases hlt:k<s.size
  ·rw [show s.size-k=(s.size-(k+1))+1 from by omega,okF,strL_get s hlt] at hall;have hc:=s[k].toNat_lt;have key:=letter_cases s[k] s[k].toNat rfl;obtain ⟨cb,hcb⟩:∃c,s[k]=c:=⟨_,rfl⟩;have ho:okB cb k=(letterB cb||(decide (0<k)&&(decide (48<=cb.toNat)&&decide (cb.toNat<=57)))):=rfl;rw [hcb] at hall key hc;have HA:=zz hall;clear hall;have hn:s[k].toNat=cb.toNat:=by rw [hcb]
   generalize cb.toNat=n at *;have k1:decide ((97:Int)<=(n:Int))=decide (97<=n):=by rw [decide_eq_decide];omega
   have k2:decide ((n:Int)<=122)=decide (n<=122):=by rw [decide_eq_decide];omega
   have k3:decide ((65:Int)<=(n:Int))=decide (65<=n):=by rw [decide_eq_decide];omega
   have k4:decide ((n:Int)<=90)=decide (n<=90):=by rw [decide_eq_decide];omega
   have k5:((n:Int)==95)=(n==95):=by rw [Bool.eq_iff_iff,beq_iff_eq,beq_iff_eq];omega
   have k6:decide ((n:Int)<48)=!decide (48<=n):=by by_cases h:48<=n<;>simp [h]<;>omega
   have k7:decide ((57:Int)<(n:Int))=!decide (n<=57):=by by_cases h:n<=57<;>simp [h]<;>omega
   rcases key with ⟨h1,h2,h⟩|⟨h1,h2,h3,h4,h5,h⟩|⟨h1,h3,h4,h⟩|⟨h1,h3,h4,h5,h⟩|⟨h1,h3,h4,h5,h⟩|⟨h1,h3,h5,h⟩
   all_goals
    rw [h] at ho;simp only [h1] at k1
    try simp only [h2] at k2
    try simp only [h3] at k3
    try simp only [h4] at k4
    try simp only [h5] at k5
    clear h;rw [<-hn] at k1 k2 k3 k4 k5
   all_goals first
    | (have eb:okB cb k=true:=by rw [ho];rfl
       rw [eb,if_pos rfl] at HA;clear eb ho k6 k7 hcb hc hn
       go_wp2_with fail
       exact ⟨⟨k+1,by omega,by go_num,HA.out⟩,by simp [intOf];omega⟩)
    | (rw [Bool.false_or] at ho
       by_cases hk0:k=0
       ·have i0:((k:Int)==0)=true:=by rw [hk0];rfl
        rw [decide_eq_false (show ¬0<k by omega),Bool.false_and] at ho;rw [ho] at HA;clear k6 k7 hcb hc hn ho hk0
        go_wp2_with fail
        go_ret;exact ⟨ret_bool (HF.out (by rw [<-HA.out];rfl)).symm,rfl⟩
       ·have i0:((k:Int)==0)=false:=by rw [beq_eq_false_iff_ne];omega
        rw [decide_eq_true (show 0<k by omega),Bool.true_and] at ho;rw [<-hn] at k6 k7 ho
        cases d1:decide (48<=s[k].toNat)
        ·rw [d1,Bool.false_and] at ho;rw [d1] at k6;rw [ho] at HA;clear k7 hcb hc hn ho hk0 d1
         go_wp2_with fail
         go_ret;exact ⟨ret_bool (HF.out (by rw [<-HA.out];rfl)).symm,rfl⟩
        ·cases d2:decide (s[k].toNat<=57)
         ·rw [d1,d2] at ho;rw [d1] at k6;rw [d2] at k7;rw [ho] at HA;clear hcb hc hn ho hk0 d1 d2
          go_wp2_with fail
          go_ret;exact ⟨ret_bool (HF.out (by rw [<-HA.out];rfl)).symm,rfl⟩
         ·rw [d1,d2] at ho;rw [d1] at k6;rw [d2] at k7;rw [ho,if_pos (by rfl)] at HA;clear hcb hc hn ho hk0 d1 d2
          go_wp2_with fail
          exact ⟨⟨k+1,by omega,by go_num,HA.out⟩,by simp [intOf];omega⟩)
  ·obtain rfl:k=s.size:=by omega
   rw [Nat.sub_self,okF] at hall;have HA:=zz (HE.out hall.symm);clear hall
   by_cases h0:s.size=0
   ·have e1:(s.toList==[])=true:=by
     rw [ByteArray.toList_eq,beq_iff_eq];exact List.eq_nil_of_length_eq_zero (by have:=strL_length s;unfold strL at this;omega)
    rw [e1] at HA
    go_wp2_with fail
    go_ret;exact ⟨ret_bool HA.out.symm,rfl⟩
   ·have e1:(s.toList==[])=false:=by
     rw [ByteArray.toList_eq,beq_eq_false_iff_ne];intro e;have:=strL_length s;unfold strL at this;rw [e] at this;simp at this;omega
    rw [e1] at HA
    go_wp2_with fail
    go_ret;exact ⟨ret_bool HA.out.symm,rfl⟩
theorem ret_int{a b:Int}(h:a=b):Ending.returned (.int .i64 a)=.returned (.int .i64 b):=by rw [h]
theorem err_name{l:List Lbl}{k:Nat}(h:nameB (strL (nmOf l k))=false):lbErrAt l k=8:=by unfold lbErrAt;rw [if_pos h]
theorem err_arg{l:List Lbl}{k:Nat}(h:nameB (strL (nmOf l k))=true)(h2:(vlOf l k).size=0):lbErrAt l k=2:=by unfold lbErrAt;rw [if_neg (by rw [h];simp),if_pos h2]
theorem err_big{l:List Lbl}{k:Nat}(h:nameB (strL (nmOf l k))=true)(h3:64<(vlOf l k).size):lbErrAt l k=3:=by unfold lbErrAt;rw [if_neg (by rw [h];simp),if_neg (by omega),if_pos h3]
theorem err_order{l:List Lbl}{k:Nat}(h:nameB (strL (nmOf l k))=true)(h2:(vlOf l k).size≠0)(h3:¬64<(vlOf l k).size)(h4:0<k/\leB (nmOf l k) (nmOf l (k-1))=true):lbErrAt l k=13:=by
 unfold lbErrAt;rw [if_neg (by rw [h];simp),if_neg h2,if_neg h3,if_pos h4]
theorem lbchk_prog(A:Option Addr)(l:List Lbl)(c:Nat)(w:World)(hA:Lbls w A l)(hl:l.length<=100000000000000):
 Calls Tryz.prog 139 #[.slice A l.length c] w fun e w'=>e=.returned (.int .i64 (lbChk l))/\Below w.heap.size w w':=by
 by_cases h1:8<l.length
 ·have e:lbChk l=3:=by unfold lbChk;rw [if_pos h1]
  rw [e];clear e;have i1:decide ((8:Int)<(l.length:Int))=true:=by simp;omega
  go_enter Tryz.func139,Tryz.ntmps139
  go_wp2
  go_ret;exact ⟨rfl,Below.refl _ _⟩
 have hC:lbErrF l l.length 0=lbChk l:=by unfold lbChk;rw [if_neg h1]
 have i1:decide ((8:Int)<(l.length:Int))=false:=by simp;omega
 by_cases h0:l.length=0
 ·have e:lbChk l=0:=by rw [<-hC,h0];rfl
  rw [e,h0];clear e hC i1 h1;go_enter Tryz.func139,Tryz.ntmps139
  go_wp2_with fail
  go_loop [10] (fun i=>i=.int .i64 0) (fun _=>0)
  case atStart=>rfl
  case round =>
   subst hrel
   go_wp2_with fail
   go_ret;exact ⟨rfl,Below.refl _ _⟩
 have HC:=zz hC;clear hC;obtain ⟨b,o,rfl,hb,hc⟩:=hA.all (by omega);have Hc:=zz hc;clear hc hA;go_enter Tryz.func139,Tryz.ntmps139
 go_wp2_with fail
 go_loopw [10] (fun i wr=>∃k:Nat,k<=l.length/\i=.int .i64 (k:Int)/\lbErrF l (l.length-k) k=lbChk l/\Below w.heap.size w wr) (fun i _=>l.length-(intOf i).toNat)
 case atStart=>exact ⟨0,Nat.zero_le _,rfl,HC.out,Below.refl _ _⟩
 case round =>
  obtain ⟨k,hk,rfl,he,hbr⟩:=hrel;have hsz:=hbr.size
  by_cases hlt:k<l.length
  ·obtain ⟨g0,g1⟩:=Hc.out k hlt;have c0:=(hbr.cell (p:=⟨b,o+k*2,none⟩) hb).trans g0;have c1:=(hbr.cell (p:=⟨b,o+k*2+1,none⟩) hb).trans g1;have i2:(k:Int)<(l.length:Int):=by omega
   have hM:=name_prog (nmOf l k);have HE:=zz he;clear he g0 g1;rw [show l.length-k=(l.length-(k+1))+1 from by omega,lbErrF] at HE
   cases hm:nameB (strL (nmOf l k))
   ·rw [hm] at hM;rw [err_name hm] at HE;have HM:=zz hM;clear hM hm
    go_wp2_with fail
    refine (HM.out _).mono ?_;rintro e w2 ⟨rfl,hw2⟩;subst hw2
    go_wp2
    go_ret;exact ⟨by rw [<-HE.out];rfl,hbr.alloc hsz _⟩
   ·rw [hm] at hM;have HM:=zz hM;clear hM
    go_wp2_with fail
    refine (HM.out _).mono ?_;rintro e w2 ⟨rfl,hw2⟩;have hW2:=hbr.alloc hsz (.cells #[.string (nmOf l k),.string (vlOf l k)] 118);have R:Row (wr.alloc (.cells #[.string (nmOf l k),.string (vlOf l k)] 118)) wr.heap.size 118 #[.string (nmOf l k),.string (vlOf l k)]:=Row.new wr _ _
    by_cases hv0:(vlOf l k).size=0
    ·rw [err_arg hm hv0] at HE;have j0:(((vlOf l k).size:Int)==0)=true:=by rw [hv0];rfl
     have HW:=zz hW2;clear hm hv0 R c0 c1 hW2;subst hw2
     go_wp2_with fail
     go_ret;exact ⟨by rw [<-HE.out];rfl,HW.out⟩
    have j0:(((vlOf l k).size:Int)==0)=false:=by rw [beq_eq_false_iff_ne];omega
    by_cases hv1:64<(vlOf l k).size
    ·rw [err_big hm hv1] at HE;have j1:decide ((64:Int)<((vlOf l k).size:Int))=true:=by simp;omega
     have HW:=zz hW2;clear hm hv0 R c0 c1 hW2;subst hw2
     go_wp2_with fail
     go_ret;exact ⟨by rw [<-HE.out];rfl,HW.out⟩
    have j1:decide ((64:Int)<((vlOf l k).size:Int))=false:=by simp;omega
    rw [hw2] at R hW2;clear hw2;have r0:w2.cell? ⟨wr.heap.size,0,none⟩=some (.string (nmOf l k)):=R.cell 0;have r1:w2.cell? ⟨wr.heap.size,1,none⟩=some (.string (vlOf l k)):=R.cell 1;have hd2:Below w.heap.size w w2.drew:=hW2.drew;clear R c0 c1
    by_cases hk0:0<k
    ·obtain ⟨p0,_⟩:=Hc.out (k-1) (by omega);have d0:=(hW2.cell (p:=⟨b,o+(k-1)*2,none⟩) hb).trans p0;have i3:decide ((0:Int)<(k:Int))=true:=by simp;omega
     clear p0
     cases hle:leB (nmOf l k) (nmOf l (k-1))
     ·have i4:(Op.bytesLess (nmOf l k).toList (nmOf l (k-1)).toList||(nmOf l k).toList==(nmOf l (k-1)).toList)=false:=hle;rw [lbErrAt_zero.2 ⟨hm,by omega,by omega,fun _=>hle⟩,if_pos rfl] at HE;clear hm hle
      go_wp2_with fail
      go_region
      all_goals
       go_wp2_with fail
       go_roundw
       case rel=>exact ⟨k+1,by omega,by go_num,HE.out,hd2⟩
       case measure=>simp [intOf];omega
     ·have i4:(Op.bytesLess (nmOf l k).toList (nmOf l (k-1)).toList||(nmOf l k).toList==(nmOf l (k-1)).toList)=true:=hle;rw [err_order hm hv0 hv1 ⟨hk0,hle⟩] at HE;clear hm hle
      go_wp2_with fail
      go_region
      all_goals
       go_wp2_with fail
       go_ret;exact ⟨by rw [<-HE.out];rfl,hd2⟩
    ·have i3:decide ((0:Int)<(k:Int))=false:=by simp;omega
     rw [lbErrAt_zero.2 ⟨hm,by omega,by omega,fun h=>absurd h hk0⟩,if_pos rfl] at HE;clear hm
     go_wp2_with fail
     go_region
     all_goals
      go_wp2_with fail
      go_roundw
      case rel=>exact ⟨k+1,by omega,by go_num,HE.out,hd2⟩
      case measure=>simp [intOf];omega
  ·obtain rfl:k=l.length:=by omega
   rw [Nat.sub_self] at he;have HE:=zz he;clear he
   go_wp2_with fail
   go_ret;exact ⟨by rw [<-HE.out];rfl,hbr⟩
theorem empty_of(s:ByteArray):(s.toList==[])=decide (s.size=0):=by
 rw [ByteArray.toList_eq,Bool.eq_iff_iff,beq_iff_eq,decide_eq_true_eq];have:=strL_length s;unfold strL at this;constructor
 ·intro e;rw [e] at this;simpa using this.symm
 ·intro e;exact List.eq_nil_of_length_eq_zero (by omega)
theorem lbchk_ref(A:Option Addr)(l:List Lbl)(c:Nat)(w:World)(hA:Lbls w A l)(hl:l.length<=100000000000000)(hf:LFits l):
 Calls Tryz.prog 76 #[.slice A l.length c] w fun e w'=>e=.returned (.int .i64 (lbChk l))/\Below w.heap.size w w':=by
 by_cases h1:8<l.length
 ·have e:lbChk l=3:=by unfold lbChk;rw [if_pos h1]
  rw [e];clear e;have i1:decide ((8:Int)<(l.length:Int))=true:=by simp;omega
  go_enter Tryz.func76,Tryz.ntmps76
  go_wp2
  go_ret;exact ⟨rfl,Below.refl _ _⟩
 have hC:lbErrF l l.length 0=lbChk l:=by unfold lbChk;rw [if_neg h1]
 have i1:decide ((8:Int)<(l.length:Int))=false:=by simp;omega
 by_cases h0:l.length=0
 ·have e:lbChk l=0:=by rw [<-hC,h0];rfl
  rw [e,h0];clear e hC i1 h1;go_enter Tryz.func76,Tryz.ntmps76
  go_wp2_with fail
  go_loop [3] (fun i=>i=.int .i64 0) (fun _=>0)
  case atStart=>rfl
  case round =>
   subst hrel
   go_wp2_with fail
   go_ret;exact ⟨rfl,Below.refl _ _⟩
 have HC:=zz hC;clear hC;obtain ⟨b,o,rfl,hb,hc⟩:=hA.all (by omega);have Hc:=zz hc;have HF:=zz hf;clear hc hA hf;go_enter Tryz.func76,Tryz.ntmps76
 go_wp2_with fail
 go_loopw [3] (fun i wr=>∃k:Nat,k<=l.length/\i=.int .i64 (k:Int)/\lbErrF l (l.length-k) k=lbChk l/\Below w.heap.size w wr) (fun i _=>l.length-(intOf i).toNat)
 case atStart=>exact ⟨0,Nat.zero_le _,rfl,HC.out,Below.refl _ _⟩
 case round =>
  obtain ⟨k,hk,rfl,he,hbr⟩:=hrel;have hsz:=hbr.size
  by_cases hlt:k<l.length
  ·obtain ⟨g0,g1⟩:=Hc.out k hlt;have c0:=(hbr.cell (p:=⟨b,o+k*2,none⟩) hb).trans g0;have c1:=(hbr.cell (p:=⟨b,o+k*2+1,none⟩) hb).trans g1;have i2:(k:Int)<(l.length:Int):=by omega
   have hM:=name_ref (nmOf l k) wr (HF.out k hlt).1;have HE:=zz he;clear he g0 g1;rw [show l.length-k=(l.length-(k+1))+1 from by omega,lbErrF] at HE
   cases hm:nameB (strL (nmOf l k))
   ·rw [hm] at hM;rw [err_name hm] at HE;have HM:=zz hM;clear hM hm
    go_wp2_with fail
    refine HM.out.mono ?_;rintro e w2 ⟨rfl,rfl⟩
    go_wp2
    go_ret;exact ⟨by rw [<-HE.out];rfl,hbr⟩
   ·rw [hm] at hM;have HM:=zz hM;clear hM;have q0:=empty_of (vlOf l k)
    by_cases hv0:(vlOf l k).size=0
    ·rw [err_arg hm hv0] at HE;rw [decide_eq_true hv0] at q0;clear hm hv0
     go_wp2_with fail
     refine HM.out.mono ?_;rintro e w2 ⟨rfl,rfl⟩
     go_wp2_with fail
     go_ret;exact ⟨by rw [<-HE.out];rfl,hbr⟩
    rw [decide_eq_false hv0] at q0
    by_cases hv1:64<(vlOf l k).size
    ·rw [err_big hm hv1] at HE;have j1:decide ((64:Int)<((vlOf l k).size:Int))=true:=by simp;omega
     clear hm hv0
     go_wp2_with fail
     refine HM.out.mono ?_;rintro e w2 ⟨rfl,rfl⟩
     go_wp2_with fail
     go_ret;exact ⟨by rw [<-HE.out];rfl,hbr⟩
    have j1:decide ((64:Int)<((vlOf l k).size:Int))=false:=by simp;omega
    have hd2:Below w.heap.size w wr.drew:=hbr.drew
    by_cases hk0:0<k
    ·obtain ⟨p0,_⟩:=Hc.out (k-1) (by omega);have d0:=(hbr.cell (p:=⟨b,o+(k-1)*2,none⟩) hb).trans p0;have i3:decide ((0:Int)<(k:Int))=true:=by simp;omega
     clear p0
     cases hle:leB (nmOf l k) (nmOf l (k-1))
     ·have i4:(Op.bytesLess (nmOf l k).toList (nmOf l (k-1)).toList||(nmOf l k).toList==(nmOf l (k-1)).toList)=false:=hle;rw [lbErrAt_zero.2 ⟨hm,by omega,by omega,fun _=>hle⟩,if_pos rfl] at HE;clear hm hle
      go_wp2_with fail
      refine HM.out.mono ?_;rintro e w2 ⟨rfl,rfl⟩
      go_wp2_with fail
      go_region
      all_goals
       go_wp2_with fail
       go_roundw
       case rel=>exact ⟨k+1,by omega,by go_num,HE.out,hd2⟩
       case measure=>simp [intOf];omega
     ·have i4:(Op.bytesLess (nmOf l k).toList (nmOf l (k-1)).toList||(nmOf l k).toList==(nmOf l (k-1)).toList)=true:=hle;rw [err_order hm hv0 hv1 ⟨hk0,hle⟩] at HE;clear hm hle
      go_wp2_with fail
      refine HM.out.mono ?_;rintro e w2 ⟨rfl,rfl⟩
      go_wp2_with fail
      go_region
      all_goals
       go_wp2_with fail
       go_ret;exact ⟨by rw [<-HE.out];rfl,hd2⟩
    ·have i3:decide ((0:Int)<(k:Int))=false:=by simp;omega
     rw [lbErrAt_zero.2 ⟨hm,by omega,by omega,fun h=>absurd h hk0⟩,if_pos rfl] at HE;clear hm
     go_wp2_with fail
     refine HM.out.mono ?_;rintro e w2 ⟨rfl,rfl⟩
     go_wp2_with fail
     go_region
     all_goals
      go_wp2_with fail
      go_roundw
      case rel=>exact ⟨k+1,by omega,by go_num,HE.out,hd2⟩
      case measure=>simp [intOf];omega
  ·obtain rfl:k=l.length:=by omega
   rw [Nat.sub_self] at he;have HE:=zz he;clear he
   go_wp2_with fail
   go_ret;exact ⟨by rw [<-HE.out];rfl,hbr⟩
theorem text_cmp(a b:ByteArray)(w:World):Calls Tryz.prog 116 #[.string a,.string b] w fun e w'=>e=.returned (.int .i64 (cmpB a b))/\w=w':=by
 have h1:=less_cmp a b;have h2:=eq_cmp a b;rcases cmpB_cmp.rng a b with h|h|h
 all_goals
  rw [h] at h1 h2 ⊢;simp only [Int.reduceNeg,Int.reduceEq,decide_true,decide_false] at h1 h2;clear h;go_enter Tryz.func116,Tryz.ntmps116
  go_wp2
  go_ret;exact ⟨rfl,rfl⟩
theorem or_prog(g:Nat)(c1 c2:Int)(w:World)(hr:Row w g 3 #[.int .i64 c1,.int .i64 c2])(v:Int)(hv:v=if c1≠0 then c1 else c2):
 Calls Tryz.prog 184 #[.slice (some ⟨g,0,none⟩) 2 2] w fun e w'=>e=.returned (.int .i64 v)/\w=w':=by
 have HV:=zz hv;clear hv;have H1:Hid (w.cell? ⟨g,0,none⟩=some (.int .i64 c1)):=zz (hr.cell 0);have H2:Hid (w.cell? ⟨g,1,none⟩=some (.int .i64 c2)):=zz (hr.cell 1);clear hr;go_enter Tryz.func184,Tryz.ntmps184
 go_wp2_with fail
 go_loop [8] (fun i=>(i=.int .i64 0)\/(i=.int .i64 1/\c1=0)\/(i=.int .i64 2/\c1=0/\c2=0)) (fun i=>2-(intOf i).toNat)
 case atStart=>exact .inl rfl
 case round =>
  rcases hrel with rfl|⟨rfl,rfl⟩|⟨rfl,rfl,rfl⟩
  ·have h1:=H1.out
   by_cases h0:c1=0
   ·subst h0
    go_wp2_with fail
    exact ⟨by simp,by simp [intOf]⟩
   ·have i1:(c1 !=0)=true:=bne_iff_ne.2 h0;have i2:(c1==0)=false:=beq_eq_false_iff_ne.2 h0;rw [if_pos h0] at HV;clear h0
    go_wp2_with fail
    go_ret;exact ⟨ret_int HV.out.symm,rfl⟩
  ·have h2:=H2.out;rw [if_neg (by simp)] at HV
   by_cases h0:c2=0
   ·subst h0
    go_wp2_with fail
    exact ⟨by simp,by simp [intOf]⟩
   ·have i1:(c2 !=0)=true:=bne_iff_ne.2 h0;have i2:(c2==0)=false:=beq_eq_false_iff_ne.2 h0;clear h0
    go_wp2_with fail
    go_ret;exact ⟨ret_int HV.out.symm,rfl⟩
  ·go_wp2_with fail
   go_ret;exact ⟨ret_int HV.out.symm,rfl⟩
theorem str_cmp(a b:ByteArray)(w:World):Calls Tryz.prog 185 #[.string a,.string b] w fun e w'=>e=.returned (.int .i64 (cmpB a b))/\w'=w:=by
 have:=Tryz.strings_Compare a b w;rw [compare_lex] at this;exact this
set_option maxHeartbeats 1000000 in
theorem cmp_lbl(x y:Lbl)(w:World):Calls Tryz.prog 183 #[.agg #[.string x.1,.string x.2],.agg #[.string y.1,.string y.2]] w fun e w'=>e=.returned (.int .i64 (cmpLbl x y))/\Below w.heap.size w w':=by
 have HV:=zz (show cmpLbl x y=if cmpB x.1 y.1≠0 then cmpB x.1 y.1 else cmpB x.2 y.2 from rfl);obtain ⟨z,hz⟩:∃z,(w.alloc (.cells #[.string x.1,.string x.2] 118)).alloc (.cells #[.string y.1,.string y.2] 118)=z:=⟨_,rfl⟩;have hx:Row z w.heap.size 118 #[.string x.1,.string x.2]:=by rw [<-hz];exact (Row.new w _ _).alloc _
 have hy:Row z (w.heap.size+1) 118 #[.string y.1,.string y.2]:=by rw [<-hz];exact row_at w _ _ _
 have hb:Below w.heap.size w z:=by rw [<-hz];exact (below_one w _).alloc (by simp) _
 have HR:Hid (Row ((z.alloc (.cells #[.int .i64 (cmpB x.1 y.1),.int .i64 (cmpB x.2 y.2)] 3)).drew) z.heap.size 3 #[.int .i64 (cmpB x.1 y.1),.int .i64 (cmpB x.2 y.2)]):=zz (Row.new z _ _);have HB:Hid (∀o,Below w.heap.size w ((z.alloc o).drew)):=zz (fun o=>(hb.alloc hb.size o).drew);have HZ:=zz hz;have x0:z.cell? ⟨w.heap.size,0,none⟩=some (.string x.1):=hx.cell 0;have x1:z.cell? ⟨w.heap.size,1,none⟩=some (.string x.2):=hx.cell 1;have y0:z.cell? ⟨w.heap.size+1,0,none⟩=some (.string y.1):=hy.cell 0;have y1:z.cell? ⟨w.heap.size+1,1,none⟩=some (.string y.2):=hy.cell 1;clear hz hx hy hb;go_enter Tryz.func183,Tryz.ntmps183
 go_upto_region 1 with fail
 rw [HZ.out]
 go_region_held3 (fun w'=>w'.cell? ⟨w.heap.size,0,none⟩=some (.string x.1)/\w'.cell? ⟨w.heap.size,1,none⟩=some (.string x.2)/\w'.cell? ⟨w.heap.size+1,0,none⟩=some (.string y.1)/\w'.cell? ⟨w.heap.size+1,1,none⟩=some (.string y.2))
  (first|exact ⟨x0,x1,y0,y1⟩|exact x0|exact x1|exact y0|exact y1|go_keep)
  (first
    | (go_at_call 185;refine (str_cmp _ _ _).mono ?_;rintro e w1 ⟨rfl,hw1⟩;subst hw1)
    | (go_at_call 184;refine (or_prog _ _ _ _ HR.out _ HV.out).mono ?_;rintro e w2 ⟨rfl,hw2⟩;subst hw2))
 all_goals
  go_wp2_with fail
  go_ret;exact ⟨rfl,HB.out _⟩
theorem lb_drop_at(l:List Lbl){k:Nat}(h:k<l.length):l.drop k=(nmOf l k,vlOf l k)::l.drop (k+1):=by
 rw [List.drop_eq_getElem_cons h]
 congr 1
 unfold nmOf vlOf;rw [List.getD_eq_getElem?_getD,List.getElem?_eq_getElem h];rfl
theorem ls_step(l m:List Lbl){k:Nat}(h:k<l.length)(h2:k<m.length):cmpLs (l.drop k) (m.drop k)=if cmpLbl (nmOf l k,vlOf l k) (nmOf m k,vlOf m k)≠0 then cmpLbl (nmOf l k,vlOf l k) (nmOf m k,vlOf m k) else cmpLs (l.drop (k+1)) (m.drop (k+1)):=by
 rw [lb_drop_at l h,lb_drop_at m h2];rfl
theorem ls_long(l m:List Lbl){k:Nat}(h:k<l.length)(h2:m.length<=k):cmpLs (l.drop k) (m.drop k)=1:=by
 rw [lb_drop_at l h,List.drop_eq_nil_of_le h2];rfl
theorem ls_short(l m:List Lbl){k:Nat}(h:l.length<=k)(h2:k<m.length):cmpLs (l.drop k) (m.drop k)=-1:=by
 rw [lb_drop_at m h2,List.drop_eq_nil_of_le h];rfl
theorem ls_same(l m:List Lbl){k:Nat}(h:l.length<=k)(h2:m.length<=k):cmpLs (l.drop k) (m.drop k)=0:=by
 rw [List.drop_eq_nil_of_le h,List.drop_eq_nil_of_le h2];rfl
theorem cmpfunc_prog(A B:Option Addr)(l m:List Lbl)(c d:Nat)(w:World)(hA:Lbls w A l)(hB:Lbls w B m)(hl:l.length<=100000000000000)(hm:m.length<=100000000000000):
 Calls Tryz.prog 182 #[.slice A l.length c,.slice B m.length d,.func (.func 183) #[] #[]] w fun e w'=>e=.returned (.int .i64 (cmpLs l m))/\Below w.heap.size w w':=by
 have HA:=zz hA;have HB:=zz hB;have HL:=zz (show l.length<=100000000000000/\m.length<=100000000000000 from ⟨hl,hm⟩);clear hA hB;go_enter Tryz.func182,Tryz.ntmps182
 go_wp2_with fail
 go_loopw [13] (fun i wr=>∃k:Nat,k<=l.length/\k<=m.length/\i=.int .i64 (k:Int)/\cmpLs (l.drop k) (m.drop k)=cmpLs l m/\Below w.heap.size w wr) (fun i _=>l.length-(intOf i).toNat)
 case atStart=>exact ⟨0,Nat.zero_le _,Nat.zero_le _,rfl,rfl,Below.refl _ _⟩
 case round =>
  obtain ⟨k,hk,hk2,rfl,he,hbr⟩:=hrel;have hsz:=hbr.size
  by_cases hlt:k<l.length
  ·obtain ⟨b,o,rfl,hb,g0,g1⟩:=HA.out.at_ hlt;have c0:=(hbr.cell (p:=⟨b,o+k*2,none⟩) hb).trans g0;have c1:=(hbr.cell (p:=⟨b,o+k*2+1,none⟩) hb).trans g1;have i2:(k:Int)<(l.length:Int):=by omega
   have HE:=zz he;clear he g0 g1;have hW1:=hbr.alloc hsz (.cells #[.string (nmOf l k),.string (vlOf l k)] 118)
   by_cases hlt2:k<m.length
   ·obtain ⟨b2,o2,rfl,hb2,g0,g1⟩:=HB.out.at_ hlt2;have i3:decide ((m.length:Int)<=(k:Int))=false:=by simp;omega
    have d0:=(hW1.cell (p:=⟨b2,o2+k*2,none⟩) hb2).trans g0;have d1:=(hW1.cell (p:=⟨b2,o2+k*2+1,none⟩) hb2).trans g1;have HST:=zz (ls_step l m hlt hlt2);have HW2:=zz (hW1.alloc hW1.size (.cells #[.string (nmOf m k),.string (vlOf m k)] 118));have HCM:=zz (fun W=>cmp_lbl (nmOf l k,vlOf l k) (nmOf m k,vlOf m k) W);clear g0 g1 hW1;generalize cmpLbl (nmOf l k,vlOf l k) (nmOf m k,vlOf m k)=C at *
    by_cases h0:C=0
    ·subst h0;rw [if_neg (by simp)] at HST
     go_wp2_with (first|(go_at_call 183;refine (HCM.out _).mono ?_;rintro e w3 ⟨rfl,hb3⟩;have HB3:=zz (HW2.out.trans (hb3.mono HW2.out.size));clear hb3))
     go_roundw
     case rel=>exact ⟨k+1,by omega,by omega,by go_num,by rw [<-HST.out,HE.out],HB3.out⟩
     case measure=>simp [intOf];omega
    ·have j1:(C !=0)=true:=bne_iff_ne.2 h0;have j2:(C==0)=false:=beq_eq_false_iff_ne.2 h0;rw [if_pos h0] at HST;clear h0
     go_wp2_with (first|(go_at_call 183;refine (HCM.out _).mono ?_;rintro e w3 ⟨rfl,hb3⟩;have HB3:=zz (HW2.out.trans (hb3.mono HW2.out.size));clear hb3))
     go_ret;exact ⟨ret_int (by rw [<-HE.out,HST.out]),HB3.out⟩
   ·have i3:decide ((m.length:Int)<=(k:Int))=true:=by simp;omega
    have HW2:=zz hW1;have HST:=zz (ls_long l m hlt (by omega));clear hW1
    go_wp2_with fail
    go_ret;exact ⟨ret_int (by rw [<-HE.out,HST.out]),HW2.out⟩
  ·obtain rfl:k=l.length:=by omega
   have HE:=zz he;have HBR:=zz hbr;clear he hbr
   by_cases h2:l.length<m.length
   ·have i3:decide ((l.length:Int)<(m.length:Int))=true:=by simp;omega
    have HST:=zz (ls_short l m (Nat.le_refl _) h2)
    go_wp2_with fail
    go_ret;exact ⟨ret_int (by rw [<-HE.out,HST.out]),HBR.out⟩
   ·have i3:decide ((l.length:Int)<(m.length:Int))=false:=by simp;omega
    have HST:=zz (ls_same l m (Nat.le_refl _) (by omega))
    go_wp2_with fail
    go_ret;exact ⟨ret_int (by rw [<-HE.out,HST.out]),HBR.out⟩
theorem compare_prog(A B:Option Addr)(l m:List Lbl)(c d:Nat)(w:World)(hA:Lbls w A l)(hB:Lbls w B m)(hl:l.length<=100000000000000)(hm:m.length<=100000000000000):
 Calls Tryz.prog 140 #[.slice A l.length c,.slice B m.length d] w fun e w'=>e=.returned (.int .i64 (cmpLs l m))/\Below w.heap.size w w':=by
 go_enter Tryz.func140,Tryz.ntmps140
 go_wp2_with (first|(go_at_call 182;refine (cmpfunc_prog A B l m c d _ hA hB hl hm).mono ?_;rintro e w3 ⟨rfl,hb3⟩))
 go_ret;exact ⟨rfl,hb3⟩
theorem compare_ref(A B:Option Addr)(l m:List Lbl)(c d:Nat)(w:World)(hA:Lbls w A l)(hB:Lbls w B m)(hl:l.length<=100000000000000)(hm:m.length<=100000000000000):
 Calls Tryz.prog 77 #[.slice A l.length c,.slice B m.length d] w fun e w'=>e=.returned (.int .i64 (cmpLs l m))/\Below w.heap.size w w':=by
 have HA:=zz hA;have HB:=zz hB;clear hA hB;go_enter Tryz.func77,Tryz.ntmps77
 go_wp2_with fail
 go_loopw [5] (fun i wr=>∃k:Nat,k<=l.length/\k<=m.length/\i=.int .i64 (k:Int)/\cmpLs (l.drop k) (m.drop k)=cmpLs l m/\Below w.heap.size w wr) (fun i _=>l.length-(intOf i).toNat)
 case atStart=>exact ⟨0,Nat.zero_le _,Nat.zero_le _,rfl,rfl,Below.refl _ _⟩
 case round =>
  obtain ⟨k,hk,hk2,rfl,he,hbr⟩:=hrel;have hsz:=hbr.size
  by_cases hlt:k<l.length
  ·have i2:decide ((k:Int)<(l.length:Int))=true:=by simp;omega
   by_cases hlt2:k<m.length
   ·obtain ⟨b,o,rfl,hb,g0,g1⟩:=HA.out.at_ hlt;obtain ⟨b2,o2,rfl,hb2,g2,g3⟩:=HB.out.at_ hlt2;have i3:decide ((k:Int)<(m.length:Int))=true:=by simp;omega
    have j2:(k:Int)<(l.length:Int):=by omega
    have j3:(k:Int)<(m.length:Int):=by omega
    have c0:=(hbr.cell (p:=⟨b,o+k*2,none⟩) hb).trans g0;have c1:=(hbr.cell (p:=⟨b,o+k*2+1,none⟩) hb).trans g1;have d0:=(hbr.cell (p:=⟨b2,o2+k*2,none⟩) hb2).trans g2;have d1:=(hbr.cell (p:=⟨b2,o2+k*2+1,none⟩) hb2).trans g3;have HC2:=zz (fun W (h:Below w.heap.size w W)=>(show W.cell? ⟨b,o+k*2+1,none⟩=some (.string (vlOf l k))/\W.cell? ⟨b2,o2+k*2+1,none⟩=some (.string (vlOf m k)) from ⟨(h.cell hb).trans g1,(h.cell hb2).trans g3⟩));have HST:=zz (ls_step l m hlt hlt2);have hdef:cmpLbl (nmOf l k,vlOf l k) (nmOf m k,vlOf m k)=if cmpB (nmOf l k) (nmOf m k)≠0 then cmpB (nmOf l k) (nmOf m k) else cmpB (vlOf l k) (vlOf m k):=rfl;rw [hdef] at HST;have HT1:=zz (fun W=>text_cmp (nmOf l k) (nmOf m k) W);have HT2:=zz (fun W=>text_cmp (vlOf l k) (vlOf m k) W);have HE:=zz he;have HBR:=zz hbr;clear g0 g1 g2 g3 he hbr hdef;generalize cmpB (nmOf l k) (nmOf m k)=C1 at *;generalize cmpB (vlOf l k) (vlOf m k)=C2 at *
    by_cases h0:C1=0
    ·subst h0;rw [show (if (0:Int)≠0 then (0:Int) else C2)=C2 from if_neg (by simp)] at HST
     go_upto_region 4 with fail
     go_region_held3 (fun w'=>w'.cell? ⟨b,o+k*2,none⟩=some (.string (nmOf l k))/\w'.cell? ⟨b2,o2+k*2,none⟩=some (.string (nmOf m k)))
      (first|exact ⟨c0,d0⟩|exact c0|exact d0|go_keep)
      (first|(go_at_call 116;refine (HT1.out _).mono ?_;rintro e w1 ⟨rfl,hw1⟩;subst hw1))
     all_goals
      have HBD:=zz HBR.out.drew;obtain ⟨q1,q3⟩:=HC2.out _ HBD.out;obtain ⟨z,hz⟩:∃z,wr.drew=z:=⟨_,rfl⟩;rw [hz] at q1 q3 HBD;clear c0 c1 d0 d1
      try rw [hz]
      clear hz
      go_upto_region 7 with fail
      go_region_held3 (fun w'=>w'.cell? ⟨b,o+k*2+1,none⟩=some (.string (vlOf l k))/\w'.cell? ⟨b2,o2+k*2+1,none⟩=some (.string (vlOf m k)))
       (first|exact ⟨q1,q3⟩|exact q1|exact q3|go_keep)
       (first|(go_at_call 116;refine (HT2.out _).mono ?_;rintro e w1 ⟨rfl,hw1⟩;subst hw1))
      all_goals
       have HBE:=zz HBD.out.drew
       by_cases h0:C2=0
       ·subst h0;rw [if_neg (by simp)] at HST
        go_wp2_with fail
        go_roundw
        case rel=>exact ⟨k+1,by omega,by omega,by go_num,by rw [<-HST.out,HE.out],HBE.out⟩
        case measure=>simp [intOf];omega
       ·have j4:(C2 !=0)=true:=bne_iff_ne.2 h0;have j5:(C2==0)=false:=beq_eq_false_iff_ne.2 h0;rw [if_pos h0] at HST;clear h0
        go_wp2_with fail
        go_ret;exact ⟨ret_int (by rw [<-HE.out,HST.out]),HBE.out⟩
    ·have j4:(C1 !=0)=true:=bne_iff_ne.2 h0;have j5:(C1==0)=false:=beq_eq_false_iff_ne.2 h0;rw [show (if C1≠0 then C1 else C2)=C1 from if_pos h0,if_pos h0] at HST;clear h0
     go_upto_region 4 with fail
     go_region_held3 (fun w'=>w'.cell? ⟨b,o+k*2,none⟩=some (.string (nmOf l k))/\w'.cell? ⟨b2,o2+k*2,none⟩=some (.string (nmOf m k)))
      (first|exact ⟨c0,d0⟩|exact c0|exact d0|go_keep)
      (first|(go_at_call 116;refine (HT1.out _).mono ?_;rintro e w1 ⟨rfl,hw1⟩;subst hw1))
     all_goals
      have HBD:=zz HBR.out.drew
      go_wp2_with fail
      go_ret;exact ⟨ret_int (by rw [<-HE.out,HST.out]),HBD.out⟩
   ·have i3:decide ((k:Int)<(m.length:Int))=false:=by simp;omega
    have i4:decide ((l.length:Int)<(m.length:Int))=false:=by simp;omega
    have i5:decide ((m.length:Int)<(l.length:Int))=true:=by simp;omega
    have HE:=zz he;have HBR:=zz hbr;have HST:=zz (ls_long l m hlt (by omega));clear he hbr
    go_wp2_with fail
    go_ret;exact ⟨ret_int (by rw [<-HE.out,HST.out]),HBR.out⟩
  ·obtain rfl:k=l.length:=by omega
   have HE:=zz he;have HBR:=zz hbr;clear he hbr;have i2:decide ((l.length:Int)<(l.length:Int))=false:=by simp
   by_cases h2:l.length<m.length
   ·have i3:decide ((l.length:Int)<(m.length:Int))=true:=by simp;omega
    have HST:=zz (ls_short l m (Nat.le_refl _) h2)
    go_wp2_with fail
    go_ret;exact ⟨ret_int (by rw [<-HE.out,HST.out]),HBR.out⟩
   ·have i3:decide ((l.length:Int)<(m.length:Int))=false:=by simp;omega
    have i5:decide ((m.length:Int)<(l.length:Int))=false:=by simp;omega
    have HST:=zz (ls_same l m (Nat.le_refl _) (by omega))
    go_wp2_with fail
    go_ret;exact ⟨ret_int (by rw [<-HE.out,HST.out]),HBR.out⟩
theorem same_ref(A B:Option Addr)(l m:List Lbl)(c d:Nat)(w:World)(hA:Lbls w A l)(hB:Lbls w B m)(hl:l.length<=100000000000000)(hm:m.length<=100000000000000):
 Calls Tryz.prog 40 #[.slice A l.length c,.slice B m.length d] w fun e w'=>e=.returned (.bool (decide (l=m)))/\Below w.heap.size w w':=by
 have hz:=cmpLs_cmp.zero l m;have HC:=zz (compare_ref A B l m c d w hA hB hl hm);generalize cmpLs l m=C at *;have hd:(C==0)=decide (l=m):=by rw [Bool.eq_iff_iff,beq_iff_eq,decide_eq_true_eq];exact hz
 clear hz hA hB;go_enter Tryz.func40,Tryz.ntmps40
 go_wp2_with (first|(go_at_call 77;refine HC.out.mono ?_;rintro e w3 ⟨rfl,hb3⟩))
 go_ret;exact ⟨rfl,hb3⟩
end Go.Proofs.YtgdmcnoogacdaaaGreatDoor
