/- In one text, written by lotify.py: IxRd1, IxRdM, IxRd2, IxRd3, IxRd4, IxOf. -/
import Derived.Test.YtgdmcnoogacdaaaGreatDoorBlLotT
namespace Go.Proofs.YtgdmcnoogacdaaaGreatDoor
open Go.RowKit Go.Maps
set_option linter.unusedVariables false
set_option maxRecDepth 100000
def numE(n e:Nat)(most:Int):Int:=if e≠0 then (e:Int) else if most<(n:Int) then 5 else 0
theorem readnum_prog(A:Option Addr)(l:List UInt8)(c a n nx e:Nat)(most:Int)(w:World)(hA:Bys w A l)(hlc:l.length<=c)(hl:l.length<=140737488355328)(ha:a<=l.length)(hg:GU l a n nx e):
 Calls Tryz.prog 156 #[.slice A l.length c,.int .i64 (a:Int),.int .i64 most] w fun e' w'=>e'=.returned (.tuple #[.int .i64 (if numE n e most=0 then (n:Int) else 0),.int .i64 (if numE n e most=0 then (nx:Int) else 0),.int .i64 (numE n e most)])/\Below w.heap.size w w':=by
 have HG:=zz (getuint_prog A l c a n nx e w hA hlc hl ha hg);clear hA hg
 by_cases he:e=0
 ·subst he
  by_cases hm:most<(n:Int)
  ·have e1:numE n 0 most=5:=by unfold numE;rw [if_neg (by omega),if_pos hm]
   have i1:decide (most<(n:Int))=true:=decide_eq_true hm;rw [e1];clear hm e1;go_enter Tryz.func156,Tryz.ntmps156
   go_wp2_with (first|(go_at_call 158;refine HG.out.mono ?_;rintro e w2 ⟨rfl,hb2⟩;have HB2:=zz hb2;clear hb2))
   go_ret3;exact ⟨rfl,HB2.out⟩
  ·have e1:numE n 0 most=0:=by unfold numE;rw [if_neg (by omega),if_neg hm]
   have i1:decide (most<(n:Int))=false:=decide_eq_false hm;rw [e1,if_pos rfl,if_pos rfl];clear hm e1;go_enter Tryz.func156,Tryz.ntmps156
   go_wp2_with (first|(go_at_call 158;refine HG.out.mono ?_;rintro e w2 ⟨rfl,hb2⟩;have HB2:=zz hb2;clear hb2))
   go_ret3;exact ⟨rfl,HB2.out⟩
 ·have e1:numE n e most=(e:Int):=if_pos he;have e2:¬(e:Int)=0:=by omega
  have j1:((e:Int) !=0)=true:=bne_iff_ne.2 e2;have j2:((e:Int)==0)=false:=beq_eq_false_iff_ne.2 e2;rw [e1,if_neg e2,if_neg e2];clear he e1 e2;go_enter Tryz.func156,Tryz.ntmps156
  go_wp2_with (first|(go_at_call 158;refine HG.out.mono ?_;rintro e w2 ⟨rfl,hb2⟩;have HB2:=zz hb2;clear hb2))
  go_ret3;exact ⟨rfl,HB2.out⟩
end Go.Proofs.YtgdmcnoogacdaaaGreatDoor

namespace Go.Proofs.YtgdmcnoogacdaaaGreatDoor
set_option linter.unusedVariables false
section
variable (G:Nat->Nat->Nat->Nat->Prop) (X:Nat->ByteArray->Nat->Nat->Prop)
inductive TsP:Nat->Nat->Option (List ByteArray × Nat)->Prop
 | done (a:Nat):TsP 0 a (some ([],a))
 | bad (n a:Nat) (s:ByteArray) (k e:Nat) (h:X a s k e) (he:e≠0):TsP (n+1) a none
 | no (n a:Nat) (s:ByteArray) (k:Nat) (h:X a s k 0) (r:TsP n k none):TsP (n+1) a none
 | more (n a:Nat) (s:ByteArray) (k:Nat) (ts:List ByteArray) (p:Nat) (h:X a s k 0) (r:TsP n k (some (ts,p))):TsP (n+1) a (some (s::ts,p))
def TxP(o:Option (List ByteArray × Nat)):Prop:=∃n k e,G 0 n k e/\(((e≠0\/4096<n)/\o=none)\/(e=0/\n<=4096/\TsP X n k o))
def StP(t:List ByteArray)(a:Nat)(o:Option (List Lbl × Nat)):Prop:=∃m k e,G a m k e/\(((e≠0\/8<m)/\o=none)\/(e=0/\m<=8/\LsO G t m k o))
inductive SsP(t:List ByteArray):Nat->Nat->Option (List (List Lbl))->Prop
 | done (a:Nat):SsP t 0 a (some [])
 | bad (n a:Nat) (h:StP G t a none):SsP t (n+1) a none
 | more (n a:Nat) (l:List Lbl) (j:Nat) (r:Option (List (List Lbl))) (h:StP G t a (some (l,j))) (h2:SsP t n j r):SsP t (n+1) a (r.map (l::·))
def IxP(o:Option (List (List Lbl))):Prop:=(TxP G X none/\o=none)\/∃t a,TxP G X (some (t,a))/\∃m j e,G a m j e/\(((e≠0\/256<m)/\o=none)\/(e=0/\m<=256/\SsP G t m j o))
variable {G X}
def glue{α:Type}(x:List α)(r:Option (List α × Nat)):Option (List α × Nat):=r.map fun p=>(x++p.1,p.2)
theorem glue_glue{α:Type}(x:List α)(y:α)(r:Option (List α × Nat)):glue x (glue [y] r)=glue (x++[y]) r:=by
 cases r with
 | none=>rfl
 | some p=>simp [glue]
theorem tsP_end{a:Nat}{r:Option (List ByteArray × Nat)}(h:TsP X 0 a r):r=some ([],a):=by
 cases h
 rfl
theorem tsP_step{n a:Nat}{r:Option (List ByteArray × Nat)}(h:TsP X (n+1) a r):∃s k e,X a s k e/\((e≠0/\r=none)\/(e=0/\∃r',TsP X n k r'/\r=glue [s] r')):=by
 cases h with
 | bad _ _ s k e h he=>exact ⟨s,k,e,h,.inl ⟨he,rfl⟩⟩
 | no _ _ s k h r=>exact ⟨s,k,0,h,.inr ⟨rfl,_,r,rfl⟩⟩
 | more _ _ s k ts p h r=>exact ⟨s,k,0,h,.inr ⟨rfl,_,r,rfl⟩⟩
theorem lsO_end{t:List ByteArray}{a:Nat}{r:Option (List Lbl × Nat)}(h:LsO G t 0 a r):r=some ([],a):=by
 cases h
 rfl
theorem lsO_step{t:List ByteArray}{n a:Nat}{r:Option (List Lbl × Nat)}(h:LsO G t (n+1) a r):∃p k e,G a p k e/\(((e≠0\/t.length<=p)/\r=none)\/(e=0/\p<t.length/\∃q j e2,G k q j e2/\(((e2≠0\/t.length<=q)/\r=none)\/(e2=0/\q<t.length/\∃r',LsO G t n j r'/\r=glue [(t.getD p ⟨#[]⟩,t.getD q ⟨#[]⟩)] r')))):=by
 have gd:∀{i:Nat} (hi:i<t.length),t.getD i ⟨#[]⟩=t[i]:=fun {i} hi=>by rw [List.getD_eq_getElem?_getD,List.getElem?_eq_getElem hi];rfl
 cases h with
 | bad1 _ _ p k e h he=>exact ⟨p,k,e,h,.inl ⟨he,rfl⟩⟩
 | bad2 _ _ p k q j e h hp h2 he=>exact ⟨p,k,0,h,.inr ⟨rfl,hp,q,j,e,h2,.inl ⟨he,rfl⟩⟩⟩
 | no _ _ p k q j h hp h2 hq r=>exact ⟨p,k,0,h,.inr ⟨rfl,hp,q,j,0,h2,.inr ⟨rfl,hq,none,r,rfl⟩⟩⟩
 | more _ _ p k q j l z h hp h2 hq r=>exact ⟨p,k,0,h,.inr ⟨rfl,hp,q,j,0,h2,.inr ⟨rfl,hq,_,r,by rw [gd hp,gd hq];rfl⟩⟩⟩
theorem ssP_end{t:List ByteArray}{a:Nat}{r:Option (List (List Lbl))}(h:SsP G t 0 a r):r=some []:=by
 cases h
 rfl
theorem ssP_step{t:List ByteArray}{n a:Nat}{r:Option (List (List Lbl))}(h:SsP G t (n+1) a r):(StP G t a none/\r=none)\/∃l j r',StP G t a (some (l,j))/\SsP G t n j r'/\r=r'.map (l::·):=by
 cases h with
 | bad _ _ h=>exact .inl ⟨h,rfl⟩
 | more _ _ l j r h h2=>exact .inr ⟨l,j,r,h,h2,rfl⟩
variable {P:Nat->Prop} (hG:∀a,P a->∃n k e,G a n k e/\(e=0->P k)) (hX:∀a,P a->∃s k e,X a s k e/\(e=0->P k))
include hX in
theorem tsP_total:∀(n a:Nat),P a->∃r,TsP X n a r/\∀ts p,r=some (ts,p)->P p:=by
 intro n
 induction n with
 | zero=>intro a ha;exact ⟨_,.done a,fun ts p e=>by cases e;exact ha⟩
 | succ n ih =>
   intro a ha;obtain ⟨s,k,e,h,hk⟩:=hX a ha
   by_cases he:e≠0
   ·exact ⟨_,.bad n a s k e h he,fun _ _ e=>by cases e⟩
   ·obtain rfl:e=0:=by omega
    obtain ⟨r,hr,hp⟩:=ih k (hk rfl)
    cases r with
    | none=>exact ⟨_,.no n a s k h hr,fun _ _ e=>by cases e⟩
    | some q=>exact ⟨_,.more n a s k q.1 q.2 h hr,fun ts p e=>by cases e;exact hp _ _ rfl⟩
include hG hX in
theorem txP_total(h0:P 0):∃o,TxP G X o/\∀ts p,o=some (ts,p)->P p:=by
 obtain ⟨n,k,e,h,hk⟩:=hG 0 h0
 by_cases he:e≠0\/4096<n
 ·exact ⟨none,⟨n,k,e,h,.inl ⟨he,rfl⟩⟩,fun _ _ e=>by cases e⟩
 ·obtain rfl:e=0:=by omega
  obtain ⟨r,hr,hp⟩:=tsP_total hX n k (hk rfl);exact ⟨r,⟨n,k,0,h,.inr ⟨rfl,by omega,hr⟩⟩,hp⟩
include hG in
theorem stP_total(t:List ByteArray)(a:Nat)(ha:P a):∃o,StP G t a o/\∀l p,o=some (l,p)->P p:=by
 obtain ⟨m,k,e,h,hk⟩:=hG a ha
 by_cases he:e≠0\/8<m
 ·exact ⟨none,⟨m,k,e,h,.inl ⟨he,rfl⟩⟩,fun _ _ e=>by cases e⟩
 ·obtain rfl:e=0:=by omega
  obtain ⟨r,hr,hp⟩:=lsO_total hG t m k (hk rfl);exact ⟨r,⟨m,k,0,h,.inr ⟨rfl,by omega,hr⟩⟩,hp⟩
include hG in
theorem ssP_total(t:List ByteArray):∀(n a:Nat),P a->∃r,SsP G t n a r:=by
 intro n
 induction n with
 | zero=>intro a ha;exact ⟨_,.done a⟩
 | succ n ih =>
   intro a ha;obtain ⟨o,h,hp⟩:=stP_total hG t a ha
   cases o with
   | none=>exact ⟨none,.bad n a h⟩
   | some z =>
     obtain ⟨r,hr⟩:=ih z.2 (hp z.1 z.2 rfl);exact ⟨_,.more n a z.1 z.2 r h hr⟩
include hG hX in
theorem ixP_total(h0:P 0):∃o,IxP G X o:=by
 obtain ⟨o,h,hp⟩:=txP_total hG hX h0
 cases o with
 | none=>exact ⟨none,.inl ⟨h,rfl⟩⟩
 | some z =>
   obtain ⟨m,j,e,h2,hj⟩:=hG z.2 (hp z.1 z.2 rfl)
   by_cases he:e≠0\/256<m
   ·exact ⟨none,.inr ⟨z.1,z.2,h,m,j,e,h2,.inl ⟨he,rfl⟩⟩⟩
   ·obtain rfl:e=0:=by omega
    obtain ⟨r,hr⟩:=ssP_total hG z.1 m j (hj rfl);exact ⟨r,.inr ⟨z.1,z.2,h,m,j,0,h2,.inr ⟨rfl,by omega,hr⟩⟩⟩
theorem ts_pr{n a:Nat}{ts:List ByteArray}{p:Nat}(h:TsO X n a (some (ts,p))):TsP X n a (some (ts,p)):=by
 generalize hr:some (ts,p)=r at h
 induction h generalizing ts p with
 | done a =>
   obtain ⟨rfl,rfl⟩:ts=[]/\p=a:=by simpa using hr
   exact .done _
 | bad n a s k e h he=>cases hr
 | no n a s k h hs r _=>cases hr
 | more n a s k us q h hs r ih =>
   obtain ⟨rfl,rfl⟩:ts=s::us/\p=q:=by simpa using hr
   exact .more _ _ _ _ _ _ h (ih rfl)
theorem ss_pr{t:List ByteArray}{n a:Nat}{ls:List (List Lbl)}{p:Nat}(h:SsO G t n a (some (ls,p))):SsP G t n a (some ls):=by
 generalize hr:some (ls,p)=r at h
 induction h generalizing ls p with
 | done a =>
   obtain ⟨rfl,rfl⟩:ls=[]/\p=a:=by simpa using hr
   exact .done _
 | bad n a m k e h he=>cases hr
 | wrong n a m k h hm r=>cases hr
 | no n a m k l j h hm r r2 _=>cases hr
 | more n a m k l j us q h hm r r2 ih =>
   obtain ⟨rfl,rfl⟩:ls=l::us/\p=q:=by simpa using hr
   exact SsP.more _ _ l j (some us) ⟨m,k,0,h,.inr ⟨rfl,hm,r⟩⟩ (ih rfl)
theorem ix_pr{ls:List (List Lbl)}(h:IxO G X (some ls)):IxP G X (some ls):=by
 cases h with
 | ok n k t a m j _ z h hn r h2 hm r2=>exact .inr ⟨t,a,⟨n,k,0,h,.inr ⟨rfl,hn,ts_pr r⟩⟩,m,j,0,h2,.inr ⟨rfl,hm,ss_pr r2⟩⟩
end
end Go.Proofs.YtgdmcnoogacdaaaGreatDoor

namespace Go.Proofs.YtgdmcnoogacdaaaGreatDoor
open Go.RowKit Go.Maps
set_option linter.unusedVariables false
set_option maxRecDepth 100000
def XO(b:List UInt8)(a:Nat)(s:ByteArray)(k e:Nat):Prop:=a<=b.length/\∃n nx e0,GU b a n nx e0/\GT b n nx e0 s k e
theorem xo_place{b:List UInt8}{a:Nat}{s:ByteArray}{k:Nat}(h:XO b a s k 0):k<=b.length:=by
 obtain ⟨_,n,nx,e0,_,h2⟩:=h;generalize he:(0:Nat)=e at h2
 cases h2 with
 | no _ h=>exact absurd he.symm h
 | big=>cases he
 | short=>cases he
 | ok h hx hs=>omega
theorem gu_all(b:List UInt8):∀a,a<=b.length->∃n k e,GU b a n k e/\(e=0->k<=b.length):=by
 intro a ha;obtain ⟨n,k,e,h⟩:=gu_total b a ha;exact ⟨n,k,e,h,fun he=>(gu_place h he).1⟩
theorem xo_all(b:List UInt8):∀a,a<=b.length->∃s k e,XO b a s k e/\(e=0->k<=b.length):=by
 intro a ha;obtain ⟨n,nx,e0,h,hx⟩:=gu_all b a ha;obtain ⟨s,k,e,h2⟩:=gt_total b n nx e0 hx;have h3:XO b a s k e:=⟨ha,n,nx,e0,h,h2⟩;exact ⟨s,k,e,h3,fun he=>by subst he;exact xo_place h3⟩
section
variable (A:Option Addr) (b:List UInt8) (c:Nat) (hbc:b.length<=c) (hbl:b.length<=140737488355328)
include hbc hbl
theorem rtext_prog(a:Nat)(s:ByteArray)(k e:Nat)(w:World)(hA:Bys w A b)(h:XO b a s k e):
 Calls Tryz.prog 193 #[.slice A b.length c,.int .i64 (a:Int)] w fun e' w'=>e'=.returned (.tuple #[.string s,.int .i64 (k:Int),.int .i64 (e:Int)])/\Below w.heap.size w w':=by
 obtain ⟨ha,n,nx,e0,h1,h2⟩:=h;exact gettext_prog A b c a n nx e0 s k e w hA hbc hbl (gu_small h1) (fun he=>(gu_place h1 he).2.1) (getuint_prog A b c a n nx e0 w hA hbc hbl ha h1) h2
theorem rnum_no(a n nx e:Nat)(most:Int)(w:World)(hA:Bys w A b)(ha:a<=b.length)(hg:GU b a n nx e)(hbad:e≠0\/most<(n:Int)):
 ∃E:Int,E≠0/\Calls Tryz.prog 156 #[.slice A b.length c,.int .i64 (a:Int),.int .i64 most] w fun e' w'=>e'=.returned (.tuple #[.int .i64 0,.int .i64 0,.int .i64 E])/\Below w.heap.size w w':=by
 have h:=readnum_prog A b c a n nx e most w hA hbc hbl ha hg;have hE:numE n e most≠0:=by
  unfold numE
  by_cases he:e≠0
  ·rw [if_pos he];omega
  ·rw [if_neg he,if_pos (hbad.resolve_left he)];decide
 rw [if_neg hE,if_neg hE] at h;exact ⟨_,hE,h⟩
theorem rnum_yes(a n nx:Nat)(most:Int)(w:World)(hA:Bys w A b)(ha:a<=b.length)(hg:GU b a n nx 0)(hm:(n:Int)<=most):
 Calls Tryz.prog 156 #[.slice A b.length c,.int .i64 (a:Int),.int .i64 most] w fun e' w'=>e'=.returned (.tuple #[.int .i64 (n:Int),.int .i64 (nx:Int),.int .i64 0])/\Below w.heap.size w w':=by
 have h:=readnum_prog A b c a n nx 0 most w hA hbc hbl ha hg;have hE:numE n 0 most=0:=by
  unfold numE;rw [if_neg (by omega),if_neg (by omega)]
 rw [hE,if_pos rfl,if_pos rfl] at h;exact h
def TsTold(b:List UInt8)(w:World)(o:Option (List ByteArray × Nat))(e:Ending)(w':World):Prop :=
 Below w.heap.size w w'/\((o=none/\∃E:Int,E≠0/\e=.returned (.tuple #[.slice none 0 0,.int .i64 0,.int .i64 E])) \/
  ∃ts p v,o=some (ts,p)/\ts.length<=4096/\p<=b.length/\e=.returned (.tuple #[v,.int .i64 ((p:Nat):Int),.int .i64 0])/\OwnTx w' w.heap.size v ts)
set_option maxHeartbeats 2000000 in
theorem rtexts_prog(o:Option (List ByteArray × Nat))(w:World)(hA:Bys w A b)(h:TxP (GU b) (XO b) o):
 Calls Tryz.prog 155 #[.slice A b.length c] w (TsTold b w o):=by
 have HA:=zz (fun x (h:Below w.heap.size w x)=>(show Bys x A b from hA.below h));obtain ⟨n,k,e,hg,h⟩:=h;rcases h with ⟨hbad,rfl⟩|⟨rfl,hn,hts⟩
 ·obtain ⟨E,hE,hc⟩:=rnum_no A b c hbc hbl 0 n k e 4096 w hA (Nat.zero_le _) hg (by omega);have HC:=zz hc;have j1:(E !=0)=true:=bne_iff_ne.2 hE;have HE:=zz hE;clear hc hE hbad hg HA hA;generalize b.length=nb at *;go_enter Tryz.func155,Tryz.ntmps155
  go_wp2_with (first|(go_at_call 156;refine HC.out.mono ?_;rintro e w2 ⟨rfl,hb2⟩;have HB2:=zz hb2;clear hb2))
  go_ret3;exact ⟨HB2.out,.inl ⟨rfl,E,HE.out,rfl⟩⟩
 ·have HC:=zz (rnum_yes A b c hbc hbl 0 n k 4096 w hA (Nat.zero_le _) hg (by omega));have HX:=zz (fun a s k e x (hb:Below w.heap.size w x) (h:XO b a s k e)=>rtext_prog A b c hbc hbl a s k e x (HA.out x hb) h);have HTS:=zz hts;have HK:=zz (gu_place hg rfl).1;have HNB:=zz hbl;clear hA HA hg hts hbc hbl;go_enter Tryz.func155,Tryz.ntmps155
  go_wp2_with (first|(go_at_call 156;refine HC.out.mono ?_;rintro e w2 ⟨rfl,hb2⟩;have HB2:=zz hb2;clear hb2))
  obtain ⟨nb,hnb⟩:∃nb,b.length=nb:=⟨_,rfl⟩;rw [hnb] at HX ⊢;have HNBE:=zz hnb;clear hnb HC
  go_loopw [8,6,20] (fun u p i wr=>∃(j:Nat) (ts:List ByteArray) (a:Nat) (r:Option (List ByteArray × Nat)),j<=n/\i=.int .i64 (j:Int)/\p=.int .i64 (a:Int)/\a<=b.length/\OwnTx wr w.heap.size u ts/\ts.length=j/\TsP (XO b) (n-j) a r/\o=glue ts r/\Below w.heap.size w wr) (fun _ _ i _=>n-(intOf i).toNat)
  case atStart=>exact ⟨0,[],k,o,Nat.zero_le _,rfl,rfl,HK.out,⟨rfl,.inl ⟨rfl,rfl⟩⟩,rfl,HTS.out,by cases o<;>rfl,HB2.out⟩
  case round =>
   obtain ⟨j,ts,a,r,hj,rfl,rfl,ha,hO,hlj,hT,hgl,hb⟩:=hrel;have HB:=zz hb
   by_cases hlt:j<n
   ·obtain ⟨m,hm⟩:∃m,n-j=m+1:=⟨n-j-1,by omega⟩;rw [hm] at hT;obtain ⟨s,k2,e2,hx,h⟩:=tsP_step hT;have HXX:=zz (HX.out a s k2 e2 wr hb hx);have i1:(j:Int)<(n:Int):=by omega
    have HO:=zz hO;rcases h with ⟨he2,rfl⟩|⟨rfl,r',hT',rfl⟩
    ·have j1:((e2:Int) !=0)=true:=bne_iff_ne.2 (by omega);have HE2:=zz (show (e2:Int)≠0 by omega);have HON:=zz (show o=none from hgl);clear hO hT hgl hb hx he2
     go_wp2_with (first|(go_at_call 193;refine HXX.out.mono ?_;rintro e w5 ⟨rfl,hb5⟩;have HB5:=zz (below_then HB.out hb5);clear hb5))
     go_ret3;exact ⟨HB5.out,.inl ⟨HON.out,_,HE2.out,rfl⟩⟩
    ·have HXP:=zz (xo_place hx);have HT2:=zz (show TsP (XO b) (n-(j+1)) k2 r' by rw [show n-(j+1)=m by omega];exact hT');have HON:=zz (show o=glue (ts++[s]) r' by rw [<-glue_glue];exact hgl);have HLJ:=zz hlj;clear hO hT hT' hgl hb hx hlj
     go_wp2_with (first
      | (go_at_call 193;refine HXX.out.mono ?_;rintro e w5 ⟨rfl,hb5⟩;have HO5:Hid (OwnTx w5 w.heap.size _ ts):=zz (rows_below HO.out hb5);have HB5:=zz (below_then HB.out hb5);clear hb5)
      | (at_builtin;refine app_t rfl (.tmp 32) (.tmp 34) rfl w.heap.size _ ts rfl HO5.out s 1 rfl (by have:=HLJ.out;omega) HB5.out.size ?_;intro v6 w6 ho6 hb6;have HO6:=zz ho6;have HB6:=zz (HB5.out.trans hb6);clear ho6 hb6))
     go_roundw
     case rel=>exact ⟨j+1,ts++[s],k2,r',hlt,by go_num,rfl,HXP.out,HO6.out,by have:=HLJ.out;simp;omega,HT2.out,HON.out,HB6.out⟩
     case measure=>simp [intOf];omega
   ·have hz:n-j=0:=by omega
    rw [hz] at hT;have hr:=tsP_end hT;subst hr;have HON:=zz (show o=some (ts,a) by rw [hgl];simp [glue]);have HO:=zz hO;have HLT:=zz (show ts.length<=4096 by omega);have HAA:=zz ha;clear hO hT hgl hb hlj ha
    go_wp2_with fail
    go_ret3;exact ⟨HB.out,.inr ⟨ts,a,_,HON.out,HLT.out,HAA.out,rfl,HO.out⟩⟩
end
section
variable (A:Option Addr) (b:List UInt8) (c:Nat) (hbc:b.length<=c) (hbl:b.length<=140737488355328) (V:Option Addr) (t:List ByteArray) (d:Nat) (ht:t.length<=4096)
include hbc hbl ht
theorem placed_no(a p k e:Nat)(w:World)(hA:Bys w A b)(hV:Tx w V t)(ha:a<=b.length)(hg:GU b a p k e)(hbad:e≠0\/t.length<=p):
 ∃E:Int,E≠0/\Calls Tryz.prog 194 #[.slice A b.length c,.int .i64 (a:Int),.slice V t.length d] w fun e' w'=>e'=.returned (.tuple #[.string ⟨#[]⟩,.int .i64 0,.int .i64 E])/\Below w.heap.size w w':=by
 obtain ⟨E,hE,hc⟩:=rnum_no A b c hbc hbl a p k e ((t.length:Int)-1) w hA ha hg (by omega);refine ⟨E,hE,?_⟩;have HC:=zz hc;have j1:(E !=0)=true:=bne_iff_ne.2 hE;have hw:IntKind.i64.wrap ((t.length:Int)-1)=(t.length:Int)-1:=IntWalk.i64_in _ (by omega);clear hc hE hbad hg hA hV;generalize b.length=nb at *;go_enter Tryz.func194,Tryz.ntmps194
 go_wp2_with (first|(go_at_call 156;refine HC.out.mono ?_;rintro e w2 ⟨rfl,hb2⟩;have HB2:=zz hb2;clear hb2))
 go_ret3;exact ⟨rfl,HB2.out⟩
theorem placed_yes(a p k:Nat)(w:World)(hA:Bys w A b)(hV:Tx w V t)(ha:a<=b.length)(hg:GU b a p k 0)(hp:p<t.length):
 Calls Tryz.prog 194 #[.slice A b.length c,.int .i64 (a:Int),.slice V t.length d] w fun e' w'=>e'=.returned (.tuple #[.string (t.getD p ⟨#[]⟩),.int .i64 (k:Int),.int .i64 0])/\Below w.heap.size w w':=by
 have HC:=zz (rnum_yes A b c hbc hbl a p k ((t.length:Int)-1) w hA ha hg (by omega));obtain ⟨b1,o1,rfl,hb1,g0⟩:=hV.at_ hp;have g1:w.cell? ⟨b1,o1+p,none⟩=some (.string (t.getD p ⟨#[]⟩)):=g0;have hw:IntKind.i64.wrap ((t.length:Int)-1)=(t.length:Int)-1:=IntWalk.i64_in _ (by omega);have i1:(p:Int)<(t.length:Int):=by omega
 clear hg hA hV g0;generalize b.length=nb at *;generalize t.getD p ⟨#[]⟩=s at *;go_enter Tryz.func194,Tryz.ntmps194
 go_wp2_with (first|(go_at_call 156;refine HC.out.mono ?_;rintro e w2 ⟨rfl,hb2⟩;have c2:=(hb2.cell (p:=⟨b1,o1+p,none⟩) hb1).trans g1;have HB2:=zz hb2;clear hb2))
 go_ret3;exact ⟨rfl,HB2.out⟩
end
theorem row_behind(w:World)(p:Addr)(u:Value)(t:TypeId)(cs:Array Value):Row ((w.setCell p u).alloc (.cells cs t)) w.heap.size t cs:=by
 have h:=Row.new (w.setCell p u) t cs;rwa [show (w.setCell p u).heap.size=w.heap.size from by simp [World.setCell]] at h
def StTold(b:List UInt8)(w:World)(o:Option (List Lbl × Nat))(e:Ending)(w':World):Prop :=
 Below w.heap.size w w'/\((o=none/\∃E:Int,E≠0/\e=.returned (.tuple #[.slice none 0 0,.int .i64 0,.int .i64 E])) \/
  ∃l p v,o=some (l,p)/\l.length<=8/\p<=b.length/\e=.returned (.tuple #[v,.int .i64 ((p:Nat):Int),.int .i64 0])/\OwnL w' w.heap.size v l)
section
variable (A:Option Addr) (b:List UInt8) (c:Nat) (hbc:b.length<=c) (hbl:b.length<=140737488355328) (V:Option Addr) (t:List ByteArray) (d:Nat) (ht:t.length<=4096)
include hbc hbl ht
set_option maxHeartbeats 4000000 in
theorem rset_prog(a0:Nat)(o:Option (List Lbl × Nat))(w:World)(hA:Bys w A b)(hV:Tx w V t)(ha0:a0<=b.length)(h:StP (GU b) t a0 o):
 Calls Tryz.prog 157 #[.slice A b.length c,.int .i64 (a0:Int),.slice V t.length d] w (StTold b w o):=by
 have HA:=zz (fun x (h:Below w.heap.size w x)=>(show Bys x A b from hA.below h));have HV:=zz (fun x (h:Below w.heap.size w x)=>(show Tx x V t from hV.below h));obtain ⟨n,k,e,hg,h⟩:=h;rcases h with ⟨hbad,rfl⟩|⟨rfl,hn,hts⟩
 ·obtain ⟨E,hE,hc⟩:=rnum_no A b c hbc hbl a0 n k e 8 w hA ha0 hg (by omega);have HC:=zz hc;have j1:(E !=0)=true:=bne_iff_ne.2 hE;have HE:=zz hE;clear hc hE hbad hg HA hA HV hV;generalize b.length=nb at *;generalize t.length=nt at *;go_enter Tryz.func157,Tryz.ntmps157
  go_wp2_with (first|(go_at_call 156;refine HC.out.mono ?_;rintro e w2 ⟨rfl,hb2⟩;have HB2:=zz hb2;clear hb2))
  go_ret3;exact ⟨HB2.out,.inl ⟨rfl,E,HE.out,rfl⟩⟩
 ·have HC:=zz (rnum_yes A b c hbc hbl a0 n k 8 w hA ha0 hg (by omega));have HPN:=zz (fun a p k e x (hb:Below w.heap.size w x) ha hg hbad=>placed_no A b c hbc hbl V t d ht a p k e x (HA.out x hb) (HV.out x hb) ha hg hbad);have HPY:=zz (fun a p k x (hb:Below w.heap.size w x) ha hg hp=>placed_yes A b c hbc hbl V t d ht a p k x (HA.out x hb) (HV.out x hb) ha hg hp);have HTS:=zz hts;have HK:=zz (gu_place hg rfl).1;clear hA HA hV HV hg hts hbc hbl ht;obtain ⟨nt,hnt⟩:∃nt,t.length=nt:=⟨_,rfl⟩;have HNT:=zz hnt;rw [hnt] at HPN HPY ⊢;clear hnt;obtain ⟨nb,hnb⟩:∃nb,b.length=nb:=⟨_,rfl⟩;rw [hnb] at HPN HPY HC HK ha0 ⊢;have HNBE:=zz hnb;clear hnb;go_enter Tryz.func157,Tryz.ntmps157
  go_wp2_with (first|(go_at_call 156;refine HC.out.mono ?_;rintro e w2 ⟨rfl,hb2⟩;have HB2:=zz hb2;clear hb2))
  clear HC
  go_loopw [11,1,24] (fun u p i wr=>∃(j:Nat) (l:List Lbl) (a:Nat) (r:Option (List Lbl × Nat)),j<=n/\i=.int .i64 (j:Int)/\p=.int .i64 (a:Int)/\a<=nb/\OwnL wr w.heap.size u l/\l.length=j/\LsO (GU b) t (n-j) a r/\o=glue l r/\Below w.heap.size w wr) (fun _ _ i _=>n-(intOf i).toNat)
  case atStart=>exact ⟨0,[],k,o,Nat.zero_le _,rfl,rfl,HK.out,ownl_nil _ _,rfl,HTS.out,by cases o<;>rfl,HB2.out⟩
  case round =>
   obtain ⟨j,l,a,r,hj,rfl,rfl,ha,hO,hlj,hT,hgl,hb⟩:=hrel;have HB:=zz hb;have HO:=zz hO
   by_cases hlt:j<n
   ·obtain ⟨m,hm⟩:∃m,n-j=m+1:=⟨n-j-1,by omega⟩;rw [hm] at hT;have i1:(j:Int)<(n:Int):=by omega
    have hRB:=Row.new wr 118 #[.string ⟨#[]⟩,.string ⟨#[]⟩];have hbA:=below_one wr (.cells #[.string ⟨#[]⟩,.string ⟨#[]⟩] 118);have HBA:=zz (below_then hb hbA);have HRB:=zz hRB;have HOA:=zz (ownl_below hO hbA);have HAA:=zz ha;obtain ⟨p1,k1,e1,hg1,h⟩:=lsO_step hT;have HHS:=zz hb.size;rw [HNT.out] at h;rcases h with ⟨hbad,rfl⟩|⟨rfl,hp1,q,k2,e2,hg2,h⟩
    ·obtain ⟨E,hE,hc⟩:=HPN.out a p1 k1 e1 _ HBA.out ha hg1 hbad;have HC1:=zz hc;have j1:(E !=0)=true:=bne_iff_ne.2 hE;have HE:=zz hE;have HON:=zz (show o=none from hgl);clear hO hT hgl hb hg1 hbad hE hc hRB hbA HPN HPY
     go_wp2_with (first|(go_at_call 194;refine HC1.out.mono ?_;rintro e w3 ⟨rfl,hb3⟩;have hr3:=HRB.out.below hb3 HRB.out.lt;have c3:=(hr3.cell 0);have f3:=hr3.frozen 0;have HB3:=zz (below_then HBA.out hb3);clear hb3 hr3))
     go_ret3;exact ⟨Below.setCell HB3.out (p:=⟨wr.heap.size,0,none⟩) HHS.out _,.inl ⟨HON.out,E,HE.out,rfl⟩⟩
    ·have HC1:=zz (HPY.out a p1 k1 _ HBA.out ha hg1 hp1);have hk1:k1<=nb:=by rw [<-HNBE.out];exact (gu_place hg1 rfl).1
     generalize t.getD p1 ⟨#[]⟩=s1 at *;have HPN2:=zz (fun x hb hbad=>HPN.out k1 q k2 e2 x hb hk1 hg2 hbad);have HPY2:=zz (fun x hb (h0:e2=0) hq=>HPY.out k1 q k2 x hb hk1 (by rw [h0] at hg2;exact hg2) hq);have HK2:=zz (fun (h0:e2=0)=>(show k2<=nb by rw [<-HNBE.out];exact (gu_place hg2 h0).1));rcases h with ⟨hbad,rfl⟩|⟨rfl,hq1,r',hT',rfl⟩
     ·have HBD:=zz hbad;have HON:=zz (show o=none from hgl);clear hO hT hgl hb hg1 hg2 hbad hRB hbA HPN HPY hk1 hp1
      go_wp2_with (first
       | (go_at_call_of 194 (Value.int IntKind.i64 (a:Int));refine HC1.out.mono ?_;rintro e w3 ⟨rfl,hb3⟩;have hr3:=HRB.out.below hb3 HRB.out.lt;have c3:=(hr3.cell 0);have f3:=hr3.frozen 0;have HR3:=zz (hr3.setAt 0 (.string s1));have HB3:=zz (Below.setCell (below_then HBA.out hb3) (p:=⟨wr.heap.size,0,none⟩) HHS.out (.string s1));clear hb3 hr3)
       | (go_at_call_of 194 (Value.int IntKind.i64 (k1:Int));obtain ⟨E,hE,hc⟩:=HPN2.out _ HB3.out HBD.out;refine hc.mono ?_;rintro e w5 ⟨rfl,hb5⟩;have j1:(E !=0)=true:=bne_iff_ne.2 hE;have HE:=zz hE;have hr5:=HR3.out.below hb5 HR3.out.lt;have c5:=(hr5.cell 1);have f5:=hr5.frozen 1;have HB5:=zz (Below.setCell (below_then HB3.out hb5) (p:=⟨wr.heap.size,1,none⟩) HHS.out (.string ⟨#[]⟩));clear hb5 hr5 hc hE))
      go_ret3;exact ⟨HB5.out,.inl ⟨HON.out,E,HE.out,rfl⟩⟩
     ·have HQ1:=zz hq1;have HPY3:=zz (fun x hb hq=>HPY2.out x hb rfl hq);have HK3:=zz (HK2.out rfl);clear HPY2 HPN2 HK2;have HT2:=zz (show LsO (GU b) t (n-(j+1)) k2 r' by rw [show n-(j+1)=m by omega];exact hT');have HON:=zz (show o=glue (l++[(s1,t.getD q ⟨#[]⟩)]) r' by rw [<-glue_glue];exact hgl);have HLJ:=zz hlj;have HN8:=zz hn;generalize t.getD q ⟨#[]⟩=s2 at *;clear hO hT hT' hgl hb hg1 hg2 hRB hbA HPN HPY hk1 hp1 hlj hq1
      go_wp2_with (first
       | (go_at_call_of 194 (Value.int IntKind.i64 (a:Int));refine HC1.out.mono ?_;rintro e w3 ⟨rfl,hb3⟩;have hr3:=HRB.out.below hb3 HRB.out.lt;have c3:=(hr3.cell 0);have f3:=hr3.frozen 0;have HR3:=zz (hr3.setAt 0 (.string s1));have HO3:=zz (show OwnL (w3.setCell ⟨wr.heap.size,0,none⟩ (.string s1)) w.heap.size _ l from rows_move (ownl_below HOA.out hb3) fun q' hq'=>Below.heap_setCell w3 ⟨wr.heap.size,0,none⟩ (.string s1) q' (by have:=(World.ownsRow.lt HO.out q' hq').2;show q'≠wr.heap.size;omega));have HB3:=zz (Below.setCell (below_then HBA.out hb3) (p:=⟨wr.heap.size,0,none⟩) HHS.out (.string s1));clear hb3 hr3)
       | (go_at_call_of 194 (Value.int IntKind.i64 (k1:Int));refine (HPY3.out _ HB3.out HQ1.out).mono ?_;rintro e w5 ⟨rfl,hb5⟩;have hr5:=HR3.out.below hb5 HR3.out.lt;have c5:=(hr5.cell 1);have f5:=hr5.frozen 1;have hr6:=hr5.setAt 1 (.string s2);have c60:=(hr6.cell 0);have c61:=(hr6.cell 1);have HO5:=zz (show OwnL (w5.setCell ⟨wr.heap.size,1,none⟩ (.string s2)) w.heap.size _ l from rows_move (ownl_below HO3.out hb5) fun q' hq'=>Below.heap_setCell w5 ⟨wr.heap.size,1,none⟩ (.string s2) q' (by have:=(World.ownsRow.lt HO.out q' hq').2;show q'≠wr.heap.size;omega));have HB5:=zz (Below.setCell (below_then HB3.out hb5) (p:=⟨wr.heap.size,1,none⟩) HHS.out (.string s2));clear hb5 hr5 hr6)
       | (at_builtin;refine app_lbls rfl (.tmp 50) (.tmp 52) rfl w.heap.size _ l rfl (ownl_below HO5.out (below_one _ _)) _ [(s1,s2)] 1 rfl (lbls_cell (row_behind _ _ _ _ _)) (by have:=HLJ.out;have:=HN8.out;simp only [List.length_cons,List.length_nil];omega) (Nat.le_trans HB5.out.size (by simp)) ?_;intro v6 w6 ho6 hb6 _;have HO6:=zz ho6;have HB6:=zz ((HB5.out.alloc HB5.out.size _).trans hb6);clear ho6 hb6))
      go_roundw
      case rel=>exact ⟨j+1,l++[(s1,s2)],k2,r',hlt,by go_num,rfl,HK3.out,HO6.out,by have:=HLJ.out;simp;omega,HT2.out,HON.out,HB6.out⟩
      case measure=>simp [intOf];omega
   ·have hz:n-j=0:=by omega
    rw [hz] at hT;have hr:=lsO_end hT;subst hr;have HON:=zz (show o=some (l,a) by rw [hgl];simp [glue]);have HLT:=zz (show l.length<=8 by omega);have HAA:=zz (show a<=b.length by rw [HNBE.out];exact ha);clear hO hT hgl hb hlj ha
    go_wp2_with fail
    go_ret3;exact ⟨HB.out,.inr ⟨l,a,_,HON.out,HLT.out,HAA.out,rfl,HO.out⟩⟩
end
def SsTold(w:World)(o:Option (List (List Lbl)))(e:Ending)(w':World):Prop :=
 Below w.heap.size w w'/\((o=none/\∃E:Int,E≠0/\e=.returned (.tuple #[.slice none 0 0,.int .i64 E])) \/
  ∃ss v,o=some ss/\ss.length<=256/\(∀l∈ss,l.length<=8)/\e=.returned (.tuple #[v,.int .i64 0])/\OwnSets w' w.heap.size v ss)
theorem map_app{x:List (List Lbl)}{y:List Lbl}{r:Option (List (List Lbl))}:(r.map (y::·)).map (x++·)=r.map ((x++[y])++·):=by
 cases r with
 | none=>rfl
 | some z=>simp
section
variable (A:Option Addr) (b:List UInt8) (c:Nat) (hbc:b.length<=c) (hbl:b.length<=140737488355328)
include hbc hbl
set_option maxHeartbeats 4000000 in
theorem rsets_prog(o:Option (List (List Lbl)))(w:World)(hA:Bys w A b)(h:IxP (GU b) (XO b) o):
 Calls Tryz.prog 121 #[.slice A b.length c] w (SsTold w o):=by
 have HA:=zz (fun x (h:Below w.heap.size w x)=>(show Bys x A b from hA.below h));rcases h with ⟨hT,rfl⟩|⟨t,a,hT,m,k,e,hg,h⟩
 ·have HC:=zz ((rtexts_prog A b c hbc hbl none w hA hT).mono fun e w' h=>(show Below w.heap.size w w'/\∃E:Int,E≠0/\e=.returned (.tuple #[.slice none 0 0,.int .i64 0,.int .i64 E]) from by
   obtain ⟨hb,⟨_,h⟩|⟨ts,p,v,h,_⟩⟩:=h
   ·exact ⟨hb,h⟩
   ·cases h))
  clear hT HA hA;generalize b.length=nb at *;go_enter Tryz.func121,Tryz.ntmps121
  go_wp2_with fail
  refine HC.out.mono ?_;rintro e w2 ⟨hb2,E,hE,rfl⟩;have j1:(E !=0)=true:=bne_iff_ne.2 hE;have HE:=zz hE;have HB2:=zz hb2;clear hb2 hE
  go_wp2_with fail
  go_ret2;exact ⟨HB2.out,.inl ⟨rfl,E,HE.out,rfl⟩⟩
 ·have HC:=zz ((rtexts_prog A b c hbc hbl (some (t,a)) w hA hT).mono fun e w' h=>(show Below w.heap.size w w'/\t.length<=4096/\a<=b.length/\∃v,e=.returned (.tuple #[v,.int .i64 (a:Int),.int .i64 0])/\OwnTx w' w.heap.size v t from by
   obtain ⟨hb,⟨h,_⟩|⟨ts,p,v,h,h1,h2,h3,h4⟩⟩:=h
   ·cases h
   ·cases h
    exact ⟨hb,h1,h2,v,h3,h4⟩))
  rcases h with ⟨hbad,rfl⟩|⟨rfl,hm,hS⟩
  ·have HN:=zz (fun x (hb:Below w.heap.size w x) ha=>rnum_no A b c hbc hbl a m k e 256 x (HA.out x hb) ha hg (by omega));clear hT HA hA hg hbad;obtain ⟨nb,hnb⟩:∃nb,b.length=nb:=⟨_,rfl⟩;rw [hnb] at HC HN ⊢;clear hnb;go_enter Tryz.func121,Tryz.ntmps121
   go_wp2_with fail
   refine HC.out.mono ?_;rintro e w2 ⟨hb2,_,ha,v,rfl,ho⟩;obtain ⟨P,d,rfl,_⟩:=rows_slice ho;obtain ⟨E,hE,hc⟩:=HN.out _ hb2 ha;have j1:(E !=0)=true:=bne_iff_ne.2 hE;have HE:=zz hE;have HB2:=zz hb2;have HCC:=zz hc;clear hb2 hE hc ho
   go_wp2_with fail
   refine HCC.out.mono ?_;rintro e w3 ⟨rfl,hb3⟩;have HB3:=zz (below_then HB2.out hb3);clear hb3
   go_wp2_with fail
   go_ret2;exact ⟨HB3.out,.inl ⟨rfl,E,HE.out,rfl⟩⟩
  ·have HN:=zz (fun x (hb:Below w.heap.size w x) ha=>rnum_yes A b c hbc hbl a m k 256 x (HA.out x hb) ha hg (by omega));have HST:=zz (fun V d (ht:t.length<=4096) a0 o x (hb:Below w.heap.size w x) (hV:Tx x V t) ha h=>rset_prog A b c hbc hbl V t d ht a0 o x (HA.out x hb) hV ha h);have HK:=zz (gu_place hg rfl).1;have HS:=zz hS;clear hT HA hA hg hS;obtain ⟨nb,hnb⟩:∃nb,b.length=nb:=⟨_,rfl⟩;have HNB:=zz hnb;rw [hnb] at HC HN HST HK ⊢;clear hnb;go_enter Tryz.func121,Tryz.ntmps121
   go_wp2_with fail
   refine HC.out.mono ?_;rintro e w2 ⟨hb2,ht,ha,v,rfl,ho⟩;obtain ⟨P,d,rfl,_⟩:=rows_slice ho;have HV:=zz (fun x (h:Below w2.heap.size w2 x)=>(owntx_tx ho).below h);have HCC:=zz (HN.out _ hb2 ha);have HST2:=zz (fun a0 o x (hb:Below w.heap.size w x) hV ha h=>HST.out P d ht a0 o x hb hV ha h);have HB2:=zz hb2;clear hb2 ho HST HN HC ht;obtain ⟨nt,hnt⟩:∃nt,t.length=nt:=⟨_,rfl⟩;rw [hnt] at HST2 ⊢;clear hnt
   go_wp2_with fail
   refine HCC.out.mono ?_;rintro e w3 ⟨rfl,hb3⟩;have HB3:=zz (below_then HB2.out hb3);have HB23:=zz hb3;clear hb3
   go_wp2_with fail
   go_loopw [8,5,30] (fun u p i wr=>∃(j:Nat) (ss:List (List Lbl)) (a:Nat) (r:Option (List (List Lbl))),j<=m/\i=.int .i64 (j:Int)/\p=.int .i64 (a:Int)/\a<=nb/\OwnSets wr w2.heap.size u ss/\ss.length=j/\(∀l∈ss,l.length<=8)/\SsP (GU b) t (m-j) a r/\o=r.map (ss++·)/\Below w.heap.size w wr/\Below w2.heap.size w2 wr) (fun _ _ i _=>m-(intOf i).toNat)
   case atStart=>exact ⟨0,[],k,o,Nat.zero_le _,rfl,rfl,by rw [<-HNB.out];rw [HNB.out];exact HK.out,ownsets_nil _ _,rfl,fun l hl=>by (cases hl),HS.out,by cases o<;>rfl,HB3.out,HB23.out⟩
   case round =>
    obtain ⟨j,ss,a,r,hj,rfl,rfl,ha,hO,hlj,h8,hT,hgl,hb,hbb⟩:=hrel;have HB:=zz hb;have HBB:=zz hbb;have HO:=zz hO
    by_cases hlt:j<m
    ·obtain ⟨q,hq⟩:∃q,m-j=q+1:=⟨m-j-1,by omega⟩;rw [hq] at hT;have i1:(j:Int)<(m:Int):=by omega
     rcases ssP_step hT with ⟨hst,rfl⟩|⟨l,k2,r',hst,hT',rfl⟩
     ·have HCS:=zz ((HST2.out a none wr hb (HV.out _ hbb) ha hst).mono fun e w' h=>(show Below wr.heap.size wr w'/\∃E:Int,E≠0/\e=.returned (.tuple #[.slice none 0 0,.int .i64 0,.int .i64 E]) from by
       obtain ⟨hb,⟨_,h⟩|⟨ts,p,v,h,_⟩⟩:=h
       ·exact ⟨hb,h⟩
       ·cases h))
      have HON:=zz (show o=none from hgl);clear hO hT hst hgl hb hbb h8
      go_wp2_with fail
      refine HCS.out.mono ?_;rintro e w4 ⟨hb4,E,hE,rfl⟩;have j1:(E !=0)=true:=bne_iff_ne.2 hE;have HE:=zz hE;have HB4:=zz (below_then HB.out hb4);clear hb4 hE
      go_wp2_with fail
      go_ret2;exact ⟨HB4.out,.inl ⟨HON.out,E,HE.out,rfl⟩⟩
     ·have HCS:=zz ((HST2.out a (some (l,k2)) wr hb (HV.out _ hbb) ha hst).mono fun e w' h=>(show Below wr.heap.size wr w'/\l.length<=8/\k2<=b.length/\∃v,e=.returned (.tuple #[v,.int .i64 (k2:Int),.int .i64 0])/\OwnL w' wr.heap.size v l from by
       obtain ⟨hb,⟨h,_⟩|⟨ts,p,v,h,h1,h2,h3,h4⟩⟩:=h
       ·cases h
       ·cases h
        exact ⟨hb,h1,h2,v,h3,h4⟩))
      have HT2:=zz (show SsP (GU b) t (m-(j+1)) k2 r' by rw [show m-(j+1)=q by omega];exact hT');have HON:=zz (show o=r'.map ((ss++[l])++·) by rw [hgl,map_app]);have HLJ:=zz hlj;have H8:=zz h8;have HM:=zz hm;clear hO hT hT' hst hgl hb hbb h8 hlj
      go_wp2_with fail
      refine HCS.out.mono ?_;rintro e w4 ⟨hb4,hl8,hk2,v4,rfl,ho4⟩;obtain ⟨P4,d4,hv4,hd4,hL4,_⟩:=ownl_slice ho4;subst hv4;have HO4:=zz (ownl_lower ho4 HBB.out.size);have HL4:=zz hL4;have HD4:=zz hd4;have HK2:=zz (show k2<=nb by rw [<-HNB.out];exact hk2);have HL8:=zz hl8;have HS4:=zz (ownsets_below HO.out hb4);have HB4:=zz (below_then HB.out hb4);have HBB4:=zz (below_then HBB.out hb4);clear hb4 hl8 hk2 ho4 hd4 hL4
      go_wp2_with (first
       | (at_builtin;refine app_set rfl (.tmp 43) (.tmp 45) rfl w2.heap.size _ ss rfl HS4.out P4 l d4 1 HO4.out HD4.out HL4.out rfl (by have:=HLJ.out;have:=HM.out;omega) HBB4.out.size ?_;intro v6 w6 ho6 hb6;have HO6:=zz ho6;have HBB6:=zz (HBB4.out.trans hb6);clear ho6 hb6))
      go_roundw
      case rel=>exact ⟨j+1,ss++[l],k2,r',hlt,by go_num,rfl,HK2.out,HO6.out,by have:=HLJ.out;simp;omega,fun y hy=>by rcases List.mem_append.1 hy with h|h;exact H8.out y h;rw [List.mem_singleton.1 h];exact HL8.out,HT2.out,HON.out,below_then HB2.out HBB6.out,HBB6.out⟩
      case measure=>simp [intOf];omega
    ·have hz:m-j=0:=by omega
     rw [hz] at hT;have hr:=ssP_end hT;subst hr;have HON:=zz (show o=some ss by rw [hgl];simp);have HLT:=zz (show ss.length<=256 by omega);have H8:=zz h8;clear hO hT hgl hb hbb hlj h8
     go_wp2_with fail
     go_ret2;exact ⟨HB.out,.inr ⟨ss,_,HON.out,HLT.out,H8.out,rfl,ownsets_lower HO.out HB2.out.size⟩⟩
end
theorem txt_inj{a b:List UInt8}(h:txt a=txt b):a=b:=by
 have:=congrArg (fun x:ByteArray=>x.data.toList) h;simpa [txt] using this
theorem equal_prog(A B:Option Addr)(l m:List UInt8)(c d:Nat)(w:World)(hA:Bys w A l)(hB:Bys w B m):
 Calls Tryz.prog 81 #[.slice A l.length c,.slice B m.length d] w fun e w'=>e=.returned (.bool (decide (l=m)))/\w'=w:=by
 have k1:=conv_bys w A l c hA;have k2:=conv_bys w B m d hB;have hq:((txt l).toList==(txt m).toList)=decide (l=m):=by
  rw [eqT]
  by_cases h:l=m
  ·rw [decide_eq_true h,h];exact decide_eq_true rfl
  ·rw [decide_eq_false h];exact decide_eq_false fun e=>h (txt_inj e)
 generalize txt l=T1 at *;generalize txt m=T2 at *;generalize decide (l=m)=q at *;clear hA hB;go_enter Tryz.func81,Tryz.ntmps81
 go_wp2_with fail
 go_ret;exact ⟨rfl,rfl⟩
def OfTold(b:List UInt8)(w:World)(o:Option (List (List Lbl)))(e:Ending)(w':World):Prop :=
 Below w.heap.size w w'/\(((∀ss,o=some ss->¬(ixChk ss=0/\ixBytes ss=b))/\e=.returned (.tuple #[.pointer none,.int .i64 5])) \/
  ∃ss X B,o=some ss/\ixChk ss=0/\ixBytes ss=b/\e=.returned (.tuple #[.pointer (some ⟨X,0,none⟩),.int .i64 0])/\w.heap.size<=B/\IdxAt w' B X ss)
section
variable (A:Option Addr) (b:List UInt8) (c:Nat) (hbc:b.length<=c) (hbl:b.length<=140737488355328)
include hbc hbl
set_option maxHeartbeats 4000000 in
theorem of_prog(o:Option (List (List Lbl)))(w:World)(hA:Bys w A b)(h:IxP (GU b) (XO b) o):
 Calls Tryz.prog 83 #[.slice A b.length c] w (OfTold b w o):=by
 have HA:=zz (fun x (h:Below w.heap.size w x)=>(show Bys x A b from hA.below h));have HC:=zz (rsets_prog A b c hbc hbl o w hA h);have HNB:=zz hbl;clear hA h hbc hbl;obtain ⟨nb,hnb⟩:∃nb,b.length=nb:=⟨_,rfl⟩;have HEQ:=zz (fun P c1 (l:List UInt8) d x (h1:Bys x P l) (h:Below w.heap.size w x)=>equal_prog P A l b c1 d x h1 (HA.out x h));rw [hnb] at HC HEQ ⊢;clear hnb;go_enter Tryz.func83,Tryz.ntmps83
 go_wp2_with fail
 refine HC.out.mono ?_;rintro e w2 ⟨hb2,⟨rfl,E,hE,rfl⟩|⟨ss,v,rfl,h256,h8,rfl,hO⟩⟩
 ·have j1:(E !=0)=true:=bne_iff_ne.2 hE;have HB2:=zz hb2;clear hb2 hE
  go_wp2_with fail
  go_ret2;exact ⟨HB2.out,.inl ⟨fun ss h=>(by cases h),rfl⟩⟩
 ·obtain ⟨P,d,rfl,hd,hS,_⟩:=ownsets_slice hO;have HB2:=zz hb2;have hll:∀i,(ss.getD i []).length<=100000000000000:=by
   intro i;rcases Nat.lt_or_ge i ss.length with h|h
   ·have:=h8 _ (ss_at h);omega
   ·rw [List.getD_eq_getElem?_getD,List.getElem?_eq_none h];exact Nat.zero_le _
  have HN:=zz (new_prog P ss d w2 hS (by omega) hll);clear hb2 hO hS hd h8 hll
  by_cases hz:ixChk ss=0
  ·have HY:=zz (fun X B x (h:IdxAt x B X ss)=>bytes_prog X ss B x h hz);have HZ:=zz hz;clear hz
   go_wp2_with fail
   refine (HN.out.mono fun e w' h=>new_yes HZ.out h).mono ?_;rintro e w3 ⟨X,rfl,hI,hb3⟩;have HI:=zz hI;have HB3:=zz (below_then HB2.out hb3);clear hI hb3 HN
   go_wp2_with fail
   refine (HY.out _ _ _ HI.out).mono ?_;rintro e w4 ⟨u,rfl,hu,hb4⟩;obtain ⟨P4,d4,rfl,hP4,_⟩:=own_slice' hu;have HI4:=zz (HI.out.below hb4);have HB4:=zz (below_then HB3.out hb4);have HP4:=zz hP4;clear hu hb4 hP4
   go_wp2_with fail
   refine (HEQ.out _ _ _ _ _ HP4.out HB4.out).mono ?_;rintro e w' ⟨rfl,rfl⟩
   by_cases hq:ixBytes ss=b
   ·rw [decide_eq_true hq]
    go_wp2_with fail
    go_ret2;exact ⟨HB4.out,.inr ⟨ss,X,w2.heap.size,rfl,HZ.out,hq,rfl,HB2.out.size,HI4.out⟩⟩
   ·rw [decide_eq_false hq]
    go_wp2_with fail
    go_ret2;exact ⟨HB4.out,.inl ⟨fun ss' h=>(by obtain rfl:=Option.some.inj h;exact fun h2=>hq h2.2),rfl⟩⟩
  ·have j1:(ixChk ss !=0)=true:=bne_iff_ne.2 hz;have HN':=zz (HN.out.mono fun e w' h=>new_no hz h);have HZ:=zz hz;clear hz HN;generalize hE:ixChk ss=E at *;have HEE:=zz hE;clear hE
   go_wp2_with fail
   refine HN'.out.mono ?_;rintro e w3 ⟨rfl,hb3⟩;have HB3:=zz (below_then HB2.out hb3);clear hb3
   go_wp2_with fail
   go_ret2;exact ⟨HB3.out,.inl ⟨fun ss' h=>(by obtain rfl:=Option.some.inj h;rw [HEE.out];exact fun h2=>HZ.out h2.1),rfl⟩⟩
end
theorem of_any(A:Option Addr)(b:List UInt8)(c:Nat)(hbc:b.length<=c)(hbl:b.length<=140737488355328)(w:World)(hA:Bys w A b):
 Calls Tryz.prog 83 #[.slice A b.length c] w fun e w'=>Below w.heap.size w w'/\(e=.returned (.tuple #[.pointer none,.int .i64 5]) \/
  ∃ss X B,ixChk ss=0/\ixBytes ss=b/\e=.returned (.tuple #[.pointer (some ⟨X,0,none⟩),.int .i64 0])/\w.heap.size<=B/\IdxAt w' B X ss):=by
 obtain ⟨o,h⟩:=ixP_total (P:=fun a=>a<=b.length) (gu_all b) (xo_all b) (Nat.zero_le _);refine (of_prog A b c hbc hbl o w hA h).mono ?_;rintro e w' ⟨hb,⟨_,h⟩|⟨ss,X,B,_,h1,h2,h3,h4,h5⟩⟩
 ·exact ⟨hb,.inl h⟩
 ·exact ⟨hb,.inr ⟨ss,X,B,h1,h2,h3,h4,h5⟩⟩
theorem gu_right(b pre more:List UInt8)(n:Nat)(hn:n<9223372036854775808)(h:pre++uintL n++more=b):GU b pre.length n (pre++uintL n).length 0:=by
 rw [<-h,List.length_append];exact gu_of pre more n hn
theorem xo_right(b pre more:List UInt8)(s:ByteArray)(hs:s.size<=65535)(h:pre++(uintL s.size++strL s)++more=b):XO b pre.length s (pre++(uintL s.size++strL s)).length 0:=by
 have h1:=gu_right b pre (strL s++more) s.size (by omega) (by rw [<-h];simp);have hl:(strL s).length=s.size:=by
  show s.data.toList.length=s.data.size
  simp
 refine ⟨by rw [<-h];simp,s.size,_,0,h1,?_⟩;have hx:(pre++uintL s.size).length<=b.length:=by
  rw [<-h];simp only [List.length_append];omega
 have h2:=GT.ok (l:=b) s.size (pre++uintL s.size).length hs hx (by rw [<-h];simp only [List.length_append,hl];omega);have e1:txt ((b.drop (pre++uintL s.size).length).take s.size)=s:=by
  rw [<-h,show pre++(uintL s.size++strL s)++more=(pre++uintL s.size)++(strL s++more) by simp,List.drop_left,<-hl,List.take_left];exact ByteArray.ext (by show (strL s).toArray=_;simp [strL])
 rw [e1,show (pre++uintL s.size).length+s.size=(pre++(uintL s.size++strL s)).length by simp only [List.length_append,hl];omega] at h2;exact h2
theorem of_right(A:Option Addr)(ss:List (List Lbl))(c:Nat)(hr:ixChk ss=0)(hbc:(ixBytes ss).length<=c)(w:World)(hA:Bys w A (ixBytes ss)):
 Calls Tryz.prog 83 #[.slice A (ixBytes ss).length c] w fun e w'=>Below w.heap.size w w' /\
  ∃X B,e=.returned (.tuple #[.pointer (some ⟨X,0,none⟩),.int .i64 0])/\w.heap.size<=B/\IdxAt w' B X ss:=by
 have h:=ix_pr (ix_back (gu_right (ixBytes ss)) (xo_right (ixBytes ss)) hr rfl);have hl:=bytes_len hr;refine (of_prog A (ixBytes ss) c hbc (by omega) (some ss) w hA h).mono ?_;rintro e w' ⟨hb,⟨h,_⟩|⟨ss',X,B,h0,h1,h2,h3,h4,h5⟩⟩
 ·exact absurd ⟨hr,rfl⟩ (h ss rfl)
 ·obtain rfl:=Option.some.inj h0;exact ⟨hb,X,B,h3,h4,h5⟩
end Go.Proofs.YtgdmcnoogacdaaaGreatDoor
