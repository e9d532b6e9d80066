/- In one text, written by lotify.py: BlDocM, BlDoc. -/
import Derived.Test.YtgdmcnoogacdaaaGreatDoorBlLotOp
import Derived.Test.YtgdmcnoogacdaaaGreatDoorBlLotCr
namespace Go.Proofs.YtgdmcnoogacdaaaGreatDoor
open Ch
set_option linter.unusedVariables false
set_option linter.unusedSimpArgs false
section
variable (b:List UInt8)
inductive PcsR:Nat->Nat->Option (List Smp × Nat)->Prop
 | done (a:Nat):PcsR 0 a (some ([],a))
 | noNum {k a n nx e:Nat} (h:GU b a n nx e) (he:e≠0\/b.length-nx<n):PcsR (k+1) a none
 | noChunk {k a n nx:Nat} (h:GU b a n nx 0) (hl:n<=b.length-nx) (hc:NoChunk ((b.drop nx).take n)):PcsR (k+1) a none
 | noMore {k a n nx:Nat} {p:List Smp} (h:GU b a n nx 0) (hl:n<=b.length-nx) (hp:chk p=0) (hc:encL p=(b.drop nx).take n) (hm:PcsR k (nx+n) none):PcsR (k+1) a none
 | more {k a n nx z:Nat} {p l:List Smp} (h:GU b a n nx 0) (hl:n<=b.length-nx) (hp:chk p=0) (hc:encL p=(b.drop nx).take n) (hm:PcsR k (nx+n) (some (l,z))):PcsR (k+1) a (some (p++l,z))
inductive SmpR:Nat->Option (List Smp × Nat)->Prop
 | no {a n nx e:Nat} (h:GU b a n nx e) (he:e≠0\/65536<n):SmpR a none
 | yes {a n nx:Nat} {o:Option (List Smp × Nat)} (h:GU b a n nx 0) (hn:n<=65536) (hm:PcsR b n nx o):SmpR a o
inductive SersR:Nat->Nat->Option (List (List Smp))->Prop
 | done (a:Nat):SersR 0 a (some [])
 | no {k a:Nat} (h:SmpR b a none):SersR (k+1) a none
 | noMore {k a z:Nat} {l:List Smp} (h:SmpR b a (some (l,z))) (hm:SersR k z none):SersR (k+1) a none
 | more {k a z:Nat} {l:List Smp} {ls:List (List Smp)} (h:SmpR b a (some (l,z))) (hm:SersR k z (some ls)):SersR (k+1) a (some (l::ls))
inductive OpenR:Option (List Ser)->Prop
 | short (h:b.length<4):OpenR none
 | noMag (h:4<=b.length) (hm:b.take 4≠magL):OpenR none
 | noPiece {n nx e:Nat} (h4:4<=b.length) (hm:b.take 4=magL) (h:GU b 4 n nx e) (he:e≠0\/b.length-nx<n):OpenR none
 | noIdx {n nx:Nat} (h4:4<=b.length) (hm:b.take 4=magL) (h:GU b 4 n nx 0) (hl:n<=b.length-nx) (hx:¬∃ss,ixChk ss=0/\ixBytes ss=(b.drop nx).take n):OpenR none
 | noSers {n nx:Nat} {ss:List (List Lbl)} (h4:4<=b.length) (hm:b.take 4=magL) (h:GU b 4 n nx 0) (hl:n<=b.length-nx) (h0:ixChk ss=0) (hx:ixBytes ss=(b.drop nx).take n) (hs:SersR b ss.length (nx+n) none):OpenR none
 | yes {n nx:Nat} {ss:List (List Lbl)} {ls:List (List Smp)} (h4:4<=b.length) (hm:b.take 4=magL) (h:GU b 4 n nx 0) (hl:n<=b.length-nx) (h0:ixChk ss=0) (hx:ixBytes ss=(b.drop nx).take n) (hs:SersR b ss.length (nx+n) (some ls)):OpenR (some (ss.zip ls))
end
theorem pcsR_total(b:List UInt8):∀(k a:Nat),a<=b.length->∃o,PcsR b k a o/\∀l z,o=some (l,z)->z<=b.length:=by
 intro k
 induction k with
 | zero=>intro a ha;exact ⟨_,.done a,fun l z h=>by cases h;exact ha⟩
 | succ k ih =>
   intro a ha;obtain ⟨n,nx,e,h⟩:=gu_total b a ha
   by_cases he:e≠0\/b.length-nx<n
   ·exact ⟨_,.noNum h he,fun l z h=>by cases h⟩
   ·obtain rfl:e=0:=Classical.byContradiction fun k=>he (.inl k)
    have hl:n<=b.length-nx:=by
     rcases Nat.lt_or_ge (b.length-nx) n with k|k
     ·exact absurd (.inr k) he
     ·exact k
    have hnx:=(gu_place h rfl).1
    by_cases hc:∃p,chk p=0/\encL p=(b.drop nx).take n
    ·obtain ⟨p,hp,hc⟩:=hc;obtain ⟨o,ho,hz⟩:=ih (nx+n) (by omega);rcases o with _|⟨l,z⟩
     ·exact ⟨_,.noMore h hl hp hc ho,fun l z h=>by cases h⟩
     ·exact ⟨_,.more h hl hp hc ho,fun l' z' h=>by cases h;exact hz l z rfl⟩
    ·exact ⟨_,.noChunk h hl fun p h1 h2=>hc ⟨p,h1,h2⟩,fun l z h=>by cases h⟩
theorem smpR_total(b:List UInt8)(a:Nat)(ha:a<=b.length):∃o,SmpR b a o/\∀l z,o=some (l,z)->z<=b.length:=by
 obtain ⟨n,nx,e,h⟩:=gu_total b a ha
 by_cases he:e≠0\/65536<n
 ·exact ⟨_,.no h he,fun l z h=>by cases h⟩
 ·obtain rfl:e=0:=Classical.byContradiction fun k=>he (.inl k)
  obtain ⟨o,ho,hz⟩:=pcsR_total b n nx (gu_place h rfl).1;exact ⟨o,.yes h (by omega) ho,hz⟩
theorem sersR_total(b:List UInt8):∀(k a:Nat),a<=b.length->∃o,SersR b k a o:=by
 intro k
 induction k with
 | zero=>intro a ha;exact ⟨_,.done a⟩
 | succ k ih =>
   intro a ha;obtain ⟨o,h,hz⟩:=smpR_total b a ha;rcases o with _|⟨l,z⟩
   ·exact ⟨_,.no h⟩
   ·obtain ⟨o,ho⟩:=ih z (hz l z rfl);rcases o with _|ls
    ·exact ⟨_,.noMore h ho⟩
    ·exact ⟨_,.more h ho⟩
theorem openR_total(b:List UInt8):∃o,OpenR b o:=by
 by_cases h4:b.length<4
 ·exact ⟨_,.short h4⟩
 have h4:4<=b.length:=by omega
 by_cases hm:b.take 4=magL
 ·obtain ⟨n,nx,e,h⟩:=gu_total b 4 h4
  by_cases he:e≠0\/b.length-nx<n
  ·exact ⟨_,.noPiece h4 hm h he⟩
  ·obtain rfl:e=0:=Classical.byContradiction fun k=>he (.inl k)
   have hl:n<=b.length-nx:=by
    rcases Nat.lt_or_ge (b.length-nx) n with k|k
    ·exact absurd (.inr k) he
    ·exact k
   have hnx:=(gu_place h rfl).1
   by_cases hx:∃ss,ixChk ss=0/\ixBytes ss=(b.drop nx).take n
   ·obtain ⟨ss,h0,hx⟩:=hx;obtain ⟨o,ho⟩:=sersR_total b ss.length (nx+n) (by omega);rcases o with _|ls
    ·exact ⟨_,.noSers h4 hm h hl h0 hx ho⟩
    ·exact ⟨_,.yes h4 hm h hl h0 hx ho⟩
   ·exact ⟨_,.noIdx h4 hm h hl hx⟩
 ·exact ⟨_,.noMag h4 hm⟩
theorem cnt_place(pre x r:List UInt8)(hx:x.length<9223372036854775808):
 GU (pre++(cntL x++r)) pre.length x.length (pre.length+(uintL x.length).length) 0/\x.length<=(pre++(cntL x++r)).length-(pre.length+(uintL x.length).length) /\
  ((pre++(cntL x++r)).drop (pre.length+(uintL x.length).length)).take x.length=x/\pre.length+(uintL x.length).length+x.length=(pre++cntL x).length:=by
 have e:pre++(cntL x++r)=pre++uintL x.length++(x++r):=by unfold cntL;simp only [List.append_assoc]
 refine ⟨by rw [e];exact gu_of pre (x++r) x.length hx,?_,?_,?_⟩
 ·unfold cntL;simp only [List.length_append];omega
 ·rw [e,<-List.length_append,List.drop_left,List.take_left]
 ·unfold cntL;simp only [List.length_append];omega
theorem pcsR_back:∀(ps:List (List Smp)) (pre r:List UInt8),(∀p∈ps,chk p=0)->PcsR (pre++(ps.flatMap pcL++r)) ps.length pre.length (some (ps.flatten,(pre++ps.flatMap pcL).length)):=by
 intro ps
 induction ps with
 | nil=>intro pre r _;simpa using PcsR.done (b:=pre++r) pre.length
 | cons p ps ih =>
   intro pre r h;have hp:=h p (by simp);have hle:=enc_few hp;obtain ⟨h1,h2,h3,h4⟩:=cnt_place pre (encL p) (ps.flatMap pcL++r) (by omega);have e1:pre++((p::ps).flatMap pcL++r)=pre++(cntL (encL p)++(ps.flatMap pcL++r)):=by
    rw [List.flatMap_cons,List.append_assoc];rfl
   have e2:pre++(cntL (encL p)++(ps.flatMap pcL++r))=(pre++cntL (encL p))++(ps.flatMap pcL++r):=by simp only [List.append_assoc]
   have hih:=ih (pre++cntL (encL p)) r fun q hq=>h q (List.mem_cons_of_mem _ hq)
   rw [<-e2,<-h4] at hih;rw [e1,List.flatten_cons,List.flatMap_cons,List.length_cons,show (pre++(pcL p++ps.flatMap pcL)).length=(pre++cntL (encL p)++ps.flatMap pcL).length by rw [List.append_assoc];rfl];exact .more h1 h2 hp h3.symm hih
theorem smpR_back{l:List Smp}(hg:Ch.Good l)(hl:l.length<=65536)(pre r:List UInt8):SmpR (pre++(serL l++r)) pre.length (some (l,(pre++serL l).length)):=by
 have hn:(pcs l).length<=65536:=by rw [pcs_len];exact Nat.le_trans (nPc_le l) hl
 have h1:=gu_of pre ((pcs l).flatMap pcL++r) (pcs l).length (by omega);have h2:=pcsR_back (pcs l) (pre++uintL (pcs l).length) r fun p hp=>pcs_chk hg hp
 have e:pre++(serL l++r)=pre++uintL (pcs l).length++((pcs l).flatMap pcL++r):=by unfold serL;simp only [List.append_assoc]
 rw [e];rw [pcs_flat,List.length_append,<-List.length_append,show (pre++uintL (pcs l).length++(pcs l).flatMap pcL).length=(pre++serL l).length by unfold serL;rw [List.append_assoc]] at h2;rw [List.length_append] at h2;exact .yes h1 hn h2
theorem sersR_back:∀(S:List Ser) (pre r:List UInt8),(∀s∈S,s.2≠[]/\Ch.Good s.2)->cntS S<=65536->SersR (pre++(S.flatMap (fun s=>serL s.2)++r)) S.length pre.length (some (S.map (·.2))):=by
 intro S
 induction S with
 | nil=>intro pre r _ _;exact .done _
 | cons s S ih =>
   intro pre r h hc;unfold cntS at hc;have e1:pre++((s::S).flatMap (fun s=>serL s.2)++r)=pre++(serL s.2++(S.flatMap (fun s=>serL s.2)++r)):=by rw [List.flatMap_cons,List.append_assoc]
   have e2:pre++(serL s.2++(S.flatMap (fun s=>serL s.2)++r))=(pre++serL s.2)++(S.flatMap (fun s=>serL s.2)++r):=by simp only [List.append_assoc]
   have h1:=smpR_back (h s (by simp)).2 (by omega) pre (S.flatMap (fun s=>serL s.2)++r);have h2:=ih (pre++serL s.2) r (fun x hx=>h x (List.mem_cons_of_mem _ hx)) (by omega);rw [<-e2] at h2;rw [e1];exact .more h1 h2
theorem openR_back{S:List Ser}(h:blChk S=0):OpenR (blL S) (some S):=by
 obtain ⟨h1,h2,h3,h4⟩:=blChk_zero.1 h;have k1:=bytes_len h3;have e:blL S=magL++(cntL (ixBytes (blSets S))++(S.flatMap (fun s=>serL s.2)++le4 (sumN (frontL S)))):=by
  unfold blL
  conv=>lhs;lhs;unfold frontL bodyL
  simp only [List.append_assoc]
 have hz:(blSets S).zip (S.map (·.2))=S:=by
  unfold blSets;clear h h1 h2 h3 h4 k1 e
  induction S with
  | nil=>rfl
  | cons s r ih=>rw [List.map_cons,List.map_cons,List.zip_cons_cons,ih]
 obtain ⟨g1,g2,g3,g4⟩:=cnt_place magL (ixBytes (blSets S)) (S.flatMap (fun s=>serL s.2)++le4 (sumN (frontL S))) (by omega);have hs:=sersR_back S (magL++cntL (ixBytes (blSets S))) (le4 (sumN (frontL S))) h4 h2;rw [show (magL++cntL (ixBytes (blSets S)))++(S.flatMap (fun s=>serL s.2)++le4 (sumN (frontL S)))=blL S by rw [e];simp only [List.append_assoc],<-g4] at hs;rw [<-e] at g1 g2 g3;have:=OpenR.yes (b:=blL S) (n:=(ixBytes (blSets S)).length) (ss:=blSets S) (ls:=S.map (·.2)) (by have:=bl_len h;unfold frontL at this;rw [List.length_append] at this;show 4<=_;omega) (by rw [e];exact List.take_left' rfl) g1 g2 h3 g3.symm (by unfold blSets at hs ⊢;rw [List.length_map];exact hs);rw [hz] at this;exact this
end Go.Proofs.YtgdmcnoogacdaaaGreatDoor

namespace Go.Proofs.YtgdmcnoogacdaaaGreatDoor
open Go.RowKit Go.Maps
open Ch
set_option linter.unusedVariables false
set_option linter.unusedSimpArgs false
set_option maxRecDepth 100000
theorem glueS_nil(o:Option (List Smp × Nat)):o=o.map fun q=>([]++q.1,q.2):=by cases o<;>rfl
theorem pcsR_end{b:List UInt8}{a:Nat}{o:Option (List Smp × Nat)}(h:PcsR b 0 a o):o=some ([],a):=by cases h;rfl
theorem pcsR_step{b:List UInt8}{k a:Nat}{o:Option (List Smp × Nat)}(h:PcsR b (k+1) a o):∃n nx e,GU b a n nx e/\(((e≠0\/b.length-nx<n)/\o=none)\/(e=0/\n<=b.length-nx/\((NoChunk ((b.drop nx).take n)/\o=none) \/
 ∃p o',chk p=0/\encL p=(b.drop nx).take n/\PcsR b k (nx+n) o'/\o=o'.map fun q=>(p++q.1,q.2)))):=by
 cases h with
 | noNum h he=>exact ⟨_,_,_,h,.inl ⟨he,rfl⟩⟩
 | noChunk h hl hc=>exact ⟨_,_,_,h,.inr ⟨rfl,hl,.inl ⟨hc,rfl⟩⟩⟩
 | noMore h hl hp hc hm=>exact ⟨_,_,_,h,.inr ⟨rfl,hl,.inr ⟨_,none,hp,hc,hm,rfl⟩⟩⟩
 | more h hl hp hc hm=>exact ⟨_,_,_,h,.inr ⟨rfl,hl,.inr ⟨_,some _,hp,hc,hm,rfl⟩⟩⟩
theorem smpR_open{b:List UInt8}{a:Nat}{o:Option (List Smp × Nat)}(h:SmpR b a o):∃n nx e,GU b a n nx e/\(((e≠0\/65536<n)/\o=none)\/(e=0/\n<=65536/\PcsR b n nx o)):=by
 cases h with
 | no h he=>exact ⟨_,_,_,h,.inl ⟨he,rfl⟩⟩
 | yes h hn hm=>exact ⟨_,_,_,h,.inr ⟨rfl,hn,hm⟩⟩
theorem fits_app{a b:List Smp}(ha:Fits a)(hb:Fits b):Fits (a++b):=by
 intro i hi;rw [List.length_append] at hi;rcases Nat.lt_or_ge i a.length with h|h
 ·have:=ha i h;rwa [show (a++b).getD i (0,0)=a.getD i (0,0) by simp [List.getD_eq_getElem?_getD,List.getElem?_append_left h]]
 ·have:=hb (i-a.length) (by omega);rwa [show (a++b).getD i (0,0)=b.getD (i-a.length) (0,0) by simp [List.getD_eq_getElem?_getD,List.getElem?_append_right h]]
theorem fits_good{l:List Smp}(h:Ch.Good l):Fits l:=by
 intro i hi;have:=good_at h hi;unfold Fit;unfold tOf vOf at this;omega
theorem pcsR_few(b:List UInt8):∀(k a:Nat) (l:List Smp) (z:Nat),a<=b.length->PcsR b k a (some (l,z))->l.length<=120*k/\Fits l/\z<=b.length:=by
 intro k
 induction k with
 | zero=>intro a l z ha h;cases pcsR_end h;exact ⟨by simp,fun i hi=>by simp at hi,ha⟩
 | succ k ih =>
   intro a l z ha h;obtain ⟨n,nx,e,hg,⟨_,h0⟩|⟨he,hl,⟨_,h0⟩|⟨p,o',hp,hc,hm,h0⟩⟩⟩:=pcsR_step h
   ·cases h0
   ·cases h0
   ·subst he;have hnx:=(gu_place hg rfl).1;rcases o' with _|⟨l',z'⟩
    ·cases h0
    ·simp only [Option.map_some,Option.some.injEq,Prod.mk.injEq] at h0;obtain ⟨rfl,rfl⟩:=h0;obtain ⟨h1,h2,h3⟩:=ih (nx+n) l' z (by omega) hm;obtain ⟨k1,k2,k3⟩:=chk_zero.1 hp;exact ⟨by rw [List.length_append];omega,fits_app (fits_good k3) h2,h3⟩
theorem ret_pc{P:Option Addr}{n n' d m:Nat}{z:Int}(hn:n'=n)(h:z=(m:Int)):Ending.returned (.tuple #[.slice P n' d,.int .i64 z,.bool true])=.returned (.tuple #[.slice P n d,.int .i64 (m:Int),.bool true]):=by rw [h,hn]
set_option maxHeartbeats 1000000 in
theorem piece12_no(A:Option Addr)(b:List UInt8)(c a n nx e:Nat)(w:World)(hA:Bys w A b)(hbl:b.length<=140737488355328)(ha:a<=b.length)(h:GU b a n nx e)(he:e≠0\/b.length-nx<n):
 Calls Tryz.prog 49 #[.slice A b.length c,.int .i64 (a:Int)] w fun e' w'=>e'=.returned (.tuple #[.slice none 0 0,.int .i64 0,.bool false])/\w'=w:=by
 have HU:=zz (getuint_ref A b c a n nx e w hA hbl ha h)
 by_cases he0:e=0
 ·subst he0;have hnx:=(gu_place h rfl).1;have hlt:=he.resolve_left fun k=>k rfl
  have q2:decide ((b.length:Int)-(nx:Int)<(n:Int))=true:=by simp;omega
  have q3:decide ((n:Int)>(b.length:Int)-(nx:Int))=true:=q2;clear hA ha h he hlt;go_enter Tryz.func49,Tryz.ntmps49
  go_wp2_with fail
  refine HU.out.mono ?_;rintro e' w1 ⟨rfl,rfl⟩
  go_wp2_with fail
  go_ret3;exact ⟨rfl,rfl⟩
 ·have q:((e:Int) !=0)=true:=by rw [bne_iff_ne];omega
  clear hA ha h he he0;go_enter Tryz.func49,Tryz.ntmps49
  go_wp2_with fail
  refine HU.out.mono ?_;rintro e' w1 ⟨rfl,rfl⟩
  go_wp2_with fail
  go_ret3;exact ⟨rfl,rfl⟩
set_option maxHeartbeats 1000000 in
theorem piece12_yes(A:Option Addr)(b:List UInt8)(c a n nx:Nat)(w:World)(hA:Bys w A b)(hbc:b.length<=c)(hbl:b.length<=140737488355328)(ha:a<=b.length)(h:GU b a n nx 0)(hl:n<=b.length-nx):
 Calls Tryz.prog 49 #[.slice A b.length c,.int .i64 (a:Int)] w fun e' w'=>(∃P d,e'=.returned (.tuple #[.slice P n d,.int .i64 ((nx+n:Nat):Int),.bool true])/\Bys w P ((b.drop nx).take n)/\n<=d)/\w'=w:=by
 have HU:=zz (getuint_ref A b c a n nx 0 w hA hbl ha h);obtain ⟨hnx,hp,_⟩:=gu_place h rfl;have q2:decide ((b.length:Int)-(nx:Int)<(n:Int))=false:=by simp;omega
 have q3:decide ((n:Int)>(b.length:Int)-(nx:Int))=false:=q2;obtain ⟨g,o,rfl,_⟩:=hA.at_ (by omega);have HBX:=zz ((hA.from nx).front n);clear hA h
 by_cases hc:c=nx
 ·have h0:n=0:=by omega
  subst hc;subst h0;have HX:=zz (show Bys w (some ⟨g,o,none⟩) ((b.drop c).take 0) by rw [List.take_zero];exact Bys.empty _ _);go_enter Tryz.func49,Tryz.ntmps49
  go_wp2_with fail
  refine HU.out.mono ?_;rintro e' w1 ⟨rfl,rfl⟩
  go_wp2_with fail
  go_ret3;exact ⟨⟨some ⟨g,o,none⟩,0,ret_pc (by omega) (by omega),HX.out,by omega⟩,rfl⟩
 ·go_enter Tryz.func49,Tryz.ntmps49
  go_wp2_with fail
  refine HU.out.mono ?_;rintro e' w1 ⟨rfl,rfl⟩
  go_wp2_with fail
  go_ret3;exact ⟨⟨some ⟨g,o+nx,none⟩,c-nx,ret_pc (by omega) (by omega),HBX.out,by omega⟩,rfl⟩
def SmpTold(w:World)(o:Option (List Smp × Nat))(e:Ending)(w':World):Prop :=
 Below w.heap.size w w'/\((o=none/\e=.returned (.tuple #[.slice none 0 0,.int .i64 0,.bool false]))\/∃l z v,o=some (l,z)/\e=.returned (.tuple #[v,.int .i64 (z:Int),.bool true])/\OwnS w' w.heap.size v l)
theorem smp_no{w w':World}{o:Option (List Smp × Nat)}(h:Below w.heap.size w w')(ho:o=none):SmpTold w o (.returned (.tuple #[.slice none 0 0,.int .i64 0,.bool false])) w':=⟨h,.inl ⟨ho,rfl⟩⟩
theorem smp_yes{w w':World}{o:Option (List Smp × Nat)}{l:List Smp}{z:Nat}{v:Value}(h:Below w.heap.size w w')(ho:o=some (l,z))(hv:OwnS w' w.heap.size v l):SmpTold w o (.returned (.tuple #[v,.int .i64 (z:Int),.bool true])) w':=⟨h,.inr ⟨l,z,v,ho,rfl,hv⟩⟩
theorem dref_any{w:World}{A:Option Addr}{b:List UInt8}{c:Nat}(hA:Bys w A b)(hl:b.length<=140737488355328):
 Calls Tryz.prog 90 #[.slice A b.length c] w fun e w'=>(∃P n d E,e=.returned (.tuple #[.slice P n d,.int .i64 E]))/\Below w.heap.size w w':=by
 refine (decode_ref_told hA hl).mono ?_;rintro e w2 ⟨⟨v,m,rfl,hO,h1,h2⟩|⟨rfl,_⟩,hb2⟩
 ·obtain ⟨P,d,hv,_⟩:=owns_slice hO;exact ⟨⟨P,_,d,0,by rw [hv]⟩,hb2⟩
 ·exact ⟨⟨none,0,0,5,rfl⟩,hb2⟩
set_option maxHeartbeats 4000000 in
theorem samples12_ref(A:Option Addr)(b:List UInt8)(c a:Nat)(w:World)(hA:Bys w A b)(hbc:b.length<=c)(hbl:b.length<=140737488355328)(ha:a<=b.length){o:Option (List Smp × Nat)}(h:SmpR b a o):
 Calls Tryz.prog 51 #[.slice A b.length c,.int .i64 (a:Int)] w (SmpTold w o):=by
 obtain ⟨n,nx,e,hg,hcase⟩:=smpR_open h;have HU:=zz (getuint_ref A b c a n nx e w hA hbl ha hg);rcases hcase with ⟨hbad,rfl⟩|⟨rfl,hn,hm⟩
 ·by_cases he0:e=0
  ·subst he0;have hlt:=hbad.resolve_left fun k=>k rfl
   have q2:decide ((65536:Int)<(n:Int))=true:=decide_eq_true (by omega);have q3:decide ((n:Int)>65536)=true:=q2;clear hA ha hg hbad hlt;go_enter Tryz.func51,Tryz.ntmps51
   go_wp2_with fail
   refine HU.out.mono ?_;rintro e' w1 ⟨rfl,rfl⟩
   go_wp2_with fail
   go_ret3;exact smp_no (Below.refl _ _) rfl
  ·have q:((e:Int) !=0)=true:=by rw [bne_iff_ne];omega
   clear hA ha hg hbad he0;go_enter Tryz.func51,Tryz.ntmps51
   go_wp2_with fail
   refine HU.out.mono ?_;rintro e' w1 ⟨rfl,rfl⟩
   go_wp2_with fail
   go_ret3;exact smp_no (Below.refl _ _) rfl
 ·have hnx:=(gu_place hg rfl).1;have q2:decide ((65536:Int)<(n:Int))=false:=decide_eq_false (by omega);have q3:decide ((n:Int)>65536)=false:=q2;have HPN:=zz (fun x (hx:Below w.heap.size w x) a n nx e ha h he=>piece12_no A b c a n nx e x (hA.below hx) hbl ha h he);have HPY:=zz (fun x (hx:Below w.heap.size w x) a n nx ha h hl=>piece12_yes A b c a n nx x (hA.below hx) hbc hbl ha h hl);have HBL:=zz hbl;clear hA ha hg h;obtain ⟨bl,hbb⟩:∃bl,b.length=bl:=⟨_,rfl⟩;have HBB:=zz hbb;rw [hbb] at HU HPN HPY hnx ⊢;clear hbb hbl;go_enter Tryz.func51,Tryz.ntmps51
  go_wp2_with fail
  refine HU.out.mono ?_;rintro e' w1 ⟨rfl,rfl⟩
  go_wp2_with fail
  go_loopw [1,9,10] (fun at_ out i wr=>∃(j aj:Nat) (acc:List Smp) (oj:Option (List Smp × Nat)),j<=n/\i=.int .i64 (j:Int)/\at_=.int .i64 (aj:Int)/\aj<=bl/\OwnS wr w.heap.size out acc/\acc.length<=120*j/\PcsR b (n-j) aj oj/\(o=oj.map fun q=>(acc++q.1,q.2))/\Below w.heap.size w wr) (fun _ _ i _=>n-(intOf i).toNat)
  case atStart=>exact ⟨0,nx,[],o,Nat.zero_le _,rfl,rfl,hnx,owns_nil _ _,by simp,hm,glueS_nil o,Below.refl _ _⟩
  case round =>
   obtain ⟨j,aj,acc,oj,hj,rfl,rfl,haj,hO,hacc,hP,ho,hbr⟩:=hrel;have HB:=zz hbr;have HON:=zz ho
   by_cases hlt:j<n
   ·have i1:decide ((j:Int)<(n:Int))=true:=decide_eq_true (by omega);have i2:(j:Int)<(n:Int):=by omega
    rw [show n-j=n-(j+1)+1 by omega] at hP;have HO:=zz hO;have HJ:=zz (show j+1<=n from hlt);have HAC:=zz hacc;obtain ⟨m,nx2,e2,hg2,⟨hbad,h0⟩|⟨rfl,hl,hrest⟩⟩:=pcsR_step hP
    ·have HP2:=zz (HPN.out wr hbr aj m nx2 e2 haj hg2 (by rw [HBB.out] at hbad;exact hbad));have HZ:=zz (show o=none by rw [ho,h0];rfl);have HD:=zz (fun x=>dref_any (w:=x) (A:=none) (b:=[]) (c:=0) (Bys.empty _ _) (by simp));clear hbr ho hO hacc hP hg2 hbad h0
     go_wp2_with fail
     refine HP2.out.mono ?_;rintro e' w2 ⟨rfl,rfl⟩
     go_wp2_with fail
     refine (show Calls Tryz.prog 90 #[.slice none 0 0] w2 _ from HD.out w2).mono ?_;rintro e' w3 ⟨⟨P3,n3,d3,E3,rfl⟩,hb3⟩;have HB3:=zz (below_then HB.out hb3);clear hb3
     go_wp2_with fail
     go_ret3;exact smp_no HB3.out HZ.out
    ·have HP2:=zz (HPY.out wr hbr aj m nx2 haj hg2 (by rw [HBB.out] at hl;exact hl));have hnx2:=(gu_place hg2 rfl).1;have hxl:((b.drop nx2).take m).length=m:=by rw [List.length_take,List.length_drop];omega
     rw [HBB.out] at hnx2 hl;have HM:=zz (show m<=140737488355328 by have:=HBL.out;rw [HBB.out] at this;omega);have HAN:=zz (show nx2+m<=bl by omega);rcases hrest with ⟨hno,h0⟩|⟨p,o',hp,hc,hm',h0⟩
     ·have HD:=zz (fun P d x (h:Bys x P ((b.drop nx2).take m))=>dref_no (c:=d) h (by rw [hxl];exact HM.out) hno);rw [hxl] at HD;have HZ:=zz (show o=none by rw [ho,h0];rfl);clear hbr ho hO hacc hP hg2 h0 hno hl hnx2 hxl
      go_wp2_with fail
      refine HP2.out.mono ?_;rintro e' w2 ⟨⟨P2,d2,rfl,hP2,hd2⟩,rfl⟩;have HP3:=zz (HD.out P2 d2 w2 hP2);clear hP2 hd2
      go_wp2_with fail
      refine HP3.out.mono ?_;rintro e' w3 ⟨rfl,hb3⟩;have HB3:=zz (below_then HB.out hb3);clear hb3
      go_wp2_with fail
      go_ret3;exact smp_no HB3.out HZ.out
     ·have HD:=zz (fun P d x (h:Bys x P ((b.drop nx2).take m))=>dref_yes (c:=d) h (by rw [hxl];exact HM.out) hp hc);rw [hxl] at HD;have HZ:=zz (show o=o'.map fun q=>((acc++p)++q.1,q.2) by rw [ho,h0,Option.map_map];congr 1;funext q;simp [List.append_assoc]);have HPL:=zz (show p.length<=120 from (chk_zero.1 hp).2.1);have HM':=zz (show PcsR b (n-(j+1)) (nx2+m) o' from hm');have HN:=zz hn;clear hbr ho hO hacc hP hg2 h0 hl hnx2 hxl hm' hp hc
      go_wp2_with fail
      refine HP2.out.mono ?_;rintro e' w2 ⟨⟨P2,d2,rfl,hP2,hd2⟩,rfl⟩;have HP3:=zz (HD.out P2 d2 w2 hP2);clear hP2 hd2;generalize nx2+m=z at *
      go_wp2_with fail
      refine HP3.out.mono ?_;rintro e' w3 ⟨v3,rfl,ho3,hb3⟩;obtain ⟨P4,c4,hv4,hc4,hS4,_⟩:=owns_slice ho3;subst hv4;have HB3:=zz (below_then HB.out hb3);have HS4:=zz hS4;have HO3:=zz (owns_below HO.out hb3);clear hb3 ho3 hc4 hS4
      go_wp2_with (at_builtin;refine app_smps rfl (.tmp 52) (.tmp 53) rfl w.heap.size _ acc rfl HO3.out P4 p c4 rfl HS4.out (by have:=HAC.out;have:=HPL.out;have:=HN.out;omega) HB3.out.size ?_;intro v7 w7 ho7 hb7 hg7;have HO7:=zz ho7;have HB7:=zz (HB3.out.trans hb7);clear ho7 hb7 hg7)
      go_roundw
      case rel=>exact ⟨j+1,z,acc++p,o',HJ.out,by go_num,rfl,HAN.out,HO7.out,by have:=HAC.out;have:=HPL.out;rw [List.length_append];omega,HM'.out,HZ.out,HB7.out⟩
      case measure=>simp [intOf];omega
   ·have hjn:n-j=0:=by omega
    rw [hjn] at hP;have h0:=pcsR_end hP;have HZ:=zz (show o=some (acc,aj) by rw [ho,h0];simp);have HO:=zz hO;have i1:decide ((j:Int)<(n:Int))=false:=decide_eq_false (by omega);have i2:¬(j:Int)<(n:Int):=by omega
    clear hbr ho hO hacc hP h0 hjn
    go_wp2_with fail
    go_ret3;exact smp_yes HB.out HZ.out HO.out
end Go.Proofs.YtgdmcnoogacdaaaGreatDoor
