/- In one text, written by lotify.py: PoCheck, PoOps, PoChosen, PoChosenBoth, PoChosenWithout, PoAll. -/
import Derived.Test.YtgdmcnoogacdaaaGreatDoorBlLotN
import Derived.Test.YtgdmcnoogacdaaaGreatDoorBlLotE
import Derived.Lib.AppendZeros
namespace Go.Proofs.YtgdmcnoogacdaaaGreatDoor
open Go.RowKit Go.Maps
set_option linter.unusedVariables false
theorem po_ret_int{a b:Int}(h:a=b):Ending.returned (.int .i64 a)=.returned (.int .i64 b):=by rw [h]
theorem po_check_prog(A:Option Addr)(l:List Int)(c:Nat)(w:World)(hA:Zi w A l)(hl:l.length<=281474976710656):
 Calls Tryz.prog 181 #[.slice A l.length c] w fun e w'=>e=.returned (.int .i64 (pchk l))/\w=w':=by
 have HA:=zz hA;clear hA
 by_cases hb:1024<l.length
 ·have i1:decide ((1024:Int)<(l.length:Int))=true:=by simp;omega
  have HE:=zz (show pchk l=3 by unfold pchk;rw [if_pos hb]);clear hb;go_enter Tryz.func181,Tryz.ntmps181
  go_wp2_with fail
  go_ret;exact ⟨po_ret_int HE.out.symm,rfl⟩
 ·have i1:decide ((1024:Int)<(l.length:Int))=false:=by simp;omega
  have HE:=zz (show pchkF (ahead l 0) (l.drop 0)=pchk l by unfold pchk;rw [if_neg hb];rfl);clear hb;go_enter Tryz.func181,Tryz.ntmps181
  go_wp2_with fail
  go_loop [10] (fun i=>∃k:Nat,k<=l.length/\i=.int .i64 (k:Int)/\pchkF (ahead l k) (l.drop k)=pchk l) (fun i=>l.length-(intOf i).toNat)
  case atStart=>exact ⟨0,Nat.zero_le _,rfl,HE.out⟩
  case round =>
   obtain ⟨k,hk,rfl,he⟩:=hrel
   by_cases hlt:k<l.length
   ·obtain ⟨b,o,rfl,hbl,g0⟩:=HA.out.at_ hlt;have i2:(k:Int)<(l.length:Int):=by omega
    by_cases h1:l.getD k 0<0\/1099511627776<l.getD k 0
    ·have HR:=zz ((pchk_arg l hlt h1).symm.trans he);generalize l.getD k 0=n at *
     by_cases h0:n<0
     ·have j1:decide (n<(0:Int))=true:=decide_eq_true h0;clear he h1 h0
      go_wp2_with fail
      go_ret;exact ⟨po_ret_int HR.out,rfl⟩
     ·have j1:decide (n<(0:Int))=false:=decide_eq_false h0;have j2:decide ((1099511627776:Int)<n)=true:=decide_eq_true (by omega);clear he h1 h0
      go_wp2_with fail
      go_ret;exact ⟨po_ret_int HR.out,rfl⟩
    ·have j1:decide (l.getD k 0<(0:Int))=false:=decide_eq_false (by omega);have j2:decide ((1099511627776:Int)<l.getD k 0)=false:=decide_eq_false (by omega)
     by_cases hk0:k=0
     ·have HN:=zz ((pchk_next l hlt h1 (.inl hk0)).symm.trans he);subst hk0;have g1:w.cell? ⟨b,o,none⟩=some (.int .i64 (l.getD 0 0)):=g0;have i3:(0:Int)<(l.length:Int):=i2;clear he h1 g0 i2;generalize l.getD 0 0=n at *
      go_wp2_with fail
      exact ⟨⟨1,by omega,by go_num,HN.out⟩,by simp [intOf];omega⟩
     ·have g1:=HA.out.cell (i:=k-1) (by omega);have i3:(1:Int)<=(k:Int):=by omega
      have i4:decide ((0:Int)<(k:Int))=true:=decide_eq_true (by omega)
      by_cases ho:l.getD k 0<=l.getD (k-1) 0
      ·have HR:=zz ((pchk_order l hlt h1 hk0 ho).symm.trans he);have j3:decide (l.getD k 0<=l.getD (k-1) 0)=true:=decide_eq_true ho;clear he h1 ho;generalize l.getD k 0=n at *;generalize l.getD (k-1) 0=m at *
       go_wp2_with fail
       go_ret;exact ⟨po_ret_int HR.out,rfl⟩
      ·have HN:=zz ((pchk_next l hlt h1 (.inr (by omega))).symm.trans he);have j3:decide (l.getD k 0<=l.getD (k-1) 0)=false:=decide_eq_false ho;clear he h1 ho;generalize l.getD k 0=n at *;generalize l.getD (k-1) 0=m at *
       go_wp2_with fail
       exact ⟨⟨k+1,by omega,by go_num,HN.out⟩,by simp [intOf];omega⟩
   ·obtain rfl:k=l.length:=by omega
    have HR:=zz ((pchk_end l).symm.trans he);clear he
    go_wp2_with fail
    go_ret;exact ⟨po_ret_int HR.out,rfl⟩
theorem ext_getD{a b:List Int}(hl:a.length=b.length)(h:∀j,j<a.length->a.getD j 0=b.getD j 0):a=b:=by
 refine List.ext_getElem hl fun i h1 h2=>?_
 have:=h i h1;rwa [getD_in a 0 h1,getD_in b 0 h2] at this
theorem po_ret_bool{a b:Bool}(h:a=b):Ending.returned (.bool a)=.returned (.bool b):=by rw [h]
set_option maxHeartbeats 1000000 in
theorem po_same_ref(A B:Option Addr)(a b:List Int)(c d:Nat)(w:World)(hA:Zi w A a)(hB:Zi w B b)(hl:a.length<=281474976710656):
 Calls Tryz.prog 47 #[.slice A a.length c,.slice B b.length d] w fun e w'=>e=.returned (.bool (decide (a=b)))/\Below w.heap.size w w':=by
 have HA:=zz hA;have HB:=zz hB;clear hA hB
 by_cases hlen:a.length=b.length
 ·have i1:((a.length:Int) !=(b.length:Int))=false:=by rw [hlen];simp
  have i0:((a.length:Int)==(b.length:Int))=true:=by rw [hlen];simp
  have HL:=zz hlen;rw [<-hlen] at i1 i0 ⊢;clear hlen;go_enter Tryz.func47,Tryz.ntmps47
  go_wp2_with fail
  go_loopw [5] (fun i wr=>∃k:Nat,k<=a.length/\i=.int .i64 (k:Int)/\(∀j,j<k->a.getD j 0=b.getD j 0)/\Below w.heap.size w wr) (fun i _=>a.length-(intOf i).toNat)
  case atStart=>exact ⟨0,Nat.zero_le _,rfl,fun j hj=>absurd hj (Nat.not_lt_zero j),Below.refl _ _⟩
  case round =>
   obtain ⟨k,hk,rfl,hs,hbr⟩:=hrel;have HBR:=zz hbr;have HS:=zz hs
   by_cases hlt:k<a.length
   ·obtain ⟨b1,o1,rfl,hb1,g0⟩:=HA.out.at_ hlt;obtain ⟨b2,o2,rfl,hb2,g1⟩:=HB.out.at_ (i:=k) (by have:=HL.out;omega);have c0:=(hbr.cell (p:=⟨b1,o1+k,none⟩) hb1).trans g0;have c1:=(hbr.cell (p:=⟨b2,o2+k,none⟩) hb2).trans g1;have i2:(k:Int)<(a.length:Int):=by omega
    clear g0 g1 hs hbr
    by_cases he:a.getD k 0=b.getD k 0
    ·have HN:=zz (show ∀j,j<k+1->a.getD j 0=b.getD j 0 from fun j hj=>by
      rcases Nat.lt_or_ge j k with h|h
      ·exact HS.out j h
      ·rw [show j=k from by omega];exact he)
     rw [<-he] at c1;clear he;generalize a.getD k 0=n at *;have j1:(n !=n)=false:=by simp
     go_upto_region 6 with fail
     go_quiet (fail)
     go_wp2_with fail
     go_roundw
     case rel=>exact ⟨k+1,by omega,by go_num,HN.out,below_drewN' HBR.out _⟩
     case measure=>simp [intOf];omega
    ·have HR:=zz (show decide (a=b)=false by
      rw [decide_eq_false_iff_not];rintro rfl;exact he rfl)
     have j1:(a.getD k 0 !=b.getD k 0)=true:=bne_iff_ne.2 he;have j2:(a.getD k 0==b.getD k 0)=false:=beq_eq_false_iff_ne.2 he;clear he;generalize a.getD k 0=n at *;generalize b.getD k 0=m at *
     go_upto_region 6 with fail
     go_quiet (fail)
     go_wp2_with fail
     go_ret;exact ⟨po_ret_bool HR.out.symm,below_drewN' HBR.out _⟩
   ·have HR:=zz (show decide (a=b)=true from decide_eq_true (ext_getD HL.out (fun j hj=>hs j (by omega))));clear hs hbr
    go_wp2_with fail
    go_ret;exact ⟨po_ret_bool HR.out.symm,HBR.out⟩
 ·have i1:((a.length:Int) !=(b.length:Int))=true:=bne_iff_ne.2 (by omega);have i0:((a.length:Int)==(b.length:Int))=false:=beq_eq_false_iff_ne.2 (by omega);have HR:=zz (show decide (a=b)=false by rw [decide_eq_false_iff_not];rintro rfl;exact hlen rfl);clear hlen;go_enter Tryz.func47,Tryz.ntmps47
  go_wp2_with fail
  go_ret;exact ⟨po_ret_bool HR.out.symm,Below.refl _ _⟩
theorem same_yes(A B:Option Addr)(a:List Int)(c d:Nat)(w:World)(hA:Zi w A a)(hB:Zi w B a)(hl:a.length<=281474976710656):
 Calls Tryz.prog 47 #[.slice A a.length c,.slice B a.length d] w fun e w'=>e=.returned (.bool true)/\Below w.heap.size w w':=by
 refine (po_same_ref A B a a c d w hA hB hl).mono ?_;rintro e w' ⟨rfl,h⟩;exact ⟨po_ret_bool (decide_eq_true rfl),h⟩
def refE(a b:List Int):Int:=if pchk a=0 then pchk b else pchk a
def lenS:Value->Nat
 | .slice _ n _=>n
 | _=>0
structure Drew(w w':World):Prop where
 heap:w'.heap=w.heap
 os:w'.os=w.os
 tape:w'.tape=w.tape
 output:w'.output=w.output
theorem Drew.refl(w:World):Drew w w:=⟨rfl,rfl,rfl,rfl⟩
theorem Drew.more{w w':World}(h:Drew w w')(q:Nat):Drew w (w'.drewN q):=⟨h.heap,h.os,h.tape,h.output⟩
theorem below_draws{B:Nat}{w wr wr':World}(h:Below B w wr)(d:Drew wr wr'):Below B w wr' :=
 ⟨d.os.trans h.os,d.tape.trans h.tape,d.output.trans h.output,by rw [d.heap];exact h.size,fun i hi=>by rw [d.heap];exact h.block i hi⟩
theorem ownz_draws{w w':World}{base:Nat}{v:Value}{l:List Int}(h:OwnZ w base v l)(d:Drew w w'):OwnZ w' base v l:=rows_move h fun _ _=>by rw [d.heap]
def ChTold(w:World)(m:List Int)(e:Ending)(w':World):Prop :=
 Below w.heap.size w w'/\((1024<m.length/\e=.returned (.tuple #[.slice none 0 0,.int .i64 3]))\/(m.length<=1024/\∃v,e=.returned (.tuple #[v,.int .i64 0])/\OwnZ w' w.heap.size v m))
def ChRel(w:World)(st:Bool->Bool->Bool)(res:List Int)(p q o:Value)(wr:World):Prop :=
 ∃(A B:Option Addr) (xa xb out:List Int) (ca cb:Nat),p=.slice A xa.length ca/\xa.length<=ca/\Zi w A xa/\q=.slice B xb.length cb/\xb.length<=cb/\Zi w B xb/\xa.length<=1024/\xb.length<=1024/\OwnZ wr w.heap.size o out/\out.length+xa.length+xb.length<=2048/\out++mergeF st xa xb=res/\Below w.heap.size w wr
theorem chosen_no(A B:Option Addr)(la lb:List Int)(ca cb:Nat)(fv:Value)(w:World)(hA:Zi w A la)(hB:Zi w B lb)(ma:la.length<=281474976710656)(mb:lb.length<=281474976710656)(he:refE la lb≠0):
 Calls Tryz.prog 137 #[.slice A la.length ca,.slice B lb.length cb,fv] w fun e w'=>e=.returned (.tuple #[.slice none 0 0,.int .i64 (refE la lb)])/\w=w':=by
 have HC:=zz (po_check_prog A la ca w hA ma);have HD:=zz (po_check_prog B lb cb w hB mb);have HE:=zz (show refE la lb=if pchk la=0 then pchk lb else pchk la from rfl);generalize refE la lb=x at *;generalize pchk la=p at *;generalize pchk lb=q at *;clear hA hB
 by_cases hp:p=0
 ·subst hp;have hX:x=q:=by rw [HE.out,if_pos rfl]
  subst hX;have j1:(x !=0)=true:=bne_iff_ne.2 he;have j2:(x==0)=false:=beq_eq_false_iff_ne.2 he;clear he;go_enter Tryz.func137,Tryz.ntmps137
  go_wp2_with fail
  refine HC.out.mono ?_;rintro e w1 ⟨rfl,rfl⟩
  go_wp2_with fail
  refine HD.out.mono ?_;rintro e w1 ⟨rfl,rfl⟩
  go_wp2_with fail
  go_ret2;exact ⟨rfl,rfl⟩
 ·have hX:x=p:=by rw [HE.out,if_neg hp]
  subst hX;have j1:(x !=0)=true:=bne_iff_ne.2 hp;have j2:(x==0)=false:=beq_eq_false_iff_ne.2 hp;clear hp he;go_enter Tryz.func137,Tryz.ntmps137
  go_wp2_with fail
  refine HC.out.mono ?_;rintro e w1 ⟨rfl,rfl⟩
  go_wp2_with fail
  go_ret2;exact ⟨rfl,rfl⟩
theorem fnBoth_tt(w:World):Calls Tryz.prog 138 #[.bool true,.bool true] w fun e w'=>e=.returned (.bool true)/\w=w':=by
 go_enter Tryz.func138,Tryz.ntmps138
 go_wp2_with fail
 go_ret;exact ⟨rfl,rfl⟩
theorem fnBoth_tf(w:World):Calls Tryz.prog 138 #[.bool true,.bool false] w fun e w'=>e=.returned (.bool false)/\w=w':=by
 go_enter Tryz.func138,Tryz.ntmps138
 go_wp2_with fail
 go_ret;exact ⟨rfl,rfl⟩
theorem fnBoth_ft(w:World):Calls Tryz.prog 138 #[.bool false,.bool true] w fun e w'=>e=.returned (.bool false)/\w=w':=by
 go_enter Tryz.func138,Tryz.ntmps138
 go_wp2_with fail
 go_ret;exact ⟨rfl,rfl⟩
set_option maxRecDepth 100000 in
set_option maxHeartbeats 2000000 in
theorem chosenBoth(A B:Option Addr)(la lb:List Int)(ca cb:Nat)(w:World)(hA:Zi w A la)(hB:Zi w B lb)(hca:la.length<=ca)(hcb:lb.length<=cb)(ea:pchk la=0)(eb:pchk lb=0):
 Calls Tryz.prog 137 #[.slice A la.length ca,.slice B lb.length cb,.func (.func 138) #[] #[]] w (ChTold w (bothL la lb)):=by
 obtain ⟨ma,_⟩:=pchk_zero.1 ea;obtain ⟨mb,_⟩:=pchk_zero.1 eb;have HC1:=zz (po_check_prog A la ca w hA (by omega));have HC2:=zz (po_check_prog B lb cb w hB (by omega));rw [ea] at HC1;rw [eb] at HC2;have HA:=zz hA;have HB:=zz hB;have HI:=zz (show []++mergeF (fun p q=>p&&q) la lb=bothL la lb from rfl);generalize bothL la lb=res at *;clear hA hB ea eb;go_enter Tryz.func137,Tryz.ntmps137
 go_wp2_with fail
 refine HC1.out.mono ?_;rintro e w1 ⟨rfl,rfl⟩
 go_wp2_with fail
 refine HC2.out.mono ?_;rintro e w1 ⟨rfl,rfl⟩
 go_wp2_with fail
 go_loopw [0,1,10] (fun p q o wr=>ChRel w (fun p q=>p&&q) res p q o wr) (fun p q _ _=>lenS p+lenS q)
 case atStart=>exact ⟨A,B,la,lb,[],ca,cb,rfl,hca,HA.out,rfl,hcb,HB.out,ma,mb,ownz_nil _ _,by simp;omega,HI.out,Below.refl _ _⟩
 case round =>
  obtain ⟨A1,B1,xa,xb,out,c1,c2,rfl,h1,hA1,rfl,h2,hB1,m1,m2,ho,hlen,hinv,hbr⟩:=hrel;have hsz:=hbr.size;have HBR:=zz hbr;have HO:=zz ho
  cases xa with
  | nil =>
    cases xb with
    | nil =>
      rw [merge_nil,List.append_nil] at hinv;subst hinv;obtain ⟨P,cc,rfl,hlc,hP,_⟩:=ownz_slice ho;clear hbr ho
      by_cases hbig:1024<out.length
      ·have q0:decide ((1024:Int)<(out.length:Int))=true:=decide_eq_true (by omega);have HBIG:=zz hbig;clear hbig
       go_wp2_with fail
       go_ret2;exact ⟨HBR.out,.inl ⟨HBIG.out,rfl⟩⟩
      ·have q0:decide ((1024:Int)<(out.length:Int))=false:=decide_eq_false (by omega);have HBIG:=zz (show out.length<=1024 by omega);clear hbig
       go_wp2_with fail
       go_ret2;exact ⟨HBR.out,.inr ⟨HBIG.out,_,rfl,HO.out⟩⟩
    | cons y tb =>
      obtain ⟨b,o,rfl,hb,g0,hB2⟩:=hB1.head;have HB2:=zz (zs_rest hB2 h2);have e0:wr.cell? ⟨b,o,none⟩=some (.int .i64 y):=(hbr.cell (p:=⟨b,o,none⟩) hb).trans g0;have HI1:=zz (show out++mergeF (fun p q=>p&&q) [] tb=res by
       rw [merge_r] at hinv;simpa [keepIf] using hinv)
      have HLEN:=zz hlen;have zb1:((tb.length:Int)+1==0)=false:=by rw [beq_eq_false_iff_ne];omega
      have zb2:(((y::tb).length:Int)==0)=false:=by rw [beq_eq_false_iff_ne];simp;omega
      clear hinv hbr ho
      go_upto_region 9 with fail
      go_quiet (fail)
      go_upto_region 10 with fail
      go_quiet (fail)
      go_upto_region 15 with fail
      go_quiet (fail)
      go_wp2_with (first
       | (go_at_call 138;refine (fnBoth_ft _).mono ?_;rintro e w2 ⟨rfl,rfl⟩))
      go_roundw
      case rel=>exact ⟨A1,_,[],tb,out,c1,_,rfl,by simp,Zi.nil _ _,rfl,by simp at h2;omega,HB2.out,by simp,by simp at m2;omega,ownz_draws HO.out (by first|exact Drew.refl _|exact (Drew.refl _).more _|exact ((Drew.refl _).more _).more _|exact (((Drew.refl _).more _).more _).more _|exact ((((Drew.refl _).more _).more _).more _).more _),by have:=HLEN.out;simp at this ⊢;omega,HI1.out,below_draws HBR.out (by first|exact Drew.refl _|exact (Drew.refl _).more _|exact ((Drew.refl _).more _).more _|exact (((Drew.refl _).more _).more _).more _|exact ((((Drew.refl _).more _).more _).more _).more _)⟩
      case measure=>first|(simp [lenS];done)|(simp [lenS];omega)
  | cons x ta =>
    cases xb with
    | nil =>
      obtain ⟨b,o,rfl,hb,g0,hA2⟩:=hA1.head;have HA2:=zz (zs_rest hA2 h1);have e0:wr.cell? ⟨b,o,none⟩=some (.int .i64 x):=(hbr.cell (p:=⟨b,o,none⟩) hb).trans g0;have HI1:=zz (show out++mergeF (fun p q=>p&&q) ta []=res by
       rw [merge_l] at hinv;simpa [keepIf] using hinv)
      have HLEN:=zz hlen;have za1:((ta.length:Int)+1==0)=false:=by rw [beq_eq_false_iff_ne];omega
      have za2:(((x::ta).length:Int)==0)=false:=by rw [beq_eq_false_iff_ne];simp;omega
      clear hinv hbr ho
      go_upto_region 9 with fail
      go_quiet (fail)
      go_upto_region 10 with fail
      go_quiet (fail)
      go_upto_region 13 with fail
      go_quiet (fail)
      go_wp2_with (first
       | (go_at_call 138;refine (fnBoth_tf _).mono ?_;rintro e w2 ⟨rfl,rfl⟩))
      go_roundw
      case rel=>exact ⟨_,B1,ta,[],out,_,c2,rfl,by simp at h1;omega,HA2.out,rfl,by simp,Zi.nil _ _,by simp at m1;omega,by simp,ownz_draws HO.out (by first|exact Drew.refl _|exact (Drew.refl _).more _|exact ((Drew.refl _).more _).more _|exact (((Drew.refl _).more _).more _).more _|exact ((((Drew.refl _).more _).more _).more _).more _),by have:=HLEN.out;simp at this ⊢;omega,HI1.out,below_draws HBR.out (by first|exact Drew.refl _|exact (Drew.refl _).more _|exact ((Drew.refl _).more _).more _|exact (((Drew.refl _).more _).more _).more _|exact ((((Drew.refl _).more _).more _).more _).more _)⟩
      case measure=>first|(simp [lenS];done)|(simp [lenS];omega)
    | cons y tb =>
      obtain ⟨b,o,rfl,hb,g0,hA2⟩:=hA1.head;obtain ⟨d,u,rfl,hd,k0,hB2⟩:=hB1.head;have e0:wr.cell? ⟨b,o,none⟩=some (.int .i64 x):=(hbr.cell (p:=⟨b,o,none⟩) hb).trans g0;have e1:wr.cell? ⟨d,u,none⟩=some (.int .i64 y):=(hbr.cell (p:=⟨d,u,none⟩) hd).trans k0;have HA2:=zz (zs_rest hA2 h1);have HB2:=zz (zs_rest hB2 h2);rcases Int.lt_trichotomy x y with hxy|hxy|hxy
      ·have q1:decide (x<=y)=true:=decide_eq_true (by omega);have q2:decide (y<=x)=false:=decide_eq_false (by omega);have HI1:=zz (show out++mergeF (fun p q=>p&&q) ta (y::tb)=res by
        rw [merge_lt _ _ _ hxy] at hinv;simpa [keepIf] using hinv)
       have HLEN:=zz hlen;clear hxy;have za1:((ta.length:Int)+1==0)=false:=by rw [beq_eq_false_iff_ne];omega
       have za2:(((x::ta).length:Int)==0)=false:=by rw [beq_eq_false_iff_ne];simp;omega
       have zb1:((tb.length:Int)+1==0)=false:=by rw [beq_eq_false_iff_ne];omega
       have zb2:(((y::tb).length:Int)==0)=false:=by rw [beq_eq_false_iff_ne];simp;omega
       clear hinv hbr ho
       go_upto_region 9 with fail
       go_quiet (fail)
       go_upto_region 10 with fail
       go_quiet (fail)
       go_upto_region 13 with fail
       go_quiet (fail)
       go_wp2_with (first
        | (go_at_call 138;refine (fnBoth_tf _).mono ?_;rintro e w2 ⟨rfl,rfl⟩))
       go_roundw
       case rel=>exact ⟨_,_,ta,(y::tb),out,_,c2,rfl,by simp at h1;omega,HA2.out,rfl,h2,hB1,by simp at m1;omega,m2,ownz_draws HO.out (by first|exact Drew.refl _|exact (Drew.refl _).more _|exact ((Drew.refl _).more _).more _|exact (((Drew.refl _).more _).more _).more _|exact ((((Drew.refl _).more _).more _).more _).more _),by have:=HLEN.out;simp at this ⊢;omega,HI1.out,below_draws HBR.out (by first|exact Drew.refl _|exact (Drew.refl _).more _|exact ((Drew.refl _).more _).more _|exact (((Drew.refl _).more _).more _).more _|exact ((((Drew.refl _).more _).more _).more _).more _)⟩
       case measure=>first|(simp [lenS];done)|(simp [lenS];omega)
      ·subst hxy;have q1:decide (x<=x)=true:=decide_eq_true (by omega);have HI1:=zz (show (out++[x])++mergeF (fun p q=>p&&q) ta tb=res by
        rw [merge_eq] at hinv;simpa [keepIf] using hinv)
       have HLEN:=zz hlen;have za1:((ta.length:Int)+1==0)=false:=by rw [beq_eq_false_iff_ne];omega
       have za2:(((x::ta).length:Int)==0)=false:=by rw [beq_eq_false_iff_ne];simp;omega
       have zb1:((tb.length:Int)+1==0)=false:=by rw [beq_eq_false_iff_ne];omega
       have zb2:(((x::tb).length:Int)==0)=false:=by rw [beq_eq_false_iff_ne];simp;omega
       clear hinv hbr ho
       go_upto_region 9 with fail
       go_quiet (fail)
       go_upto_region 10 with fail
       go_quiet (fail)
       go_upto_region 13 with fail
       go_quiet (fail)
       go_upto_region 15 with fail
       go_quiet (fail)
       go_wp2_with (first
        | (go_at_call 138;refine (fnBoth_tt _).mono ?_;rintro e w2 ⟨rfl,rfl⟩)
        | (at_builtin;refine app_zs rfl (.tmp 82) (.tmp 84) rfl w.heap.size _ out rfl (ownz_below (ownz_draws HO.out (by first|exact Drew.refl _|exact (Drew.refl _).more _|exact ((Drew.refl _).more _).more _|exact (((Drew.refl _).more _).more _).more _|exact ((((Drew.refl _).more _).more _).more _).more _)) (below_one _ _)) _ [x] 1 rfl (zs_cell (Row.new _ _ _)) (by rw [List.length_singleton];have:=HLEN.out;simp at this;omega) (Nat.le_trans hsz (by simp [World.drewN])) ?_;intro v1 w1 hown1 hb1 _;have HO1:=zz hown1;have HX1:=zz (((below_draws HBR.out (by first|exact Drew.refl _|exact (Drew.refl _).more _|exact ((Drew.refl _).more _).more _|exact (((Drew.refl _).more _).more _).more _|exact ((((Drew.refl _).more _).more _).more _).more _)).alloc (by simpa [World.drewN] using hsz) _).trans hb1);clear hown1 hb1))
       go_roundw
       case rel=>exact ⟨_,_,ta,tb,out++[x],_,_,rfl,by simp at h1;omega,HA2.out,rfl,by simp at h2;omega,HB2.out,by simp at m1;omega,by simp at m2;omega,HO1.out,by have:=HLEN.out;simp at this ⊢;omega,HI1.out,HX1.out⟩
       case measure=>first|(simp [lenS];done)|(simp [lenS];omega)
      ·have q1:decide (x<=y)=false:=decide_eq_false (by omega);have q2:decide (y<=x)=true:=decide_eq_true (by omega);have HI1:=zz (show out++mergeF (fun p q=>p&&q) (x::ta) tb=res by
        rw [merge_gt _ _ _ hxy] at hinv;simpa [keepIf] using hinv)
       have HLEN:=zz hlen;clear hxy;have za1:((ta.length:Int)+1==0)=false:=by rw [beq_eq_false_iff_ne];omega
       have za2:(((x::ta).length:Int)==0)=false:=by rw [beq_eq_false_iff_ne];simp;omega
       have zb1:((tb.length:Int)+1==0)=false:=by rw [beq_eq_false_iff_ne];omega
       have zb2:(((y::tb).length:Int)==0)=false:=by rw [beq_eq_false_iff_ne];simp;omega
       clear hinv hbr ho
       go_upto_region 9 with fail
       go_quiet (fail)
       go_upto_region 10 with fail
       go_quiet (fail)
       go_upto_region 15 with fail
       go_quiet (fail)
       go_wp2_with (first
        | (go_at_call 138;refine (fnBoth_ft _).mono ?_;rintro e w2 ⟨rfl,rfl⟩))
       go_roundw
       case rel=>exact ⟨_,_,(x::ta),tb,out,c1,_,rfl,h1,hA1,rfl,by simp at h2;omega,HB2.out,m1,by simp at m2;omega,ownz_draws HO.out (by first|exact Drew.refl _|exact (Drew.refl _).more _|exact ((Drew.refl _).more _).more _|exact (((Drew.refl _).more _).more _).more _|exact ((((Drew.refl _).more _).more _).more _).more _),by have:=HLEN.out;simp at this ⊢;omega,HI1.out,below_draws HBR.out (by first|exact Drew.refl _|exact (Drew.refl _).more _|exact ((Drew.refl _).more _).more _|exact (((Drew.refl _).more _).more _).more _|exact ((((Drew.refl _).more _).more _).more _).more _)⟩
       case measure=>first|(simp [lenS];done)|(simp [lenS];omega)
theorem both_yes(A B:Option Addr)(la lb:List Int)(ca cb:Nat)(w:World)(hA:Zi w A la)(hB:Zi w B lb)(hca:la.length<=ca)(hcb:lb.length<=cb)(ea:pchk la=0)(eb:pchk lb=0):
 Calls Tryz.prog 97 #[.slice A la.length ca,.slice B lb.length cb] w (ChTold w (bothL la lb)):=by
 have HC:=zz (chosenBoth A B la lb ca cb w hA hB hca hcb ea eb);generalize bothL la lb=res at *;clear hA hB ea eb;go_enter Tryz.func97,Tryz.ntmps97
 go_wp2_with fail
 refine HC.out.mono ?_;rintro e w1 ⟨hb1,⟨hl,rfl⟩|⟨hl,v,rfl,hv⟩⟩
 ·go_wp2_with fail
  go_ret2;exact ⟨hb1,.inl ⟨hl,rfl⟩⟩
 ·go_wp2_with fail
  go_ret2;exact ⟨hb1,.inr ⟨hl,v,rfl,hv⟩⟩
theorem both_no(A B:Option Addr)(la lb:List Int)(ca cb:Nat)(w:World)(hA:Zi w A la)(hB:Zi w B lb)(ma:la.length<=281474976710656)(mb:lb.length<=281474976710656)(he:refE la lb≠0):
 Calls Tryz.prog 97 #[.slice A la.length ca,.slice B lb.length cb] w fun e w'=>e=.returned (.tuple #[.slice none 0 0,.int .i64 (refE la lb)])/\w=w':=by
 have HC:=zz (chosen_no A B la lb ca cb (.func (.func 138) #[] #[]) w hA hB ma mb he);generalize refE la lb=x at *;clear hA hB he;go_enter Tryz.func97,Tryz.ntmps97
 go_wp2_with fail
 refine HC.out.mono ?_;rintro e w1 ⟨rfl,rfl⟩
 go_wp2_with fail
 go_ret2;exact ⟨rfl,rfl⟩
theorem fnWithout_tt(w:World):Calls Tryz.prog 180 #[.bool true,.bool true] w fun e w'=>e=.returned (.bool false)/\w=w':=by
 go_enter Tryz.func180,Tryz.ntmps180
 go_wp2_with fail
 go_ret;exact ⟨rfl,rfl⟩
theorem fnWithout_tf(w:World):Calls Tryz.prog 180 #[.bool true,.bool false] w fun e w'=>e=.returned (.bool true)/\w=w':=by
 go_enter Tryz.func180,Tryz.ntmps180
 go_wp2_with fail
 go_ret;exact ⟨rfl,rfl⟩
theorem fnWithout_ft(w:World):Calls Tryz.prog 180 #[.bool false,.bool true] w fun e w'=>e=.returned (.bool false)/\w=w':=by
 go_enter Tryz.func180,Tryz.ntmps180
 go_wp2_with fail
 go_ret;exact ⟨rfl,rfl⟩
set_option maxRecDepth 100000 in
set_option maxHeartbeats 2000000 in
theorem chosenWithout(A B:Option Addr)(la lb:List Int)(ca cb:Nat)(w:World)(hA:Zi w A la)(hB:Zi w B lb)(hca:la.length<=ca)(hcb:lb.length<=cb)(ea:pchk la=0)(eb:pchk lb=0):
 Calls Tryz.prog 137 #[.slice A la.length ca,.slice B lb.length cb,.func (.func 180) #[] #[]] w (ChTold w (lessL la lb)):=by
 obtain ⟨ma,_⟩:=pchk_zero.1 ea;obtain ⟨mb,_⟩:=pchk_zero.1 eb;have HC1:=zz (po_check_prog A la ca w hA (by omega));have HC2:=zz (po_check_prog B lb cb w hB (by omega));rw [ea] at HC1;rw [eb] at HC2;have HA:=zz hA;have HB:=zz hB;have HI:=zz (show []++mergeF (fun p q=>p&&!q) la lb=lessL la lb from rfl);generalize lessL la lb=res at *;clear hA hB ea eb;go_enter Tryz.func137,Tryz.ntmps137
 go_wp2_with fail
 refine HC1.out.mono ?_;rintro e w1 ⟨rfl,rfl⟩
 go_wp2_with fail
 refine HC2.out.mono ?_;rintro e w1 ⟨rfl,rfl⟩
 go_wp2_with fail
 go_loopw [0,1,10] (fun p q o wr=>ChRel w (fun p q=>p&&!q) res p q o wr) (fun p q _ _=>lenS p+lenS q)
 case atStart=>exact ⟨A,B,la,lb,[],ca,cb,rfl,hca,HA.out,rfl,hcb,HB.out,ma,mb,ownz_nil _ _,by simp;omega,HI.out,Below.refl _ _⟩
 case round =>
  obtain ⟨A1,B1,xa,xb,out,c1,c2,rfl,h1,hA1,rfl,h2,hB1,m1,m2,ho,hlen,hinv,hbr⟩:=hrel;have hsz:=hbr.size;have HBR:=zz hbr;have HO:=zz ho
  cases xa with
  | nil =>
    cases xb with
    | nil =>
      rw [merge_nil,List.append_nil] at hinv;subst hinv;obtain ⟨P,cc,rfl,hlc,hP,_⟩:=ownz_slice ho;clear hbr ho
      by_cases hbig:1024<out.length
      ·have q0:decide ((1024:Int)<(out.length:Int))=true:=decide_eq_true (by omega);have HBIG:=zz hbig;clear hbig
       go_wp2_with fail
       go_ret2;exact ⟨HBR.out,.inl ⟨HBIG.out,rfl⟩⟩
      ·have q0:decide ((1024:Int)<(out.length:Int))=false:=decide_eq_false (by omega);have HBIG:=zz (show out.length<=1024 by omega);clear hbig
       go_wp2_with fail
       go_ret2;exact ⟨HBR.out,.inr ⟨HBIG.out,_,rfl,HO.out⟩⟩
    | cons y tb =>
      obtain ⟨b,o,rfl,hb,g0,hB2⟩:=hB1.head;have HB2:=zz (zs_rest hB2 h2);have e0:wr.cell? ⟨b,o,none⟩=some (.int .i64 y):=(hbr.cell (p:=⟨b,o,none⟩) hb).trans g0;have HI1:=zz (show out++mergeF (fun p q=>p&&!q) [] tb=res by
       rw [merge_r] at hinv;simpa [keepIf] using hinv)
      have HLEN:=zz hlen;have zb1:((tb.length:Int)+1==0)=false:=by rw [beq_eq_false_iff_ne];omega
      have zb2:(((y::tb).length:Int)==0)=false:=by rw [beq_eq_false_iff_ne];simp;omega
      clear hinv hbr ho
      go_upto_region 9 with fail
      go_quiet (fail)
      go_upto_region 10 with fail
      go_quiet (fail)
      go_upto_region 15 with fail
      go_quiet (fail)
      go_wp2_with (first
       | (go_at_call 180;refine (fnWithout_ft _).mono ?_;rintro e w2 ⟨rfl,rfl⟩))
      go_roundw
      case rel=>exact ⟨A1,_,[],tb,out,c1,_,rfl,by simp,Zi.nil _ _,rfl,by simp at h2;omega,HB2.out,by simp,by simp at m2;omega,ownz_draws HO.out (by first|exact Drew.refl _|exact (Drew.refl _).more _|exact ((Drew.refl _).more _).more _|exact (((Drew.refl _).more _).more _).more _|exact ((((Drew.refl _).more _).more _).more _).more _),by have:=HLEN.out;simp at this ⊢;omega,HI1.out,below_draws HBR.out (by first|exact Drew.refl _|exact (Drew.refl _).more _|exact ((Drew.refl _).more _).more _|exact (((Drew.refl _).more _).more _).more _|exact ((((Drew.refl _).more _).more _).more _).more _)⟩
      case measure=>first|(simp [lenS];done)|(simp [lenS];omega)
  | cons x ta =>
    cases xb with
    | nil =>
      obtain ⟨b,o,rfl,hb,g0,hA2⟩:=hA1.head;have HA2:=zz (zs_rest hA2 h1);have e0:wr.cell? ⟨b,o,none⟩=some (.int .i64 x):=(hbr.cell (p:=⟨b,o,none⟩) hb).trans g0;have HI1:=zz (show (out++[x])++mergeF (fun p q=>p&&!q) ta []=res by
       rw [merge_l] at hinv;simpa [keepIf] using hinv)
      have HLEN:=zz hlen;have za1:((ta.length:Int)+1==0)=false:=by rw [beq_eq_false_iff_ne];omega
      have za2:(((x::ta).length:Int)==0)=false:=by rw [beq_eq_false_iff_ne];simp;omega
      clear hinv hbr ho
      go_upto_region 9 with fail
      go_quiet (fail)
      go_upto_region 10 with fail
      go_quiet (fail)
      go_upto_region 13 with fail
      go_quiet (fail)
      go_wp2_with (first
       | (go_at_call 180;refine (fnWithout_tf _).mono ?_;rintro e w2 ⟨rfl,rfl⟩)
       | (at_builtin;refine app_zs rfl (.tmp 82) (.tmp 84) rfl w.heap.size _ out rfl (ownz_below (ownz_draws HO.out (by first|exact Drew.refl _|exact (Drew.refl _).more _|exact ((Drew.refl _).more _).more _|exact (((Drew.refl _).more _).more _).more _|exact ((((Drew.refl _).more _).more _).more _).more _)) (below_one _ _)) _ [x] 1 rfl (zs_cell (Row.new _ _ _)) (by rw [List.length_singleton];have:=HLEN.out;simp at this;omega) (Nat.le_trans hsz (by simp [World.drewN])) ?_;intro v1 w1 hown1 hb1 _;have HO1:=zz hown1;have HX1:=zz (((below_draws HBR.out (by first|exact Drew.refl _|exact (Drew.refl _).more _|exact ((Drew.refl _).more _).more _|exact (((Drew.refl _).more _).more _).more _|exact ((((Drew.refl _).more _).more _).more _).more _)).alloc (by simpa [World.drewN] using hsz) _).trans hb1);clear hown1 hb1))
      go_roundw
      case rel=>exact ⟨_,B1,ta,[],out++[x],_,c2,rfl,by simp at h1;omega,HA2.out,rfl,by simp,Zi.nil _ _,by simp at m1;omega,by simp,HO1.out,by have:=HLEN.out;simp at this ⊢;omega,HI1.out,HX1.out⟩
      case measure=>first|(simp [lenS];done)|(simp [lenS];omega)
    | cons y tb =>
      obtain ⟨b,o,rfl,hb,g0,hA2⟩:=hA1.head;obtain ⟨d,u,rfl,hd,k0,hB2⟩:=hB1.head;have e0:wr.cell? ⟨b,o,none⟩=some (.int .i64 x):=(hbr.cell (p:=⟨b,o,none⟩) hb).trans g0;have e1:wr.cell? ⟨d,u,none⟩=some (.int .i64 y):=(hbr.cell (p:=⟨d,u,none⟩) hd).trans k0;have HA2:=zz (zs_rest hA2 h1);have HB2:=zz (zs_rest hB2 h2);rcases Int.lt_trichotomy x y with hxy|hxy|hxy
      ·have q1:decide (x<=y)=true:=decide_eq_true (by omega);have q2:decide (y<=x)=false:=decide_eq_false (by omega);have HI1:=zz (show (out++[x])++mergeF (fun p q=>p&&!q) ta (y::tb)=res by
        rw [merge_lt _ _ _ hxy] at hinv;simpa [keepIf] using hinv)
       have HLEN:=zz hlen;clear hxy;have za1:((ta.length:Int)+1==0)=false:=by rw [beq_eq_false_iff_ne];omega
       have za2:(((x::ta).length:Int)==0)=false:=by rw [beq_eq_false_iff_ne];simp;omega
       have zb1:((tb.length:Int)+1==0)=false:=by rw [beq_eq_false_iff_ne];omega
       have zb2:(((y::tb).length:Int)==0)=false:=by rw [beq_eq_false_iff_ne];simp;omega
       clear hinv hbr ho
       go_upto_region 9 with fail
       go_quiet (fail)
       go_upto_region 10 with fail
       go_quiet (fail)
       go_upto_region 13 with fail
       go_quiet (fail)
       go_wp2_with (first
        | (go_at_call 180;refine (fnWithout_tf _).mono ?_;rintro e w2 ⟨rfl,rfl⟩)
        | (at_builtin;refine app_zs rfl (.tmp 82) (.tmp 84) rfl w.heap.size _ out rfl (ownz_below (ownz_draws HO.out (by first|exact Drew.refl _|exact (Drew.refl _).more _|exact ((Drew.refl _).more _).more _|exact (((Drew.refl _).more _).more _).more _|exact ((((Drew.refl _).more _).more _).more _).more _)) (below_one _ _)) _ [x] 1 rfl (zs_cell (Row.new _ _ _)) (by rw [List.length_singleton];have:=HLEN.out;simp at this;omega) (Nat.le_trans hsz (by simp [World.drewN])) ?_;intro v1 w1 hown1 hb1 _;have HO1:=zz hown1;have HX1:=zz (((below_draws HBR.out (by first|exact Drew.refl _|exact (Drew.refl _).more _|exact ((Drew.refl _).more _).more _|exact (((Drew.refl _).more _).more _).more _|exact ((((Drew.refl _).more _).more _).more _).more _)).alloc (by simpa [World.drewN] using hsz) _).trans hb1);clear hown1 hb1))
       go_roundw
       case rel=>exact ⟨_,_,ta,(y::tb),out++[x],_,c2,rfl,by simp at h1;omega,HA2.out,rfl,h2,hB1,by simp at m1;omega,m2,HO1.out,by have:=HLEN.out;simp at this ⊢;omega,HI1.out,HX1.out⟩
       case measure=>first|(simp [lenS];done)|(simp [lenS];omega)
      ·subst hxy;have q1:decide (x<=x)=true:=decide_eq_true (by omega);have HI1:=zz (show out++mergeF (fun p q=>p&&!q) ta tb=res by
        rw [merge_eq] at hinv;simpa [keepIf] using hinv)
       have HLEN:=zz hlen;have za1:((ta.length:Int)+1==0)=false:=by rw [beq_eq_false_iff_ne];omega
       have za2:(((x::ta).length:Int)==0)=false:=by rw [beq_eq_false_iff_ne];simp;omega
       have zb1:((tb.length:Int)+1==0)=false:=by rw [beq_eq_false_iff_ne];omega
       have zb2:(((x::tb).length:Int)==0)=false:=by rw [beq_eq_false_iff_ne];simp;omega
       clear hinv hbr ho
       go_upto_region 9 with fail
       go_quiet (fail)
       go_upto_region 10 with fail
       go_quiet (fail)
       go_upto_region 13 with fail
       go_quiet (fail)
       go_upto_region 15 with fail
       go_quiet (fail)
       go_wp2_with (first
        | (go_at_call 180;refine (fnWithout_tt _).mono ?_;rintro e w2 ⟨rfl,rfl⟩))
       go_roundw
       case rel=>exact ⟨_,_,ta,tb,out,_,_,rfl,by simp at h1;omega,HA2.out,rfl,by simp at h2;omega,HB2.out,by simp at m1;omega,by simp at m2;omega,ownz_draws HO.out (by first|exact Drew.refl _|exact (Drew.refl _).more _|exact ((Drew.refl _).more _).more _|exact (((Drew.refl _).more _).more _).more _|exact ((((Drew.refl _).more _).more _).more _).more _),by have:=HLEN.out;simp at this ⊢;omega,HI1.out,below_draws HBR.out (by first|exact Drew.refl _|exact (Drew.refl _).more _|exact ((Drew.refl _).more _).more _|exact (((Drew.refl _).more _).more _).more _|exact ((((Drew.refl _).more _).more _).more _).more _)⟩
       case measure=>first|(simp [lenS];done)|(simp [lenS];omega)
      ·have q1:decide (x<=y)=false:=decide_eq_false (by omega);have q2:decide (y<=x)=true:=decide_eq_true (by omega);have HI1:=zz (show out++mergeF (fun p q=>p&&!q) (x::ta) tb=res by
        rw [merge_gt _ _ _ hxy] at hinv;simpa [keepIf] using hinv)
       have HLEN:=zz hlen;clear hxy;have za1:((ta.length:Int)+1==0)=false:=by rw [beq_eq_false_iff_ne];omega
       have za2:(((x::ta).length:Int)==0)=false:=by rw [beq_eq_false_iff_ne];simp;omega
       have zb1:((tb.length:Int)+1==0)=false:=by rw [beq_eq_false_iff_ne];omega
       have zb2:(((y::tb).length:Int)==0)=false:=by rw [beq_eq_false_iff_ne];simp;omega
       clear hinv hbr ho
       go_upto_region 9 with fail
       go_quiet (fail)
       go_upto_region 10 with fail
       go_quiet (fail)
       go_upto_region 15 with fail
       go_quiet (fail)
       go_wp2_with (first
        | (go_at_call 180;refine (fnWithout_ft _).mono ?_;rintro e w2 ⟨rfl,rfl⟩))
       go_roundw
       case rel=>exact ⟨_,_,(x::ta),tb,out,c1,_,rfl,h1,hA1,rfl,by simp at h2;omega,HB2.out,m1,by simp at m2;omega,ownz_draws HO.out (by first|exact Drew.refl _|exact (Drew.refl _).more _|exact ((Drew.refl _).more _).more _|exact (((Drew.refl _).more _).more _).more _|exact ((((Drew.refl _).more _).more _).more _).more _),by have:=HLEN.out;simp at this ⊢;omega,HI1.out,below_draws HBR.out (by first|exact Drew.refl _|exact (Drew.refl _).more _|exact ((Drew.refl _).more _).more _|exact (((Drew.refl _).more _).more _).more _|exact ((((Drew.refl _).more _).more _).more _).more _)⟩
       case measure=>first|(simp [lenS];done)|(simp [lenS];omega)
theorem without_yes(A B:Option Addr)(la lb:List Int)(ca cb:Nat)(w:World)(hA:Zi w A la)(hB:Zi w B lb)(hca:la.length<=ca)(hcb:lb.length<=cb)(ea:pchk la=0)(eb:pchk lb=0):
 Calls Tryz.prog 135 #[.slice A la.length ca,.slice B lb.length cb] w (ChTold w (lessL la lb)):=by
 have HC:=zz (chosenWithout A B la lb ca cb w hA hB hca hcb ea eb);generalize lessL la lb=res at *;clear hA hB ea eb;go_enter Tryz.func135,Tryz.ntmps135
 go_wp2_with fail
 refine HC.out.mono ?_;rintro e w1 ⟨hb1,⟨hl,rfl⟩|⟨hl,v,rfl,hv⟩⟩
 ·go_wp2_with fail
  go_ret2;exact ⟨hb1,.inl ⟨hl,rfl⟩⟩
 ·go_wp2_with fail
  go_ret2;exact ⟨hb1,.inr ⟨hl,v,rfl,hv⟩⟩
theorem without_no(A B:Option Addr)(la lb:List Int)(ca cb:Nat)(w:World)(hA:Zi w A la)(hB:Zi w B lb)(ma:la.length<=281474976710656)(mb:lb.length<=281474976710656)(he:refE la lb≠0):
 Calls Tryz.prog 135 #[.slice A la.length ca,.slice B lb.length cb] w fun e w'=>e=.returned (.tuple #[.slice none 0 0,.int .i64 (refE la lb)])/\w=w':=by
 have HC:=zz (chosen_no A B la lb ca cb (.func (.func 180) #[] #[]) w hA hB ma mb he);generalize refE la lb=x at *;clear hA hB he;go_enter Tryz.func135,Tryz.ntmps135
 go_wp2_with fail
 refine HC.out.mono ?_;rintro e w1 ⟨rfl,rfl⟩
 go_wp2_with fail
 go_ret2;exact ⟨rfl,rfl⟩
theorem refE_right{a b:List Int}(h:refE a b=0):pchk a=0/\pchk b=0:=by
 unfold refE at h
 by_cases ha:pchk a=0
 ·rw [if_pos ha] at h;exact ⟨ha,h⟩
 ·rw [if_neg ha] at h;exact absurd h ha
def STold(w:World)(m:List Int)(E:Int)(e:Ending)(w':World):Prop:=∃v,e=.returned (.tuple #[v,.int .i64 E])/\OwnZ w' w.heap.size v m/\Below w.heap.size w w'
def boV(a b:List Int):List Int:=if refE a b=0 then bothL a b else []
def leV(a b:List Int):List Int:=if refE a b=0 then lessL a b else []
theorem both_len'{a b:List Int}(ha:pchk a=0)(hb:pchk b=0):(bothL a b).length<=1024:=by
 rw [both_pick (pchk_zero.1 ha).2 (pchk_zero.1 hb).2];have:=pick_len a b true;have:=(pchk_zero.1 ha).1;omega
theorem less_len'{a b:List Int}(ha:pchk a=0)(hb:pchk b=0):(lessL a b).length<=1024:=by
 rw [less_pick (pchk_zero.1 ha).2 (pchk_zero.1 hb).2];have:=pick_len a b false;have:=(pchk_zero.1 ha).1;omega
theorem st_no{w w':World}{E:Int}{e:Ending}(h:e=.returned (.tuple #[.slice none 0 0,.int .i64 E]))(hb:Below w.heap.size w w'):STold w [] E e w':=⟨_,h,ownz_nil _ _,hb⟩
theorem st_ch{w w':World}{m:List Int}{e:Ending}(h:ChTold w m e w')(hm:m.length<=1024):STold w m 0 e w':=by
 obtain ⟨hb,⟨h1,_⟩|⟨_,v,rfl,hv⟩⟩:=h
 ·omega
 ·exact ⟨v,rfl,hv,hb⟩
section
variable (A B:Option Addr) (a b:List Int) (ca cb:Nat) (w:World) (hA:Zi w A a) (hB:Zi w B b) (ma:a.length<=281474976710656) (mb:b.length<=281474976710656)
include hA hB ma mb
theorem both_all(hca:a.length<=ca)(hcb:b.length<=cb):Calls Tryz.prog 97 #[.slice A a.length ca,.slice B b.length cb] w (STold w (boV a b) (refE a b)):=by
 by_cases he:refE a b=0
 ·obtain ⟨ea,eb⟩:=refE_right he;unfold boV;rw [if_pos he,he];exact (both_yes A B a b ca cb w hA hB hca hcb ea eb).mono fun e w' h=>st_ch h (both_len' ea eb)
 ·unfold boV;rw [if_neg he];refine (both_no A B a b ca cb w hA hB ma mb he).mono ?_;rintro e w' ⟨h,rfl⟩;exact st_no h (Below.refl _ _)
theorem less_all(hca:a.length<=ca)(hcb:b.length<=cb):Calls Tryz.prog 135 #[.slice A a.length ca,.slice B b.length cb] w (STold w (leV a b) (refE a b)):=by
 by_cases he:refE a b=0
 ·obtain ⟨ea,eb⟩:=refE_right he;unfold leV;rw [if_pos he,he];exact (without_yes A B a b ca cb w hA hB hca hcb ea eb).mono fun e w' h=>st_ch h (less_len' ea eb)
 ·unfold leV;rw [if_neg he];refine (without_no A B a b ca cb w hA hB ma mb he).mono ?_;rintro e w' ⟨h,rfl⟩;exact st_no h (Below.refl _ _)
end
section
variable (A B:Option Addr) (b:List UInt8) (c:Nat) (l:List Int) (d:Nat) (w:World) (hA:Bys w A b) (hB:Zi w B l) (hb:b.length<=140737488351300) (hl:l.length<=281474976710656)
include hA hB hb hl
end
end Go.Proofs.YtgdmcnoogacdaaaGreatDoor
