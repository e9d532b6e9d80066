/- In one text, written by lotify.py: ReRight, ReCut, ReFuel, ReRef1, ReRef2, ReRef3, ReCut2, ReRef4, ReRef5, RePlaces, ReEnds, ReChecksLaw. -/
import Derived.Test.YtgdmcnoogacdaaaGreatDoorBlLotRb
namespace Go.Proofs.YtgdmcnoogacdaaaGreatDoor
set_option linter.unusedVariables false
def RightP(p:List UInt8):Prop:=∃n ls d,patM n p=some (ls,[],d)
def AtomP(x z:List UInt8):Prop:=∃n r d,atomM n x=some (r,z,d)
def NoAtom(x:List UInt8):Prop:=∀n,atomM n x=none
theorem atom_or(x:List UInt8):NoAtom x\/∃z,AtomP x z:=by
 by_cases h:∃z,AtomP x z
 ·exact .inr h
 ·refine .inl fun n=>?_
  cases ha:atomM n x with
  | none=>rfl
  | some q=>exact absurd ⟨q.2.1,n,q.1,q.2.2,ha⟩ h
theorem AtomP.not{x z:List UInt8}(h:AtomP x z)(k:NoAtom x):False:=by
 obtain ⟨n,r,d,h⟩:=h;rw [k n] at h
 cases h
theorem right_nil:RightP []:=⟨2,[.row []],0,rfl⟩
theorem right_bar(t:List UInt8):RightP (124::t)↔RightP t:=by
 constructor
 ·rintro ⟨n,ls,d,h⟩
  cases n with
  | zero=>simp [patM] at h
  | succ n =>
    simp only [patM] at h
    cases n with
    | zero=>simp [altM] at h
    | succ n =>
      rw [show altM (n+1) (124::t)=some ([],124::t,0) from rfl] at h;simp only at h;rw [if_pos (by rfl),List.tail_cons] at h
      cases hp:patM (n+1) t with
      | none=>rw [hp] at h;cases h
      | some q =>
        obtain ⟨ls',z,e⟩:=q;rw [hp] at h;simp only [Option.some.injEq,Prod.mk.injEq] at h;obtain ⟨_,rfl,_⟩:=h;exact ⟨_,_,_,hp⟩
 ·rintro ⟨n,ls,d,h⟩;have:=pat_or (a:=[]) h (n:=2) (ls:=[.row []]) (d:=0) rfl;exact ⟨_,_,_,this⟩
def MarkP(y:List UInt8):Bool:=aheadM [42] y||aheadM [43] y||aheadM [63] y
def behindP(y:List UInt8):List UInt8:=if MarkP y then y.tail else y
theorem piece_of{n:Nat}{x y:List UInt8}{r:Re}{d:Nat}(h:atomM n x=some (r,y,d)):∃r',pieceM (n+1) x=some (r',behindP y,d):=by
 simp only [pieceM,h];unfold behindP MarkP
 cases h1:aheadM [42] y
 ·cases h2:aheadM [43] y
  ·cases h3:aheadM [63] y
   ·exact ⟨_,rfl⟩
   ·exact ⟨_,rfl⟩
  ·exact ⟨_,rfl⟩
 ·exact ⟨_,rfl⟩
theorem atom_unique{n m:Nat}{x:List UInt8}{q q'}(h:atomM n x=some q)(k:atomM m x=some q'):q=q':=by
 have h1:=atom_mono (Nat.le_max_left n m) h;have h2:=atom_mono (Nat.le_max_right n m) k;rw [h1] at h2;exact Option.some.inj h2
theorem atom_head{x z:List UInt8}(h:AtomP x z):x≠[]/\aheadM [124,41] x=false:=by
 obtain ⟨n,r,d,h⟩:=h
 cases n with
 | zero=>simp [atomM] at h
 | succ n =>
   cases x with
   | nil=>simp [atomM,aheadM,takeButM] at h
   | cons c t =>
     refine ⟨by simp,?_⟩
     by_cases h1:c=124
     ·subst h1;rw [show atomM (n+1) (124::t)=none from rfl] at h
      cases h
     ·by_cases h2:c=41
      ·subst h2;rw [show atomM (n+1) (41::t)=none from rfl] at h
       cases h
      ·simp [aheadM];exact ⟨h1,h2⟩
theorem pat_bar{k:Nat}{x y z:List UInt8}{l ls:List Re}{d e:Nat}(h:altM k x=some (l,y,d))(hb:aheadM [124] y=true)(hp:patM k y.tail=some (ls,z,e)):patM (k+1) x=some (.row l::ls,z,max d e):=by
 simp only [patM,h];rw [if_pos hb,hp]
theorem pat_end{k:Nat}{x y:List UInt8}{l:List Re}{d:Nat}(h:altM k x=some (l,y,d))(hb:¬aheadM [124] y=true):patM (k+1) x=some ([.row l],y,d):=by
 simp only [patM,h];rw [if_neg hb]
theorem right_piece{x y:List UInt8}(h:AtomP x y):RightP x↔RightP (behindP y):=by
 obtain ⟨hn,hx⟩:=atom_head h;obtain ⟨n,r,d,ha⟩:=h;obtain ⟨r',hp⟩:=piece_of ha;constructor
 ·rintro ⟨m,ls,e,h⟩
  cases m with
  | zero=>simp [patM] at h
  | succ m =>
    simp only [patM] at h
    cases m with
    | zero=>simp [altM] at h
    | succ m =>
      simp only [altM] at h;rw [if_neg (by rw [hx];cases x with|nil=>exact absurd rfl hn|cons c t=>simp)] at h
      cases hp2:pieceM m x with
      | none=>rw [hp2] at h;cases h
      | some q =>
        have e1:q=(r',behindP y,d):=by
         have h1:=piece_mono (Nat.le_max_left m (n+1)) hp2;have h2:=piece_mono (Nat.le_max_right m (n+1)) hp;rw [h1] at h2;exact Option.some.inj h2
        subst e1;rw [hp2] at h;simp only at h
        cases ha2:altM m (behindP y) with
        | none=>rw [ha2] at h;cases h
        | some q =>
          obtain ⟨l,y2,d2⟩:=q;rw [ha2] at h;simp only at h;have h3:=alt_mono (Nat.le_succ m) ha2
          split at h
          ·rename_i hb
           cases hp3:patM (m+1) y2.tail with
           | none=>rw [hp3] at h;cases h
           | some q =>
             obtain ⟨ls',z,e'⟩:=q;rw [hp3] at h;simp only [Option.some.injEq,Prod.mk.injEq] at h;obtain ⟨_,rfl,_⟩:=h;exact ⟨m+2,.row l::ls',max d2 e',pat_bar h3 hb hp3⟩
          ·rename_i hb;simp only [Option.some.injEq,Prod.mk.injEq] at h;obtain ⟨_,rfl,_⟩:=h;exact ⟨m+2,[.row l],d2,pat_end h3 hb⟩
 ·rintro ⟨m,ls,e,h⟩
  cases m with
  | zero=>simp [patM] at h
  | succ m =>
    simp only [patM] at h
    cases ha2:altM m (behindP y) with
    | none=>rw [ha2] at h;cases h
    | some q =>
      obtain ⟨l,y2,d2⟩:=q;rw [ha2] at h;simp only at h;have hs:=alt_step hx hn (piece_mono (show n+1<=n+1+m by omega) hp) (alt_mono (show m<=n+1+m by omega) ha2)
      split at h
      ·rename_i hb
       cases hp3:patM m y2.tail with
       | none=>rw [hp3] at h;cases h
       | some q =>
         obtain ⟨ls',z,e'⟩:=q;rw [hp3] at h;simp only [Option.some.injEq,Prod.mk.injEq] at h;obtain ⟨_,rfl,_⟩:=h;exact ⟨n+1+m+1+1,.row (r'::l)::ls',max (max d d2) e',pat_bar hs hb (pat_mono (show m<=n+1+m+1 by omega) hp3)⟩
      ·rename_i hb;simp only [Option.some.injEq,Prod.mk.injEq] at h;obtain ⟨_,rfl,_⟩:=h;exact ⟨n+1+m+1+1,[.row (r'::l)],max d d2,pat_end hs hb⟩
theorem right_none{x:List UInt8}(h:NoAtom x)(hn:x≠[])(hb:aheadM [124] x=false):¬RightP x:=by
 rintro ⟨m,ls,e,hp⟩
 cases m with
 | zero=>simp [patM] at hp
 | succ m =>
   simp only [patM] at hp
   cases m with
   | zero=>simp [altM] at hp
   | succ m =>
     by_cases h41:aheadM [41] x=true
     ·have e1:=ahead_one h41;rw [e1] at hp;rw [show altM (m+1) (41::x.tail)=some ([],41::x.tail,0) from rfl] at hp;simp only at hp;rw [show aheadM [124] (41::x.tail)=false from rfl] at hp;simp at hp
     ·have hx:aheadM [124,41] x=false:=by
       cases x with
       | nil=>exact absurd rfl hn
       | cons c t =>
         simp [aheadM] at hb h41 ⊢;exact ⟨hb,h41⟩
      simp only [altM] at hp;rw [if_neg (by rw [hx];cases x with|nil=>exact absurd rfl hn|cons c t=>simp)] at hp
      cases m with
      | zero=>simp [pieceM] at hp
      | succ m =>
        rw [show pieceM (m+1) x=none by simp only [pieceM,h m]] at hp;simp at hp
theorem scan_head{k:Nat}{x:List UInt8}{q:Option (List UInt8)}(h:Scan k x q):∀y,q=some y->∃u z,x=u++y/\y=41::z:=by
 induction h with
 | nil k=>intro y e;cases e
 | esc k t q h ih =>
   intro y e;obtain ⟨u,z,h1,h2⟩:=ih y e
   cases t with
   | nil =>
     simp at h1;rw [h1.2] at h2
     cases h2
   | cons c t=>exact ⟨92::c::u,z,by rw [List.cons_append,List.cons_append,<-h1];rfl,h2⟩
 | cls k n x y0 r q hc h ih =>
   intro y e;obtain ⟨u,z,h1,h2⟩:=ih y e;obtain ⟨u0,e0,_⟩:=class_cut hc;exact ⟨91::(u0++u),z,by rw [e0,h1];simp,h2⟩
 | ncl k x h=>intro y e;cases e
 | opn k t q h ih =>
   intro y e;obtain ⟨u,z,h1,h2⟩:=ih y e;exact ⟨40::u,z,by rw [List.cons_append,<-h1],h2⟩
 | stop t=>intro y e;cases e;exact ⟨[],t,rfl,rfl⟩
 | cl k t q h ih =>
   intro y e;obtain ⟨u,z,h1,h2⟩:=ih y e;exact ⟨41::u,z,by rw [List.cons_append,<-h1],h2⟩
 | oth k c t q a1 a2 a3 a4 h ih =>
   intro y e;obtain ⟨u,z,h1,h2⟩:=ih y e;exact ⟨c::u,z,by rw [List.cons_append,<-h1],h2⟩
theorem group_yes{x z:List UInt8}(h:AtomP (40::x) z):Scan 1 x (some (41::z))/\∃u,x=u++41::z/\RightP u:=by
 obtain ⟨n,r,d,h⟩:=h
 cases n with
 | zero=>simp [atomM] at h
 | succ n =>
   simp only [atomM] at h;rw [if_pos (by rfl),List.tail_cons] at h
   cases hp:patM n x with
   | none=>rw [hp] at h;cases h
   | some q =>
     obtain ⟨ls,y,d0⟩:=q;rw [hp] at h;simp only at h
     split at h
     ·rename_i hb;simp only [Option.some.injEq,Prod.mk.injEq] at h;obtain ⟨_,rfl,_⟩:=h;have e:=ahead_one hb;rw [<-e];obtain ⟨u,h1,h2⟩:=pat_cut hp;have h3:=h2 [] (.inl rfl);rw [List.append_nil] at h3;refine ⟨pat_scan (k:=0) hp (by rw [e];exact .stop _),u,h1,n,ls,d0,h3⟩
     ·cases h
theorem group_no{x:List UInt8}(h:NoAtom (40::x)){u z:List UInt8}(hx:x=u++41::z):¬RightP u:=by
 rintro ⟨n,ls,d,hp⟩;have:=h (n+1);rw [hx,atom_group hp] at this
 cases this
theorem items_fuel:∀{n m:Nat} {x:List UInt8} {q},x.length<m->itemsM n x=some q->itemsM m x=some q
 | 0,m,x,q,hm,h=>by simp [itemsM] at h
 | n+1,0,x,q,hm,h=>by omega
 | n+1,m+1,x,q,hm,h=>by
   simp only [itemsM] at h ⊢
   cases hi:itemM x with
   | none=>rw [hi] at h;cases h
   | some r =>
     obtain ⟨s,y⟩:=r;rw [hi] at h;simp only at h ⊢;have hl:=item_len hi
     split at h
     ·rename_i ha;rw [if_pos ha];exact h
     ·rename_i ha;rw [if_neg ha]
      cases hr:itemsM n y with
      | none=>rw [hr] at h;cases h
      | some r2 =>
        rw [hr] at h;rw [items_fuel (m:=m) (by omega) hr];exact h
def hatX(x:List UInt8):List UInt8:=if aheadM [94] x then x.tail else x
theorem hat_len(x:List UInt8):(hatX x).length<=x.length:=by
 unfold hatX
 split
 ·rw [List.length_tail];omega
 ·exact Nat.le_refl _
def clsV(x:List UInt8):Option (List (UInt8 × UInt8) × List UInt8):=itemsM (x.length+1) (hatX x)
theorem class_of{n:Nat}{x y:List UInt8}{r:Re}(h:classM n x=some (r,y)):∃ss,clsV x=some (ss,y)/\r=.atom ss (aheadM [94] x) false:=by
 unfold classM at h
 cases hi:itemsM n (if aheadM [94] x then x.tail else x) with
 | none=>rw [hi] at h;cases h
 | some q =>
   obtain ⟨ss,y'⟩:=q;rw [hi] at h;simp only [Option.some.injEq,Prod.mk.injEq] at h;obtain ⟨rfl,rfl⟩:=h;exact ⟨ss,items_fuel (by have:=hat_len x;omega) hi,rfl⟩
theorem class_is{x y:List UInt8}{ss:List (UInt8 × UInt8)}(h:clsV x=some (ss,y)):classM (x.length+1) x=some (.atom ss (aheadM [94] x) false,y):=by
 unfold classM;have h':itemsM (x.length+1) (if aheadM [94] x then x.tail else x)=some (ss,y):=h;rw [h']
theorem class_no{x:List UInt8}(h:clsV x=none)(n:Nat):classM n x=none:=by
 cases hc:classM n x with
 | none=>rfl
 | some q =>
   obtain ⟨ss,h2,_⟩:=class_of (r:=q.1) (y:=q.2) hc;rw [h] at h2
   cases h2
def itemsT(m:Nat)(z:List UInt8)(k:Bool):Option (List (UInt8 × UInt8) × List UInt8):=if k&&aheadM [93] z then some ([],z.tail) else itemsM m z
theorem it_nil(m:Nat)(k:Bool):itemsT m [] k=none:=by
 unfold itemsT;rw [show aheadM [93] []=false from rfl,Bool.and_false,if_neg (by simp)]
 cases m<;>rfl
theorem item_bad1{c:UInt8}{t:List UInt8}(h:unlistedL.contains c=true):itemM (c::t)=none:=by
 unfold itemM;rw [show takeButM unlistedL (c::t)=none by simp only [takeButM];rw [if_pos h]]
theorem it_stop0(m:Nat)(t:List UInt8):itemsT m (93::t) false=none:=by
 unfold itemsT;rw [Bool.false_and,if_neg (by simp)]
 cases m with
 | zero=>rfl
 | succ m=>simp only [itemsM];rw [item_bad1 (by decide)]
theorem it_stop1(m:Nat)(t:List UInt8):itemsT m (93::t) true=some ([],t):=by
 unfold itemsT;rw [show aheadM [93] (93::t)=true from rfl];rfl
theorem not_stop{c:UInt8}{t:List UInt8}(h:c≠93):aheadM [93] (c::t)=false:=by
 simp [aheadM,h]
theorem it_bad{m:Nat}{c:UInt8}{t:List UInt8}{k:Bool}(h:c≠93)(hi:itemM (c::t)=none):itemsT m (c::t) k=none:=by
 unfold itemsT;rw [not_stop h,Bool.and_false,if_neg (by simp)]
 cases m with
 | zero=>rfl
 | succ m=>simp only [itemsM];rw [hi]
theorem it_item{m:Nat}{c:UInt8}{t y:List UInt8}{k:Bool}{s:UInt8 × UInt8}(h:c≠93)(hi:itemM (c::t)=some (s,y)):itemsT (m+1) (c::t) k=(itemsT m y true).map fun q=>(s::q.1,q.2):=by
 unfold itemsT;rw [not_stop h,Bool.and_false,if_neg (by simp)];simp only [itemsM];rw [hi];simp only [Bool.true_and]
 split
 ·rfl
 ·cases itemsM m y<;>rfl
theorem item_one{c:UInt8}{t:List UInt8}(h:unlistedL.contains c=false)(ht:aheadM [45] t=false):itemM (c::t)=some ((c,c),t):=by
 unfold itemM;rw [show takeButM unlistedL (c::t)=some (c,t) by simp only [takeButM];rw [if_neg (by rw [h];simp)]];simp only;rw [if_neg (by rw [ht];simp)]
theorem item_step{c:UInt8}{t:List UInt8}(h:unlistedL.contains c=false):itemM (c::45::t)=match takeButM unlistedL t with|none=>none|some (hi,z)=>if c<=hi then some ((c,hi),z) else none:=by
 unfold itemM;rw [show takeButM unlistedL (c::45::t)=some (c,45::t) by simp only [takeButM];rw [if_neg (by rw [h];simp)]];simp only;rw [if_pos (by rfl),List.tail_cons]
 cases takeButM unlistedL t<;>rfl
theorem item_end{c:UInt8}(h:unlistedL.contains c=false):itemM [c,45]=none:=by rw [item_step h];rfl
theorem item_bad2{c d:UInt8}{t:List UInt8}(h:unlistedL.contains c=false)(h2:unlistedL.contains d=true):itemM (c::45::d::t)=none:=by
 rw [item_step h,show takeButM unlistedL (d::t)=none by simp only [takeButM];rw [if_pos h2]]
theorem item_two{c d:UInt8}{t:List UInt8}(h:unlistedL.contains c=false)(h2:unlistedL.contains d=false):itemM (c::45::d::t)=if c<=d then some ((c,d),t) else none:=by
 rw [item_step h,show takeButM unlistedL (d::t)=some (d,t) by simp only [takeButM];rw [if_neg (by rw [h2];simp)]]
def clsE(N:Nat)(x:List UInt8):Int:=match clsV x with|none=>0|some (_,y)=>(N:Int)-(y.length:Int)
def clsH(x:List UInt8)(c:UInt8):Bool:=match clsV x with|none=>false|some (ss,_)=>ss.any (spanHas c) !=aheadM [94] x
theorem has_ne(ss:List (UInt8 × UInt8))(neg:Bool)(c:UInt8):hasB ss neg c=(ss.any (spanHas c) !=neg):=by
 unfold hasB
 cases ss.any (spanHas c)<;>cases neg<;>rfl
def ClsAt(x:List UInt8)(ss:List (UInt8 × UInt8))(z:List UInt8):Prop:=∃m,z.length<m/\clsV x=(itemsT m z (!ss.isEmpty)).map fun q=>(ss++q.1,q.2)
theorem clsAt_start(x:List UInt8):ClsAt x [] (hatX x):=by
 refine ⟨x.length+1,by have:=hat_len x;omega,?_⟩;unfold clsV itemsT;rw [show (!([]:List (UInt8 × UInt8)).isEmpty)=false from rfl,Bool.false_and,if_neg (by simp)]
 cases itemsM (x.length+1) (hatX x)<;>rfl
theorem clsAt_nil{x:List UInt8}{ss:List (UInt8 × UInt8)}(h:ClsAt x ss []):clsV x=none:=by
 obtain ⟨m,_,h⟩:=h;rw [h,it_nil];rfl
theorem clsAt_stop{x:List UInt8}{ss:List (UInt8 × UInt8)}{t:List UInt8}(h:ClsAt x ss (93::t)):clsV x=if ss.isEmpty then none else some (ss,t):=by
 obtain ⟨m,_,h⟩:=h;rw [h]
 cases ss with
 | nil=>rw [show (!([]:List (UInt8 × UInt8)).isEmpty)=false from rfl,it_stop0];rfl
 | cons s r=>rw [show (!(s::r).isEmpty)=true from rfl,it_stop1];simp
theorem clsAt_bad{x:List UInt8}{ss:List (UInt8 × UInt8)}{c:UInt8}{t:List UInt8}(h:ClsAt x ss (c::t))(hc:c≠93)(hi:itemM (c::t)=none):clsV x=none:=by
 obtain ⟨m,_,h⟩:=h;rw [h,it_bad hc hi];rfl
theorem clsAt_item{x:List UInt8}{ss:List (UInt8 × UInt8)}{c:UInt8}{t y:List UInt8}{s:UInt8 × UInt8}(h:ClsAt x ss (c::t))(hc:c≠93)(hi:itemM (c::t)=some (s,y)):ClsAt x (ss++[s]) y:=by
 obtain ⟨m,hm,h⟩:=h;have hl:=item_len hi;obtain ⟨m',rfl⟩:∃m',m=m'+1:=⟨m-1,by omega⟩;refine ⟨m',by omega,?_⟩;rw [h,it_item hc hi];rw [show (!(ss++[s]).isEmpty)=true by cases ss<;>rfl]
 cases itemsT m' y true<;>simp
theorem any_snoc(ss:List (UInt8 × UInt8))(a b c:UInt8):(ss++[(a,b)]).any (spanHas c)=(ss.any (spanHas c)||(decide (a<=c)&&decide (c<=b))):=by
 rw [List.any_append];simp [spanHas]
inductive Res:List UInt8->List UInt8->Option (List (List UInt8))->Prop
 | nil (u:List UInt8):Res u [] (some [u])
 | bar (u t:List UInt8) (r:Option (List (List UInt8))):Res [] t r->Res u (124::t) (r.map (u::·))
 | one (u v x z:List UInt8) (r:Option (List (List UInt8))):AtomP x z->x=v++behindP z->Res (u++v) (behindP z) r->Res u x r
 | bad (u x:List UInt8):NoAtom x->x≠[]->aheadM [124] x=false->Res u x none
theorem behind_cut(z:List UInt8):∃v,z=v++behindP z/\(behindP z).length<=z.length:=by
 unfold behindP
 split
 ·rename_i h
  cases z with
  | nil=>exact ⟨[],rfl,by simp⟩
  | cons c t=>exact ⟨[c],rfl,by simp⟩
 ·exact ⟨[],rfl,Nat.le_refl _⟩
theorem atomP_len{x z:List UInt8}(h:AtomP x z):z.length<x.length:=by
 obtain ⟨n,r,d,h⟩:=h;exact atom_len h
theorem atomP_cut{x z:List UInt8}(h:AtomP x z):∃v,x=v++z/\v≠[]:=by
 obtain ⟨n,r,d,h⟩:=h;obtain ⟨u,h1,h2,_⟩:=atom_cut h;exact ⟨u,h1,h2⟩
theorem res_all:∀(m:Nat) (x u:List UInt8),x.length<=m->∃r,Res u x r:=by
 intro m
 induction m with
 | zero =>
   intro x u h;obtain rfl:x=[]:=List.eq_nil_of_length_eq_zero (by omega);exact ⟨_,.nil u⟩
 | succ m ih =>
   intro x u h
   cases x with
   | nil=>exact ⟨_,.nil u⟩
   | cons c t =>
     by_cases hb:c=124
     ·subst hb;obtain ⟨r,hr⟩:=ih t [] (by simpa using h);exact ⟨_,.bar u t r hr⟩
     ·rcases atom_or (c::t) with ha|⟨z,ha⟩
      ·exact ⟨none,.bad u _ ha (by simp) (by simp [aheadM,hb])⟩
      ·obtain ⟨v,hv,_⟩:=atomP_cut ha;obtain ⟨v2,hv2,hl⟩:=behind_cut z;have:=atomP_len ha;obtain ⟨r,hr⟩:=ih (behindP z) (u++(v++v2)) (by omega);exact ⟨r,.one u (v++v2) _ z r ha (by rw [List.append_assoc,<-hv2,<-hv]) hr⟩
theorem res_right{u x:List UInt8}{r:Option (List (List UInt8))}(h:Res u x r):RightP x↔r.isSome=true:=by
 induction h with
 | nil u=>exact ⟨fun _=>rfl,fun _=>right_nil⟩
 | bar u t r h ih=>rw [right_bar,ih];cases r<;>simp
 | one u v x z r ha hx h ih=>rw [right_piece ha,ih]
 | bad u x hn hne hb=>exact ⟨fun hr=>absurd hr (right_none hn hne hb),fun h=>by cases h⟩
theorem class_fuel{n m:Nat}{x:List UInt8}{q}(hm:x.length<m)(h:classM n x=some q):classM m x=some q:=by
 unfold classM at h ⊢
 cases h1:itemsM n (if aheadM [94] x=true then x.tail else x) with
 | none=>simp [h1] at h
 | some r =>
   rw [items_fuel (m:=m) (by have:=hat_len x;unfold hatX at this;omega) h1];simpa [h1] using h
mutual
theorem pat_fuel:∀{n m:Nat} {x:List UInt8} {q},4*x.length+4<=m->patM n x=some q->patM m x=some q
 | 0,m,x,q,_,h=>by simp [patM] at h
 | n+1,0,x,q,hm,h=>by omega
 | n+1,m+1,x,q,hm,h=>by
   simp only [patM] at h ⊢
   cases h0:altM n x with
   | none=>simp [h0] at h
   | some r =>
     obtain ⟨l,y,d⟩:=r;rw [alt_fuel (m:=m) (by omega) h0];simp only [h0] at h ⊢;have hy:=alt_len h0
     split at h
     ·rename_i ha;rw [if_pos ha];have ht:=tail_len ha
      cases h1:patM n y.tail with
      | none=>simp [h1] at h
      | some r =>
        rw [pat_fuel (m:=m) (by omega) h1];simpa [h1] using h
     ·rename_i ha;rw [if_neg ha];exact h
theorem alt_fuel:∀{n m:Nat} {x:List UInt8} {q},4*x.length+3<=m->altM n x=some q->altM m x=some q
 | 0,m,x,q,_,h=>by simp [altM] at h
 | n+1,0,x,q,hm,h=>by omega
 | n+1,m+1,x,q,hm,h=>by
   simp only [altM] at h ⊢
   split at h
   ·rename_i ha;rw [if_pos ha];exact h
   ·rename_i ha;rw [if_neg ha]
    cases h0:pieceM n x with
    | none=>simp [h0] at h
    | some r =>
      obtain ⟨r,y,d⟩:=r;rw [piece_fuel (m:=m) (by omega) h0];simp only [h0] at h ⊢;have hy:=piece_len h0
      cases h1:altM n y with
      | none=>simp [h1] at h
      | some r =>
        rw [alt_fuel (m:=m) (by omega) h1];simpa [h1] using h
theorem piece_fuel:∀{n m:Nat} {x:List UInt8} {q},4*x.length+2<=m->pieceM n x=some q->pieceM m x=some q
 | 0,m,x,q,_,h=>by simp [pieceM] at h
 | n+1,0,x,q,hm,h=>by omega
 | n+1,m+1,x,q,hm,h=>by
   simp only [pieceM] at h ⊢
   cases h0:atomM n x with
   | none=>simp [h0] at h
   | some r =>
     rw [atom_fuel (m:=m) (by omega) h0];simpa only [h0] using h
theorem atom_fuel:∀{n m:Nat} {x:List UInt8} {q},4*x.length+1<=m->atomM n x=some q->atomM m x=some q
 | 0,m,x,q,_,h=>by simp [atomM] at h
 | n+1,0,x,q,hm,h=>by omega
 | n+1,m+1,x,q,hm,h=>by
   simp only [atomM] at h ⊢
   split at h
   ·rename_i ha;rw [if_pos ha];have ht:=tail_len ha
    cases h0:patM n x.tail with
    | none=>simp [h0] at h
    | some r =>
      rw [pat_fuel (m:=m) (by omega) h0];simpa only [h0] using h
   ·rename_i ha;rw [if_neg ha]
    split at h
    ·rename_i hb;rw [if_pos hb];have ht:=tail_len hb
     cases h0:classM n x.tail with
     | none=>simp [h0] at h
     | some r =>
       rw [class_fuel (m:=m) (by omega) h0];simpa only [h0] using h
    ·rename_i hb;rw [if_neg hb];exact h
end
theorem parse_fuel{n m:Nat}(hn:260<=n)(hm:260<=m)(p:List UInt8):parseM n p=parseM m p:=by
 unfold parseM
 by_cases h:64<p.length
 ·rw [if_pos h,if_pos h]
 ·rw [if_neg h,if_neg h];have e:patM n p=patM m p:=by
   cases h1:patM n p with
   | some q=>exact (pat_fuel (by omega) h1).symm
   | none =>
     cases h2:patM m p with
     | none=>rfl
     | some q=>rw [pat_fuel (m:=n) (by omega) h2] at h1;cases h1
  rw [e]
theorem fit_fuel{n m:Nat}(hn:260<=n)(hm:260<=m)(p s:List UInt8):fitV n p s=fitV m p s:=by
 unfold fitV;rw [parse_fuel hn hm]
end Go.Proofs.YtgdmcnoogacdaaaGreatDoor

namespace Go.Proofs.YtgdmcnoogacdaaaGreatDoor
open Go.RowKit
set_option linter.unusedVariables false
theorem byte_eq(c:UInt8)(k:Nat)(hk:k<256):((c.toNat:Int)==(k:Int))=decide (c=UInt8.ofNat k):=by
 rw [Bool.eq_iff_iff,beq_iff_eq,decide_eq_true_eq];constructor
 ·intro h
  apply UInt8.toNat_inj.1
  rw [UInt8.toNat_ofNat'];omega
 ·intro h;rw [h,UInt8.toNat_ofNat'];omega
theorem item_ref(c:UInt8)(w:World):Calls Tryz.prog 246 #[.int .u8 (c.toNat:Int)] w fun e w'=>e=.returned (.bool (!unlistedL.contains c))/\w=w':=by
 have e1:=byte_eq c 92 (by omega);have e2:=byte_eq c 91 (by omega);have e3:=byte_eq c 93 (by omega);have e4:=byte_eq c 94 (by omega);have e5:=byte_eq c 45 (by omega);have hc:(!unlistedL.contains c)=(!((c.toNat:Int)==92)&&(!((c.toNat:Int)==91)&&(!((c.toNat:Int)==93)&&(!((c.toNat:Int)==94)&&!((c.toNat:Int)==45))))):=by
  rw [show ((92:Int)=((92:Nat):Int)) from rfl,show ((91:Int)=((91:Nat):Int)) from rfl,show ((93:Int)=((93:Nat):Int)) from rfl,show ((94:Int)=((94:Nat):Int)) from rfl,show ((45:Int)=((45:Nat):Int)) from rfl,e1,e2,e3,e4,e5];simp only [unlistedL,List.contains_cons,List.contains_nil,Bool.or_false,Bool.not_or];rfl
 rw [hc];clear e1 e2 e3 e4 e5 hc;generalize (c.toNat:Int)=n;have z:∀k:Int,(n !=k)=!(n==k):=fun k=>rfl
 have z1:=z 92;have z2:=z 91;have z3:=z 93;have z4:=z 94;have z5:=z 45;clear z
 cases h1:(n==92)
 ·cases h2:(n==91)
  ·cases h3:(n==93)
   ·cases h4:(n==94)
    ·cases h5:(n==45)
     all_goals
      rw [h1] at z1;rw [h2] at z2;rw [h3] at z3;rw [h4] at z4;rw [h5] at z5;clear h1 h2 h3 h4 h5;go_enter Tryz.func246,Tryz.ntmps246
      go_wp2
      go_ret;exact ⟨rfl,rfl⟩
    ·rw [h1] at z1;rw [h2] at z2;rw [h3] at z3;rw [h4] at z4;clear h1 h2 h3 h4 z5;go_enter Tryz.func246,Tryz.ntmps246
     go_wp2
     go_ret;exact ⟨rfl,rfl⟩
   ·rw [h1] at z1;rw [h2] at z2;rw [h3] at z3;clear h1 h2 h3 z4 z5;go_enter Tryz.func246,Tryz.ntmps246
    go_wp2
    go_ret;exact ⟨rfl,rfl⟩
  ·rw [h1] at z1;rw [h2] at z2;clear h1 h2 z3 z4 z5;go_enter Tryz.func246,Tryz.ntmps246
   go_wp2
   go_ret;exact ⟨rfl,rfl⟩
 ·rw [h1] at z1;clear h1 z2 z3 z4 z5;go_enter Tryz.func246,Tryz.ntmps246
  go_wp2
  go_ret;exact ⟨rfl,rfl⟩
def mrk(k:Nat):UInt8:=marksL.getD k 0
theorem marks_step(c:UInt8)(k:Nat)(hk:k<10):(marksL.take (k+1)).contains c=((marksL.take k).contains c||decide (c=mrk k)):=by
 have hl:marksL.length=10:=rfl;have:marksL[k]?=some (mrk k):=by unfold mrk;rw [List.getD_eq_getElem?_getD,List.getElem?_eq_getElem (by omega)];rfl
 rw [List.take_add_one,this,Bool.eq_iff_iff];simp
def marksB:ByteArray:=⟨#[92,40,41,91,93,124,42,43,63,46]⟩
theorem marks_get(k:Nat)(hk:k<marksB.size):mrk k=marksB[k]:=by
 unfold mrk;rw [List.getD_eq_getElem?_getD,List.getElem?_eq_getElem (show k<marksL.length from hk)];rfl
theorem byte_two(a c:UInt8):((a.toNat:Int)==(c.toNat:Int))=decide (c=a):=by
 rw [Bool.eq_iff_iff,beq_iff_eq,decide_eq_true_eq,<-UInt8.toNat_inj];omega
theorem marks_yes{c:UInt8}{k:Nat}(h:(marksL.take (k+1)).contains c=true):marksL.contains c=true:=by
 rw [List.contains_iff_mem] at h ⊢;exact List.mem_of_mem_take h
set_option maxHeartbeats 1000000 in
theorem plain_ref(c:UInt8)(w:World):Calls Tryz.prog 254 #[.int .u8 (c.toNat:Int)] w fun e w'=>e=.returned (.bool (!marksL.contains c))/\w=w':=by
 obtain ⟨B,hB⟩:∃B,marksL.contains c=B:=⟨_,rfl⟩;rw [hB];have HQ:=zz hB;clear hB;have HS:=zz (marks_step c);go_enter Tryz.func254,Tryz.ntmps254
 go_wp2_with fail
 go_loop [4] (fun i=>∃k:Nat,k<=10/\i=.int .i64 (k:Int)/\(marksL.take k).contains c=false) (fun i=>10-(intOf i).toNat)
 case atStart=>exact ⟨0,by omega,rfl,rfl⟩
 case round =>
  obtain ⟨k,hk,rfl,hn⟩:=hrel
  by_cases hlt:k<10
  ·have hs:=HS.out k hlt;have hsz:k<(⟨#[92,40,41,91,93,124,42,43,63,46]⟩:ByteArray).size:=hlt;have he:=byte_two (⟨#[92,40,41,91,93,124,42,43,63,46]⟩:ByteArray)[k] c;rw [hn,Bool.false_or,marks_get k hsz] at hs;have hs':(marksL.take (k+1)).contains c=decide (c=(⟨#[92,40,41,91,93,124,42,43,63,46]⟩:ByteArray)[k]):=hs;rw [<-he] at hs';have i1:(0:Int)<=(k:Int):=by omega
   have i2:(k:Int)<10:=by omega
   have i3:(k:Int)<(((⟨#[92,40,41,91,93,124,42,43,63,46]⟩:ByteArray).size:Nat):Int):=i2
   cases hb:((((⟨#[92,40,41,91,93,124,42,43,63,46]⟩:ByteArray)[k]).toNat:Int)==(c.toNat:Int))
   ·rw [hb] at hs';have HB:=zz hs';clear hs hs' he hn
    go_wp2_with fail
    exact ⟨⟨k+1,by omega,by go_num,HB.out⟩,by simp [intOf];omega⟩
   ·rw [hb] at hs';have HB:=zz (show B=true by rw [<-HQ.out];exact marks_yes hs');clear hs hs' he hn
    go_wp2_with fail
    go_ret;exact ⟨by rw [HB.out];rfl,rfl⟩
  ·obtain rfl:k=10:=by omega
   have HN:=zz (show B=false by rw [<-HQ.out];exact hn);clear hn hk
   go_wp2_with fail
   go_ret;exact ⟨by rw [HN.out];rfl,rfl⟩
theorem drop_byte(p:ByteArray){k:Nat}(h:k<p.size):(strL p).drop k=p[k]::(strL p).drop (k+1):=drop_at (strG p h)
theorem drop_end(p:ByteArray){k:Nat}(h:p.size<=k):(strL p).drop k=[]:=List.drop_eq_nil_of_le (by rw [strL_length];exact h)
theorem drop_len(p:ByteArray)(k:Nat):((strL p).drop k).length=p.size-k:=by rw [List.length_drop,strL_length]
theorem cls_none{N:Nat}{x:List UInt8}{c:UInt8}(h:clsV x=none):clsE N x=0/\clsH x c=false:=by
 unfold clsE clsH;rw [h];exact ⟨rfl,rfl⟩
theorem cls_some{N:Nat}{x:List UInt8}{c:UInt8}{ss:List (UInt8 × UInt8)}{y:List UInt8}(h:clsV x=some (ss,y)):clsE N x=(N:Int)-(y.length:Int)/\clsH x c=(ss.any (spanHas c) !=aheadM [94] x):=by
 unfold clsE clsH;rw [h];exact ⟨rfl,rfl⟩
theorem ret_cls{a b:Int}{c d:Bool}(h1:a=b)(h2:c=d):Ending.returned (.tuple #[.int .i64 a,.bool c])=.returned (.tuple #[.int .i64 b,.bool d]):=by rw [h1,h2]
theorem byte_is{c:UInt8}{k:Nat}(hk:k<256){b:Bool}(h:decide (c=UInt8.ofNat k)=b):((c.toNat:Int)==(k:Int))=b/\((c.toNat:Int) !=(k:Int))=!b:=by
 have:=byte_eq c k hk;rw [h] at this;exact ⟨this,by rw [bne,this]⟩
theorem byte_le(a b:UInt8):decide ((a.toNat:Int)<=(b.toNat:Int))=decide (a<=b)/\decide (a.toNat<=b.toNat)=decide (a<=b):=by
 constructor<;>(rw [decide_eq_decide,UInt8.le_iff_toNat_le])<;>omega
theorem byte_lt(a b:UInt8):decide ((a.toNat:Int)<(b.toNat:Int))=!decide (b<=a)/\decide (a.toNat<b.toNat)=!decide (b<=a):=by
 by_cases h:b<=a
 ·have h':=UInt8.le_iff_toNat_le.1 h;rw [decide_eq_true h];exact ⟨decide_eq_false (by omega),decide_eq_false (by omega)⟩
 ·have h':¬b.toNat<=a.toNat:=fun e=>h (UInt8.le_iff_toNat_le.2 e)
  rw [decide_eq_false h];exact ⟨decide_eq_true (by omega),decide_eq_true (by omega)⟩
def ClsRel(p:ByteArray)(w:World)(x:List UInt8)(c:UInt8)(i h n:Value)(wr:World):Prop :=
 ∃(k:Nat) (ss:List (UInt8 × UInt8)),k<=p.size/\i=.int .i64 (k:Int)/\h=.bool (ss.any (spanHas c))/\n=.int .i64 (ss.length:Int)/\ss.length<=k/\ClsAt x ss ((strL p).drop k)/\Below w.heap.size w wr
set_option maxRecDepth 100000 in
set_option maxHeartbeats 8000000 in
theorem class_ref(p:ByteArray)(j:Nat)(hp:p.size<=1000)(hj:j<p.size)(c:UInt8)(w:World):
 Calls Tryz.prog 229 #[.string p,.int .i64 (j:Int),.int .u8 (c.toNat:Int)] w fun e w'=>e=.returned (.tuple #[.int .i64 (clsE p.size ((strL p).drop (j+1))),.bool (clsH ((strL p).drop (j+1)) c)])/\Below w.heap.size w w':=by
 obtain ⟨x,hx⟩:∃x,(strL p).drop (j+1)=x:=⟨_,rfl⟩;rw [hx];obtain ⟨neg,hneg⟩:∃neg,aheadM [94] x=neg:=⟨_,rfl⟩;obtain ⟨i0,hi0⟩:∃i0:Nat,(if neg then j+2 else j+1)=i0:=⟨_,rfl⟩;have key:(¬j+1<p.size/\neg=false)\/(∃h:j+1<p.size,decide (p[j+1]=UInt8.ofNat 94)=neg):=by
  by_cases h1:j+1<p.size
  ·have hd:=drop_byte p h1;rw [hx] at hd;refine .inr ⟨h1,?_⟩;rw [<-hneg,hd];simp only [aheadM,List.contains_cons,List.contains_nil,Bool.or_false];rfl
  ·have he:x=[]:=by rw [<-hx];exact drop_end p (by omega)
   exact .inl ⟨h1,by rw [<-hneg,he];rfl⟩
 have HK:Hid (hatX x=(strL p).drop i0/\i0<=p.size):=by
  refine zz ?_;unfold hatX;rw [hneg,<-hi0]
  cases neg
  ·exact ⟨hx.symm,hj⟩
  ·rcases key with ⟨_,h⟩|⟨h,_⟩
   ·cases h
   ·refine ⟨?_,h⟩;rw [if_pos rfl,if_pos rfl,<-hx,List.tail_drop]
 have HST:=zz (show ClsAt x [] ((strL p).drop i0) by rw [<-HK.out.1];exact clsAt_start x);have HIL:=zz HK.out.2;have HN:=zz hneg;have HI0:=zz hi0;clear hneg hx hi0 HK;go_enter Tryz.func229,Tryz.ntmps229
 go_upto_region 2 with fail
 go_cut [9] (fun s9 wx=>s9=.bool neg/\w=wx)
 case first =>
  rcases key with ⟨h1,h2⟩|⟨h1,h2⟩
  ·subst h2;have q0:decide (((j:Int)+1)<(p.size:Int))=false:=by rw [decide_eq_false_iff_not];omega
   go_wp2_with fail
   go_meet
   exact ⟨rfl,rfl⟩
  ·obtain ⟨q1,q2⟩:=byte_is (by omega) h2;have HQ1:=zz q1;clear h2 q1 q2
   go_wp2_with fail
   go_meet
   exact ⟨by rw [<-HQ1.out];rfl,rfl⟩
 case rest =>
  obtain ⟨rfl,rfl⟩:=hcut;clear key
  go_upto_if 26 with fail
  go_cut [8] (fun s8 wx=>s8=.int .i64 (i0:Int)/\w=wx)
  case first =>
   cases neg
   ·have he:=HI0.out;rw [if_neg (by simp)] at he
    go_wp2_with fail
    go_meet
    exact ⟨by rw [<-he];go_num,rfl⟩
   ·have he:=HI0.out;rw [if_pos rfl] at he
    go_wp2_with fail
    go_meet
    exact ⟨by rw [<-he];go_num,rfl⟩
  case rest =>
  obtain ⟨rfl,rfl⟩:=hcut
  go_wp2_with fail
  go_loopw [8,10,11] (fun i h n wr=>ClsRel p w x c i h n wr) (fun i _ _ _=>p.size-(intOf i).toNat)
  case atStart=>exact ⟨i0,[],HIL.out,rfl,rfl,rfl,Nat.zero_le _,HST.out,Below.refl _ _⟩
  case round =>
   obtain ⟨k,ss,hk,rfl,rfl,rfl,hsk,hca,hbr⟩:=hrel;have HBr:=zz hbr;generalize hA:ss.any (spanHas c)=A;generalize hnn:ss.length=nn at hsk;have HA:=zz hA;have HNN:=zz hnn;clear hbr hA hnn
   by_cases hlt:k<p.size
   ·have hd:=drop_byte p hlt;rw [hd] at hca
    cases h93:decide (p[k]=UInt8.ofNat 93)
    ·obtain ⟨r1,r2⟩:=byte_is (by omega) h93;have hne:p[k]≠93:=of_decide_eq_false h93;have HI:=zz (fun W=>item_ref p[k] W)
     cases hu:unlistedL.contains p[k]
     ·rw [hu] at HI
      by_cases hk1:k+1<p.size
      ·have hd1:=drop_byte p hk1
       cases h45:decide (p[k+1]=UInt8.ofNat 45)
       ·obtain ⟨s1,s2⟩:=byte_is (by omega) h45;have HC:=zz (clsAt_item hca hne (item_one hu (by rw [hd1];simp only [aheadM,List.contains_cons,List.contains_nil,Bool.or_false,beq_eq_false_iff_ne];exact of_decide_eq_false h45)));clear hd hd1 hca h93 hne hu h45
        go_upto_region 9 with (go_at_call 246;refine (HI.out _).mono ?_;rintro e w1 ⟨rfl,rfl⟩)
        go_region
        go_upto_region 16 with fail
        have HA2:=zz (show (ss++[(p[k],p[k])]).any (spanHas c)=(A||(decide (p[k]<=c)&&decide (c<=p[k]))) by rw [any_snoc,HA.out]);obtain ⟨l1,l2⟩:=byte_le p[k] c;obtain ⟨l3,l4⟩:=byte_le c p[k];have HL2:=zz (show (ss++[(p[k],p[k])]).length=nn+1 by rw [List.length_append,HNN.out];rfl)
        cases A
        ·cases hb1:decide (p[k]<=c)
         ·rw [hb1] at HA2 l1 l2;clear l3 l4 hb1
          go_wp2_with fail
          go_roundw
          case rel=>exact ⟨k+1,ss++[(p[k],p[k])],by omega,by go_num,by rw [HA2.out];rfl,by rw [HL2.out];go_num,by rw [HL2.out];omega,HC.out,HBr.out.drew⟩
          case measure=>simp [intOf];omega
         ·cases hb2:decide (c<=p[k])
          all_goals
           rw [hb1,hb2] at HA2;rw [hb1] at l1 l2;rw [hb2] at l3 l4;clear hb1 hb2
           go_wp2_with fail
           go_roundw
           case rel=>exact ⟨k+1,ss++[(p[k],p[k])],by omega,by go_num,by rw [HA2.out];rfl,by rw [HL2.out];go_num,by rw [HL2.out];omega,HC.out,HBr.out.drew⟩
           case measure=>simp [intOf];omega
        ·clear l1 l2 l3 l4
         go_wp2_with fail
         go_roundw
         case rel=>exact ⟨k+1,ss++[(p[k],p[k])],by omega,by go_num,by rw [HA2.out];rfl,by rw [HL2.out];go_num,by rw [HL2.out];omega,HC.out,HBr.out.drew⟩
         case measure=>simp [intOf];omega
       ·have h45':p[k+1]=45:=of_decide_eq_true h45;obtain ⟨s1,s2⟩:=byte_is (by omega) h45;rw [hd1,h45'] at hca
        by_cases hk2:k+2<p.size
        ·have hd2:=drop_byte p hk2;rw [hd2] at hca;have HI2:=zz (fun W=>item_ref p[k+2] W);obtain ⟨m1,m2⟩:=byte_lt p[k+2] p[k]
         cases hu2:unlistedL.contains p[k+2]
         ·rw [hu2] at HI2
          cases ho:decide (p[k]<=p[k+2])
          ·rw [ho] at m1 m2;have hv:=clsAt_bad hca hne (by rw [item_two hu hu2,if_neg (of_decide_eq_false ho)]);have HE:=zz (cls_none (N:=p.size) (c:=c) hv).1;have HH:=zz (cls_none (N:=p.size) (c:=c) hv).2;clear hv hca;clear hd hd1 hd2 h93 hne hu hu2 h45 h45' ho
           go_upto_region 9 with (go_at_call 246;refine (HI.out _).mono ?_;rintro e w1 ⟨rfl,rfl⟩)
           go_region
           go_wp2_with (go_at_call 246;refine (HI2.out _).mono ?_;rintro e w1 ⟨rfl,rfl⟩)
           go_ret2;exact ⟨ret_cls HE.out.symm HH.out.symm,HBr.out.drew⟩
          ·rw [ho] at m1 m2;have HC:=zz (clsAt_item hca hne (by rw [item_two hu hu2,if_pos (of_decide_eq_true ho)]));clear hd hd1 hd2 hca h93 hne hu hu2 h45 h45' ho
           go_upto_region 9 with (go_at_call 246;refine (HI.out _).mono ?_;rintro e w1 ⟨rfl,rfl⟩)
           go_region
           go_upto_region 16 with (go_at_call 246;refine (HI2.out _).mono ?_;rintro e w1 ⟨rfl,rfl⟩)
           have HA2:=zz (show (ss++[(p[k],p[k+2])]).any (spanHas c)=(A||(decide (p[k]<=c)&&decide (c<=p[k+2]))) by rw [any_snoc,HA.out]);obtain ⟨l1,l2⟩:=byte_le p[k] c;obtain ⟨l3,l4⟩:=byte_le c p[k+2];have HL2:=zz (show (ss++[(p[k],p[k+2])]).length=nn+1 by rw [List.length_append,HNN.out];rfl)
           cases A
           ·cases hb1:decide (p[k]<=c)
            ·rw [hb1] at HA2 l1 l2;clear l3 l4 hb1
             go_wp2_with fail
             go_roundw
             case rel=>exact ⟨k+3,ss++[(p[k],p[k+2])],by omega,by go_num,by rw [HA2.out];rfl,by rw [HL2.out];go_num,by rw [HL2.out];omega,HC.out,HBr.out.drew⟩
             case measure=>simp [intOf];omega
            ·cases hb2:decide (c<=p[k+2])
             all_goals
              rw [hb1,hb2] at HA2;rw [hb1] at l1 l2;rw [hb2] at l3 l4;clear hb1 hb2
              go_wp2_with fail
              go_roundw
              case rel=>exact ⟨k+3,ss++[(p[k],p[k+2])],by omega,by go_num,by rw [HA2.out];rfl,by rw [HL2.out];go_num,by rw [HL2.out];omega,HC.out,HBr.out.drew⟩
              case measure=>simp [intOf];omega
           ·clear l1 l2 l3 l4
            go_wp2_with fail
            go_roundw
            case rel=>exact ⟨k+3,ss++[(p[k],p[k+2])],by omega,by go_num,by rw [HA2.out];rfl,by rw [HL2.out];go_num,by rw [HL2.out];omega,HC.out,HBr.out.drew⟩
            case measure=>simp [intOf];omega
         ·rw [hu2] at HI2;have hv:=clsAt_bad hca hne (item_bad2 hu hu2);have HE:=zz (cls_none (N:=p.size) (c:=c) hv).1;have HH:=zz (cls_none (N:=p.size) (c:=c) hv).2;clear hv hca;clear hd hd1 hd2 h93 hne hu hu2 h45 h45' m1 m2
          go_upto_region 9 with (go_at_call 246;refine (HI.out _).mono ?_;rintro e w1 ⟨rfl,rfl⟩)
          go_region
          go_wp2_with (go_at_call 246;refine (HI2.out _).mono ?_;rintro e w1 ⟨rfl,rfl⟩)
          go_ret2;exact ⟨ret_cls HE.out.symm HH.out.symm,HBr.out.drew⟩
        ·rw [drop_end p (by omega)] at hca;have hv:=clsAt_bad hca hne (item_end hu);have HE:=zz (cls_none (N:=p.size) (c:=c) hv).1;have HH:=zz (cls_none (N:=p.size) (c:=c) hv).2;clear hv hca;clear hd hd1 h93 hne hu h45 h45'
         go_upto_region 9 with (go_at_call 246;refine (HI.out _).mono ?_;rintro e w1 ⟨rfl,rfl⟩)
         go_region
         go_wp2_with fail
         go_ret2;exact ⟨ret_cls HE.out.symm HH.out.symm,HBr.out.drew⟩
      ·have HC:=zz (clsAt_item hca hne (item_one hu (by rw [drop_end p (by omega)];rfl)));clear hd hca h93 hne hu
       go_upto_region 9 with (go_at_call 246;refine (HI.out _).mono ?_;rintro e w1 ⟨rfl,rfl⟩)
       go_region
       go_upto_region 16 with fail
       have HA2:=zz (show (ss++[(p[k],p[k])]).any (spanHas c)=(A||(decide (p[k]<=c)&&decide (c<=p[k]))) by rw [any_snoc,HA.out]);obtain ⟨l1,l2⟩:=byte_le p[k] c;obtain ⟨l3,l4⟩:=byte_le c p[k];have HL2:=zz (show (ss++[(p[k],p[k])]).length=nn+1 by rw [List.length_append,HNN.out];rfl)
       cases A
       ·cases hb1:decide (p[k]<=c)
        ·rw [hb1] at HA2 l1 l2;clear l3 l4 hb1
         go_wp2_with fail
         go_roundw
         case rel=>exact ⟨k+1,ss++[(p[k],p[k])],by omega,by go_num,by rw [HA2.out];rfl,by rw [HL2.out];go_num,by rw [HL2.out];omega,HC.out,HBr.out.drew⟩
         case measure=>simp [intOf];omega
        ·cases hb2:decide (c<=p[k])
         all_goals
          rw [hb1,hb2] at HA2;rw [hb1] at l1 l2;rw [hb2] at l3 l4;clear hb1 hb2
          go_wp2_with fail
          go_roundw
          case rel=>exact ⟨k+1,ss++[(p[k],p[k])],by omega,by go_num,by rw [HA2.out];rfl,by rw [HL2.out];go_num,by rw [HL2.out];omega,HC.out,HBr.out.drew⟩
          case measure=>simp [intOf];omega
       ·clear l1 l2 l3 l4
        go_wp2_with fail
        go_roundw
        case rel=>exact ⟨k+1,ss++[(p[k],p[k])],by omega,by go_num,by rw [HA2.out];rfl,by rw [HL2.out];go_num,by rw [HL2.out];omega,HC.out,HBr.out.drew⟩
        case measure=>simp [intOf];omega
     ·rw [hu] at HI;have hv:=clsAt_bad hca hne (item_bad1 hu);have HE:=zz (cls_none (N:=p.size) (c:=c) hv).1;have HH:=zz (cls_none (N:=p.size) (c:=c) hv).2;clear hv hca;clear hd h93 hne hu
      go_wp2_with (go_at_call 246;refine (HI.out _).mono ?_;rintro e w1 ⟨rfl,rfl⟩)
      go_ret2;exact ⟨ret_cls HE.out.symm HH.out.symm,HBr.out⟩
    ·obtain ⟨r1,r2⟩:=byte_is (by omega) h93;rw [of_decide_eq_true h93] at hca;have hv:=clsAt_stop hca
     by_cases h0:nn=0
     ·have hs0:ss=[]:=List.eq_nil_of_length_eq_zero (by rw [HNN.out];exact h0);rw [hs0] at hv;have HE:=zz (cls_none (N:=p.size) (c:=c) hv).1;have HH:=zz (cls_none (N:=p.size) (c:=c) hv).2;have z0:((nn:Int)==0)=true:=by rw [h0];rfl
      clear hv hca hd h93 h0 hs0
      go_wp2_with fail
      go_ret2;exact ⟨ret_cls HE.out.symm HH.out.symm,HBr.out⟩
     ·have z0:((nn:Int)==0)=false:=by rw [beq_eq_false_iff_ne];omega
      have hss:ss.isEmpty=false:=by
       cases ss with
       | nil=>have:=HNN.out;simp at this;omega
       | cons s r=>rfl
      rw [hss,if_neg (by simp)] at hv;obtain ⟨he,hh⟩:=cls_some (N:=p.size) (c:=c) hv;rw [drop_len,show (p.size:Int)-((p.size-(k+1):Nat):Int)=(k:Int)+1 by omega] at he;rw [HA.out,HN.out] at hh;have HE:=zz he;have HH:=zz hh;clear hv hca hd h93 h0 hss he hh
      cases A
      all_goals
       go_wp2_with fail
       go_ret2;exact ⟨ret_cls HE.out.symm (by rw [HH.out];cases neg<;>rfl),HBr.out⟩
   ·rw [drop_end p (by omega)] at hca;have hv:=clsAt_nil hca;have HE:=zz (cls_none (N:=p.size) (c:=c) hv).1;have HH:=zz (cls_none (N:=p.size) (c:=c) hv).2;clear hv hca
    go_wp2_with fail
    go_ret2;exact ⟨ret_cls HE.out.symm HH.out.symm,HBr.out⟩
theorem scan_inv{o:Nat}{c:UInt8}{t:List UInt8}{q:Option (List UInt8)}(h:Scan o (c::t) q):(c=92/\Scan o t.tail q)\/(c=91/\∃ss y,clsV t=some (ss,y)/\Scan o y q)\/(c=91/\clsV t=none/\q=none)\/(c=40/\Scan (o+1) t q)\/(c=41/\o=1/\q=some (41::t))\/(c=41/\∃k,o=k+2/\Scan (k+1) t q)\/(c≠92/\c≠91/\c≠40/\c≠41/\Scan o t q):=by
 cases h with
 | esc _ _ _ h=>exact .inl ⟨rfl,h⟩
 | cls _ n _ y r _ hc h =>
   obtain ⟨ss,h1,_⟩:=class_of hc;exact .inr (.inl ⟨rfl,ss,y,h1,h⟩)
 | ncl _ _ h =>
   refine .inr (.inr (.inl ⟨rfl,?_,rfl⟩))
   cases hc:clsV t with
   | none=>rfl
   | some r =>
     have:=class_is (ss:=r.1) (y:=r.2) hc;rw [h] at this
     cases this
 | opn _ _ _ h=>exact .inr (.inr (.inr (.inl ⟨rfl,h⟩)))
 | stop _=>exact .inr (.inr (.inr (.inr (.inl ⟨rfl,rfl,rfl⟩))))
 | cl k _ _ h=>exact .inr (.inr (.inr (.inr (.inr (.inl ⟨rfl,k,rfl,h⟩)))))
 | oth _ _ _ _ a b c d h=>exact .inr (.inr (.inr (.inr (.inr (.inr ⟨a,b,c,d,h⟩)))))
theorem scan_nil{o:Nat}{q:Option (List UInt8)}(h:Scan o [] q):q=none:=by cases h;rfl
theorem suffix_drop{L a y:List UInt8}(h:L=a++y):y=L.drop (L.length-y.length):=by
 rw [h,List.length_append,Nat.add_sub_cancel,List.drop_left]
theorem cls_rest{p:ByteArray}{j:Nat}{ss:List (UInt8 × UInt8)}{y:List UInt8}(hj:j<=p.size)(h:clsV ((strL p).drop j)=some (ss,y)):∃m:Nat,clsE p.size ((strL p).drop j)=(m:Int)/\y=(strL p).drop m/\j<=m/\m<=p.size:=by
 obtain ⟨u,hu,_⟩:=class_cut (class_is h);have hl:=drop_len p j;have hy:y.length<=p.size-j:=by rw [<-hl,hu,List.length_append];omega
 refine ⟨p.size-y.length,?_,?_,by omega,by omega⟩
 ·rw [(cls_some (c:=0) h).1];omega
 ·have:strL p=((strL p).take j++u)++y:=by rw [List.append_assoc,<-hu,List.take_append_drop]
  have:=suffix_drop this;rw [strL_length] at this;exact this
def closV(N:Nat)(q:Option (List UInt8)):Int:=match q with|none=>-1|some y=>(N:Int)-(y.length:Int)
theorem ret_i{a b:Int}(h:a=b):Ending.returned (.int .i64 a)=.returned (.int .i64 b):=by rw [h]
theorem test_yes{c:UInt8}(k:Nat)(hk:k<256)(h:c=UInt8.ofNat k):((c.toNat:Int)==(k:Int))=true:=(byte_is hk (decide_eq_true h)).1
theorem test_no{c:UInt8}(k:Nat)(hk:k<256)(h:c≠UInt8.ofNat k):((c.toNat:Int)==(k:Int))=false:=(byte_is hk (decide_eq_false h)).1
def CloRel(p:ByteArray)(w:World)(q:Option (List UInt8))(o i:Value)(wr:World):Prop :=
 ∃k n:Nat,k<=p.size+1/\i=.int .i64 (k:Int)/\o=.int .i64 (n:Int)/\n<=k/\Scan n ((strL p).drop k) q/\Below w.heap.size w wr
set_option maxRecDepth 100000 in
set_option maxHeartbeats 4000000 in
theorem closing_ref(p:ByteArray)(j:Nat)(hp:p.size<=1000)(hj:j<p.size)(h40:p[j]=40)(q:Option (List UInt8))(hs:Scan 1 ((strL p).drop (j+1)) q)(w:World):
 Calls Tryz.prog 255 #[.string p,.int .i64 (j:Int)] w fun e w'=>e=.returned (.int .i64 (closV p.size q))/\Below w.heap.size w w':=by
 have HS:=zz (show Scan 0 ((strL p).drop j) q by rw [drop_byte p hj,h40];exact .opn _ _ _ hs);have HC:=zz (fun (k:Nat) (hk:k<p.size) W=>class_ref p k hp hk 0 W);clear hs h40;go_enter Tryz.func255,Tryz.ntmps255
 go_wp2_with fail
 go_loopw [5,6] (fun o i wr=>CloRel p w q o i wr) (fun _ i _=>p.size+1-(intOf i).toNat)
 case atStart=>exact ⟨j,0,by omega,rfl,rfl,Nat.zero_le _,HS.out,Below.refl _ _⟩
 case round =>
  obtain ⟨k,n,hk,rfl,rfl,hn,hsc,hbr⟩:=hrel;have HBr:=zz hbr;clear hbr
  by_cases hlt:k<p.size
  ·rw [drop_byte p hlt] at hsc;rcases scan_inv hsc with ⟨hc,h⟩|⟨hc,ss,y,hv,h⟩|⟨hc,hv,h⟩|⟨hc,h⟩|⟨hc,h1,h⟩|⟨hc,m,h1,h⟩|⟨h1,h2,h3,h4,h⟩
   ·have t1:((p[k].toNat:Int)==92)=true:=test_yes 92 (by omega) hc;have H:=zz (show Scan n ((strL p).drop (k+2)) q by rw [List.tail_drop] at h;exact h);clear hsc hc h
    go_wp2_with fail
    exact ⟨⟨k+2,n,by omega,by go_num,rfl,by omega,H.out,HBr.out⟩,by simp [intOf];omega⟩
   ·have t1:((p[k].toNat:Int)==92)=false:=test_no 92 (by omega) (show p[k]≠UInt8.ofNat 92 by rw [hc];decide);have t2:((p[k].toNat:Int)==91)=true:=test_yes 91 (by omega) hc;obtain ⟨m,hm1,rfl,hm2,hm3⟩:=cls_rest (by omega) hv;have HC1:=zz (fun W=>HC.out k hlt W);rw [hm1] at HC1;have z0:((m:Int)==0)=false:=by rw [beq_eq_false_iff_ne];omega
    have H:=zz h;generalize clsH ((strL p).drop (k+1)) 0=hb at HC1;clear hsc hc h hv hm1
    go_wp2_with (go_at_call 229;refine (HC1.out _).mono ?_;rintro e w2 ⟨rfl,hb2⟩;have HB2:=zz (HBr.out.trans (hb2.mono HBr.out.size));clear hb2)
    go_roundw
    case rel=>exact ⟨m,n,by omega,by go_num,rfl,by omega,H.out,HB2.out⟩
    case measure=>simp [intOf];omega
   ·have t1:((p[k].toNat:Int)==92)=false:=test_no 92 (by omega) (show p[k]≠UInt8.ofNat 92 by rw [hc];decide);have t2:((p[k].toNat:Int)==91)=true:=test_yes 91 (by omega) hc;have HC1:=zz (fun W=>HC.out k hlt W);rw [(cls_none (c:=0) hv).1] at HC1;have HQ:=zz (show (-1:Int)=closV p.size q by rw [h];rfl);generalize clsH ((strL p).drop (k+1)) 0=hb at HC1;clear hsc hc h hv
    go_wp2_with (go_at_call 229;refine (HC1.out _).mono ?_;rintro e w2 ⟨rfl,hb2⟩;have HB2:=zz (HBr.out.trans (hb2.mono HBr.out.size));clear hb2)
    go_ret;exact ⟨ret_i HQ.out,HB2.out⟩
   ·have t1:((p[k].toNat:Int)==92)=false:=test_no 92 (by omega) (show p[k]≠UInt8.ofNat 92 by rw [hc];decide);have t2:((p[k].toNat:Int)==91)=false:=test_no 91 (by omega) (show p[k]≠UInt8.ofNat 91 by rw [hc];decide);have t3:((p[k].toNat:Int)==40)=true:=test_yes 40 (by omega) hc;have H:=zz h;clear hsc hc h
    go_wp2_with fail
    exact ⟨⟨k+1,n+1,by omega,by go_num,by go_num,by omega,H.out,HBr.out⟩,by simp [intOf];omega⟩
   ·have t1:((p[k].toNat:Int)==92)=false:=test_no 92 (by omega) (show p[k]≠UInt8.ofNat 92 by rw [hc];decide);have t2:((p[k].toNat:Int)==91)=false:=test_no 91 (by omega) (show p[k]≠UInt8.ofNat 91 by rw [hc];decide);have t3:((p[k].toNat:Int)==40)=false:=test_no 40 (by omega) (show p[k]≠UInt8.ofNat 40 by rw [hc];decide);have t4:((p[k].toNat:Int)==41)=true:=test_yes 41 (by omega) hc;subst h1;have HQ:=zz (show (k:Int)=closV p.size q by rw [h];show _=(p.size:Int)-_;rw [List.length_cons,drop_len];omega);clear hsc hc h
    go_wp2_with fail
    go_ret;exact ⟨ret_i HQ.out,HBr.out⟩
   ·have t1:((p[k].toNat:Int)==92)=false:=test_no 92 (by omega) (show p[k]≠UInt8.ofNat 92 by rw [hc];decide);have t2:((p[k].toNat:Int)==91)=false:=test_no 91 (by omega) (show p[k]≠UInt8.ofNat 91 by rw [hc];decide);have t3:((p[k].toNat:Int)==40)=false:=test_no 40 (by omega) (show p[k]≠UInt8.ofNat 40 by rw [hc];decide);have t4:((p[k].toNat:Int)==41)=true:=test_yes 41 (by omega) hc;have z0:((n:Int)-1==0)=false:=by rw [beq_eq_false_iff_ne];omega
    have z1:¬(n:Int)-1=0:=by omega
    have i1:(1:Int)<=(n:Int):=by omega
    have HN:=zz (show (n:Int)-1=((m+1:Nat):Int) by omega);have HM:=zz (show m+1<=k by omega);have H:=zz h;clear hsc hc h h1
    go_wp2_with fail
    exact ⟨⟨k+1,m+1,by omega,by go_num,by rw [HN.out],by have:=HM.out;omega,H.out,HBr.out⟩,by simp [intOf];omega⟩
   ·have t1:((p[k].toNat:Int)==92)=false:=test_no 92 (by omega) h1;have t2:((p[k].toNat:Int)==91)=false:=test_no 91 (by omega) h2;have t3:((p[k].toNat:Int)==40)=false:=test_no 40 (by omega) h3;have t4:((p[k].toNat:Int)==41)=false:=test_no 41 (by omega) h4;have H:=zz h;clear hsc h h1 h2 h3 h4
    go_wp2_with fail
    exact ⟨⟨k+1,n,by omega,by go_num,rfl,by omega,H.out,HBr.out⟩,by simp [intOf];omega⟩
  ·rw [drop_end p (by omega)] at hsc;have HQ:=zz (show (-1:Int)=closV p.size q by rw [scan_nil hsc];rfl);clear hsc
   go_wp2_with fail
   go_ret;exact ⟨ret_i HQ.out,HBr.out⟩
theorem dep_inv{o m out:Nat}{c:UInt8}{t:List UInt8}(h:Dep o m (c::t) out):(c=92/\Dep o m t.tail out)\/(c=91/\∃ss y,clsV t=some (ss,y)/\Dep o m y out)\/(c=40/\Dep (o+1) (max m (o+1)) t out)\/(c=41/\∃k,o=k+1/\Dep k m t out)\/(c≠92/\c≠91/\c≠40/\c≠41/\Dep o m t out):=by
 cases h with
 | esc _ _ _ _ h=>exact .inl ⟨rfl,h⟩
 | cls _ _ _ n _ y r hc h =>
   obtain ⟨ss,h1,_⟩:=class_of hc;exact .inr (.inl ⟨rfl,ss,y,h1,h⟩)
 | opn _ _ _ _ h=>exact .inr (.inr (.inl ⟨rfl,h⟩))
 | cl k _ _ _ h=>exact .inr (.inr (.inr (.inl ⟨rfl,k,rfl,h⟩)))
 | oth _ _ _ _ _ a b c d h=>exact .inr (.inr (.inr (.inr ⟨a,b,c,d,h⟩)))
theorem dep_nil{o m out:Nat}(h:Dep o m [] out):out=m:=by cases h;rfl
def DepRel(p:ByteArray)(w:World)(out:Nat)(o m i:Value)(wr:World):Prop :=
 ∃k n d:Nat,k<=p.size+1/\i=.int .i64 (k:Int)/\o=.int .i64 (n:Int)/\m=.int .i64 (d:Int)/\n<=k/\d<=k/\Dep n d ((strL p).drop k) out/\Below w.heap.size w wr
set_option maxRecDepth 100000 in
set_option maxHeartbeats 4000000 in
theorem depth_ref(p:ByteArray)(hp:p.size<=1000)(out:Nat)(hs:Dep 0 0 (strL p) out)(w:World):
 Calls Tryz.prog 197 #[.string p] w fun e w'=>e=.returned (.int .i64 (out:Int))/\Below w.heap.size w w':=by
 have HS:=zz hs;have HC:=zz (fun (k:Nat) (hk:k<p.size) W=>class_ref p k hp hk 0 W);clear hs;go_enter Tryz.func197,Tryz.ntmps197
 go_wp2_with fail
 go_loopw [3,4,5] (fun o m i wr=>DepRel p w out o m i wr) (fun _ _ i _=>p.size+1-(intOf i).toNat)
 case atStart=>exact ⟨0,0,0,by omega,rfl,rfl,rfl,Nat.zero_le _,Nat.zero_le _,HS.out,Below.refl _ _⟩
 case round =>
  obtain ⟨k,n,d,hk,rfl,rfl,rfl,hn,hdk,hsc,hbr⟩:=hrel;have HBr:=zz hbr;clear hbr
  by_cases hlt:k<p.size
  ·rw [drop_byte p hlt] at hsc;rcases dep_inv hsc with ⟨hc,h⟩|⟨hc,ss,y,hv,h⟩|⟨hc,h⟩|⟨hc,m,h1,h⟩|⟨h1,h2,h3,h4,h⟩
   ·have t1:((p[k].toNat:Int)==92)=true:=test_yes 92 (by omega) hc;have H:=zz (show Dep n d ((strL p).drop (k+2)) out by rw [List.tail_drop] at h;exact h);clear hsc hc h
    go_wp2_with fail
    exact ⟨⟨k+2,n,d,by omega,by go_num,rfl,rfl,by omega,by omega,H.out,HBr.out⟩,by simp [intOf];omega⟩
   ·have t1:((p[k].toNat:Int)==92)=false:=test_no 92 (by omega) (show p[k]≠UInt8.ofNat 92 by rw [hc];decide);have t2:((p[k].toNat:Int)==91)=true:=test_yes 91 (by omega) hc;obtain ⟨m,hm1,rfl,hm2,hm3⟩:=cls_rest (by omega) hv;have HC1:=zz (fun W=>HC.out k hlt W);rw [hm1] at HC1;have H:=zz h;generalize clsH ((strL p).drop (k+1)) 0=hb at HC1;clear hsc hc h hv hm1
    go_wp2_with (go_at_call 229;refine (HC1.out _).mono ?_;rintro e w2 ⟨rfl,hb2⟩;have HB2:=zz (HBr.out.trans (hb2.mono HBr.out.size));clear hb2)
    go_roundw
    case rel=>exact ⟨m,n,d,by omega,by go_num,rfl,rfl,by omega,by omega,H.out,HB2.out⟩
    case measure=>simp [intOf];omega
   ·have t1:((p[k].toNat:Int)==92)=false:=test_no 92 (by omega) (show p[k]≠UInt8.ofNat 92 by rw [hc];decide);have t2:((p[k].toNat:Int)==91)=false:=test_no 91 (by omega) (show p[k]≠UInt8.ofNat 91 by rw [hc];decide);have t3:((p[k].toNat:Int)==40)=true:=test_yes 40 (by omega) hc;have H:=zz h;clear hsc hc h
    by_cases hmx:n+1<=d
    ·have HX:=zz (show max d (n+1)=d by omega);rw [HX.out] at H
     go_wp2_with fail
     exact ⟨⟨k+1,n+1,d,by omega,by go_num,by go_num,by congr 1;omega,by omega,by omega,H.out,HBr.out⟩,by simp [intOf];omega⟩
    ·have HX:=zz (show max d (n+1)=n+1 by omega);rw [HX.out] at H
     go_wp2_with fail
     exact ⟨⟨k+1,n+1,n+1,by omega,by go_num,by go_num,by congr 1;omega,by omega,by omega,H.out,HBr.out⟩,by simp [intOf];omega⟩
   ·have t1:((p[k].toNat:Int)==92)=false:=test_no 92 (by omega) (show p[k]≠UInt8.ofNat 92 by rw [hc];decide);have t2:((p[k].toNat:Int)==91)=false:=test_no 91 (by omega) (show p[k]≠UInt8.ofNat 91 by rw [hc];decide);have t3:((p[k].toNat:Int)==40)=false:=test_no 40 (by omega) (show p[k]≠UInt8.ofNat 40 by rw [hc];decide);have t4:((p[k].toNat:Int)==41)=true:=test_yes 41 (by omega) hc;have i1:(1:Int)<=(n:Int):=by omega
    have HN:=zz (show (n:Int)-1=(m:Int) by omega);have HM:=zz (show m<=k by omega);have H:=zz h;clear hsc hc h h1
    go_wp2_with fail
    exact ⟨⟨k+1,m,d,by omega,by go_num,by rw [HN.out],rfl,by have:=HM.out;omega,by omega,H.out,HBr.out⟩,by simp [intOf];omega⟩
   ·have t1:((p[k].toNat:Int)==92)=false:=test_no 92 (by omega) h1;have t2:((p[k].toNat:Int)==91)=false:=test_no 91 (by omega) h2;have t3:((p[k].toNat:Int)==40)=false:=test_no 40 (by omega) h3;have t4:((p[k].toNat:Int)==41)=false:=test_no 41 (by omega) h4;have H:=zz h;clear hsc h h1 h2 h3 h4
    go_wp2_with fail
    exact ⟨⟨k+1,n,d,by omega,by go_num,rfl,rfl,by omega,by omega,H.out,HBr.out⟩,by simp [intOf];omega⟩
  ·rw [drop_end p (by omega)] at hsc;have HQ:=zz (show (d:Int)=(out:Int) by rw [dep_nil hsc]);clear hsc
   go_wp2_with fail
   go_ret;exact ⟨ret_i HQ.out,HBr.out⟩
end Go.Proofs.YtgdmcnoogacdaaaGreatDoor

namespace Go.Proofs.YtgdmcnoogacdaaaGreatDoor
set_option linter.unusedVariables false
theorem atomP_one{x z z':List UInt8}(h:AtomP x z)(h':AtomP x z'):z=z':=by
 obtain ⟨n,r,d,h⟩:=h;obtain ⟨m,r',d',h'⟩:=h';have:=atom_unique h h';simp only [Prod.mk.injEq] at this;exact this.2.1
theorem no_nil:NoAtom []:=by
 intro n
 cases n with
 | zero=>rfl
 | succ n=>simp [atomM,aheadM,takeButM]
theorem at_dot(t:List UInt8):AtomP (46::t) t:=⟨1,.atom [] true false,0,by simp [atomM,aheadM]⟩
theorem at_plain{c:UInt8}{t:List UInt8}(h:marksL.contains c=false):AtomP (c::t) t:=by
 have h1:aheadM [40] (c::t)=false:=by simp only [aheadM,List.contains_cons,List.contains_nil,Bool.or_false,beq_eq_false_iff_ne];rintro rfl;exact absurd h (by decide)
 have h2:aheadM [91] (c::t)=false:=by simp only [aheadM,List.contains_cons,List.contains_nil,Bool.or_false,beq_eq_false_iff_ne];rintro rfl;exact absurd h (by decide)
 have h3:aheadM [46] (c::t)=false:=by simp only [aheadM,List.contains_cons,List.contains_nil,Bool.or_false,beq_eq_false_iff_ne];rintro rfl;exact absurd h (by decide)
 have h4:aheadM [92] (c::t)=false:=by simp only [aheadM,List.contains_cons,List.contains_nil,Bool.or_false,beq_eq_false_iff_ne];rintro rfl;exact absurd h (by decide)
 refine ⟨1,oneM c,0,?_⟩;simp only [atomM,h1,h2,h3,h4,Bool.false_eq_true,if_false];rw [show takeButM marksL (c::t)=some (c,t) by simp only [takeButM];rw [if_neg (by rw [h];simp)]]
theorem at_esc{d:UInt8}{t:List UInt8}(h:marksL.contains d=true):AtomP (92::d::t) t:=by
 refine ⟨1,oneM d,0,?_⟩;simp only [atomM];rw [if_neg (by simp [aheadM]),if_neg (by simp [aheadM]),if_neg (by simp [aheadM]),if_pos (by simp [aheadM])];simp only [List.tail_cons];rw [if_pos h]
theorem no_esc1:NoAtom [92]:=by
 intro n
 cases n with
 | zero=>rfl
 | succ n =>
   simp only [atomM];rw [if_neg (by simp [aheadM]),if_neg (by simp [aheadM]),if_neg (by simp [aheadM]),if_pos (by simp [aheadM])];rfl
theorem no_esc2{d:UInt8}{t:List UInt8}(h:marksL.contains d=false):NoAtom (92::d::t):=by
 intro n
 cases n with
 | zero=>rfl
 | succ n =>
   simp only [atomM];rw [if_neg (by simp [aheadM]),if_neg (by simp [aheadM]),if_neg (by simp [aheadM]),if_pos (by simp [aheadM])];simp only [List.tail_cons];rw [if_neg (by rw [h];simp)]
theorem at_cls{t y:List UInt8}{ss:List (UInt8 × UInt8)}(h:clsV t=some (ss,y)):AtomP (91::t) y:=by
 refine ⟨t.length+1+1,.atom ss (aheadM [94] t) false,0,?_⟩;rw [atom_class,class_is h]
theorem no_cls{t:List UInt8}(h:clsV t=none):NoAtom (91::t):=by
 intro n
 cases n with
 | zero=>rfl
 | succ n=>rw [atom_class,class_no h]
theorem no_other{c:UInt8}{t:List UInt8}(h:marksL.contains c=true)(h1:c≠40)(h2:c≠91)(h3:c≠46)(h4:c≠92):NoAtom (c::t):=by
 intro n
 cases n with
 | zero=>rfl
 | succ n =>
   simp only [atomM];rw [if_neg (by simp [aheadM,h1]),if_neg (by simp [aheadM,h2]),if_neg (by simp [aheadM,h3]),if_neg (by simp [aheadM,h4])];rw [show takeButM marksL (c::t)=none by simp only [takeButM];rw [if_pos h]]
def AtIs(N:Nat)(x:List UInt8)(v:Int):Prop:=(∃z,AtomP x z/\v=(N:Int)-(z.length:Int))\/(NoAtom x/\v=0)
theorem at_yes{N:Nat}{x z:List UInt8}{v:Int}(h:AtIs N x v)(hz:AtomP x z):v=(N:Int)-(z.length:Int):=by
 rcases h with ⟨z',h1,h2⟩|⟨h1,h2⟩
 ·rw [atomP_one hz h1];exact h2
 ·exact (hz.not h1).elim
theorem at_not{N:Nat}{x:List UInt8}{v:Int}(h:AtIs N x v)(hz:NoAtom x):v=0:=by
 rcases h with ⟨z',h1,h2⟩|⟨h1,h2⟩
 ·exact (h1.not hz).elim
 ·exact h2
theorem res_nil{u:List UInt8}{r:Option (List (List UInt8))}(h:Res u [] r):r=some [u] :=
 match h with
 | .nil _=>rfl
 | .one _ v _ z _ ha hx _=>(ha.not no_nil).elim
 | .bad _ _ hn hne hb=>absurd rfl hne
theorem res_bar{u t:List UInt8}{r:Option (List (List UInt8))}(h:Res u (124::t) r):∃r',r=r'.map (u::·)/\Res [] t r' :=
 match h with
 | .bar _ _ r' h=>⟨r',rfl,h⟩
 | .one _ v _ z _ ha hx _=>absurd (atom_head ha).2 (by simp [aheadM])
 | .bad _ _ hn hne hb=>absurd hb (by simp [aheadM])
theorem res_one{u x z:List UInt8}{r:Option (List (List UInt8))}(ha:AtomP x z)(h:Res u x r):∃v,x=v++behindP z/\Res (u++v) (behindP z) r :=
 match x,r,h,ha with
 | _,_,.nil _,ha=>(ha.not no_nil).elim
 | _,_,.bar _ t r' h,ha=>absurd (atom_head ha).2 (by simp [aheadM])
 | _,_,.one _ v _ z' _ ha' hx h,ha=>by
   have e:=atomP_one ha ha';rw [e];exact ⟨v,hx,h⟩
 | _,_,.bad _ _ hn hne hb,ha=>(ha.not hn).elim
theorem res_bad{u x:List UInt8}{r:Option (List (List UInt8))}(hn:NoAtom x)(hne:x≠[])(hb:aheadM [124] x=false)(h:Res u x r):r=none :=
 match x,r,h,hn,hne,hb with
 | _,_,.nil _,_,hne,_=>absurd rfl hne
 | _,_,.bar _ t r' h,_,_,hb=>absurd hb (by simp [aheadM])
 | _,_,.one _ v _ z' _ ha' hx h,hn,_,_=>(ha'.not hn).elim
 | _,_,.bad _ _ _ _ _,_,_,_=>rfl
end Go.Proofs.YtgdmcnoogacdaaaGreatDoor

namespace Go.Proofs.YtgdmcnoogacdaaaGreatDoor
open Go.RowKit Go.Maps
set_option linter.unusedVariables false
def strE(u:List UInt8):List Value:=[.string (txt u)]
theorem strE_len(u:List UInt8):(strE u).length=1:=rfl
def OwnT(w:World)(base:Nat)(v:Value)(us:List (List UInt8)):Prop:=w.ownsRow base 9 1 v us.length (us.flatMap strE)
section
variable {w w':World} {base:Nat} {v:Value} {us:List (List UInt8)}
theorem ownt_nil(w:World)(base:Nat):OwnT w base (.slice none 0 0) []:=⟨rfl,.inl ⟨rfl,rfl⟩⟩
theorem ownt_below(h:OwnT w base v us)(hb:Below w.heap.size w w'):OwnT w' base v us:=rows_below h hb
theorem ownt_slice(h:OwnT w base v us):∃P c,v=.slice P us.length c/\us.length<=c/\At w P (us.flatMap strE)/\∀ad,P=some ad->base<=ad.block:=rows_slice h
end
theorem str_info:(Tryz.prog.info? 9).map (fun i=>(i.zero,i.size,i.bytes))=some (some (.string ⟨#[]⟩),1,16):=by kernel_rfl
theorem str_one(l:List (List UInt8)):∀u∈l.flatMap strE,u.oneCell'=true:=by
 intro u hu;simp only [List.mem_flatMap,strE,List.mem_cons,List.not_mem_nil,or_false] at hu;obtain ⟨x,_,rfl⟩:=hu;rfl
theorem app_strs{w:World}{ops:Array Oper}{rest:List Oper}{o:Oper}{a:Act}{Q:Exit->Act->World->Prop}(hgd:o.guard=none)(s y:Operand)
 (ho:o.op=.call { callee:=.builtin .append,args:=#[s,y],argTypes:=#[111,111] })
 (base:Nat)(v:Value)(x:List (List UInt8))(hs:a.eval s=v)(hown:OwnT w base v x)(A:Option Addr)(l:List (List UInt8))(c:Nat)(hy:a.eval y=.slice A l.length c)(hA:At w A (l.flatMap strE))(hn:(x.length+l.length)*16<=140737488355328)(hbase:base<=w.heap.size)
 (h:∀v' w',OwnT w' base v' (x++l)->Below base w w'->w.grownBy w' v.ownBlock->wpList Tryz.prog ops Q rest (a.put o.dst v') w'):wpList Tryz.prog ops Q (o::rest) a w:=by
 obtain ⟨i0,hi,hz0,hz1,hz2⟩:=info_parts str_info;refine wpList_app_at hgd s y 111 ho base 9 i0 _ 1 16 Tryz.underlying111 hi hz0 hz1 hz2 rfl (by omega) v x.length (x.flatMap strE) hs hown A l.length c (l.flatMap strE) hy (flat_len strE 1 strE_len l) hA (str_one l)
  (by simp only [maxLen];omega) hn hbase ?_
 intro v' w' h1 h2 h3;refine h v' w' ?_ h2 h3;unfold OwnT;rw [List.flatMap_append,List.length_append];exact h1
theorem str_cell{w:World}{g:Nat}{s:ByteArray}{u:List UInt8}(h:Row w g 9 #[.string s])(hs:strL s=u):At w (some ⟨g,0,none⟩) ([u].flatMap strE):=by
 have:=At.row h;rw [show [u].flatMap strE=(#[Value.string s]).toList by rw [<-hs];simp [strE,txt_strL]];exact this
theorem ext_txt(p:ByteArray)(i j:Nat)(hj:j<=p.size):strL (p.extract i j)=((strL p).drop i).take (j-i):=by
 unfold strL;rw [ByteArray.data_extract,Array.toList_extract,List.extract_eq_take_drop]
def RightAt(p:ByteArray):Prop:=∀(b:Bool) (w:World),(b=true↔RightP (strL p))->Calls Tryz.prog 196 #[.string p] w fun e w'=>e=.returned (.bool b)/\Below w.heap.size w w'
def AtomAt(p:ByteArray):Prop:=∀(k:Nat) (v:Int) (w:World),k<=p.size->AtIs p.size ((strL p).drop k) v->Calls Tryz.prog 245 #[.string p,.int .i64 (k:Int)] w fun e w'=>e=.returned (.int .i64 v)/\Below w.heap.size w w'
set_option maxRecDepth 100000 in
set_option maxHeartbeats 4000000 in
theorem atom_ref(p:ByteArray)(hp:p.size<=1000)(hr:∀q:ByteArray,q.size<p.size->RightAt q):AtomAt p:=by
 intro k v w hk hv;have HR:=zz hr;clear hr
 by_cases hlt:k<p.size
 ·have hd:=drop_byte p hlt;rw [hd] at hv;have HP:=zz (fun (d:UInt8) W=>plain_ref d W)
  cases hm:marksL.contains p[k]
  ·have hz:=at_yes hv (at_plain hm);rw [drop_len,show (p.size:Int)-((p.size-(k+1):Nat):Int)=(k:Int)+1 by omega] at hz;have HZ:=zz hz;have t1:((p[k].toNat:Int)==46)=false:=test_no 46 (by omega) (show p[k]≠UInt8.ofNat 46 by rintro e;rw [e] at hm;exact absurd hm (by decide));have HP1:=zz (fun W=>HP.out p[k] W);rw [hm] at HP1;clear hv hd hz hm;go_enter Tryz.func245,Tryz.ntmps245
   go_wp2_with (go_at_call 254;refine (HP1.out _).mono ?_;rintro e w1 ⟨rfl,rfl⟩)
   go_ret;exact ⟨ret_i HZ.out.symm,Below.refl _ _⟩
  ·by_cases h46:p[k]=46
   ·have hz:=at_yes hv (by rw [h46];exact at_dot _);rw [drop_len,show (p.size:Int)-((p.size-(k+1):Nat):Int)=(k:Int)+1 by omega] at hz;have HZ:=zz hz;have t1:((p[k].toNat:Int)==46)=true:=test_yes 46 (by omega) h46;clear hv hd hz hm h46;go_enter Tryz.func245,Tryz.ntmps245
    go_wp2_with fail
    go_ret;exact ⟨ret_i HZ.out.symm,Below.refl _ _⟩
   ·have t1:((p[k].toNat:Int)==46)=false:=test_no 46 (by omega) h46;have HP1:=zz (fun W=>HP.out p[k] W);rw [hm] at HP1
    by_cases h92:p[k]=92
    ·have t2:((p[k].toNat:Int)==92)=true:=test_yes 92 (by omega) h92;have t3:((p[k].toNat:Int)==91)=false:=test_no 91 (by omega) (show p[k]≠UInt8.ofNat 91 by rw [h92];decide);have t4:((p[k].toNat:Int)==40)=false:=test_no 40 (by omega) (show p[k]≠UInt8.ofNat 40 by rw [h92];decide);rw [h92] at hv
     by_cases hk1:k+1<p.size
     ·have hd1:=drop_byte p hk1;rw [hd1] at hv;have HP2:=zz (fun W=>HP.out p[k+1] W)
      cases hm2:marksL.contains p[k+1]
      ·rw [hm2] at HP2;have HZ:=zz (at_not hv (no_esc2 hm2));clear hv hd hd1 hm hm2 h46 h92;go_enter Tryz.func245,Tryz.ntmps245
       go_wp2_with (first
        | (go_at_call 254;(with_reducible refine (HP1.out _).mono ?_);rintro e w1 ⟨rfl,rfl⟩)
        | (go_at_call 254;(with_reducible refine (HP2.out _).mono ?_);rintro e w1 ⟨rfl,rfl⟩))
       go_ret;exact ⟨ret_i HZ.out.symm,Below.refl _ _⟩
      ·rw [hm2] at HP2;have hz:=at_yes hv (at_esc hm2);rw [drop_len,show (p.size:Int)-((p.size-(k+1+1):Nat):Int)=(k:Int)+2 by omega] at hz;have HZ:=zz hz;clear hv hd hd1 hm hm2 h46 h92 hz;go_enter Tryz.func245,Tryz.ntmps245
       go_wp2_with (first
        | (go_at_call 254;(with_reducible refine (HP1.out _).mono ?_);rintro e w1 ⟨rfl,rfl⟩)
        | (go_at_call 254;(with_reducible refine (HP2.out _).mono ?_);rintro e w1 ⟨rfl,rfl⟩))
       go_ret;exact ⟨ret_i HZ.out.symm,Below.refl _ _⟩
     ·rw [drop_end p (by omega)] at hv;have HZ:=zz (at_not hv no_esc1);clear hv hd hm h46 h92;go_enter Tryz.func245,Tryz.ntmps245
      go_wp2_with (go_at_call 254;refine (HP1.out _).mono ?_;rintro e w1 ⟨rfl,rfl⟩)
      go_ret;exact ⟨ret_i HZ.out.symm,Below.refl _ _⟩
    ·have t2:((p[k].toNat:Int)==92)=false:=test_no 92 (by omega) h92
     by_cases h91:p[k]=91
     ·have t3:((p[k].toNat:Int)==91)=true:=test_yes 91 (by omega) h91;rw [h91] at hv;have HC:=zz (fun W=>class_ref p k hp hlt 0 W);have HZ:=zz (show clsE p.size ((strL p).drop (k+1))=v by
       cases hc:clsV ((strL p).drop (k+1)) with
       | none=>rw [(cls_none (c:=0) hc).1,at_not hv (no_cls hc)]
       | some q=>rw [(cls_some (c:=0) (ss:=q.1) (y:=q.2) hc).1,at_yes hv (at_cls (ss:=q.1) (y:=q.2) hc)])
      rw [HZ.out] at HC;generalize clsH ((strL p).drop (k+1)) 0=hb at HC;clear hv hd hm h46 h92 h91;go_enter Tryz.func245,Tryz.ntmps245
      go_wp2_with (first
       | (go_at_call 254;refine (HP1.out _).mono ?_;rintro e w1 ⟨rfl,rfl⟩)
       | (go_at_call 229;refine (HC.out _).mono ?_;rintro e w2 ⟨rfl,hb2⟩;have HB2:=zz hb2;clear hb2))
      go_ret;exact ⟨rfl,HB2.out⟩
     ·have t3:((p[k].toNat:Int)==91)=false:=test_no 91 (by omega) h91
      by_cases h40:p[k]=40
      ·have t4:((p[k].toNat:Int)==40)=true:=test_yes 40 (by omega) h40;rw [h40] at hv;rcases atom_or (40::(strL p).drop (k+1)) with hno|⟨z,hz⟩
       ·have HZ:=zz (at_not hv hno);obtain ⟨q,hq⟩:=scan_all _ ((strL p).drop (k+1)) 0 (Nat.le_refl _);have HC:=zz (fun W=>closing_ref p k hp hlt h40 q hq W)
        cases q with
        | none =>
          have HC':=zz (fun W=>(show Calls Tryz.prog 255 #[.string p,.int .i64 (k:Int)] W fun e w'=>e=.returned (.int .i64 (-1))/\Below W.heap.size W w' from HC.out W));clear hv hd hm h46 h92 h91 h40 hno hq HC;go_enter Tryz.func245,Tryz.ntmps245
          go_wp2_with (first
           | (go_at_call 254;refine (HP1.out _).mono ?_;rintro e w1 ⟨rfl,rfl⟩)
           | (go_at_call 255;refine (HC'.out _).mono ?_;rintro e w2 ⟨rfl,hb2⟩;have HB2:=zz hb2;clear hb2))
          go_ret;exact ⟨ret_i HZ.out.symm,HB2.out⟩
        | some y =>
          obtain ⟨u,z,hu,hyz⟩:=scan_head hq y rfl;rw [hyz] at hu;have hnr:=group_no hno hu;have hyl:u.length+y.length=p.size-(k+1):=by rw [<-drop_len p (k+1),hu,hyz,List.length_append]
          obtain ⟨m,hm1⟩:∃m:Nat,p.size-y.length=m:=⟨_,rfl⟩;have hml:k+1<=m/\m<=p.size:=by omega
          have hsl:strL (p.extract (k+1) m)=u:=by
           rw [ext_txt p _ _ hml.2,hu,show m-(k+1)=u.length by omega,List.take_left]
          have hsz:(p.extract (k+1) m).size<p.size:=by rw [<-strL_length,hsl];omega
          have HG:=zz (fun W=>HR.out _ hsz false W (by rw [hsl];exact ⟨fun h=>(by cases h),fun h=>absurd h hnr⟩));have hcv:closV p.size (some y)=(m:Int):=by show (p.size:Int)-_=_;omega
          rw [hcv] at HC;have i1:(k:Int)+1<=(m:Int):=by omega
          have i2:(m:Int)<=(p.size:Int):=by omega
          clear hv hd hm h46 h92 h91 h40 hno hq hu hyz hnr hyl hm1 hsl hsz hcv;go_enter Tryz.func245,Tryz.ntmps245
          go_wp2_with (first
           | (go_at_call 254;refine (HP1.out _).mono ?_;rintro e w1 ⟨rfl,rfl⟩)
           | (go_at_call 255;refine (HC.out _).mono ?_;rintro e w2 ⟨rfl,hb2⟩;have HB2:=zz hb2;clear hb2)
           | (go_at_call 196;refine (HG.out _).mono ?_;rintro e w3 ⟨rfl,hb3⟩;have HB3:=zz (HB2.out.trans (hb3.mono HB2.out.size));clear hb3))
          go_ret;exact ⟨ret_i HZ.out.symm,HB3.out⟩
       ·obtain ⟨hq,u,hu,hru⟩:=group_yes hz;have hzv:=at_yes hv hz;have HC:=zz (fun W=>closing_ref p k hp hlt h40 _ hq W);have hyl:u.length+(z.length+1)=p.size-(k+1):=by rw [<-drop_len p (k+1),hu,List.length_append,List.length_cons]
        obtain ⟨m,hm1⟩:∃m:Nat,p.size-(z.length+1)=m:=⟨_,rfl⟩;have hml:k+1<=m/\m<=p.size:=by omega
        have hsl:strL (p.extract (k+1) m)=u:=by
         rw [ext_txt p _ _ hml.2,hu,show m-(k+1)=u.length by omega,List.take_left]
        have hsz:(p.extract (k+1) m).size<p.size:=by rw [<-strL_length,hsl];omega
        have HG:=zz (fun W=>HR.out _ hsz true W (by rw [hsl];exact ⟨fun _=>hru,fun _=>rfl⟩));have hcv:closV p.size (some (41::z))=(m:Int):=by show (p.size:Int)-_=_;rw [List.length_cons];omega
        rw [hcv] at HC;have HZ:=zz (show (m:Int)+1=v by rw [hzv];omega);have i1:(k:Int)+1<=(m:Int):=by omega
        have i2:(m:Int)<=(p.size:Int):=by omega
        clear hv hd hm h46 h92 h91 h40 hz hq hu hru hyl hm1 hsl hsz hcv hzv;go_enter Tryz.func245,Tryz.ntmps245
        go_wp2_with (first
         | (go_at_call 254;refine (HP1.out _).mono ?_;rintro e w1 ⟨rfl,rfl⟩)
         | (go_at_call 255;refine (HC.out _).mono ?_;rintro e w2 ⟨rfl,hb2⟩;have HB2:=zz hb2;clear hb2)
         | (go_at_call 196;refine (HG.out _).mono ?_;rintro e w3 ⟨rfl,hb3⟩;have HB3:=zz (HB2.out.trans (hb3.mono HB2.out.size));clear hb3))
        go_ret;exact ⟨ret_i HZ.out,HB3.out⟩
      ·have t4:((p[k].toNat:Int)==40)=false:=test_no 40 (by omega) h40;have HZ:=zz (at_not hv (no_other hm h40 h91 h46 h92));clear hv hd hm h46 h92 h91 h40;go_enter Tryz.func245,Tryz.ntmps245
       go_wp2_with (go_at_call 254;refine (HP1.out _).mono ?_;rintro e w1 ⟨rfl,rfl⟩)
       go_ret;exact ⟨ret_i HZ.out.symm,Below.refl _ _⟩
 ·rw [drop_end p (by omega)] at hv;have HZ:=zz (at_not hv no_nil);clear hv;go_enter Tryz.func245,Tryz.ntmps245
  go_wp2_with fail
  go_ret;exact ⟨ret_i HZ.out.symm,Below.refl _ _⟩
def CutTold(w:World)(r:Option (List (List UInt8)))(e:Ending)(w':World):Prop :=
 match r with
 | none=>e=.returned (.tuple #[.slice none 0 0,.bool false])/\Below w.heap.size w w'
 | some us=>∃v,e=.returned (.tuple #[v,.bool true])/\OwnT w' w.heap.size v us/\Below w.heap.size w w'
def CutRel(p:ByteArray)(w:World)(r:Option (List (List UInt8)))(o f i:Value)(wr:World):Prop :=
 ∃(k j:Nat) (us:List (List UInt8)) (r':Option (List (List UInt8))),k<=p.size/\j<=k/\us.length<=k/\i=.int .i64 (k:Int)/\f=.int .i64 (j:Int)/\OwnT wr w.heap.size o us/\Res (((strL p).drop j).take (k-j)) ((strL p).drop k) r'/\r=r'.map (us++·)/\Below w.heap.size w wr
theorem mark_is(p:ByteArray){m:Nat}:behindP ((strL p).drop m)=if MarkP ((strL p).drop m) then (strL p).drop (m+1) else (strL p).drop m:=by
 unfold behindP;rw [List.tail_drop]
theorem mark_at(p:ByteArray){m:Nat}(h:m<p.size):MarkP ((strL p).drop m)=(decide (p[m]=UInt8.ofNat 42)||(decide (p[m]=UInt8.ofNat 43)||decide (p[m]=UInt8.ofNat 63))):=by
 rw [drop_byte p h];unfold MarkP;simp only [aheadM,List.contains_cons,List.contains_nil,Bool.or_false,Bool.or_assoc];rfl
theorem mark_end(p:ByteArray){m:Nat}(h:p.size<=m):MarkP ((strL p).drop m)=false:=by rw [drop_end p h];rfl
theorem take_more(L v y:List UInt8)(j k m:Nat)(hj:j<=k)(hkm:k<=m)(hm:m<=L.length)(h:L.drop k=v++L.drop m):(L.drop j).take (k-j)++v=(L.drop j).take (m-j):=by
 have hv:v=(L.drop k).take (m-k):=by
  have h2:(L.drop k).length=v.length+(L.drop m).length:=by rw [h,List.length_append]
  rw [List.length_drop,List.length_drop] at h2;rw [h,show m-k=v.length by omega,List.take_left]
 rw [hv,show m-j=(k-j)+(m-k) by omega,List.take_add,List.drop_drop,show j+(k-j)=k by omega]
set_option maxRecDepth 100000 in
set_option maxHeartbeats 8000000 in
theorem cut_ref(p:ByteArray)(hp:p.size<=1000)(ha:AtomAt p)(r:Option (List (List UInt8)))(hr:Res [] (strL p) r)(w:World):
 Calls Tryz.prog 228 #[.string p] w (CutTold w r):=by
 have HA:=zz ha;have HR:=zz hr;clear ha hr;go_enter Tryz.func228,Tryz.ntmps228
 go_wp2_with fail
 go_loopw [4,5,6] (fun o f i wr=>CutRel p w r o f i wr) (fun _ _ i _=>p.size-(intOf i).toNat)
 case atStart=>exact ⟨0,0,[],r,Nat.zero_le _,Nat.le_refl _,Nat.le_refl _,rfl,rfl,ownt_nil _ _,by simpa using HR.out,by cases r<;>rfl,Below.refl _ _⟩
 case round =>
  obtain ⟨k,j,us,r',hk,hjk,hus,rfl,rfl,ho,hres,hrr,hbr⟩:=hrel;have hsz:=hbr.size;obtain ⟨P,cc,rfl,_,_,_⟩:=ownt_slice ho;have HBr:=zz hbr;have HO:=zz ho;clear hbr ho
  by_cases hlt:k<p.size
  ·have hd:=drop_byte p hlt
   by_cases hb:p[k]=124
   ·have t1:((p[k].toNat:Int)==124)=true:=test_yes 124 (by omega) hb;rw [hd,hb] at hres;obtain ⟨r2,hr2,hres2⟩:=res_bar hres;have HS:=zz (show strL (p.extract j k)=((strL p).drop j).take (k-j) from ext_txt p j k hk);have HRR:=zz (show r=r2.map ((us++[((strL p).drop j).take (k-j)])++·) by rw [hrr,hr2];cases r2<;>simp);have HRES:=zz (show Res (((strL p).drop (k+1)).take (k+1-(k+1))) ((strL p).drop (k+1)) r2 by rw [Nat.sub_self];exact hres2);have HN:=zz (show (us.length+1)*16<=140737488355328 by omega);generalize ((strL p).drop j).take (k-j)=u at *;have i1:(j:Int)<=(k:Int):=by omega
    have i2:(k:Int)<=(p.size:Int):=by omega
    have HL:=zz (show (us++[u]).length<=k+1 by simp;omega);clear hd hb hres hr2 hres2 hrr
    go_wp2_with (at_builtin;refine app_strs rfl (.tmp 16) (.tmp 21) rfl w.heap.size _ us rfl (ownt_below HO.out (below_one _ _)) _ [u] 1 rfl (str_cell (Row.new _ _ _) HS.out) HN.out (Nat.le_trans hsz (by simp)) ?_;intro v1 w1 hown1 hb1 _;have HO1:=zz hown1;have HB1:=zz ((HBr.out.alloc hsz _).trans hb1);clear hown1 hb1)
    exact ⟨⟨k+1,k+1,us++[u],r2,by omega,Nat.le_refl _,HL.out,by go_num,by go_num,HO1.out,HRES.out,HRR.out,HB1.out⟩,by simp [intOf];omega⟩
   ·have t1:((p[k].toNat:Int)==124)=false:=test_no 124 (by omega) hb;have hah:aheadM [124] ((strL p).drop k)=false:=by rw [hd];simp only [aheadM,List.contains_cons,List.contains_nil,Bool.or_false,beq_eq_false_iff_ne];exact hb
    rcases atom_or ((strL p).drop k) with hno|⟨z,hz⟩
    ·have hrn:=res_bad hno (by rw [hd];simp) hah hres;have HRN:=zz (show r=none by rw [hrr,hrn];rfl);have HC:=zz (fun W=>HA.out k 0 W hk (.inr ⟨hno,rfl⟩));clear hd hb hres hrr hah hno hrn
     go_wp2_with (go_at_call 245;refine (HC.out _).mono ?_;rintro e w2 ⟨rfl,hb2⟩;have HB2:=zz (HBr.out.trans (hb2.mono HBr.out.size));clear hb2)
     go_ret2;rw [HRN.out];exact ⟨rfl,HB2.out⟩
    ·obtain ⟨v,hv,_⟩:=atomP_cut hz;obtain ⟨v2,hv2,hres2⟩:=res_one hz hres;have hzl:=atomP_len hz;have hzd:(strL p)=((strL p).take k++v)++z:=by rw [List.append_assoc,<-hv,List.take_append_drop]
     have hzs:=suffix_drop hzd;rw [strL_length] at hzs;rw [drop_len] at hzl;obtain ⟨m,hm⟩:∃m:Nat,p.size-z.length=m:=⟨_,rfl⟩;rw [hm] at hzs;have hzle:z.length<=p.size:=by omega
     have hkm:k<m/\m<=p.size:=by omega
     have HC:=zz (fun W=>HA.out k (m:Int) W hk (.inl ⟨z,hz,by omega⟩));have z0:((m:Int)==0)=false:=by rw [beq_eq_false_iff_ne];omega
     rw [hzs] at hv2 hres2;rw [mark_is] at hv2 hres2
     by_cases hmk:MarkP ((strL p).drop m)=true
     ·rw [if_pos hmk] at hv2 hres2;have hms:m<p.size:=by
       rcases Nat.lt_or_ge m p.size with h|h
       ·exact h
       ·rw [mark_end p h] at hmk;cases hmk
      rw [take_more (strL p) v2 [] j k (m+1) hjk (by omega) (by rw [strL_length];omega) hv2] at hres2;rw [mark_at p hms] at hmk;have HRES:=zz hres2;have HRR:=zz hrr;have q1:=byte_eq p[m] 42 (by omega);have q2:=byte_eq p[m] 43 (by omega);have q3:=byte_eq p[m] 63 (by omega);clear hd hb hres hrr hah hv hv2 hzl hzd hzs hz hres2 hm
      cases h1:decide (p[m]=UInt8.ofNat 42)
      ·cases h2:decide (p[m]=UInt8.ofNat 43)
       ·cases h3:decide (p[m]=UInt8.ofNat 63)
        ·rw [h1,h2,h3] at hmk;cases hmk
        ·have s1:((p[m].toNat:Int)==42)=false:=q1.trans h1;have s2:((p[m].toNat:Int)==43)=false:=q2.trans h2;have s3:((p[m].toNat:Int)==63)=true:=q3.trans h3;clear q1 q2 q3 h1 h2 h3 hmk
         go_wp2_with (go_at_call 245;refine (HC.out _).mono ?_;rintro e w2 ⟨rfl,hb2⟩;have HB2:=zz (HBr.out.trans (hb2.mono HBr.out.size));have HO2:=zz (ownt_below HO.out hb2);clear hb2)
         exact ⟨⟨m+1,j,us,r',by omega,by omega,by omega,by go_num,rfl,HO2.out,HRES.out,HRR.out,HB2.out⟩,by simp [intOf];omega⟩
       ·have s1:((p[m].toNat:Int)==42)=false:=q1.trans h1;have s2:((p[m].toNat:Int)==43)=true:=q2.trans h2;clear q1 q2 q3 h1 h2 hmk
        go_wp2_with (go_at_call 245;refine (HC.out _).mono ?_;rintro e w2 ⟨rfl,hb2⟩;have HB2:=zz (HBr.out.trans (hb2.mono HBr.out.size));have HO2:=zz (ownt_below HO.out hb2);clear hb2)
        exact ⟨⟨m+1,j,us,r',by omega,by omega,by omega,by go_num,rfl,HO2.out,HRES.out,HRR.out,HB2.out⟩,by simp [intOf];omega⟩
      ·have s1:((p[m].toNat:Int)==42)=true:=q1.trans h1;clear q1 q2 q3 h1 hmk
       go_wp2_with (go_at_call 245;refine (HC.out _).mono ?_;rintro e w2 ⟨rfl,hb2⟩;have HB2:=zz (HBr.out.trans (hb2.mono HBr.out.size));have HO2:=zz (ownt_below HO.out hb2);clear hb2)
       exact ⟨⟨m+1,j,us,r',by omega,by omega,by omega,by go_num,rfl,HO2.out,HRES.out,HRR.out,HB2.out⟩,by simp [intOf];omega⟩
     ·rw [if_neg hmk] at hv2 hres2;rw [take_more (strL p) v2 [] j k m hjk (by omega) (by rw [strL_length];omega) hv2] at hres2;have HRES:=zz hres2;have HRR:=zz hrr;have hmk':=Bool.eq_false_iff.2 hmk;clear hd hb hres hrr hah hv hv2 hzl hzd hzs hz hres2 hm hmk
      by_cases hms:m<p.size
      ·rw [mark_at p hms,Bool.or_eq_false_iff,Bool.or_eq_false_iff] at hmk';have s1:((p[m].toNat:Int)==42)=false:=(byte_eq p[m] 42 (by omega)).trans hmk'.1;have s2:((p[m].toNat:Int)==43)=false:=(byte_eq p[m] 43 (by omega)).trans hmk'.2.1;have s3:((p[m].toNat:Int)==63)=false:=(byte_eq p[m] 63 (by omega)).trans hmk'.2.2;clear hmk'
       go_wp2_with (go_at_call 245;refine (HC.out _).mono ?_;rintro e w2 ⟨rfl,hb2⟩;have HB2:=zz (HBr.out.trans (hb2.mono HBr.out.size));have HO2:=zz (ownt_below HO.out hb2);clear hb2)
       exact ⟨⟨m,j,us,r',by omega,by omega,by omega,rfl,rfl,HO2.out,HRES.out,HRR.out,HB2.out⟩,by simp [intOf];omega⟩
      ·clear hmk'
       go_wp2_with (go_at_call 245;refine (HC.out _).mono ?_;rintro e w2 ⟨rfl,hb2⟩;have HB2:=zz (HBr.out.trans (hb2.mono HBr.out.size));have HO2:=zz (ownt_below HO.out hb2);clear hb2)
       exact ⟨⟨m,j,us,r',by omega,by omega,by omega,rfl,rfl,HO2.out,HRES.out,HRR.out,HB2.out⟩,by simp [intOf];omega⟩
  ·obtain rfl:k=p.size:=by omega
   rw [drop_end p (Nat.le_refl _)] at hres;have hrn:=res_nil hres;have HS:=zz (show strL (p.extract j p.size)=((strL p).drop j).take (p.size-j) from ext_txt p j _ (Nat.le_refl _));have HRR:=zz (show r=some (us++[((strL p).drop j).take (p.size-j)]) by rw [hrr,hrn];rfl);generalize ((strL p).drop j).take (p.size-j)=u at *;have HN:=zz (show (us.length+1)*16<=140737488355328 by omega);have i1:(j:Int)<=(p.size:Int):=by omega
   clear hres hrn hrr
   go_wp2_with (at_builtin;refine app_strs rfl (.tmp 56) (.tmp 60) rfl w.heap.size _ us rfl (ownt_below HO.out (below_one _ _)) _ [u] 1 rfl (str_cell (Row.new _ _ _) HS.out) HN.out (Nat.le_trans hsz (by simp)) ?_;intro v1 w1 hown1 hb1 _;have HO1:=zz hown1;have HB1:=zz ((HBr.out.alloc hsz _).trans hb1);clear hown1 hb1)
   go_ret2;rw [HRR.out];exact ⟨v1,rfl,HO1.out,HB1.out⟩
theorem right_ref(p:ByteArray)(hp:p.size<=1000)(ha:AtomAt p):RightAt p:=by
 intro b w hb;obtain ⟨r,hr⟩:=res_all _ (strL p) [] (Nat.le_refl _);have hq:=res_right hr;have HC:=zz (cut_ref p hp ha r hr w)
 cases r with
 | none =>
   have hbf:b=false:=by rw [Bool.eq_false_iff,Ne,hb,hq];simp
   subst hbf;have HC':=zz (show Calls Tryz.prog 228 #[.string p] w fun e w'=>e=.returned (.tuple #[.slice none 0 0,.bool false])/\Below w.heap.size w w' from HC.out);clear HC hb hq hr ha;go_enter Tryz.func196,Tryz.ntmps196
   go_wp2_with (go_at_call 228;refine HC'.out.mono ?_;rintro e w2 ⟨rfl,hb2⟩;have HB2:=zz hb2;clear hb2)
   go_ret;exact ⟨rfl,HB2.out⟩
 | some us =>
   have hbt:b=true:=hb.2 (hq.2 rfl);subst hbt;have HC':=zz (show Calls Tryz.prog 228 #[.string p] w (fun e w'=>∃P c,e=.returned (.tuple #[.slice P us.length c,.bool true])/\Below w.heap.size w w') from HC.out.mono fun e w' h=>by
    obtain ⟨v,h1,h2,h3⟩:=h;obtain ⟨P,c,h4,_⟩:=ownt_slice h2;exact ⟨P,c,by rw [h1,h4],h3⟩)
   clear HC hb hq hr ha;go_enter Tryz.func196,Tryz.ntmps196
   go_wp2_with (go_at_call 228;refine HC'.out.mono ?_;rintro e w2 ⟨P,c,rfl,hb2⟩;have HB2:=zz hb2;clear hb2)
   go_ret;exact ⟨rfl,HB2.out⟩
theorem atom_all:∀(m:Nat) (p:ByteArray),p.size<=m->p.size<=1000->AtomAt p:=by
 intro m
 induction m with
 | zero=>intro p h h2;exact atom_ref p h2 fun q hq=>by omega
 | succ m ih=>intro p h h2;exact atom_ref p h2 fun q hq=>right_ref q (by omega) (ih q (by omega) (by omega))
theorem right_all(p:ByteArray)(h:p.size<=1000):RightAt p:=right_ref p h (atom_all _ p (Nat.le_refl _) h)
end Go.Proofs.YtgdmcnoogacdaaaGreatDoor

namespace Go.Proofs.YtgdmcnoogacdaaaGreatDoor
set_option linter.unusedVariables false
def Rise(l:List Nat):Prop:=l.Pairwise (·<·)
def seg(s:List UInt8)(i j:Nat):List UInt8:=(s.take j).drop i
theorem seg_len(s:List UInt8){i j:Nat}(hj:j<=s.length):(seg s i j).length=j-i:=by
 unfold seg;rw [List.length_drop,List.length_take,Nat.min_eq_left hj]
theorem seg_app(s:List UInt8){i k j:Nat}(h1:i<=k)(h2:k<=j):seg s i j=seg s i k++seg s k j:=by
 unfold seg;have e:s.take k=(s.take j).take k:=by rw [List.take_take,Nat.min_eq_left h2]
 rw [e];generalize s.take j=x;obtain ⟨m,rfl⟩:∃m,k=i+m:=⟨k-i,by omega⟩;rw [<-List.drop_drop]
 conv=>lhs;rw [<-List.take_append_drop m (x.drop i)]
 congr 1
 rw [List.drop_take]
 congr 1
 omega
theorem seg_front(s:List UInt8){i j:Nat}{u v:List UInt8}(hi:i<=j)(hj:j<=s.length)(h:seg s i j=u++v):i+u.length<=j/\seg s i (i+u.length)=u/\seg s (i+u.length) j=v:=by
 have hl:=seg_len s (i:=i) hj;rw [h,List.length_append] at hl;have h1:i+u.length<=j:=by omega
 have ha:=seg_app s (i:=i) (k:=i+u.length) (j:=j) (by omega) h1;rw [h] at ha;have hl2:=seg_len s (i:=i) (j:=i+u.length) (by omega);have:=List.append_inj ha (by omega);exact ⟨h1,this.1.symm,this.2.symm⟩
theorem seg_nil(s:List UInt8)(i:Nat):seg s i i=[]:=by
 unfold seg
 apply List.drop_eq_nil_of_le
 rw [List.length_take];omega
theorem seg_one(s:List UInt8){i:Nat}(h:i<s.length):seg s i (i+1)=[s[i]]:=by
 unfold seg;rw [List.take_succ_eq_append_getElem h,List.drop_append_of_le_length (by rw [List.length_take];omega)];rw [List.drop_eq_nil_of_le (by rw [List.length_take];omega)];rfl
def Step(P:List UInt8->Prop)(s:List UInt8)(i j:Nat):Prop:=i<=j/\j<=s.length/\P (seg s i j)
def IsEnds(P:List UInt8->Prop)(s:List UInt8)(l out:List Nat):Prop:=Rise out/\∀j,j∈out↔∃i,i∈l/\Step P s i j
theorem IsEnds.le{P:List UInt8->Prop}{s:List UInt8}{l out:List Nat}(h:IsEnds P s l out):∀j∈out,j<=s.length:=fun j hj=>by
 obtain ⟨i,_,h⟩:=(h.2 j).1 hj;exact h.2.1
theorem IsEnds.congr{P Q:List UInt8->Prop}{s:List UInt8}{l out:List Nat}(h:IsEnds P s l out)(e:∀w,P w↔Q w):IsEnds Q s l out :=
 ⟨h.1,fun j=>(h.2 j).trans ⟨fun ⟨i,a,b,c,d⟩=>⟨i,a,b,c,(e _).1 d⟩,fun ⟨i,a,b,c,d⟩=>⟨i,a,b,c,(e _).2 d⟩⟩⟩
theorem ends_nil{s:List UInt8}{l:List Nat}(hr:Rise l)(hl:∀j∈l,j<=s.length):IsEnds (fun w=>w=[]) s l l:=by
 refine ⟨hr,fun j=>⟨fun h=>⟨j,h,Nat.le_refl _,hl j h,seg_nil s j⟩,?_⟩⟩;rintro ⟨i,hi,h1,h2,h3⟩;have:=seg_len s (i:=i) h2;rw [h3] at this;simp at this;obtain rfl:i=j:=by omega
 exact hi
theorem ends_then{P Q:List UInt8->Prop}{s:List UInt8}{l m out:List Nat}(h:IsEnds P s l m)(k:IsEnds Q s m out):IsEnds (fun w=>∃u v,w=u++v/\P u/\Q v) s l out:=by
 refine ⟨k.1,fun j=>(k.2 j).trans ⟨?_,?_⟩⟩
 ·rintro ⟨i,hi,h1,h2,h3⟩;obtain ⟨i0,hi0,g1,g2,g3⟩:=(h.2 i).1 hi;exact ⟨i0,hi0,by omega,h2,_,_,seg_app s g1 h1,g3,h3⟩
 ·rintro ⟨i,hi,h1,h2,u,v,e,hu,hv⟩;obtain ⟨g1,g2,g3⟩:=seg_front s h1 h2 e;exact ⟨i+u.length,(h.2 _).2 ⟨i,hi,by omega,by omega,by rw [g2];exact hu⟩,g1,h2,by rw [g3];exact hv⟩
def Joins(a b c:List Nat):Prop:=Rise c/\∀j,j∈c↔j∈a\/j∈b
theorem ends_or{P Q:List UInt8->Prop}{s:List UInt8}{l a b c:List Nat}(h:IsEnds P s l a)(k:IsEnds Q s l b)(hj:Joins a b c):IsEnds (fun w=>P w\/Q w) s l c:=by
 refine ⟨hj.1,fun j=>?_⟩;rw [hj.2,h.2,k.2];constructor
 ·rintro (⟨i,hi,h1,h2,h3⟩|⟨i,hi,h1,h2,h3⟩)
  ·exact ⟨i,hi,h1,h2,.inl h3⟩
  ·exact ⟨i,hi,h1,h2,.inr h3⟩
 ·rintro ⟨i,hi,h1,h2,h3|h3⟩
  ·exact .inl ⟨i,hi,h1,h2,h3⟩
  ·exact .inr ⟨i,hi,h1,h2,h3⟩
theorem ends_none(s:List UInt8)(l:List Nat):IsEnds (fun _=>False) s l []:=⟨List.Pairwise.nil,fun j=>by simp [Step]⟩
theorem ends_byte{s:List UInt8}{l out:List Nat}{f:UInt8->Bool}(hr:Rise out)(h:∀j,j∈out↔∃i,i∈l/\∃hi:i<s.length,f s[i]=true/\j=i+1):IsEnds (fun w=>∃c,w=[c]/\f c=true) s l out:=by
 refine ⟨hr,fun j=>(h j).trans ⟨?_,?_⟩⟩
 ·rintro ⟨i,hi,hlt,hf,rfl⟩;exact ⟨i,hi,by omega,by omega,_,seg_one s hlt,hf⟩
 ·rintro ⟨i,hi,h1,h2,c,e,hf⟩;have hl:=seg_len s (i:=i) h2;rw [e] at hl;simp at hl;obtain rfl:j=i+1:=by omega
  rw [seg_one s (by omega)] at e;simp at e;exact ⟨i,hi,by omega,by rw [e];exact hf,rfl⟩
inductive Path(P:List UInt8->Prop)(s:List UInt8):Nat->Nat->Nat->Prop
 | one (i j:Nat):Step P s i j->Path P s 1 i j
 | more (t i m j:Nat):Path P s t i m->Step P s m j->Path P s (t+1) i j
theorem path_cons{P:List UInt8->Prop}{s:List UInt8}{t i m j:Nat}(h:Step P s i m)(k:Path P s t m j):Path P s (t+1) i j:=by
 induction k with
 | one i' j hs=>exact .more 1 _ _ _ (.one _ _ h) hs
 | more t i' m' j hp hs ih=>exact .more _ _ _ _ (ih h) hs
theorem Path.le{P:List UInt8->Prop}{s:List UInt8}{t i j:Nat}(h:Path P s t i j):i<=j/\j<=s.length:=by
 induction h with
 | one i j h=>exact ⟨h.1,h.2.1⟩
 | more t i m j hp hs ih=>exact ⟨Nat.le_trans ih.1 hs.1,hs.2.1⟩
theorem star_snoc{P:List UInt8->Prop}{w:List UInt8}(hw:P w):∀{v:List UInt8},Star P v->Star P (v++w):=by
 intro v h
 induction h with
 | nil =>
   cases w with
   | nil=>exact .nil
   | cons c u=>simpa using Star.more c u [] hw .nil
 | more c u v hp hs ih =>
   rw [List.append_assoc];exact .more c u _ hp ih
theorem path_sound{P:List UInt8->Prop}{s:List UInt8}{t i j:Nat}(h:Path P s t i j):∃u v,seg s i j=u++v/\P u/\Star P v:=by
 induction h with
 | one i j h=>exact ⟨_,[],(List.append_nil _).symm,h.2.2,.nil⟩
 | more t i m j hp hs ih =>
   obtain ⟨u,v,e,hu,hv⟩:=ih;exact ⟨u,v++seg s m j,by rw [seg_app s hp.le.1 hs.1,e,List.append_assoc],hu,star_snoc hs.2.2 hv⟩
theorem star_path{P:List UInt8->Prop}{s:List UInt8}:∀{v:List UInt8},Star P v->∀{i j:Nat},i<=j->j<=s.length->seg s i j=v->v=[]\/∃t,1<=t/\t<=v.length/\Path P s t i j:=by
 intro v h
 induction h with
 | nil=>intro i j _ _ _;exact .inl rfl
 | more c u v hp hs ih =>
   intro i j h1 h2 e
   right
   obtain ⟨g1,g2,g3⟩:=seg_front s h1 h2 e;have st:Step P s i (i+(c::u).length):=⟨by omega,by omega,by rw [g2];exact hp⟩;rcases ih g1 h2 g3 with rfl|⟨t,ht,htl,hpath⟩
   ·have hl:=seg_len s (i:=i+(c::u).length) h2;rw [g3] at hl;simp only [List.length_nil] at hl;obtain hj:j=i+(c::u).length:=by omega
    refine ⟨1,Nat.le_refl _,by simp,?_⟩;rw [hj];exact .one _ _ st
   ·exact ⟨t+1,by omega,by simp;omega,path_cons st hpath⟩
theorem path_full{P:List UInt8->Prop}{s:List UInt8}{i j:Nat}{u v:List UInt8}(h1:i<=j)(h2:j<=s.length)(e:seg s i j=u++v)(hu:P u)(hv:Star P v):∃t,t<=s.length/\Path P s (t+1) i j:=by
 obtain ⟨g1,g2,g3⟩:=seg_front s h1 h2 e;have st:Step P s i (i+u.length):=⟨by omega,by omega,by rw [g2];exact hu⟩;rcases star_path hv g1 h2 g3 with rfl|⟨t,ht,htl,hpath⟩
 ·have hl:=seg_len s (i:=i+u.length) h2;rw [g3] at hl;simp only [List.length_nil] at hl;obtain hj:j=i+u.length:=by omega
  exact ⟨0,by omega,by rw [hj];exact .one _ _ st⟩
 ·have hl:=seg_len s (i:=i+u.length) h2;rw [g3] at hl;exact ⟨t,by omega,path_cons st hpath⟩
def Found(P:List UInt8->Prop)(s:List UInt8)(l:List Nat)(k:Nat)(next:List Nat):Prop :=
 Rise next/\(∀j∈next,∃i t,i∈l/\Path P s (t+1) i j)/\∀i j t,i∈l->t<=k->Path P s (t+1) i j->j∈next
theorem found_zero{P:List UInt8->Prop}{s:List UInt8}{l next:List Nat}(h:IsEnds P s l next):Found P s l 0 next:=by
 refine ⟨h.1,fun j hj=>?_,fun i j t hi ht hp=>?_⟩
 ·obtain ⟨i,hi,hs⟩:=(h.2 j).1 hj;exact ⟨i,0,hi,.one _ _ hs⟩
 ·obtain rfl:t=0:=by omega
  cases hp with
  | one _ _ hs=>exact (h.2 j).2 ⟨i,hi,hs⟩
  | more t i m j hp hs=>exact absurd hp (fun hp=>by cases hp)
theorem found_step{P:List UInt8->Prop}{s:List UInt8}{l next ends more:List Nat}{k:Nat}(h:Found P s l k next)(he:IsEnds P s next ends)(hj:Joins next ends more):Found P s l (k+1) more:=by
 refine ⟨hj.1,fun j hm=>?_,fun i j t hi ht hp=>?_⟩
 ·rcases (hj.2 j).1 hm with hm|hm
  ·exact h.2.1 j hm
  ·obtain ⟨m,hn,hs⟩:=(he.2 j).1 hm;obtain ⟨i,t,hi,hp⟩:=h.2.1 m hn;exact ⟨i,t+1,hi,.more _ _ _ _ hp hs⟩
 ·rw [hj.2]
  by_cases hk:t<=k
  ·exact .inl (h.2.2 i j t hi hk hp)
  ·obtain rfl:t=k+1:=by omega
   cases hp with
   | more _ _ m _ hp hs=>exact .inr ((he.2 j).2 ⟨m,h.2.2 i m k hi (Nat.le_refl _) hp,hs⟩)
theorem found_ends{P:List UInt8->Prop}{s:List UInt8}{l next:List Nat}{k:Nat}(h:Found P s l k next)(hc:∀i j t,i∈l->t<=s.length->Path P s (t+1) i j->j∈next):IsEnds (fun w=>∃u v,w=u++v/\P u/\Star P v) s l next:=by
 refine ⟨h.1,fun j=>⟨fun hj=>?_,?_⟩⟩
 ·obtain ⟨i,t,hi,hp⟩:=h.2.1 j hj;exact ⟨i,hi,hp.le.1,hp.le.2,path_sound hp⟩
 ·rintro ⟨i,hi,h1,h2,u,v,e,hu,hv⟩;obtain ⟨t,ht,hp⟩:=path_full h1 h2 e hu hv;exact hc i j t hi ht hp
theorem found_full{P:List UInt8->Prop}{s:List UInt8}{l next:List Nat}(h:Found P s l s.length next):IsEnds (fun w=>∃u v,w=u++v/\P u/\Star P v) s l next :=
 found_ends h fun i j t hi ht hp=>h.2.2 i j t hi ht hp
theorem rise_sub:∀{b a:List Nat},Rise a->Rise b->(∀j∈a,j∈b)->a.Sublist b
 | [],a,ha,hb,hs=>by
   cases a with
   | nil=>exact .slnil
   | cons x a=>exact absurd (hs x (by simp)) (by simp)
 | y::b,[],ha,hb,hs=>List.nil_sublist _
 | y::b,x::a,ha,hb,hs=>by
   have ha2:=List.pairwise_cons.1 ha;have hb2:=List.pairwise_cons.1 hb
   by_cases e:x=y
   ·subst e;refine (rise_sub ha2.2 hb2.2 fun j hj=>?_).cons_cons x;have h1:=ha2.1 j hj;rcases List.mem_cons.1 (hs j (List.mem_cons_of_mem _ hj)) with h|h
    ·omega
    ·exact h
   ·refine (rise_sub ha hb2.2 fun j hj=>?_).cons y;have hx:x∈b:=by
     rcases List.mem_cons.1 (hs x (by simp)) with h|h
     ·exact absurd h e
     ·exact h
    have hy:=hb2.1 x hx;rcases List.mem_cons.1 (hs j hj) with h|h
    ·subst h;rcases List.mem_cons.1 hj with h|h
     ·omega
     ·have:=ha2.1 j h;omega
    ·exact h
theorem same_of_len{a b:List Nat}(ha:Rise a)(hb:Rise b)(hs:∀j∈a,j∈b)(hl:b.length=a.length):∀j∈b,j∈a:=by
 have e:=(rise_sub ha hb hs).eq_of_length hl.symm;rw [e];exact fun _ h=>h
theorem found_stop{P:List UInt8->Prop}{s:List UInt8}{l next ends more:List Nat}{k:Nat}(h:Found P s l k next)(he:IsEnds P s next ends)(hj:Joins next ends more)(hl:more.length=next.length):IsEnds (fun w=>∃u v,w=u++v/\P u/\Star P v) s l next:=by
 have hcl:=same_of_len h.1 hj.1 (fun j hm=>(hj.2 j).2 (.inl hm)) hl;have all:∀t i j,i∈l->Path P s t i j->j∈next:=by
  intro t i j hi hp
  induction hp with
  | one i j hs=>exact h.2.2 i j 0 hi (Nat.zero_le _) (.one _ _ hs)
  | more t i m j hp hs ih=>exact hcl j ((hj.2 j).2 (.inr ((he.2 j).2 ⟨m,ih hi,hs⟩)))
 exact found_ends h fun i j t hi _ hp=>all _ i j hi hp
theorem last_end{l:List Nat}{n:Nat}(hr:Rise l)(hl:∀j∈l,j<=n)(h0:0<l.length):l[l.length-1]=n↔n∈l:=by
 constructor
 ·intro h;rw [<-h];exact List.getElem_mem _
 ·intro h;obtain ⟨i,hi,e⟩:=List.getElem_of_mem h;have hle:=hl _ (List.getElem_mem (show l.length-1<l.length by omega));rcases Nat.lt_or_ge i (l.length-1) with hlt|hge
  ·have:=List.pairwise_iff_getElem.1 hr i (l.length-1) hi (by omega) hlt;omega
  ·obtain rfl:i=l.length-1:=by omega
   exact e
def markR(z:List UInt8)(r:Re):Re:=if aheadM [42] z then .rep r true true else if aheadM [43] z then .rep r false true else if aheadM [63] z then .rep r true false else r
def AtomT(a:List UInt8)(r:Re):Prop:=∃n d,atomM n a=some (r,[],d)
def AltT(x:List UInt8)(rs:List Re):Prop:=∃n d,altM n x=some (rs,[],d)
def PatT(x:List UInt8)(ls:List Re):Prop:=∃n d,patM n x=some (ls,[],d)
theorem alt_void{rs:List Re}(h:AltT [] rs):rs=[]:=by
 obtain ⟨n,d,h⟩:=h
 cases n with
 | zero=>simp [altM] at h
 | succ n=>simp [altM] at h;exact h.1
theorem piece_is{n:Nat}{x y:List UInt8}{r':Re}{d:Nat}(h:pieceM n x=some (r',y,d)):∃k r z d',atomM k x=some (r,z,d')/\r'=markR z r/\y=behindP z:=by
 cases n with
 | zero=>simp [pieceM] at h
 | succ n =>
   simp only [pieceM] at h
   cases ha:atomM n x with
   | none=>rw [ha] at h;cases h
   | some q =>
     obtain ⟨r,z,d'⟩:=q;rw [ha] at h;simp only at h;refine ⟨n,r,z,d',ha,?_⟩;unfold markR behindP MarkP
     split at h
     ·rename_i h1;simp only [Option.some.injEq,Prod.mk.injEq] at h;rw [if_pos h1,if_pos (by rw [h1];rfl)];exact ⟨h.1.symm,h.2.1.symm⟩
     ·rename_i h1
      split at h
      ·rename_i h2;simp only [Option.some.injEq,Prod.mk.injEq] at h;rw [if_neg h1,if_pos h2,if_pos (by rw [h2];simp)];exact ⟨h.1.symm,h.2.1.symm⟩
      ·rename_i h2
       split at h
       ·rename_i h3;simp only [Option.some.injEq,Prod.mk.injEq] at h;rw [if_neg h1,if_neg h2,if_pos h3,if_pos (by rw [h3];simp)];exact ⟨h.1.symm,h.2.1.symm⟩
       ·rename_i h3;simp only [Option.some.injEq,Prod.mk.injEq] at h;rw [if_neg h1,if_neg h2,if_neg h3,if_neg (by simp [h1,h2,h3])];exact ⟨h.1.symm,h.2.1.symm⟩
theorem alt_open{x:List UInt8}{rs:List Re}(h:AltT x rs)(hx:x≠[]):∃a r z rs',x=a++z/\a≠[]/\AtomT a r/\AtomP x z/\AltT (behindP z) rs'/\rs=markR z r::rs':=by
 obtain ⟨n,d,h⟩:=h
 cases n with
 | zero=>simp [altM] at h
 | succ n =>
   simp only [altM] at h
   split at h
   ·simp only [Option.some.injEq,Prod.mk.injEq] at h;exact absurd h.2.1 hx
   ·cases hp:pieceM n x with
    | none=>rw [hp] at h;cases h
    | some q =>
      obtain ⟨r',y,d1⟩:=q;rw [hp] at h;simp only at h
      cases hr:altM n y with
      | none=>rw [hr] at h;cases h
      | some q2 =>
        obtain ⟨rs',z2,d2⟩:=q2;rw [hr] at h;simp only [Option.some.injEq,Prod.mk.injEq] at h;obtain ⟨rfl,rfl,_⟩:=h;obtain ⟨k,r,z,d',ha,rfl,rfl⟩:=piece_is hp;obtain ⟨u,h1,h2,h3⟩:=atom_cut ha;have h4:=h3 [];rw [List.append_nil] at h4;exact ⟨u,r,z,rs',h1,h2,⟨k,d',h4⟩,⟨k,r,d',ha⟩,⟨n,d2,hr⟩,rfl⟩
inductive AltsOf:List (List UInt8)->List Re->Prop
 | one (u:List UInt8) (rs:List Re):AltT u rs->AltsOf [u] [.row rs]
 | more (u:List UInt8) (rs:List Re) (us:List (List UInt8)) (ls:List Re):AltT u rs->AltsOf us ls->AltsOf (u::us) (.row rs::ls)
theorem res_first{u x:List UInt8}{r:Option (List (List UInt8))}(h:Res u x r):∀us,r=some us->∃u1 us' rs n y d,us=(u++u1)::us'/\x=u1++y/\altM n x=some (rs,y,d)/\((y=[]/\us'=[])\/∃t,y=124::t/\Res [] t (some us')):=by
 induction h with
 | nil u =>
   intro us e;simp only [Option.some.injEq] at e;exact ⟨[],[],[],1,[],0,by rw [<-e];simp,rfl,rfl,.inl ⟨rfl,rfl⟩⟩
 | bar u t r h ih =>
   intro us e
   cases r with
   | none=>cases e
   | some us' =>
     simp only [Option.map_some,Option.some.injEq] at e;exact ⟨[],us',[],1,124::t,0,by rw [<-e];simp,rfl,rfl,.inr ⟨t,rfl,h⟩⟩
 | one u v x z r ha hx h ih =>
   intro us e;obtain ⟨u1,us',rs,n,y,d,h1,h2,h3,h4⟩:=ih us e;obtain ⟨k,r0,d0,ha0⟩:=ha;obtain ⟨r',hp⟩:=piece_of ha0;refine ⟨v++u1,us',r'::rs,max (k+1) n+1,y,max d0 d,by rw [h1,List.append_assoc],by rw [List.append_assoc,<-h2,<-hx],?_,h4⟩;have hh:=atom_head ⟨k,r0,d0,ha0⟩;simp only [altM];rw [if_neg (by
    rw [Bool.or_eq_true,not_or];refine ⟨?_,by rw [hh.2];simp⟩
    cases x with
    | nil=>exact absurd rfl hh.1
    | cons c t=>simp)]
   rw [piece_mono (Nat.le_max_left _ _) hp];simp only;rw [alt_mono (Nat.le_max_right _ _) h3]
 | bad u x hn hne hb=>intro us e;cases e
theorem alt_alone{n:Nat}{u y:List UInt8}{rs:List Re}{d:Nat}(h:altM n (u++y)=some (rs,y,d)):AltT u rs:=by
 obtain ⟨v,h1,h2⟩:=alt_cut h;have e:u=v:=List.append_cancel_right h1;have h3:=h2 [] (.inl rfl);rw [List.append_nil,<-e] at h3;exact ⟨n,d,h3⟩
theorem res_alts:∀(m:Nat) {x:List UInt8} {us:List (List UInt8)},x.length<=m->Res [] x (some us)->∃ls,PatT x ls/\AltsOf us ls:=by
 intro m
 induction m with
 | zero =>
   intro x us hm h;obtain rfl:x=[]:=List.eq_nil_of_length_eq_zero (by omega);have:=res_nil h;simp only [Option.some.injEq] at this;rw [this];exact ⟨[.row []],⟨2,0,rfl⟩,.one [] [] ⟨1,0,rfl⟩⟩
 | succ m ih =>
   intro x us hm h;obtain ⟨u1,us',rs,n,y,d,h1,h2,h3,h4⟩:=res_first h us rfl;rw [List.nil_append] at h1;have ha:AltT u1 rs:=by rw [h2] at h3;exact alt_alone h3
   rcases h4 with ⟨rfl,rfl⟩|⟨t,rfl,hr⟩
   ·rw [h1];exact ⟨[.row rs],⟨n+1,d,pat_end h3 (by simp [aheadM])⟩,.one _ _ ha⟩
   ·obtain ⟨ls,⟨n2,d2,hp⟩,hA⟩:=ih (x:=t) (by rw [h2,List.length_append,List.length_cons] at hm;omega) hr;rw [h1];refine ⟨.row rs::ls,⟨max n n2+1,max d d2,?_⟩,.more _ _ _ _ ha hA⟩;exact pat_bar (alt_mono (Nat.le_max_left _ _) h3) (by rfl) (pat_mono (Nat.le_max_right _ _) hp)
theorem pat_one_of{x:List UInt8}{ls ms:List Re}(h:PatT x ls)(k:PatT x ms):ls=ms:=by
 obtain ⟨n,d,h⟩:=h;obtain ⟨m,e,k⟩:=k;have h1:=pat_mono (Nat.le_max_left n m) h;have h2:=pat_mono (Nat.le_max_right n m) k;rw [h1] at h2;simp only [Option.some.injEq,Prod.mk.injEq] at h2;exact h2.1
def stepB(s:List UInt8)(f:UInt8->Bool)(i:Nat):Bool:=match s[i]? with|some c=>f c|none=>false
def oneOut(s:List UInt8)(f:UInt8->Bool)(l:List Nat)(k:Nat):List Nat:=((l.take k).filter (stepB s f)).map (·+1)
theorem oneOut_step(s:List UInt8)(f:UInt8->Bool)(l:List Nat){k:Nat}(h:k<l.length):oneOut s f l (k+1)=oneOut s f l k++(if stepB s f (l.getD k 0) then [l.getD k 0+1] else []):=by
 unfold oneOut;have e:l[k]?=some (l.getD k 0):=by rw [List.getD_eq_getElem?_getD,List.getElem?_eq_getElem h];rfl
 rw [List.take_add_one,e,List.filter_append,List.map_append]
 congr 1
 simp only [Option.toList_some,List.filter_cons,List.filter_nil]
 split<;>rfl
theorem oneOut_len(s:List UInt8)(f:UInt8->Bool)(l:List Nat)(k:Nat):(oneOut s f l k).length<=k:=by
 unfold oneOut;rw [List.length_map];exact Nat.le_trans (List.length_filter_le _ _) (List.length_take_le _ _)
theorem oneOut_ends(s:List UInt8)(f:UInt8->Bool)(l:List Nat)(hl:Rise l):IsEnds (fun w=>∃c,w=[c]/\f c=true) s l (oneOut s f l l.length):=by
 unfold oneOut;rw [List.take_of_length_le (Nat.le_refl _)];refine ends_byte ?_ fun j=>?_
 ·unfold Rise at hl ⊢;rw [List.pairwise_map];exact (hl.filter _).imp fun h=>by omega
 ·rw [List.mem_map];constructor
  ·rintro ⟨i,hi,rfl⟩;rw [List.mem_filter] at hi;obtain ⟨h1,h2⟩:=hi;unfold stepB at h2;rcases Nat.lt_or_ge i s.length with h3|h3
   ·rw [List.getElem?_eq_getElem h3] at h2;exact ⟨i,h1,h3,h2,rfl⟩
   ·rw [List.getElem?_eq_none h3] at h2;cases h2
  ·rintro ⟨i,h1,h2,h3,rfl⟩;refine ⟨i,List.mem_filter.2 ⟨h1,?_⟩,rfl⟩;unfold stepB;rw [List.getElem?_eq_getElem h2];exact h3
theorem ends_plus{r:Re}{s:List UInt8}{l out:List Nat}(h:IsEnds (fun w=>∃u v,w=u++v/\L r u/\Star (L r) v) s l out):IsEnds (L (.rep r false true)) s l out :=
 h.congr fun w=>by
  simp only [L,Sv,if_true];constructor
  ·exact fun h=>.inr h
  ·rintro (⟨h,_⟩|h)
   ·cases h
   ·exact h
theorem ends_star{r:Re}{s:List UInt8}{l a out:List Nat}(hl:Rise l)(hs:∀j∈l,j<=s.length)(h:IsEnds (fun w=>∃u v,w=u++v/\L r u/\Star (L r) v) s l a)(hj:Joins a l out):IsEnds (L (.rep r true true)) s l out :=
 (ends_or h (ends_nil hl hs) hj).congr fun w=>by
   simp only [L,Sv,if_true,true_and];exact Or.comm
theorem ends_maybe{r:Re}{s:List UInt8}{l a out:List Nat}(hl:Rise l)(hs:∀j∈l,j<=s.length)(h:IsEnds (L r) s l a)(hj:Joins a l out):IsEnds (L (.rep r true false)) s l out :=
 (ends_or h (ends_nil hl hs) hj).congr fun w=>by
   simp only [L,Sv,true_and,Bool.false_eq_true,if_false];constructor
   ·rintro (h|h)
    ·exact .inr ⟨w,[],by simp,h,rfl⟩
    ·exact .inl h
   ·rintro (h|⟨u,v,rfl,h,rfl⟩)
    ·exact .inr h
    ·exact .inl (by rw [List.append_nil];exact h)
theorem ends_row{r:Re}{rs:List Re}{s:List UInt8}{l m out:List Nat}(h:IsEnds (L r) s l m)(k:IsEnds (LRow rs) s m out):IsEnds (LRow (r::rs)) s l out :=
 (ends_then h k).congr fun w=>by simp only [LRow]
end Go.Proofs.YtgdmcnoogacdaaaGreatDoor

namespace Go.Proofs.YtgdmcnoogacdaaaGreatDoor
open Go.RowKit
set_option linter.unusedVariables false
theorem rchk_ref(p:ByteArray):∃n:Nat,260<=n/\(∀W:World,Calls Tryz.prog 161 #[.string p] W fun e w'=>e=.returned (.int .i64 (parseM n (strL p)).1)/\Below W.heap.size W w'):=by
 have hl:=strL_length p
 by_cases h64:64<p.size
 ·refine ⟨260,Nat.le_refl _,fun W=>?_⟩;rw [show parseM 260 (strL p)=(3,.row []) by unfold parseM;rw [if_pos (by omega)]];clear hl;go_enter Tryz.func161,Tryz.ntmps161
  go_wp2_with fail
  go_ret;exact ⟨rfl,Below.refl _ _⟩
 have HR:=zz (right_all p (by omega))
 by_cases hr:RightP (strL p)
 ·obtain ⟨n,ls,d,h⟩:=hr;refine ⟨max n 260,by omega,fun W=>?_⟩;have hp:=pat_mono (m:=max n 260) (by omega) h;have hpm:=parse_of hp (by omega);have HB:=zz (HR.out true W ⟨fun _=>⟨n,ls,d,h⟩,fun _=>rfl⟩);have hd:Dep 0 0 (strL p) d:=pat_dep h (Nat.le_refl _) (by simpa using Dep.nil 0 d);have HD:=zz (fun W=>depth_ref p (by omega) d hd W)
  by_cases h8:8<d
  ·rw [hpm,if_pos h8];have i1:(8:Int)<(d:Int):=by omega
   clear hl h hp hpm hd;go_enter Tryz.func161,Tryz.ntmps161
   go_wp2_with (first
    | (go_at_call 196;refine HB.out.mono ?_;rintro e w2 ⟨rfl,hb2⟩;have HB2:=zz hb2;clear hb2)
    | (go_at_call 197;refine (HD.out _).mono ?_;rintro e w3 ⟨rfl,hb3⟩;have HB3:=zz (HB2.out.trans (hb3.mono HB2.out.size));clear hb3))
   go_ret;exact ⟨rfl,HB3.out⟩
  ·rw [hpm,if_neg h8];have i1:¬(8:Int)<(d:Int):=by omega
   clear hl h hp hpm hd;go_enter Tryz.func161,Tryz.ntmps161
   go_wp2_with (first
    | (go_at_call 196;refine HB.out.mono ?_;rintro e w2 ⟨rfl,hb2⟩;have HB2:=zz hb2;clear hb2)
    | (go_at_call 197;refine (HD.out _).mono ?_;rintro e w3 ⟨rfl,hb3⟩;have HB3:=zz (HB2.out.trans (hb3.mono HB2.out.size));clear hb3))
   go_ret;exact ⟨rfl,HB3.out⟩
 ·refine ⟨260,Nat.le_refl _,fun W=>?_⟩;have hpm:(parseM 260 (strL p)).1=14:=by
   unfold parseM;rw [if_neg (by omega)]
   cases hp:patM 260 (strL p) with
   | none=>rfl
   | some q =>
     obtain ⟨ls,y,d⟩:=q
     cases y with
     | nil=>exact absurd ⟨260,ls,d,hp⟩ hr
     | cons c t=>rfl
  have HB:=zz (HR.out false W ⟨fun h=>(by cases h),fun h=>absurd h hr⟩);rw [hpm];clear hl hpm hr;go_enter Tryz.func161,Tryz.ntmps161
  go_wp2_with (go_at_call 196;refine HB.out.mono ?_;rintro e w2 ⟨rfl,hb2⟩;have HB2:=zz hb2;clear hb2)
  go_ret;exact ⟨rfl,HB2.out⟩
end Go.Proofs.YtgdmcnoogacdaaaGreatDoor
