/- In one text, written by lotify.py: IxMath, IxMath2, IxTx. -/
import Derived.Test.YtgdmcnoogacdaaaGreatDoorBlLotI
import Derived.Test.YtgdmcnoogacdaaaGreatDoorBlLotD
namespace Go.Proofs.YtgdmcnoogacdaaaGreatDoor
set_option linter.unusedVariables false
section
variable {α:Type} {f:α->α->Int}
theorem cmp_self(hf:IsCmp f)(a:α):f a a=0:=(hf.zero a a).2 rfl
theorem cmp_ne(hf:IsCmp f){a b:α}(h:a≠b):f a b<0\/f b a<0:=by
 have h1:=hf.swap a b;rcases hf.rng a b with h2|h2|h2
 ·exact .inl (by omega)
 ·exact absurd ((hf.zero a b).1 h2) h
 ·exact .inr (by omega)
theorem filter_two{p q:α->Bool}(h:∀x,p x=true->q x=false):∀a:List α,(a.filter p).length+(a.filter q).length<=a.length:=by
 intro a
 induction a with
 | nil=>simp
 | cons x a ih =>
   rw [List.filter_cons,List.filter_cons]
   cases hp:p x
   ·cases hq:q x
    ·simp;omega
    ·simp;omega
   ·rw [h x hp];simp;omega
end
section
variable {α:Type} [DecidableEq α] {f:α->α->Int}
def UpF(f:α->α->Int)(l:List α):Prop:=l.Pairwise fun a b=>f a b<0
def withF(f:α->α->Int)(l:List α)(s:α):List α:=if s∈l then l else l.filter (fun x=>decide (f x s<0))++s::l.filter (fun x=>decide (f s x<0))
theorem withF_mem(hf:IsCmp f)(l:List α)(s x:α):x∈withF f l s↔x∈l\/x=s:=by
 unfold withF
 split
 ·rename_i h;constructor
  ·exact .inl
  ·rintro (h1|rfl)
   ·exact h1
   ·exact h
 ·rename_i h;simp only [List.mem_append,List.mem_cons,List.mem_filter,decide_eq_true_eq];constructor
  ·rintro (⟨h1,_⟩|rfl|⟨h1,_⟩)
   ·exact .inl h1
   ·exact .inr rfl
   ·exact .inl h1
  ·rintro (h1|rfl)
   ·rcases cmp_ne hf (show x≠s from fun e=>h (e▸h1)) with h2|h2
    ·exact .inl ⟨h1,h2⟩
    ·exact .inr (.inr ⟨h1,h2⟩)
   ·exact .inr (.inl rfl)
theorem withF_up(hf:IsCmp f){l:List α}(h:UpF f l)(s:α):UpF f (withF f l s):=by
 unfold withF
 split
 ·exact h
 ·refine List.pairwise_append.2 ⟨h.filter _,List.pairwise_cons.2 ⟨?_,h.filter _⟩,?_⟩
  ·intro x hx;exact of_decide_eq_true (List.mem_filter.1 hx).2
  ·intro a ha b hb;have h1:f a s<0:=of_decide_eq_true (List.mem_filter.1 ha).2;rcases List.mem_cons.1 hb with rfl|hb
   ·exact h1
   ·have h2:f s b<0:=of_decide_eq_true (List.mem_filter.1 hb).2;exact hf.strict h1 (by omega)
theorem upF_ext(hf:IsCmp f):∀{a b:List α},UpF f a->UpF f b->(∀x,x∈a↔x∈b)->a=b:=by
 intro a
 induction a with
 | nil =>
   intro b _ _ h
   cases b with
   | nil=>rfl
   | cons y b=>exact absurd ((h y).2 (by simp)) (by simp)
 | cons x a ih =>
   intro b ha hb h
   cases b with
   | nil=>exact absurd ((h x).1 (by simp)) (by simp)
   | cons y b =>
     obtain ⟨ha1,ha2⟩:=List.pairwise_cons.1 ha;obtain ⟨hb1,hb2⟩:=List.pairwise_cons.1 hb;have hxy:x=y:=by
      rcases List.mem_cons.1 ((h x).1 (by simp)) with e|e
      ·exact e
      ·rcases List.mem_cons.1 ((h y).2 (by simp)) with e2|e2
       ·exact e2.symm
       ·have h1:=hb1 x e;have h2:=ha1 y e2;have h3:=hf.swap x y;omega
     subst hxy;have hni:∀{l:List α},(∀z∈l,f x z<0)->x∉l:=fun h1 h2=>by
      have:=h1 x h2;rw [cmp_self hf] at this;omega
     rw [ih ha2 hb2 fun z=>?_];constructor
     ·intro hz;rcases List.mem_cons.1 ((h z).1 (List.mem_cons_of_mem _ hz)) with e|e
      ·subst e;exact absurd hz (hni ha1)
      ·exact e
     ·intro hz;rcases List.mem_cons.1 ((h z).2 (List.mem_cons_of_mem _ hz)) with e|e
      ·subst e;exact absurd hz (hni hb1)
      ·exact e
theorem withF_here(l:List α){s:α}(h:s∈l):withF f l s=l:=by unfold withF;exact if_pos h
theorem withF_at(hf:IsCmp f){l:List α}(h:UpF f l)(s:α)(p:Nat)(h1:∀x∈l.take p,f x s<0)(h2:∀x∈l.drop p,f s x<0):withF f l s=l.take p++s::l.drop p:=by
 have hn:s∉l:=fun hs=>by
  rw [<-List.take_append_drop p l] at hs;rcases List.mem_append.1 hs with h3|h3
  ·have:=h1 s h3;rw [cmp_self hf] at this;omega
  ·have:=h2 s h3;rw [cmp_self hf] at this;omega
 refine upF_ext hf (withF_up hf h s) ?_ fun x=>?_
 ·refine List.pairwise_append.2 ⟨h.sublist (List.take_sublist _ _),List.pairwise_cons.2 ⟨h2,h.sublist (List.drop_sublist _ _)⟩,?_⟩;intro a ha b hb;rcases List.mem_cons.1 hb with rfl|hb
  ·exact h1 a ha
  ·exact hf.strict (h1 a ha) (by have:=h2 b hb;omega)
 ·rw [withF_mem hf]
  conv=>lhs;lhs;rw [<-List.take_append_drop p l]
  simp only [List.mem_append,List.mem_cons];constructor
  ·rintro ((h3|h3)|h3)
   ·exact .inl h3
   ·exact .inr (.inr h3)
   ·exact .inr (.inl h3)
  ·rintro (h3|h3|h3)
   ·exact .inl (.inl h3)
   ·exact .inr h3
   ·exact .inl (.inr h3)
def setF(f:α->α->Int)(l:List α):List α:=l.foldl (withF f) []
theorem foldW_up(hf:IsCmp f):∀(m l:List α),UpF f l->UpF f (m.foldl (withF f) l):=by
 intro m
 induction m with
 | nil=>intro l h;exact h
 | cons x m ih=>intro l h;exact ih _ (withF_up hf h x)
theorem foldW_mem(hf:IsCmp f):∀(m l:List α) (x:α),x∈m.foldl (withF f) l↔x∈l\/x∈m:=by
 intro m
 induction m with
 | nil=>intro l x;simp
 | cons y m ih =>
   intro l x;rw [List.foldl_cons,ih,withF_mem hf,List.mem_cons];constructor
   ·rintro ((h|h)|h)
    ·exact .inl h
    ·exact .inr (.inl h)
    ·exact .inr (.inr h)
   ·rintro (h|h|h)
    ·exact .inl (.inl h)
    ·exact .inl (.inr h)
    ·exact .inr h
theorem setF_up(hf:IsCmp f)(l:List α):UpF f (setF f l):=foldW_up hf l [] List.Pairwise.nil
theorem setF_mem(hf:IsCmp f)(l:List α)(x:α):x∈setF f l↔x∈l:=by
 unfold setF;rw [foldW_mem hf];simp
theorem setF_of(hf:IsCmp f){l m:List α}(hu:UpF f m)(h:∀x,x∈m↔x∈l):m=setF f l:=upF_ext hf hu (setF_up hf l) fun x=>by rw [h,setF_mem hf]
theorem setF_app(l m:List α):setF f (l++m)=m.foldl (withF f) (setF f l):=by
 unfold setF;rw [List.foldl_append]
theorem withF_len(hf:IsCmp f)(a:List α)(x:α):(withF f a x).length<=a.length+1:=by
 unfold withF
 split
 ·omega
 ·have h:=filter_two (p:=fun y=>decide (f y x<0)) (q:=fun y=>decide (f x y<0)) (fun y hy=>by
   have h1:f y x<0:=of_decide_eq_true hy;have h2:=hf.swap y x;exact decide_eq_false (by omega)) a
  rw [List.length_append,List.length_cons];omega
theorem foldW_len(hf:IsCmp f):∀(m a:List α),(m.foldl (withF f) a).length<=a.length+m.length:=by
 intro m
 induction m with
 | nil=>intro a;simp
 | cons x m ih =>
   intro a;rw [List.foldl_cons,List.length_cons];have h1:=ih (withF f a x);have h2:=withF_len hf a x;omega
theorem setF_len(hf:IsCmp f)(l:List α):(setF f l).length<=l.length:=by
 have:=foldW_len hf l [];simpa [setF] using this
def placeF(l:List α)(s:α):Nat:=l.idxOf s
theorem place_get{l:List α}{s:α}(h:s∈l):∃hlt:placeF l s<l.length,l[placeF l s]=s:=⟨List.idxOf_lt_length_of_mem h,List.getElem_idxOf _⟩
theorem placeF_first{l:List α}{s:α}{k:Nat}(hk:k<l.length)(he:l[k]=s)(hb:∀j (hj:j<k),l[j]'(Nat.lt_trans hj hk)≠s):placeF l s=k:=by
 unfold placeF;rw [List.idxOf,List.findIdx_eq hk];exact ⟨by simpa using he,fun j hj=>by simpa using hb j hj⟩
end
def namesOf(sets:List (List Lbl)):List ByteArray:=sets.flatMap fun l=>l.map (·.1)
def textsOf(sets:List (List Lbl)):List ByteArray:=namesOf sets++sets.flatMap fun l=>l.map (·.2)
def ixNames(sets:List (List Lbl)):List ByteArray:=setF cmpB (namesOf sets)
def ixTexts(sets:List (List Lbl)):List ByteArray:=setF cmpB (textsOf sets)
def ixChkF:List Lbl->List (List Lbl)->Int
 | _,[]=>0
 | prev,l::r=>if lbChk l≠0 then lbChk l else if 0<=cmpLs prev l then 13 else ixChkF l r
def ixChk(sets:List (List Lbl)):Int :=
 if 256<sets.length then 3 else match sets with
  | []=>0
  | l::r=>if lbChk l≠0 then lbChk l else ixChkF l r
def placeL(t:List ByteArray)(x:Lbl):List UInt8:=uintL (placeF t x.1)++uintL (placeF t x.2)
def setL(t:List ByteArray)(l:List Lbl):List UInt8:=uintL l.length++l.flatMap (placeL t)
def ixBytes(sets:List (List Lbl)):List UInt8 :=
 uintL (ixTexts sets).length++(ixTexts sets).flatMap (fun s=>uintL s.size++strL s)++uintL sets.length++sets.flatMap (setL (ixTexts sets))
theorem ixChkF_up:∀(sets:List (List Lbl)) (prev:List Lbl),ixChkF prev sets=0->UpF cmpLs (prev::sets)/\∀l∈sets,lbChk l=0:=by
 intro sets
 induction sets with
 | nil=>intro prev _;exact ⟨by simp [UpF],by simp⟩
 | cons l r ih =>
   intro prev h;unfold ixChkF at h
   by_cases h1:lbChk l=0
   ·rw [if_neg (by omega)] at h
    by_cases h2:0<=cmpLs prev l
    ·rw [if_pos h2] at h;cases h
    ·rw [if_neg h2] at h;obtain ⟨h3,h4⟩:=ih l h;refine ⟨List.pairwise_cons.2 ⟨?_,h3⟩,?_⟩
     ·intro x hx;rcases List.mem_cons.1 hx with rfl|hx
      ·omega
      ·have h5:=(List.pairwise_cons.1 h3).1 x hx;have h6:cmpLs prev l<0:=by omega
       have h7:cmpLs l x<=0:=by omega
       exact cmpLs_cmp.strict h6 h7
     ·intro x hx;rcases List.mem_cons.1 hx with rfl|hx
      ·exact h1
      ·exact h4 x hx
   ·rw [if_pos h1] at h;exact absurd h h1
theorem ixChk_right{sets:List (List Lbl)}(h:ixChk sets=0):sets.length<=256/\UpF cmpLs sets/\∀l∈sets,lbChk l=0:=by
 unfold ixChk at h
 by_cases hb:256<sets.length
 ·rw [if_pos hb] at h;cases h
 ·rw [if_neg hb] at h
  cases sets with
  | nil=>exact ⟨by omega,List.Pairwise.nil,by simp⟩
  | cons l r =>
    simp only at h
    by_cases h1:lbChk l=0
    ·rw [if_neg (by omega)] at h;obtain ⟨h3,h4⟩:=ixChkF_up r l h;refine ⟨by omega,h3,?_⟩;intro x hx;rcases List.mem_cons.1 hx with rfl|hx
     ·exact h1
     ·exact h4 x hx
    ·rw [if_pos h1] at h;exact absurd h h1
section
variable (G:Nat->Nat->Nat->Nat->Prop) (X:Nat->ByteArray->Nat->Nat->Prop)
inductive TsO:Nat->Nat->Option (List ByteArray × Nat)->Prop
 | done (a:Nat):TsO 0 a (some ([],a))
 | bad (n a:Nat) (s:ByteArray) (k e:Nat) (h:X a s k e) (he:e≠0\/64<s.size):TsO (n+1) a none
 | no (n a:Nat) (s:ByteArray) (k:Nat) (h:X a s k 0) (hs:s.size<=64) (r:TsO n k none):TsO (n+1) a none
 | more (n a:Nat) (s:ByteArray) (k:Nat) (ts:List ByteArray) (p:Nat) (h:X a s k 0) (hs:s.size<=64) (r:TsO n k (some (ts,p))):TsO (n+1) a (some (s::ts,p))
inductive LsO(t:List ByteArray):Nat->Nat->Option (List Lbl × Nat)->Prop
 | done (a:Nat):LsO t 0 a (some ([],a))
 | bad1 (n a p k e:Nat) (h:G a p k e) (he:e≠0\/t.length<=p):LsO t (n+1) a none
 | bad2 (n a p k q j e:Nat) (h:G a p k 0) (hp:p<t.length) (h2:G k q j e) (he:e≠0\/t.length<=q):LsO t (n+1) a none
 | no (n a p k q j:Nat) (h:G a p k 0) (hp:p<t.length) (h2:G k q j 0) (hq:q<t.length) (r:LsO t n j none):LsO t (n+1) a none
 | more (n a p k q j:Nat) (l:List Lbl) (z:Nat) (h:G a p k 0) (hp:p<t.length) (h2:G k q j 0) (hq:q<t.length) (r:LsO t n j (some (l,z))):LsO t (n+1) a (some ((t[p],t[q])::l,z))
inductive SsO(t:List ByteArray):Nat->Nat->Option (List (List Lbl) × Nat)->Prop
 | done (a:Nat):SsO t 0 a (some ([],a))
 | bad (n a m k e:Nat) (h:G a m k e) (he:e≠0\/8<m):SsO t (n+1) a none
 | wrong (n a m k:Nat) (h:G a m k 0) (hm:m<=8) (r:LsO G t m k none):SsO t (n+1) a none
 | no (n a m k:Nat) (l:List Lbl) (j:Nat) (h:G a m k 0) (hm:m<=8) (r:LsO G t m k (some (l,j))) (r2:SsO t n j none):SsO t (n+1) a none
 | more (n a m k:Nat) (l:List Lbl) (j:Nat) (ls:List (List Lbl)) (z:Nat) (h:G a m k 0) (hm:m<=8) (r:LsO G t m k (some (l,j))) (r2:SsO t n j (some (ls,z))):SsO t (n+1) a (some (l::ls,z))
inductive IxO:Option (List (List Lbl))->Prop
 | bad (n k e:Nat) (h:G 0 n k e) (he:e≠0\/4096<n):IxO none
 | texts (n k:Nat) (h:G 0 n k 0) (hn:n<=4096) (r:TsO X n k none):IxO none
 | many (n k:Nat) (t:List ByteArray) (a m j e:Nat) (h:G 0 n k 0) (hn:n<=4096) (r:TsO X n k (some (t,a))) (h2:G a m j e) (he:e≠0\/256<m):IxO none
 | sets (n k:Nat) (t:List ByteArray) (a m j:Nat) (h:G 0 n k 0) (hn:n<=4096) (r:TsO X n k (some (t,a))) (h2:G a m j 0) (hm:m<=256) (r2:SsO G t m j none):IxO none
 | ok (n k:Nat) (t:List ByteArray) (a m j:Nat) (ls:List (List Lbl)) (z:Nat) (h:G 0 n k 0) (hn:n<=4096) (r:TsO X n k (some (t,a))) (h2:G a m j 0) (hm:m<=256) (r2:SsO G t m j (some (ls,z))):IxO (some ls)
variable {G X}
variable {P:Nat->Prop} (hG:∀a,P a->∃n k e,G a n k e/\(e=0->P k)) (hX:∀a,P a->∃s k e,X a s k e/\(e=0->P k))
include hX in
theorem tsO_total:∀(n a:Nat),P a->∃r,TsO X n a r/\∀ts p,r=some (ts,p)->P p:=by
 intro n
 induction n with
 | zero=>intro a ha;exact ⟨_,.done a,fun ts p e=>by cases e;exact ha⟩
 | succ n ih =>
   intro a ha;obtain ⟨s,k,e,h,hk⟩:=hX a ha
   by_cases he:e≠0\/64<s.size
   ·exact ⟨_,.bad n a s k e h he,fun _ _ e=>by cases e⟩
   ·obtain rfl:e=0:=by omega
    obtain ⟨r,hr,hp⟩:=ih k (hk rfl)
    cases r with
    | none=>exact ⟨_,.no n a s k h (by omega) hr,fun _ _ e=>by cases e⟩
    | some q=>exact ⟨_,.more n a s k q.1 q.2 h (by omega) hr,fun ts p e=>by cases e;exact hp _ _ rfl⟩
include hG in
theorem lsO_total(t:List ByteArray):∀(n a:Nat),P a->∃r,LsO G t n a r/\∀l p,r=some (l,p)->P p:=by
 intro n
 induction n with
 | zero=>intro a ha;exact ⟨_,.done a,fun ts p e=>by cases e;exact ha⟩
 | succ n ih =>
   intro a ha;obtain ⟨p,k,e,h,hk⟩:=hG a ha
   by_cases he:e≠0\/t.length<=p
   ·exact ⟨_,.bad1 n a p k e h he,fun _ _ e=>by cases e⟩
   ·obtain rfl:e=0:=by omega
    obtain ⟨q,j,e2,h2,hj⟩:=hG k (hk rfl)
    by_cases he2:e2≠0\/t.length<=q
    ·exact ⟨_,.bad2 n a p k q j e2 h (by omega) h2 he2,fun _ _ e=>by cases e⟩
    ·obtain rfl:e2=0:=by omega
     obtain ⟨r,hr,hp⟩:=ih j (hj rfl)
     cases r with
     | none=>exact ⟨_,.no n a p k q j h (by omega) h2 (by omega) hr,fun _ _ e=>by cases e⟩
     | some z=>exact ⟨_,.more n a p k q j z.1 z.2 h (by omega) h2 (by omega) hr,fun l y e=>by cases e;exact hp _ _ rfl⟩
include hG in
theorem ssO_total(t:List ByteArray):∀(n a:Nat),P a->∃r,SsO G t n a r:=by
 intro n
 induction n with
 | zero=>intro a ha;exact ⟨_,.done a⟩
 | succ n ih =>
   intro a ha;obtain ⟨m,k,e,h,hk⟩:=hG a ha
   by_cases he:e≠0\/8<m
   ·exact ⟨_,.bad n a m k e h he⟩
   ·obtain rfl:e=0:=by omega
    obtain ⟨r,hr,hp⟩:=lsO_total hG t m k (hk rfl)
    cases r with
    | none=>exact ⟨_,.wrong n a m k h (by omega) hr⟩
    | some z =>
      obtain ⟨r2,hr2⟩:=ih z.2 (hp z.1 z.2 rfl)
      cases r2 with
      | none=>exact ⟨_,.no n a m k z.1 z.2 h (by omega) hr hr2⟩
      | some y=>exact ⟨_,.more n a m k z.1 z.2 y.1 y.2 h (by omega) hr hr2⟩
include hG hX in
theorem ixO_total(h0:P 0):∃r,IxO G X r:=by
 obtain ⟨n,k,e,h,hk⟩:=hG 0 h0
 by_cases he:e≠0\/4096<n
 ·exact ⟨_,.bad n k e h he⟩
 ·obtain rfl:e=0:=by omega
  obtain ⟨r,hr,hp⟩:=tsO_total hX n k (hk rfl)
  cases r with
  | none=>exact ⟨_,.texts n k h (by omega) hr⟩
  | some z =>
    obtain ⟨m,j,e2,h2,hj⟩:=hG z.2 (hp z.1 z.2 rfl)
    by_cases he2:e2≠0\/256<m
    ·exact ⟨_,.many n k z.1 z.2 m j e2 h (by omega) hr h2 he2⟩
    ·obtain rfl:e2=0:=by omega
     obtain ⟨r2,hr2⟩:=ssO_total hG z.1 m j (hj rfl)
     cases r2 with
     | none=>exact ⟨_,.sets n k z.1 z.2 m j h (by omega) hr h2 (by omega) hr2⟩
     | some y=>exact ⟨_,.ok n k z.1 z.2 m j y.1 y.2 h (by omega) hr h2 (by omega) hr2⟩
end
section
variable {G:Nat->Nat->Nat->Nat->Prop} {X:Nat->ByteArray->Nat->Nat->Prop} {b:List UInt8}
 (hG:∀(pre more:List UInt8) (n:Nat),n<9223372036854775808->pre++uintL n++more=b->G pre.length n (pre++uintL n).length 0)
 (hX:∀(pre more:List UInt8) (s:ByteArray),s.size<=65535->pre++(uintL s.size++strL s)++more=b->X pre.length s (pre++(uintL s.size++strL s)).length 0)
include hX in
theorem ts_back:∀(ts:List ByteArray) (pre more:List UInt8),(∀s∈ts,s.size<=64)->pre++ts.flatMap (fun s=>uintL s.size++strL s)++more=b ->
 TsO X ts.length pre.length (some (ts,(pre++ts.flatMap (fun s=>uintL s.size++strL s)).length)):=by
 intro ts
 induction ts with
 | nil =>
   intro pre more _ _;have:(pre++([]:List ByteArray).flatMap (fun s=>uintL s.size++strL s)).length=pre.length:=by simp
   rw [this];exact .done _
 | cons s ts ih =>
   intro pre more hs hb;have h1:=hX pre (ts.flatMap (fun s=>uintL s.size++strL s)++more) s (by have:=hs s (by simp);omega) (by rw [<-hb];simp);have h2:=ih (pre++(uintL s.size++strL s)) more (fun x hx=>hs x (List.mem_cons_of_mem _ hx)) (by rw [<-hb];simp);have e:(pre++(s::ts).flatMap (fun s=>uintL s.size++strL s)).length=(pre++(uintL s.size++strL s)++ts.flatMap (fun s=>uintL s.size++strL s)).length:=by simp
   rw [e];exact .more _ _ s _ ts _ h1 (hs s (by simp)) h2
include hG in
theorem ls_back(t:List ByteArray)(ht:t.length<9223372036854775808):∀(l:List Lbl) (pre more:List UInt8),(∀x∈l,x.1∈t/\x.2∈t)->pre++l.flatMap (placeL t)++more=b ->
 LsO G t l.length pre.length (some (l,(pre++l.flatMap (placeL t)).length)):=by
 intro l
 induction l with
 | nil =>
   intro pre more _ _;have:(pre++([]:List Lbl).flatMap (placeL t)).length=pre.length:=by simp
   rw [this];exact .done _
 | cons x l ih =>
   intro pre more hs hb;obtain ⟨m1,m2⟩:=hs x (by simp);obtain ⟨p1,g1⟩:=place_get m1;obtain ⟨p2,g2⟩:=place_get m2;have h1:=hG pre (uintL (placeF t x.2)++(l.flatMap (placeL t)++more)) (placeF t x.1) (by omega) (by rw [<-hb];simp [placeL]);have h2:=hG (pre++uintL (placeF t x.1)) (l.flatMap (placeL t)++more) (placeF t x.2) (by omega) (by rw [<-hb];simp [placeL]);have h3:=ih (pre++uintL (placeF t x.1)++uintL (placeF t x.2)) more (fun y hy=>hs y (List.mem_cons_of_mem _ hy)) (by rw [<-hb];simp [placeL]);have e:(pre++(x::l).flatMap (placeL t)).length=(pre++uintL (placeF t x.1)++uintL (placeF t x.2)++l.flatMap (placeL t)).length:=by simp [placeL]
   have ex:x=(t[placeF t x.1],t[placeF t x.2]):=Prod.ext g1.symm g2.symm;rw [e];have h4:=LsO.more (G:=G) (t:=t) l.length pre.length _ _ _ _ l _ h1 p1 h2 p2 h3;rw [<-ex] at h4;exact h4
include hG in
theorem ss_back(t:List ByteArray)(ht:t.length<9223372036854775808):∀(ls:List (List Lbl)) (pre more:List UInt8),(∀l∈ls,l.length<=8/\∀x∈l,x.1∈t/\x.2∈t)->pre++ls.flatMap (setL t)++more=b ->
 SsO G t ls.length pre.length (some (ls,(pre++ls.flatMap (setL t)).length)):=by
 intro ls
 induction ls with
 | nil =>
   intro pre more _ _;have:(pre++([]:List (List Lbl)).flatMap (setL t)).length=pre.length:=by simp
   rw [this];exact .done _
 | cons l ls ih =>
   intro pre more hs hb;obtain ⟨m1,m2⟩:=hs l (by simp);have h1:=hG pre (l.flatMap (placeL t)++(ls.flatMap (setL t)++more)) l.length (by omega) (by rw [<-hb];simp [setL]);have h2:=ls_back hG t ht l (pre++uintL l.length) (ls.flatMap (setL t)++more) m2 (by rw [<-hb];simp [setL]);have h3:=ih (pre++uintL l.length++l.flatMap (placeL t)) more (fun y hy=>hs y (List.mem_cons_of_mem _ hy)) (by rw [<-hb];simp [setL]);have e:(pre++(l::ls).flatMap (setL t)).length=(pre++uintL l.length++l.flatMap (placeL t)++ls.flatMap (setL t)).length:=by simp [setL]
   rw [e];exact .more _ _ _ _ l _ ls _ h1 m1 h2 h3
end
theorem texts_in{sets:List (List Lbl)}{l:List Lbl}(hl:l∈sets){x:Lbl}(hx:x∈l):x.1∈ixTexts sets/\x.2∈ixTexts sets:=by
 unfold ixTexts textsOf namesOf;rw [setF_mem cmpB_cmp,setF_mem cmpB_cmp];exact ⟨List.mem_append.2 (.inl (List.mem_flatMap.2 ⟨l,hl,List.mem_map.2 ⟨x,hx,rfl⟩⟩)),List.mem_append.2 (.inr (List.mem_flatMap.2 ⟨l,hl,List.mem_map.2 ⟨x,hx,rfl⟩⟩))⟩
theorem texts_of{sets:List (List Lbl)}{s:ByteArray}(hs:s∈ixTexts sets):∃l∈sets,∃x∈l,s=x.1\/s=x.2:=by
 unfold ixTexts textsOf namesOf at hs;rw [setF_mem cmpB_cmp] at hs;rcases List.mem_append.1 hs with h|h
 ·obtain ⟨l,hl,h2⟩:=List.mem_flatMap.1 h;obtain ⟨x,hx,rfl⟩:=List.mem_map.1 h2;exact ⟨l,hl,x,hx,.inl rfl⟩
 ·obtain ⟨l,hl,h2⟩:=List.mem_flatMap.1 h;obtain ⟨x,hx,rfl⟩:=List.mem_map.1 h2;exact ⟨l,hl,x,hx,.inr rfl⟩
theorem texts_few:∀(sets:List (List Lbl)),(∀l∈sets,l.length<=8)->(textsOf sets).length<=16*sets.length:=by
 intro sets h;have h1:∀(g:Lbl->ByteArray) (ls:List (List Lbl)),(∀l∈ls,l.length<=8)->(ls.flatMap fun l=>l.map g).length<=8*ls.length:=by
  intro g ls
  induction ls with
  | nil=>intro _;simp
  | cons l ls ih =>
    intro h;rw [List.flatMap_cons,List.length_append,List.length_map,List.length_cons];have h2:=ih (fun x hx=>h x (List.mem_cons_of_mem _ hx));have h3:=h l (by simp);omega
 unfold textsOf namesOf;rw [List.length_append];have h2:=h1 (·.1) sets h;have h3:=h1 (·.2) sets h;omega
theorem label_sizes{l:List Lbl}(h:lbChk l=0){x:Lbl}(hx:x∈l):x.1.size<=64/\x.2.size<=64/\0<x.2.size:=by
 obtain ⟨i,hi,e⟩:=List.getElem_of_mem hx;have h1:=lbErrAt_zero.1 ((lbChk_ok.1 h).2 i hi);have e2:l.getD i lbl0=x:=by rw [List.getD_eq_getElem?_getD,List.getElem?_eq_getElem hi,e];rfl
 unfold nmOf vlOf at h1;rw [e2] at h1;obtain ⟨h2,h3,h4,_⟩:=h1;have:=(nameB_size h2).2;exact ⟨by omega,h4,h3⟩
section
variable {G:Nat->Nat->Nat->Nat->Prop} {X:Nat->ByteArray->Nat->Nat->Prop} {b:List UInt8}
theorem ix_back(hG:∀(pre more:List UInt8) (n:Nat),n<9223372036854775808->pre++uintL n++more=b->G pre.length n (pre++uintL n).length 0)
 (hX:∀(pre more:List UInt8) (s:ByteArray),s.size<=65535->pre++(uintL s.size++strL s)++more=b->X pre.length s (pre++(uintL s.size++strL s)).length 0)
 {sets:List (List Lbl)}(h:ixChk sets=0)(hb:ixBytes sets=b):IxO G X (some sets):=by
 obtain ⟨h1,h2,h3⟩:=ixChk_right h;have h8:∀l∈sets,l.length<=8:=fun l hl=>(lbChk_ok.1 (h3 l hl)).1
 have hsz:∀s∈ixTexts sets,s.size<=64:=fun s hs=>by
  obtain ⟨l,hl,x,hx,e⟩:=texts_of hs;have:=label_sizes (h3 l hl) hx;rcases e with rfl|rfl
  ·exact this.1
  ·exact this.2.1
 have hn:(ixTexts sets).length<=4096:=by
  have h4:=setF_len cmpB_cmp (textsOf sets);have h5:=texts_few sets h8;unfold ixTexts;omega
 unfold ixBytes at hb;generalize ht:ixTexts sets=t at *;have g1:=hG [] (t.flatMap (fun s=>uintL s.size++strL s)++uintL sets.length++sets.flatMap (setL t)) t.length (by omega) (by rw [<-hb];simp);have g2:=ts_back hX t ([]++uintL t.length) (uintL sets.length++sets.flatMap (setL t)) hsz (by rw [<-hb];simp);have g3:=hG ([]++uintL t.length++t.flatMap (fun s=>uintL s.size++strL s)) (sets.flatMap (setL t)) sets.length (by omega) (by rw [<-hb];simp);have g4:=ss_back hG t (by omega) sets ([]++uintL t.length++t.flatMap (fun s=>uintL s.size++strL s)++uintL sets.length) [] (fun l hl=>⟨h8 l hl,fun x hx=>by rw [<-ht];exact texts_in hl hx⟩) (by rw [<-hb];simp);exact .ok t.length _ t _ sets.length _ sets _ g1 hn g2 g3 h1 g4
end
end Go.Proofs.YtgdmcnoogacdaaaGreatDoor

namespace Go.Proofs.YtgdmcnoogacdaaaGreatDoor
open Go.RowKit Go.Maps
set_option linter.unusedVariables false
def Tx(w:World)(A:Option Addr)(ts:List ByteArray):Prop:=At w A (ts.map Value.string)
theorem Tx.below{w w':World}{A:Option Addr}{ts:List ByteArray}(h:Tx w A ts)(hb:Below w.heap.size w w'):Tx w' A ts:=At.below h hb
theorem Tx.nil(w:World)(A:Option Addr):Tx w A []:=.inl rfl
def txt0:ByteArray:=⟨#[]⟩
theorem Tx.at_{w:World}{A:Option Addr}{ts:List ByteArray}(h:Tx w A ts){i:Nat}(hi:i<ts.length):∃b o,A=some ⟨b,o,none⟩/\b<w.heap.size/\w.cell? ⟨b,o+i,none⟩=some (.string (ts.getD i txt0)):=by
 rcases h with h|⟨b,o,rfl,hb,hc⟩
 ·rw [List.map_eq_nil_iff] at h;subst h;simp at hi
 ·refine ⟨b,o,rfl,hb,hc i _ ?_⟩;rw [List.getElem?_map,List.getElem?_eq_getElem hi,List.getD_eq_getElem?_getD,List.getElem?_eq_getElem hi];rfl
def OwnTx(w:World)(base:Nat)(v:Value)(ts:List ByteArray):Prop:=w.ownsRow base 9 1 v ts.length (ts.map Value.string)
theorem owntx_nil(w:World)(base:Nat):OwnTx w base (.slice none 0 0) []:=⟨rfl,.inl ⟨rfl,rfl⟩⟩
theorem owntx_below{w w':World}{base:Nat}{v:Value}{ts:List ByteArray}(h:OwnTx w base v ts)(hb:Below w.heap.size w w'):OwnTx w' base v ts:=rows_below h hb
theorem owntx_slice{w:World}{base:Nat}{v:Value}{ts:List ByteArray}(h:OwnTx w base v ts):∃P c,v=.slice P ts.length c/\ts.length<=c/\Tx w P ts/\∀ad,P=some ad->base<=ad.block:=rows_slice h
theorem text_info:(Tryz.prog.info? 9).map (fun i=>(i.zero,i.size,i.bytes))=some (some (.string ByteArray.empty),1,16):=by kernel_rfl
theorem app_t{w0:World}{ops:Array Oper}{rest:List Oper}{o:Oper}{a:Act}{Q:Exit->Act->World->Prop}(hgd:o.guard=none)(s y:Operand)
 (ho:o.op=.call { callee:=.builtin .append,args:=#[s,y],argTypes:=#[111,111] })
 (base:Nat)(v:Value)(ts:List ByteArray)(hs:a.eval s=v)(hF:OwnTx w0 base v ts)(x:ByteArray)(c:Nat)(hy:a.eval y=.slice (some ⟨w0.heap.size,0,none⟩) 1 c)(hn:ts.length<=4000000)(hbase:base<=w0.heap.size)
 (h:∀v' w',OwnTx w' base v' (ts++[x])->Below base w0 w'->wpList Tryz.prog ops Q rest (a.put o.dst v') w'):
 wpList Tryz.prog ops Q (o::rest) a (w0.alloc (.cells #[.string x] 9)):=by
 obtain ⟨i0,hi,hz0,hz1,hz2⟩:=info_parts text_info;have hA:=below_one w0 (.cells #[.string x] 9);have hF1:=owntx_below hF hA;refine wpList_append_own_at _ hgd s y 111 ho base 9 i0 _ 1 16 Tryz.underlying111 hi hz0 hz1 hz2 rfl (by omega) v ts.length (ts.map Value.string) hs hF1 _ 1 c [.string x] hy rfl (cell_one_new w0 _ _) (by intro u hu;simp at hu;subst hu;rfl)
  (by simp only [maxLen];omega) (by omega) (Nat.le_trans hbase hA.size) ?_
 intro v' w' h1 h2 _ _;refine h v' w' ?_ (Below.grown (hA.mono hbase) h2 (Nat.le_trans hbase hA.size) (fun k hk=>(World.ownsRow.lt hF1 _ hk).1));unfold OwnTx;rw [List.length_append,List.map_append];exact h1
theorem getD_at{ts:List ByteArray}{k:Nat}(h:k<ts.length):ts.getD k txt0=ts[k]:=by rw [List.getD_eq_getElem?_getD,List.getElem?_eq_getElem h];rfl
theorem take_next{ts:List ByteArray}{k:Nat}(h:k<ts.length):ts.take (k+1)=ts.take k++[ts.getD k txt0]:=by rw [List.take_succ_eq_append_getElem h,getD_at h]
inductive WSt(ts:List ByteArray)(s:ByteArray):Nat->Bool->List ByteArray->Prop
 | before (k:Nat) (h:∀x∈ts.take k,cmpB x s<0):WSt ts s k false (ts.take k)
 | behind (k p:Nat) (hp:p<=k) (h1:∀x∈ts.take p,cmpB x s<0) (h2:∀x∈ts.drop p,cmpB s x<0):WSt ts s k true (ts.take p++s::(ts.take k).drop p)
theorem wst_zero(ts:List ByteArray)(s:ByteArray):WSt ts s 0 false []:=by
 have:=WSt.before (ts:=ts) (s:=s) 0 (by simp);simpa using this
theorem wst_lay{ts:List ByteArray}{s:ByteArray}{k:Nat}{o:List ByteArray}(hu:UpF cmpB ts)(hk:k<ts.length)(h:WSt ts s k false o)(hlt:cmpB s (ts.getD k txt0)<0):WSt ts s k true (o++[s]):=by
 cases h with
 | before h =>
   have h2:∀x∈ts.drop k,cmpB s x<0:=by
    intro x hx;rw [List.drop_eq_getElem_cons hk] at hx;rw [getD_at hk] at hlt;rcases List.mem_cons.1 hx with rfl|hx
    ·exact hlt
    ·have h3:UpF cmpB (ts.drop k):=hu.sublist (List.drop_sublist _ _);rw [List.drop_eq_getElem_cons hk] at h3;have h4:=(List.pairwise_cons.1 h3).1 x hx;exact cmpB_cmp.strict hlt (by omega)
   have:=WSt.behind (ts:=ts) (s:=s) k k (Nat.le_refl _) h h2;rwa [List.drop_eq_nil_of_le (by rw [List.length_take];omega)] at this
theorem wst_next{ts:List ByteArray}{s:ByteArray}{k:Nat}{dn:Bool}{o:List ByteArray}(hk:k<ts.length)(h:WSt ts s k dn o)(hne:ts.getD k txt0≠s)(hx:dn=true\/¬cmpB s (ts.getD k txt0)<0):WSt ts s (k+1) dn (o++[ts.getD k txt0]):=by
 cases h with
 | before h =>
   rw [<-take_next hk];refine .before (k+1) fun x hx2=>?_
   rw [take_next hk] at hx2;rcases List.mem_append.1 hx2 with h2|h2
   ·exact h x h2
   ·rw [List.mem_singleton.1 h2];rcases hx with hx|hx
    ·cases hx
    ·rcases cmp_ne cmpB_cmp hne with h3|h3
     ·exact h3
     ·exact absurd h3 hx
 | behind p hp h1 h2 =>
   have h3:=WSt.behind (ts:=ts) (s:=s) (k+1) p (by omega) h1 h2;have e:(ts.take (k+1)).drop p=(ts.take k).drop p++[ts.getD k txt0]:=by
    rw [take_next hk,List.drop_append_of_le_length (by rw [List.length_take];omega)]
   rw [e] at h3;simpa using h3
theorem wst_end{ts:List ByteArray}{s:ByteArray}{dn:Bool}{o:List ByteArray}(hu:UpF cmpB ts)(h:WSt ts s ts.length dn o):withF cmpB ts s=if dn=true then o else o++[s]:=by
 cases h with
 | before h =>
   rw [withF_at cmpB_cmp hu s ts.length h (by simp)];simp
 | behind p hp h1 h2 =>
   rw [withF_at cmpB_cmp hu s p h1 h2];simp
theorem wst_len{ts:List ByteArray}{s:ByteArray}{k:Nat}{dn:Bool}{o:List ByteArray}(h:WSt ts s k dn o):o.length<=k+1:=by
 cases h with
 | before h=>rw [List.length_take];omega
 | behind p hp h1 h2=>rw [List.length_append,List.length_cons,List.length_take,List.length_drop,List.length_take];omega
def TxTold(w:World)(ts:List ByteArray)(e:Ending)(w':World):Prop:=∃P c,e=.returned (.slice P ts.length c)/\Tx w' P ts/\ts.length<=c/\Below w.heap.size w w'
set_option maxHeartbeats 1000000 in
theorem with_ref(A:Option Addr)(ts:List ByteArray)(c:Nat)(s:ByteArray)(w:World)(hA:Tx w A ts)(hc:ts.length<=c)(hu:UpF cmpB ts)(hl:ts.length<=1000000):
 Calls Tryz.prog 149 #[.slice A ts.length c,.string s] w (TxTold w (withF cmpB ts s)):=by
 have HA:=zz hA;have HU:=zz hu;have HC:=zz hc;clear hA hu hc;go_enter Tryz.func149,Tryz.ntmps149
 go_wp2_with fail
 go_loopw [5,6,7] (fun u d i wr=>∃(k:Nat) (dn:Bool) (o:List ByteArray),k<=ts.length/\i=.int .i64 (k:Int)/\d=.bool dn/\WSt ts s k dn o/\OwnTx wr w.heap.size u o/\Below w.heap.size w wr) (fun _ _ i _=>ts.length-(intOf i).toNat)
 case atStart=>exact ⟨0,false,[],Nat.zero_le _,rfl,rfl,wst_zero _ _,owntx_nil _ _,Below.refl _ _⟩
 case round =>
  obtain ⟨k,dn,o,hk,rfl,rfl,hst,hown,hb⟩:=hrel;have HST:=zz hst;have HO:=zz hown;have HB:=zz hb;have HLN:=zz (wst_len hst)
  by_cases hlt:k<ts.length
  ·obtain ⟨b1,o1,rfl,hb1,g0⟩:=HA.out.at_ hlt;have c0:=(hb.cell (p:=⟨b1,o1+k,none⟩) hb1).trans g0;have i1:(k:Int)<(ts.length:Int):=by omega
   have HN1:=zz (fun (h:dn=false) (h2:cmpB s (ts.getD k txt0)<0)=>wst_lay HU.out hlt (by rw [<-h];exact hst) h2);have HN2:=zz (fun (d:Bool) (o:List ByteArray) (h:WSt ts s k d o) (hne:ts.getD k txt0≠s) (hx:d=true\/¬cmpB s (ts.getD k txt0)<0)=>wst_next hlt h hne hx);have HMEM:=zz (show ts.getD k txt0∈ts from by rw [getD_at hlt];exact List.getElem_mem hlt);clear hst hown hb g0;generalize ts.getD k txt0=x at *
   by_cases he:x=s
   ·subst he;have j1:(x.toList==x.toList)=true:=by simp
    have HW:=zz (withF_here (f:=cmpB) ts HMEM.out)
    go_wp2_with fail
    go_ret;rw [HW.out];exact ⟨_,_,rfl,HA.out.below HB.out,HC.out,HB.out⟩
   ·have j1:(x.toList==s.toList)=false:=by rw [eq_cmp];exact decide_eq_false fun h=>he ((cmpB_cmp.zero _ _).1 h)
    cases dn
    ·by_cases h2:cmpB s x<0
     ·have j2:Op.bytesLess s.toList x.toList=true:=by
       rw [less_cmp];refine decide_eq_true ?_;rcases cmpB_cmp.rng s x with h|h|h<;>omega
      have HS1:=zz (HN1.out rfl h2);have HS2:=zz (HN2.out true _ HS1.out he (.inl rfl));clear HN1 HN2
      go_wp2_with (first
       | (at_builtin;refine app_t rfl (.tmp 31) (.tmp 33) rfl w.heap.size _ o rfl HO.out s 1 rfl (by have:=HLN.out;omega) HB.out.size ?_;intro v2 w2 hown2 hb2;have HO2:=zz hown2;have HB2:=zz (HB.out.trans hb2);have c1:=(hb2.cell (p:=⟨b1,o1+k,none⟩) hb1);have c2:=c1.trans c0;clear hown2 hb2 c1)
       | (at_builtin;refine app_t rfl (.tmp 35) (.tmp 40) rfl w.heap.size _ (o++[s]) rfl HO2.out x 1 rfl (by have:=HLN.out;rw [List.length_append,List.length_singleton];omega) HB2.out.size ?_;intro v3 w3 hown3 hb3;have HO3:=zz hown3;have HB3:=zz (HB2.out.trans hb3);clear hown3 hb3))
      go_roundw
      case rel=>exact ⟨k+1,true,_,by omega,by go_num,rfl,HS2.out,HO3.out,HB3.out⟩
      case measure=>simp [intOf];omega
     ·have j2:Op.bytesLess s.toList x.toList=false:=by
       rw [less_cmp];exact decide_eq_false fun h=>h2 (by omega)
      have HS2:=zz (HN2.out false _ HST.out he (.inr h2));clear HN1 HN2
      go_wp2_with (first
       | (at_builtin;refine app_t rfl (.tmp 35) (.tmp 40) rfl w.heap.size _ o rfl HO.out x 1 rfl (by have:=HLN.out;omega) HB.out.size ?_;intro v3 w3 hown3 hb3;have HO3:=zz hown3;have HB3:=zz (HB.out.trans hb3);clear hown3 hb3))
      go_roundw
      case rel=>exact ⟨k+1,false,_,by omega,by go_num,rfl,HS2.out,HO3.out,HB3.out⟩
      case measure=>simp [intOf];omega
    ·have HS2:=zz (HN2.out true _ HST.out he (.inl rfl));clear HN1 HN2
     go_wp2_with (first
      | (at_builtin;refine app_t rfl (.tmp 35) (.tmp 40) rfl w.heap.size _ o rfl HO.out x 1 rfl (by have:=HLN.out;omega) HB.out.size ?_;intro v3 w3 hown3 hb3;have HO3:=zz hown3;have HB3:=zz (HB.out.trans hb3);clear hown3 hb3))
     go_roundw
     case rel=>exact ⟨k+1,true,_,by omega,by go_num,rfl,HS2.out,HO3.out,HB3.out⟩
     case measure=>simp [intOf];omega
  ·obtain rfl:k=ts.length:=by omega
   have HE:=zz (wst_end HU.out hst);clear hst hown hb
   cases dn
   ·have HE2:=zz (show withF cmpB ts s=o++[s] from HE.out)
    go_wp2_with (first
     | (at_builtin;refine app_t rfl (.tmp 44) (.tmp 46) rfl w.heap.size _ o rfl HO.out s 1 rfl (by have:=HLN.out;omega) HB.out.size ?_;intro v2 w2 hown2 hb2;have HO2:=zz hown2;have HB2:=zz (HB.out.trans hb2);clear hown2 hb2))
    obtain ⟨P,c2,hv,hc2,hT,_⟩:=owntx_slice HO2.out;go_ret;rw [HE2.out,hv];exact ⟨P,c2,rfl,hT,hc2,HB2.out⟩
   ·have HE2:=zz (show withF cmpB ts s=o from HE.out);obtain ⟨P,c2,hv,hc2,hT,_⟩:=owntx_slice HO.out;have HT:=zz hT;clear hT;subst hv
    go_wp2_with fail
    go_ret;rw [HE2.out];exact ⟨P,c2,rfl,HT.out,hc2,HB.out⟩
end Go.Proofs.YtgdmcnoogacdaaaGreatDoor
