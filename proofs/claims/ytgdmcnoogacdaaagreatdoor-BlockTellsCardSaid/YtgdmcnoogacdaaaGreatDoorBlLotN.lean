/- In one text, written by lotify.py: PoMath, IxMath3, IxIds. -/
import Derived.Test.YtgdmcnoogacdaaaGreatDoorBlLotK
import Derived.Test.YtgdmcnoogacdaaaGreatDoorMtMath
namespace Go.Proofs.YtgdmcnoogacdaaaGreatDoor
set_option linter.unusedVariables false
def pchkF:Int->List Int->Int
 | _,[]=>0
 | last,n::r=>if n<0\/1099511627776<n then 2 else if n<=last then 13 else pchkF n r
def pchk(l:List Int):Int:=if 1024<l.length then 3 else pchkF (-1) l
def Up:Int->List Int->Prop
 | _,[]=>True
 | last,n::r=>last<n/\n<=1099511627776/\Up n r
theorem Up.lower{l:List Int}{p q:Int}(h:Up p l)(hq:q<=p):Up q l:=by
 cases l with
 | nil=>trivial
 | cons n r=>exact ⟨Int.lt_of_le_of_lt hq h.1,h.2⟩
theorem Up.mem{l:List Int}:∀{p:Int},Up p l->∀n,n∈l->p<n/\n<=1099511627776:=by
 induction l with
 | nil=>intro p _ n hn;cases hn
 | cons x r ih =>
   intro p h n hn;rcases List.mem_cons.1 hn with rfl|hn
   ·exact ⟨h.1,h.2.1⟩
   ·have:=ih h.2.2 n hn;exact ⟨Int.lt_trans h.1 this.1,this.2⟩
theorem pchkF_zero(l:List Int):∀p:Int,-1<=p->(pchkF p l=0↔Up p l):=by
 induction l with
 | nil=>intro p _;simp [pchkF,Up]
 | cons n r ih =>
   intro p hp;rw [pchkF,Up]
   by_cases h1:n<0\/1099511627776<n
   ·rw [if_pos h1];exact ⟨fun h=>absurd h (by decide),fun h=>by omega⟩
   ·rw [if_neg h1]
    by_cases h2:n<=p
    ·rw [if_pos h2];exact ⟨fun h=>absurd h (by decide),fun h=>by omega⟩
    ·rw [if_neg h2,ih n (by omega)];exact ⟨fun h=>⟨by omega,by omega,h⟩,fun h=>h.2.2⟩
theorem pchk_zero{l:List Int}:pchk l=0↔l.length<=1024/\Up (-1) l:=by
 unfold pchk
 by_cases h:1024<l.length
 ·rw [if_pos h];exact ⟨fun h=>absurd h (by decide),fun h=>by omega⟩
 ·rw [if_neg h,pchkF_zero l (-1) (by omega)];exact ⟨fun k=>⟨by omega,k⟩,fun k=>k.2⟩
def ahead(l:List Int)(k:Nat):Int:=if k=0 then -1 else l.getD (k-1) 0
theorem ahead_succ(l:List Int)(k:Nat):ahead l (k+1)=l.getD k 0:=by simp [ahead]
theorem drop_cons(l:List Int){k:Nat}(h:k<l.length):l.drop k=l.getD k 0::l.drop (k+1):=by
 rw [List.drop_eq_getElem_cons h,getD_in l 0 h]
theorem pchk_end(l:List Int):pchkF (ahead l l.length) (l.drop l.length)=0:=by simp [pchkF]
theorem pchk_arg(l:List Int){k:Nat}(h:k<l.length)(hn:l.getD k 0<0\/1099511627776<l.getD k 0):pchkF (ahead l k) (l.drop k)=2:=by
 rw [drop_cons l h,pchkF,if_pos hn]
theorem pchk_order(l:List Int){k:Nat}(h:k<l.length)(hn:¬(l.getD k 0<0\/1099511627776<l.getD k 0))(hk:k≠0)(ho:l.getD k 0<=l.getD (k-1) 0):pchkF (ahead l k) (l.drop k)=13:=by
 rw [drop_cons l h,pchkF,if_neg hn,ahead,if_neg hk,if_pos ho]
theorem pchk_next(l:List Int){k:Nat}(h:k<l.length)(hn:¬(l.getD k 0<0\/1099511627776<l.getD k 0))(ho:k=0\/l.getD (k-1) 0<l.getD k 0):pchkF (ahead l k) (l.drop k)=pchkF (ahead l (k+1)) (l.drop (k+1)):=by
 rw [drop_cons l h,pchkF,if_neg hn,ahead_succ,if_neg];unfold ahead
 split
 ·omega
 ·rcases ho with h0|h0<;>omega
theorem up_ext:∀{l m:List Int} {p q:Int},Up p l->Up q m->(∀n,n∈l↔n∈m)->l=m:=by
 intro l
 induction l with
 | nil =>
   intro m p q _ _ h
   cases m with
   | nil=>rfl
   | cons y m=>exact absurd ((h y).2 (by simp)) (by simp)
 | cons x l ih =>
   intro m p q hl hm h
   cases m with
   | nil=>exact absurd ((h x).1 (by simp)) (by simp)
   | cons y m =>
     have e:x=y:=by
      rcases List.mem_cons.1 ((h x).1 (by simp)) with h1|h1
      ·exact h1
      ·have a1:=(hm.2.2.mem x h1).1;rcases List.mem_cons.1 ((h y).2 (by simp)) with h2|h2
       ·exact h2.symm
       ·have a2:=(hl.2.2.mem y h2).1;omega
     subst e;rw [ih hl.2.2 hm.2.2];intro n;constructor
     ·intro hn;have a1:=(hl.2.2.mem n hn).1;rcases List.mem_cons.1 ((h n).1 (List.mem_cons_of_mem _ hn)) with h2|h2
      ·omega
      ·exact h2
     ·intro hn;have a1:=(hm.2.2.mem n hn).1;rcases List.mem_cons.1 ((h n).2 (List.mem_cons_of_mem _ hn)) with h2|h2
      ·omega
      ·exact h2
def keepIf(b:Bool)(n:Int):List Int:=if b=true then [n] else []
def mergeF(st:Bool->Bool->Bool):List Int->List Int->List Int
 | [],[]=>[]
 | [],y::b=>keepIf (st false true) y++mergeF st [] b
 | x::a,[]=>keepIf (st true false) x++mergeF st a []
 | x::a,y::b=>if x<y then keepIf (st true false) x++mergeF st a (y::b) else if y<x then keepIf (st false true) y++mergeF st (x::a) b else keepIf (st true true) x++mergeF st a b
termination_by a b=>a.length+b.length
theorem mem_keepIf(b:Bool)(n m:Int):m∈keepIf b n↔m=n/\b=true:=by
 unfold keepIf
 split
 ·rename_i h;simp [h]
 ·rename_i h;simp [h]
theorem merge_nil(st:Bool->Bool->Bool):mergeF st [] []=[]:=by rw [mergeF]
theorem merge_r(st:Bool->Bool->Bool)(y:Int)(b:List Int):mergeF st [] (y::b)=keepIf (st false true) y++mergeF st [] b:=by rw [mergeF]
theorem merge_l(st:Bool->Bool->Bool)(x:Int)(a:List Int):mergeF st (x::a) []=keepIf (st true false) x++mergeF st a []:=by rw [mergeF]
theorem merge_lt(st:Bool->Bool->Bool){x y:Int}(a b:List Int)(h:x<y):mergeF st (x::a) (y::b)=keepIf (st true false) x++mergeF st a (y::b):=by rw [mergeF,if_pos h]
theorem merge_gt(st:Bool->Bool->Bool){x y:Int}(a b:List Int)(h:y<x):mergeF st (x::a) (y::b)=keepIf (st false true) y++mergeF st (x::a) b:=by rw [mergeF,if_neg (by omega),if_pos h]
theorem merge_eq(st:Bool->Bool->Bool)(x:Int)(a b:List Int):mergeF st (x::a) (x::b)=keepIf (st true true) x++mergeF st a b:=by rw [mergeF,if_neg (by omega),if_neg (by omega)]
theorem up_keep{b:Bool}{p n:Int}{l:List Int}(h1:p<n)(h2:n<=1099511627776)(h:Up n l):Up p (keepIf b n++l):=by
 unfold keepIf
 split
 ·exact ⟨h1,h2,h⟩
 ·exact h.lower (by omega)
theorem merge_up(st:Bool->Bool->Bool):∀(k:Nat) (a b:List Int) (p:Int),a.length+b.length<=k->Up p a->Up p b->Up p (mergeF st a b):=by
 intro k
 induction k with
 | zero =>
   intro a b p h _ _;obtain rfl:=List.eq_nil_of_length_eq_zero (l:=a) (by omega);obtain rfl:=List.eq_nil_of_length_eq_zero (l:=b) (by omega);rw [merge_nil]
   trivial
 | succ k ih =>
   intro a b p h ha hb;rcases a with _|⟨x,a⟩<;>rcases b with _|⟨y,b⟩
   ·rw [merge_nil];trivial
   ·rw [merge_r];exact up_keep hb.1 hb.2.1 (ih [] b y (by simp at h ⊢;omega) trivial hb.2.2)
   ·rw [merge_l];exact up_keep ha.1 ha.2.1 (ih a [] x (by simp at h ⊢;omega) ha.2.2 trivial)
   ·rcases Int.lt_or_le x y with hxy|hxy
    ·rw [merge_lt st a b hxy];exact up_keep ha.1 ha.2.1 (ih a (y::b) x (by simp at h ⊢;omega) ha.2.2 ⟨hxy,hb.2⟩)
    ·rcases Int.lt_or_le y x with hyx|hyx
     ·rw [merge_gt st a b hyx];exact up_keep hb.1 hb.2.1 (ih (x::a) b y (by simp at h ⊢;omega) ⟨hyx,ha.2⟩ hb.2.2)
     ·obtain rfl:x=y:=by omega
      rw [merge_eq];exact up_keep ha.1 ha.2.1 (ih a b x (by simp at h ⊢;omega) ha.2.2 hb.2.2)
theorem notin_up{n p:Int}{l:List Int}(h:Up p l)(hn:n<=p):n∉l:=fun hm=>by have:=(h.mem n hm).1;omega
theorem dec_cons{n x:Int}(h:n≠x)(l:List Int):decide (n∈x::l)=decide (n∈l):=by simp [h]
theorem merge_mem(st:Bool->Bool->Bool):∀(k:Nat) (a b:List Int) (p:Int),a.length+b.length<=k->Up p a->Up p b ->
 ∀n,n∈mergeF st a b↔(n∈a\/n∈b)/\st (decide (n∈a)) (decide (n∈b))=true:=by
 intro k
 induction k with
 | zero =>
   intro a b p h _ _ n;obtain rfl:=List.eq_nil_of_length_eq_zero (l:=a) (by omega);obtain rfl:=List.eq_nil_of_length_eq_zero (l:=b) (by omega);simp [merge_nil]
 | succ k ih =>
   intro a b p h ha hb n;rcases a with _|⟨x,a⟩<;>rcases b with _|⟨y,b⟩
   ·simp [merge_nil]
   ·rw [merge_r,List.mem_append,mem_keepIf,ih [] b y (by simp at h ⊢;omega) trivial hb.2.2]
    by_cases e:n=y
    ·subst e;have:=notin_up hb.2.2 (Int.le_refl n);simp [this]
    ·rw [dec_cons e];simp [e]
   ·rw [merge_l,List.mem_append,mem_keepIf,ih a [] x (by simp at h ⊢;omega) ha.2.2 trivial]
    by_cases e:n=x
    ·subst e;have:=notin_up ha.2.2 (Int.le_refl n);simp [this]
    ·rw [dec_cons e];simp [e]
   ·rcases Int.lt_or_le x y with hxy|hxy
    ·rw [merge_lt st a b hxy,List.mem_append,mem_keepIf,ih a (y::b) x (by simp at h ⊢;omega) ha.2.2 ⟨hxy,hb.2⟩]
     by_cases e:n=x
     ·subst e;have h1:=notin_up ha.2.2 (Int.le_refl n);have h2:n∉y::b:=notin_up (l:=y::b) (p:=n) ⟨hxy,hb.2⟩ (Int.le_refl n);simp [h1];simp at h2;simp [h2]
     ·rw [dec_cons e a];simp [e]
    ·rcases Int.lt_or_le y x with hyx|hyx
     ·rw [merge_gt st a b hyx,List.mem_append,mem_keepIf,ih (x::a) b y (by simp at h ⊢;omega) ⟨hyx,ha.2⟩ hb.2.2]
      by_cases e:n=y
      ·subst e;have h1:=notin_up hb.2.2 (Int.le_refl n);have h2:n∉x::a:=notin_up (l:=x::a) (p:=n) ⟨hyx,ha.2⟩ (Int.le_refl n);simp at h2;simp [h1,h2]
      ·rw [dec_cons e b];simp [e]
     ·obtain rfl:x=y:=by omega
      rw [merge_eq,List.mem_append,mem_keepIf,ih a b x (by simp at h ⊢;omega) ha.2.2 hb.2.2]
      by_cases e:n=x
      ·subst e;have h1:=notin_up ha.2.2 (Int.le_refl n);have h2:=notin_up hb.2.2 (Int.le_refl n);simp [h1,h2]
      ·rw [dec_cons e a,dec_cons e b];simp [e]
def bothL(a b:List Int):List Int:=mergeF (fun p q=>p&&q) a b
def lessL(a b:List Int):List Int:=mergeF (fun p q=>p&&!q) a b
theorem merge_up'{st:Bool->Bool->Bool}{a b:List Int}{p:Int}(ha:Up p a)(hb:Up p b):Up p (mergeF st a b):=merge_up st _ a b p (Nat.le_refl _) ha hb
theorem both_mem{a b:List Int}{p:Int}(ha:Up p a)(hb:Up p b)(n:Int):n∈bothL a b↔n∈a/\n∈b:=by
 unfold bothL;rw [merge_mem _ _ a b p (Nat.le_refl _) ha hb];simp;intro h1 h2;exact .inl h1
theorem less_mem{a b:List Int}{p:Int}(ha:Up p a)(hb:Up p b)(n:Int):n∈lessL a b↔n∈a/\n∉b:=by
 unfold lessL;rw [merge_mem _ _ a b p (Nat.le_refl _) ha hb];simp;intro h1 h2;exact .inl h1
theorem up_filter(f:Int->Bool):∀{l:List Int} {p:Int},Up p l->Up p (l.filter f):=by
 intro l
 induction l with
 | nil=>intro p h;exact h
 | cons x l ih =>
   intro p h;rw [List.filter_cons]
   split
   ·exact ⟨h.1,h.2.1,ih h.2.2⟩
   ·exact (ih h.2.2).lower (by have:=h.1;omega)
def pickL(a b:List Int)(s:Bool):List Int:=a.filter fun n=>decide (n∈b)==s
theorem both_pick{a b:List Int}{p:Int}(ha:Up p a)(hb:Up p b):bothL a b=pickL a b true:=by
 refine up_ext (p:=p) (q:=p) (merge_up' ha hb) (up_filter _ ha) fun n=>?_
 rw [both_mem ha hb];simp [pickL]
theorem less_pick{a b:List Int}{p:Int}(ha:Up p a)(hb:Up p b):lessL a b=pickL a b false:=by
 refine up_ext (p:=p) (q:=p) (merge_up' ha hb) (up_filter _ ha) fun n=>?_
 rw [less_mem ha hb];simp [pickL]
theorem pick_len(a b:List Int)(s:Bool):(pickL a b s).length<=a.length:=List.length_filter_le _ _
def findK(sets:List (List Lbl))(ms:List Mt)(k:Nat):List Int:=((List.range k).filter fun i=>mall ms (sets.getD i [])).map Int.ofNat
def findL(sets:List (List Lbl))(ms:List Mt):List Int:=findK sets ms sets.length
theorem findK_next(sets:List (List Lbl))(ms:List Mt)(k:Nat):findK sets ms (k+1)=findK sets ms k++(if mall ms (sets.getD k [])=true then [(k:Int)] else []):=by
 unfold findK;rw [List.range_succ,List.filter_append,List.map_append]
 congr 1
 rw [List.filter_cons,List.filter_nil]
 split<;>simp
theorem findK_mem(sets:List (List Lbl))(ms:List Mt)(k:Nat)(n:Int):n∈findK sets ms k↔∃i:Nat,i<k/\n=(i:Int)/\mall ms (sets.getD i [])=true:=by
 unfold findK;simp only [List.mem_map,List.mem_filter,List.mem_range];constructor
 ·rintro ⟨i,⟨h1,h2⟩,rfl⟩;exact ⟨i,h1,rfl,h2⟩
 ·rintro ⟨i,h1,rfl,h2⟩;exact ⟨i,⟨h1,h2⟩,rfl⟩
theorem findK_len(sets:List (List Lbl))(ms:List Mt)(k:Nat):(findK sets ms k).length<=k:=by
 unfold findK;rw [List.length_map];have:=List.length_filter_le (fun i=>mall ms (sets.getD i [])) (List.range k);rwa [List.length_range] at this
theorem up_snoc:∀{l:List Int} {p n:Int},Up p l->p<n->n<=1099511627776->(∀x∈l,x<n)->Up p (l++[n]):=by
 intro l
 induction l with
 | nil=>intro p n _ h1 h2 _;exact ⟨h1,h2,trivial⟩
 | cons x l ih =>
   intro p n h h1 h2 h3;exact ⟨h.1,h.2.1,ih h.2.2 (h3 x (by simp)) h2 fun y hy=>h3 y (List.mem_cons_of_mem _ hy)⟩
theorem findK_up(sets:List (List Lbl))(ms:List Mt):∀k:Nat,k<=1000->Up (-1) (findK sets ms k):=by
 intro k
 induction k with
 | zero=>intro _;exact trivial
 | succ k ih =>
   intro hk;rw [findK_next]
   split
   ·refine up_snoc (ih (by omega)) (by omega) (by omega) fun x hx=>?_
    obtain ⟨i,h1,rfl,_⟩:=(findK_mem _ _ _ _).1 hx;omega
   ·rw [List.append_nil];exact ih (by omega)
theorem find_right{sets:List (List Lbl)}(h:sets.length<=256)(ms:List Mt):pchk (findL sets ms)=0:=pchk_zero.2 ⟨Nat.le_trans (findK_len _ _ _) (by omega),findK_up sets ms _ (by omega)⟩
theorem mall_app(a b:List Mt)(l:List Lbl):mall (a++b) l=(mall a l&&mall b l):=by
 unfold mall;rw [List.all_append]
theorem find_both{sets:List (List Lbl)}(h:sets.length<=256)(a b:List Mt):findL sets (a++b)=pickL (findL sets a) (findL sets b) true:=by
 have u1:=findK_up sets (a++b) sets.length (by omega);have u2:=findK_up sets a sets.length (by omega);refine up_ext u1 (up_filter _ u2) fun n=>?_
 show n∈findK sets (a++b) sets.length↔n∈pickL (findK sets a sets.length) (findK sets b sets.length) true
 unfold pickL;rw [List.mem_filter,findK_mem,findK_mem];simp only [beq_true,decide_eq_true_eq,findK_mem,mall_app,Bool.and_eq_true];constructor
 ·rintro ⟨i,h1,rfl,h2,h3⟩;exact ⟨⟨i,h1,rfl,h2⟩,i,h1,rfl,h3⟩
 ·rintro ⟨⟨i,h1,rfl,h2⟩,j,_,e,h3⟩;have e:i=j:=by omega
  subst e;exact ⟨i,h1,rfl,h2,h3⟩
theorem chkall_zero{ms:List Mt}:mchkAll ms=0↔ms.length<=8/\merr ms=0/\mall ms []=false:=by
 unfold mchkAll
 by_cases h1:8<ms.length
 ·rw [if_pos h1];constructor
  ·intro h;cases h
  ·intro h;omega
 ·rw [if_neg h1]
  by_cases h2:merr ms=0
  ·rw [if_neg (by omega)]
   cases h3:mall ms []
   ·simp;omega
   ·simp
  ·rw [if_pos h2];constructor
   ·intro h;exact absurd h h2
   ·intro h;exact absurd h.2.1 h2
def gotOf(sets:List (List Lbl))(name:ByteArray):List ByteArray:=(sets.map fun l=>valOf l name).filter fun v=>decide (v.size≠0)
def ixValues(sets:List (List Lbl))(name:ByteArray):List ByteArray:=setF cmpB (gotOf sets name)
theorem values_mem(sets:List (List Lbl))(name v:ByteArray):v∈ixValues sets name↔v.size≠0/\∃l∈sets,valOf l name=v:=by
 unfold ixValues gotOf;rw [setF_mem cmpB_cmp,List.mem_filter,List.mem_map];simp only [decide_eq_true_eq];constructor
 ·rintro ⟨h1,h2⟩;exact ⟨h2,h1⟩
 ·rintro ⟨h1,h2⟩;exact ⟨h2,h1⟩
theorem valOf_in{l:List Lbl}{name:ByteArray}:(valOf l name).size≠0->(name,valOf l name)∈l:=by
 induction l with
 | nil=>intro h;exact absurd rfl h
 | cons x l ih =>
   intro h;unfold valOf at h ⊢
   by_cases e:x.1=name
   ·rw [if_pos e];subst e;exact List.mem_cons_self
   ·rw [if_neg e] at h ⊢;exact List.mem_cons_of_mem _ (ih h)
theorem values_len(ss:List (List Lbl))(name:ByteArray):(ixValues ss name).length<=ss.length:=by
 unfold ixValues gotOf;refine Nat.le_trans (setF_len cmpB_cmp _) (Nat.le_trans (List.length_filter_le _ _) ?_);rw [List.length_map];exact Nat.le_refl _
instance memDec (p:Lbl) (l:List Lbl):Decidable (p∈l):=decidable_of_iff (l.any (fun x=>decide (x=p))=true) (by simp)
abbrev Ev:=Lbl × Nat
def evsAt(ss:List (List Lbl))(i k:Nat):List Ev:=((List.range i).flatMap fun j=>(ss.getD j []).map fun x=>(x,j))++((ss.getD i []).take k).map fun x=>(x,i)
def idsE(evs:List Ev)(p:Lbl):List Int:=(evs.filter fun e=>decide (e.1=p)).map fun e=>(e.2:Int)
theorem evs_step(ss:List (List Lbl))(i:Nat){k:Nat}(hk:k<(ss.getD i []).length):evsAt ss i (k+1)=evsAt ss i k++[((ss.getD i []).getD k lbl0,i)]:=by
 unfold evsAt;have e:(ss.getD i [])[k]=(ss.getD i []).getD k lbl0:=by rw [List.getD_eq_getElem?_getD (l:=ss.getD i []),List.getElem?_eq_getElem hk];rfl
 rw [List.take_succ_eq_append_getElem hk,List.map_append,<-List.append_assoc,e];rfl
theorem evs_row(ss:List (List Lbl))(i:Nat):evsAt ss i (ss.getD i []).length=evsAt ss (i+1) 0:=by
 unfold evsAt;rw [List.take_length,List.take_zero,List.map_nil,List.append_nil,List.range_succ,List.flatMap_append];simp
theorem idsE_app(a b:List Ev)(p:Lbl):idsE (a++b) p=idsE a p++idsE b p:=by
 unfold idsE;rw [List.filter_append,List.map_append]
theorem idsE_snoc(a:List Ev)(x:Lbl)(i:Nat)(p:Lbl):idsE (a++[(x,i)]) p=idsE a p++(if x=p then [(i:Int)] else []):=by
 rw [idsE_app]
 congr 1
 unfold idsE;rw [List.filter_cons,List.filter_nil]
 by_cases h:x=p<;>simp [h]
theorem idsE_pos(evs:List Ev)(p:Lbl):idsE evs p≠[]↔p∈evs.map (·.1):=by
 unfold idsE;rw [ne_eq,List.map_eq_nil_iff,List.filter_eq_nil_iff,List.mem_map];constructor
 ·intro h;refine Classical.byContradiction fun h2=>h fun e he h3=>h2 ⟨e,he,of_decide_eq_true h3⟩
 ·rintro ⟨e,he,rfl⟩ h;exact h e he (by simp)
theorem idsE_len(evs:List Ev)(p:Lbl):(idsE evs p).length<=evs.length:=by
 unfold idsE;rw [List.length_map];exact List.length_filter_le _ _
theorem evs_mem(ss:List (List Lbl))(p:Lbl):p∈(evsAt ss ss.length 0).map (·.1)↔∃l∈ss,p∈l:=by
 unfold evsAt;rw [List.take_zero,List.map_nil,List.append_nil,List.mem_map];simp only [List.mem_flatMap,List.mem_range,List.mem_map];constructor
 ·rintro ⟨e,⟨j,hj,x,hx,rfl⟩,rfl⟩;refine ⟨ss.getD j [],?_,hx⟩;rw [List.getD_eq_getElem?_getD,List.getElem?_eq_getElem hj];exact List.getElem_mem hj
 ·rintro ⟨l,hl,hp⟩;obtain ⟨j,hj,e⟩:=List.getElem_of_mem hl;refine ⟨(p,j),⟨j,hj,p,?_,rfl⟩,rfl⟩;rw [List.getD_eq_getElem?_getD,List.getElem?_eq_getElem hj,e];exact hp
theorem names_up{l:List Lbl}(h:lbChk l=0):∀i j,i<j->j<l.length->cmpB (nmOf l i) (nmOf l j)<0:=by
 have h0:=(lbChk_ok.1 h).2;have step:∀i,i+1<l.length->cmpB (nmOf l i) (nmOf l (i+1))<0:=by
  intro i hi;have h1:=(lbErrAt_zero.1 (h0 (i+1) hi)).2.2.2 (by omega);rw [Nat.add_sub_cancel,le_cmp] at h1;simp only [decide_eq_false_iff_not] at h1;have h2:=cmpB_cmp.swap (nmOf l (i+1)) (nmOf l i);omega
 intro i j hij
 induction j with
 | zero=>omega
 | succ j ih =>
   intro hj;rcases Nat.lt_or_ge i j with h1|h1
   ·have h2:=ih h1 (by omega);have h3:=step j hj;exact cmpB_cmp.strict h2 (by omega)
   ·rw [show i=j from by omega];exact step j hj
theorem names_apart{l:List Lbl}(h:lbChk l=0):l.Pairwise fun x y=>x.1≠y.1:=by
 rw [List.pairwise_iff_getElem];intro i j hi hj hij e;have h1:=names_up h i j hij hj;unfold nmOf at h1;rw [List.getD_eq_getElem?_getD,List.getElem?_eq_getElem hi,List.getD_eq_getElem?_getD,List.getElem?_eq_getElem hj] at h1;simp only [Option.getD_some] at h1;rw [e,cmp_self cmpB_cmp] at h1;omega
theorem one_of{l:List Lbl}(h:l.Pairwise fun x y=>x.1≠y.1)(p:Lbl)(i:Nat):idsE (l.map fun x=>(x,i)) p=if p∈l then [(i:Int)] else []:=by
 induction l with
 | nil=>simp [idsE]
 | cons x l ih =>
   obtain ⟨h1,h2⟩:=List.pairwise_cons.1 h;rw [List.map_cons,show ((x,i)::l.map fun x=>(x,i))=[(x,i)]++l.map fun x=>(x,i) from rfl,idsE_app,ih h2]
   by_cases e:x=p
   ·subst e;have hn:x∉l:=fun hm=>h1 x hm rfl
    simp [idsE,hn]
   ·have e2:¬p=x:=fun h=>e h.symm
    simp [idsE,e,e2]
def idsK(ss:List (List Lbl))(n:Nat)(p:Lbl):List Int:=((List.range n).filter fun i=>decide (p∈ss.getD i [])).map Int.ofNat
theorem ids_all{ss:List (List Lbl)}(h:∀l∈ss,lbChk l=0)(p:Lbl):∀n,n<=ss.length->idsE (evsAt ss n 0) p=idsK ss n p:=by
 intro n
 induction n with
 | zero=>intro _;rfl
 | succ n ih =>
   intro hn;have e:evsAt ss (n+1) 0=evsAt ss n 0++(ss.getD n []).map fun x=>(x,n):=by
    rw [<-evs_row];unfold evsAt;rw [List.take_length,List.take_zero,List.map_nil,List.append_nil]
   have hm:ss.getD n []∈ss:=by
    rw [List.getD_eq_getElem?_getD,List.getElem?_eq_getElem (by omega)];exact List.getElem_mem _
   rw [e,idsE_app,ih (by omega),one_of (names_apart (h _ hm))];unfold idsK;rw [List.range_succ,List.filter_append,List.map_append]
   congr 1
   rw [List.filter_cons,List.filter_nil]
   by_cases hp:p∈ss.getD n []<;>simp only [hp,decide_true,decide_false,if_true,Bool.false_eq_true,if_false]<;>rfl
theorem idsK_mem(ss:List (List Lbl))(n:Nat)(p:Lbl)(z:Int):z∈idsK ss n p↔∃i:Nat,i<n/\z=(i:Int)/\p∈ss.getD i []:=by
 unfold idsK;simp only [List.mem_map,List.mem_filter,List.mem_range,decide_eq_true_eq];constructor
 ·rintro ⟨i,⟨h1,h2⟩,rfl⟩;exact ⟨i,h1,rfl,h2⟩
 ·rintro ⟨i,h1,rfl,h2⟩;exact ⟨i,⟨h1,h2⟩,rfl⟩
theorem idsK_len(ss:List (List Lbl))(n:Nat)(p:Lbl):(idsK ss n p).length<=n:=by
 unfold idsK;rw [List.length_map];have:=List.length_filter_le (fun i=>decide (p∈ss.getD i [])) (List.range n);rwa [List.length_range] at this
theorem range_lt(f:Nat->Bool)(n:Nat):(((List.range n).filter f).map Int.ofNat).Pairwise (·<·):=by
 rw [List.pairwise_map];refine (List.Pairwise.filter _ List.pairwise_lt_range).imp fun h=>?_
 simp only [Int.ofNat_eq_natCast];omega
theorem lt_ext:∀{a b:List Int},a.Pairwise (·<·)->b.Pairwise (·<·)->(∀x,x∈a↔x∈b)->a=b:=by
 intro a
 induction a with
 | nil =>
   intro b _ _ h
   cases b with
   | nil=>rfl
   | cons y s=>exact absurd ((h y).2 (by simp)) (by simp)
 | cons x r ih =>
   intro b ha hb h
   cases b with
   | nil=>exact absurd ((h x).1 (by simp)) (by simp)
   | cons y s =>
     obtain ⟨a1,a2⟩:=List.pairwise_cons.1 ha;obtain ⟨b1,b2⟩:=List.pairwise_cons.1 hb;have hxy:x=y:=by
      rcases List.mem_cons.1 ((h x).1 (by simp)) with e|hx
      ·exact e
      ·rcases List.mem_cons.1 ((h y).2 (by simp)) with e|hy
       ·exact e.symm
       ·have:=a1 y hy;have:=b1 x hx;omega
     subst hxy
     congr 1
     refine ih a2 b2 fun z=>⟨fun hz=>?_,fun hz=>?_⟩
     ·rcases List.mem_cons.1 ((h z).1 (by simp [hz])) with rfl|h3
      ·exact absurd (a1 z hz) (by omega)
      ·exact h3
     ·rcases List.mem_cons.1 ((h z).2 (by simp [hz])) with rfl|h3
      ·exact absurd (b1 z hz) (by omega)
      ·exact h3
theorem valOf_mem:∀{l:List Lbl},(l.Pairwise fun x y=>x.1≠y.1)->∀{p:Lbl},p∈l->valOf l p.1=p.2:=by
 intro l
 induction l with
 | nil=>intro _ p hp;cases hp
 | cons x l ih =>
   intro h p hp;obtain ⟨h1,h2⟩:=List.pairwise_cons.1 h;rw [valOf];rcases List.mem_cons.1 hp with rfl|hp
   ·rw [if_pos rfl]
   ·rw [if_neg (h1 p hp)];exact ih h2 hp
theorem valOf_is{l:List Lbl}(h:lbChk l=0)(n v:ByteArray):(n,v)∈l↔valOf l n=v/\v.size≠0:=by
 constructor
 ·intro hp;have h1:=valOf_mem (names_apart h) hp;have h2:=label_sizes h hp;exact ⟨h1,by have:=h2.2.2;simp only at this;omega⟩
 ·rintro ⟨rfl,hv⟩;exact valOf_in hv
theorem fits_val(m:Mt){l l':List Lbl}(h:valOf l m.2.1=valOf l' m.2.1):mfits m l=mfits m l':=by
 unfold mfits;rw [h]
theorem valOf_one(n v:ByteArray):valOf [(n,v)] n=v:=by
 rw [valOf,if_pos rfl]
def oddV(m:Mt)(v:ByteArray):Bool:=mfits m [(m.2.1,v)] !=mfits m []
def oddS(m:Mt)(l:List Lbl):Bool:=mfits m l !=mfits m []
def oddL(ss:List (List Lbl))(m:Mt):List Int:=((List.range ss.length).filter fun i=>oddS m (ss.getD i [])).map Int.ofNat
def askedL(ss:List (List Lbl))(m:Mt):List ByteArray:=if m.2.2.size≠0/\(m.1=1\/m.1=2) then [m.2.2] else ixValues ss m.2.1
def otherL(ss:List (List Lbl))(m:Mt)(vs:List ByteArray):List Int:=vs.flatMap fun v=>if oddV m v=true then idsK ss ss.length (m.2.1,v) else []
theorem odd_val(m:Mt)(l:List Lbl):oddS m l=oddV m (valOf l m.2.1):=by
 unfold oddS oddV;rw [fits_val m (l:=l) (l':=[(m.2.1,valOf l m.2.1)]) (by rw [valOf_one])]
theorem odd_empty(m:Mt){l:List Lbl}(h:(valOf l m.2.1).size=0):oddS m l=false:=by
 unfold oddS;have e:valOf l m.2.1=⟨#[]⟩:=by
  apply ByteArray.ext
  apply Array.ext
  ·exact h
  ·intro i h1 h2;simp at h2
 rw [fits_val m (l':=[]) (by rw [e];rfl)];simp
theorem odd_asked{ss:List (List Lbl)}(m:Mt){l:List Lbl}(hl:l∈ss)(h:oddS m l=true):valOf l m.2.1∈askedL ss m:=by
 have hv:(valOf l m.2.1).size≠0:=fun e=>by rw [odd_empty m e] at h;cases h
 unfold askedL
 by_cases hq:m.2.2.size≠0/\(m.1=1\/m.1=2)
 ·rw [if_pos hq,List.mem_singleton];refine Classical.byContradiction fun hne=>?_
  have hne2:¬(⟨#[]⟩:ByteArray)=m.2.2:=fun e=>hq.1 (by rw [<-e];rfl)
  have e:mfits m l=mfits m []:=by
   unfold mfits
   congr 1
   show mtake m (valOf l m.2.1)=mtake m ⟨#[]⟩
   unfold mtake;rcases hq.2 with h1|h1
   ·rw [if_pos h1,if_pos h1,decide_eq_false hne,decide_eq_false hne2]
   ·have h3:¬m.1=1:=by omega
    rw [if_neg h3,if_neg h3,if_pos h1,if_pos h1,decide_eq_false hne,decide_eq_false hne2]
  unfold oddS at h;rw [e] at h;simp at h
 ·rw [if_neg hq];exact (values_mem _ _ _).2 ⟨hv,l,hl,rfl⟩
theorem ss_at{ss:List (List Lbl)}{i:Nat}(h:i<ss.length):ss.getD i []∈ss:=by
 rw [List.getD_eq_getElem?_getD,List.getElem?_eq_getElem h];exact List.getElem_mem h
theorem other_mem{ss:List (List Lbl)}(hr:∀l∈ss,lbChk l=0)(m:Mt)(z:Int):z∈otherL ss m (askedL ss m)↔z∈oddL ss m:=by
 unfold otherL oddL;simp only [List.mem_flatMap,List.mem_map,List.mem_filter,List.mem_range];constructor
 ·rintro ⟨v,hv,hz⟩
  by_cases ho:oddV m v=true
  ·rw [if_pos ho] at hz;obtain ⟨i,hi,rfl,hp⟩:=(idsK_mem _ _ _ _).1 hz;have h1:=(valOf_is (hr _ (ss_at hi)) _ _).1 hp;exact ⟨i,⟨hi,by rw [odd_val,h1.1];exact ho⟩,rfl⟩
  ·rw [if_neg ho] at hz
   cases hz
 ·rintro ⟨i,⟨hi,ho⟩,rfl⟩;refine ⟨valOf (ss.getD i []) m.2.1,odd_asked m (ss_at hi) ho,?_⟩;have hv:(valOf (ss.getD i []) m.2.1).size≠0:=fun e=>by rw [odd_empty m e] at ho;cases ho
  rw [if_pos (by rw [<-odd_val];exact ho)];exact (idsK_mem _ _ _ _).2 ⟨i,hi,rfl,(valOf_is (hr _ (ss_at hi)) _ _).2 ⟨rfl,hv⟩⟩
theorem asked_nodup(ss:List (List Lbl))(m:Mt):(askedL ss m).Nodup:=by
 unfold askedL
 split
 ·simp
 ·have:=setF_up cmpB_cmp (gotOf ss m.2.1);refine this.imp fun {a b} h e=>?_
  rw [e,cmp_self cmpB_cmp] at h;omega
theorem other_nodup{ss:List (List Lbl)}(hr:∀l∈ss,lbChk l=0)(m:Mt):∀{vs:List ByteArray},vs.Nodup->(otherL ss m vs).Nodup:=by
 intro vs
 induction vs with
 | nil=>intro _;exact List.nodup_nil
 | cons v vs ih =>
   intro h;obtain ⟨h1,h2⟩:=List.nodup_cons.1 h;unfold otherL;rw [List.flatMap_cons];refine List.nodup_append.2 ⟨?_,ih h2,?_⟩
   ·split
    ·exact (range_lt _ _).imp fun h e=>by omega
    ·exact List.nodup_nil
   ·intro a ha b hb e;subst e
    by_cases ho:oddV m v=true
    ·rw [if_pos ho] at ha;obtain ⟨i,hi,rfl,hp⟩:=(idsK_mem _ _ _ _).1 ha;obtain ⟨v2,hv2,hb⟩:=List.mem_flatMap.1 hb
     by_cases ho2:oddV m v2=true
     ·rw [if_pos ho2] at hb;obtain ⟨i2,hi2,e2,hp2⟩:=(idsK_mem _ _ _ _).1 hb;obtain rfl:i=i2:=by omega
      have q1:=((valOf_is (hr _ (ss_at hi)) _ _).1 hp).1;have q2:=((valOf_is (hr _ (ss_at hi)) _ _).1 hp2).1;rw [q1] at q2;exact h1 (by rw [q2];exact hv2)
     ·rw [if_neg ho2] at hb
      cases hb
    ·rw [if_neg ho] at ha
     cases ha
theorem other_sorted{ss:List (List Lbl)}(hr:∀l∈ss,lbChk l=0)(m:Mt){zs:List Int}(hp:zs.Perm (otherL ss m (askedL ss m)))(hs:zs.Pairwise (·<=·)):zs=oddL ss m:=by
 have hn:zs.Nodup:=hp.nodup_iff.2 (other_nodup hr m (asked_nodup ss m));refine lt_ext ?_ (range_lt _ _) fun z=>by rw [hp.mem_iff,other_mem hr]
 exact hs.imp₂ (fun a b h1 h2=>by omega) hn
theorem findL_one(ss:List (List Lbl))(m:Mt):findL ss [m]=((List.range ss.length).filter fun i=>mfits m (ss.getD i [])).map Int.ofNat:=by
 unfold findL findK mall;simp
theorem odd_find{ss:List (List Lbl)}(m:Mt)(h:mfits m []=false):oddL ss m=findL ss [m]:=by
 rw [findL_one];unfold oddL oddS;rw [h];simp
def allIds(n:Nat):List Int:=(List.range n).map Int.ofNat
theorem all_up:∀n:Nat,n<=1000->Up (-1) (allIds n):=by
 intro n
 induction n with
 | zero=>intro _;exact trivial
 | succ n ih =>
   intro hn;unfold allIds;rw [List.range_succ,List.map_append];refine up_snoc (ih (by omega)) (by simp only [Int.ofNat_eq_natCast];omega) (by simp only [Int.ofNat_eq_natCast];omega) fun x hx=>?_
   obtain ⟨i,hi,rfl⟩:=List.mem_map.1 hx;rw [List.mem_range] at hi;simp only [Int.ofNat_eq_natCast];omega
theorem odd_up(ss:List (List Lbl))(m:Mt)(h:ss.length<=256):Up (-1) (oddL ss m):=by
 have key:∀n:Nat,n<=1000->Up (-1) (((List.range n).filter fun i=>oddS m (ss.getD i [])).map Int.ofNat):=by
  intro n
  induction n with
  | zero=>intro _;exact trivial
  | succ n ih =>
    intro hn;rw [List.range_succ,List.filter_append,List.map_append,List.filter_cons,List.filter_nil]
    split
    ·refine up_snoc (ih (by omega)) (by simp only [Int.ofNat_eq_natCast];omega) (by simp only [Int.ofNat_eq_natCast];omega) fun x hx=>?_
     obtain ⟨i,hi,rfl⟩:=List.mem_map.1 hx;have:=List.mem_range.1 (List.mem_filter.1 hi).1;simp only [Int.ofNat_eq_natCast];omega
    ·rw [List.map_nil,List.append_nil];exact ih (by omega)
 exact key _ (by omega)
theorem odd_len(ss:List (List Lbl))(m:Mt):(oddL ss m).length<=ss.length:=by
 unfold oddL;rw [List.length_map];have:=List.length_filter_le (fun i=>oddS m (ss.getD i [])) (List.range ss.length);rwa [List.length_range] at this
theorem odd_right{ss:List (List Lbl)}(h:ss.length<=256)(m:Mt):pchk (oddL ss m)=0:=pchk_zero.2 ⟨Nat.le_trans (odd_len _ _) (by omega),odd_up ss m h⟩
theorem all_right{n:Nat}(h:n<=256):pchk (allIds n)=0:=pchk_zero.2 ⟨by unfold allIds;rw [List.length_map,List.length_range];omega,all_up n (by omega)⟩
theorem less_find{ss:List (List Lbl)}(hl:ss.length<=256)(m:Mt)(h:mfits m []=true):lessL (allIds ss.length) (oddL ss m)=findL ss [m]:=by
 refine up_ext (merge_up' (all_up _ (by omega)) (odd_up ss m hl)) (findK_up ss [m] ss.length (by omega)) fun z=>?_
 show z∈lessL (allIds ss.length) (oddL ss m)↔z∈findL ss [m]
 rw [less_mem (all_up _ (by omega)) (odd_up ss m hl),findL_one];unfold allIds oddL oddS;rw [h];simp only [List.mem_map,List.mem_filter,List.mem_range];constructor
 ·rintro ⟨⟨i,hi,rfl⟩,h2⟩;refine ⟨i,⟨hi,?_⟩,rfl⟩
  cases hf:mfits m (ss.getD i [])
  ·exact absurd ⟨i,⟨hi,by rw [hf];rfl⟩,rfl⟩ h2
  ·rfl
 ·rintro ⟨i,⟨hi,hf⟩,rfl⟩;refine ⟨⟨i,hi,rfl⟩,?_⟩;rintro ⟨j,⟨_,hj2⟩,e⟩;simp only [Int.ofNat_eq_natCast] at e;obtain rfl:j=i:=by omega
  rw [hf] at hj2;simp at hj2
theorem both_find{ss:List (List Lbl)}(h:ss.length<=256)(a:List Mt)(m:Mt):bothL (findL ss a) (findL ss [m])=findL ss (a++[m]):=by
 rw [find_both h];exact both_pick (findK_up ss a ss.length (by omega)) (findK_up ss [m] ss.length (by omega))
def pickV(name:ByteArray)(x:Lbl):List ByteArray:=if x.1=name then [x.2] else []
def pickT(x:Lbl):List ByteArray:=[x.1,x.2]
theorem pick_texts(ss:List (List Lbl))(s:ByteArray):(∃p,(∃l∈ss,p∈l)/\s∈pickT p)↔s∈textsOf ss:=by
 unfold textsOf namesOf pickT;simp only [List.mem_append,List.mem_flatMap,List.mem_map,List.mem_cons,List.not_mem_nil,or_false];constructor
 ·rintro ⟨p,⟨l,hl,hp⟩,rfl|rfl⟩
  ·exact .inl ⟨l,hl,p,hp,rfl⟩
  ·exact .inr ⟨l,hl,p,hp,rfl⟩
 ·rintro (⟨l,hl,p,hp,rfl⟩|⟨l,hl,p,hp,rfl⟩)
  ·exact ⟨p,⟨l,hl,hp⟩,.inl rfl⟩
  ·exact ⟨p,⟨l,hl,hp⟩,.inr rfl⟩
theorem pick_values{ss:List (List Lbl)}(hr:∀l∈ss,lbChk l=0)(name s:ByteArray):(∃p,(∃l∈ss,p∈l)/\s∈pickV name p)↔s∈gotOf ss name:=by
 unfold gotOf pickV;simp only [List.mem_filter,List.mem_map,decide_eq_true_eq];constructor
 ·rintro ⟨p,⟨l,hl,hp⟩,hs⟩
  by_cases e:p.1=name
  ·rw [if_pos e,List.mem_singleton] at hs;subst hs;subst e;have:=(valOf_is (hr l hl) p.1 p.2).1 hp;exact ⟨⟨l,hl,this.1⟩,this.2⟩
  ·rw [if_neg e] at hs
   cases hs
 ·rintro ⟨⟨l,hl,rfl⟩,hs⟩;exact ⟨(name,valOf l name),⟨l,hl,valOf_in hs⟩,by rw [if_pos rfl];simp⟩
end Go.Proofs.YtgdmcnoogacdaaaGreatDoor
