/- In one text, written by lotify.py: ChCut2, ChCut3. -/
import Derived.Test.YtgdmcnoogacdaaaGreatDoorBlLotF
namespace Go.Proofs.YtgdmcnoogacdaaaGreatDoor.Ch
open Go.RowKit Go.Shelf
set_option linter.unusedVariables false
attribute [local go_sem] Oper.semAt_some
theorem rows_in{w w':World}{base e k n:Nat}{v:Value}{xs:List Value}(h:w.ownsRow base e k v n xs)(hb:∀g cs,base<=g->Row w g e cs->w'.heap[g]?=w.heap[g]?):w'.ownsRow base e k v n xs:=by
 refine ⟨h.1,?_⟩;rcases h.2 with h2|⟨g,cap,cur,hv,hg,hh,r⟩
 ·exact .inl h2
 ·exact .inr ⟨g,cap,cur,hv,hg,(hb g cur hg hh).trans hh,r⟩
theorem rows_at_block{w:World}{base e k n g:Nat}{v:Value}{xs:List Value}(h:w.ownsRow base e k v n xs)(hv:v.ownBlock=some g):base<=g/\∃cs,Row w g e cs:=by
 rcases h.2 with ⟨rfl,_⟩|⟨g',cap,cur,rfl,hg,hh,_⟩
 ·cases hv
 ·simp only [Value.ownBlock,Option.some.injEq] at hv;subst hv;exact ⟨hg,cur,hh⟩
def PcsAt(W:World)(n₀:Nat)(l:List Smp)(v:Value)(vs:List Value)(pre:List Nat):Prop :=
 W.ownsRow n₀ 49 1 v pre.length vs/\∀i,i<pre.length->OwnS W n₀ (vs.getD i undef) (pieceL l (pre.getD i 0))
theorem PcsAt.move{W W':World}{n₀:Nat}{l:List Smp}{v:Value}{vs:List Value}{pre:List Nat}(h:PcsAt W n₀ l v vs pre)(hb:∀g t cs,n₀<=g->Row W g t cs->(t=49\/t=83)->W'.heap[g]?=W.heap[g]?):PcsAt W' n₀ l v vs pre :=
 ⟨rows_in h.1 fun g cs hg hr=>hb g _ cs hg hr (.inl rfl),fun i hi=>rows_in (h.2 i hi) fun g cs hg hr=>hb g _ cs hg hr (.inr rfl)⟩
theorem PcsAt.below{W W':World}{n₀:Nat}{l:List Smp}{v:Value}{vs:List Value}{pre:List Nat}(h:PcsAt W n₀ l v vs pre)(hb:Below W.heap.size W W'):PcsAt W' n₀ l v vs pre:=h.move fun g t cs _ hr _=>hb.block g hr.lt
theorem PcsAt.none_(W:World)(n₀:Nat)(l:List Smp):PcsAt W n₀ l (.slice none 0 0) [] []:=⟨⟨rfl,.inl ⟨rfl,rfl⟩⟩,fun i hi=>by simp at hi⟩
theorem PcsAt.lower{W:World}{n₀ n₁:Nat}{l:List Smp}{v:Value}{vs:List Value}{pre:List Nat}(h:PcsAt W n₀ l v vs pre)(hn:n₁<=n₀):PcsAt W n₁ l v vs pre:=⟨rows_lower h.1 hn,fun i hi=>rows_lower (h.2 i hi) hn⟩
def Held(B n₀:Nat)(l:List Smp)(pre:List Nat)(W:World):Prop:=∃v vs,Boxed W B 71 v/\PcsAt W n₀ l v vs pre
theorem held_own(B n₀:Nat)(l:List Smp):Go.Own (Held B n₀ l):=by
 rintro pre X Y row ⟨v,vs,hv,hp⟩ hg hrow;refine ⟨v,vs,hv.kept hg (fun e=>?_),hp.move fun g t cs _ hr _=>hg.block g hr.lt (fun e=>?_)⟩
 ·obtain ⟨o,ho,hc⟩:=hrow B e.symm;rw [show X.heap[B]?=_ from hv] at ho;cases ho;cases hc
 ·obtain ⟨o,ho,hc⟩:=hrow g e.symm;rw [show X.heap[g]?=_ from hr] at ho;cases ho;cases hc
theorem held_step{W w1 w2:World}{B n₀ x:Nat}{l:List Smp}{pre:List Nat}{v v' cv:Value}{vs:List Value}{o:Obj}(hv:Boxed W B 71 v)(hp:PcsAt W n₀ l v vs pre)(hB:B<n₀)(hn:n₀<=W.heap.size)
 (hcb:Below W.heap.size W w1)(hcv:OwnS w1 W.heap.size cv (pieceL l x))(hg:(w1.alloc o).grownBy w2 v.ownBlock)(hr:w2.ownsRow n₀ 49 1 v' (pre.length+1) (vs++[cv])):
 Boxed w2 B 71 v/\Held B n₀ l (pre++[x]) (w2.setCell ⟨B,0,none⟩ v')/\KeepsOthers W (w2.setCell ⟨B,0,none⟩ v')/\∀m,m<=B->Below m W (w2.setCell ⟨B,0,none⟩ v')/\∀k,k<n₀->k≠B->(w2.setCell ⟨B,0,none⟩ v').heap[k]?=W.heap[k]?:=by
 have hlen:vs.length=pre.length:=by have:=hp.1.1;omega
 have hA:=below_one w1 o;have hb1:∀k,k<W.heap.size->(w1.alloc o).heap[k]?=W.heap[k]?:=fun k hk=>(hA.block k (Nat.lt_of_lt_of_le hk hcb.size)).trans (hcb.block k hk)
 have hs1:W.heap.size<=(w1.alloc o).heap.size:=Nat.le_trans hcb.size hA.size;have hset:∀k,k≠B->(w2.setCell ⟨B,0,none⟩ v').heap[k]?=w2.heap[k]?:=fun k hk=>Below.heap_setCell w2 ⟨B,0,none⟩ v' k hk
 have hfar:∀k,v.ownBlock≠some k->k<(w1.alloc o).heap.size->w2.heap[k]?=(w1.alloc o).heap[k]?:=fun k hk hlt=>hg.block k hlt (fun e=>hk e.symm)
 have hvb:∀g,v.ownBlock=some g->n₀<=g/\∃cs,Row W g 49 cs:=fun g e=>rows_at_block hp.1 e
 have hvB:v.ownBlock≠some B:=fun e=>by have:=(hvb B e).1;omega
 have hv2:Boxed w2 B 71 v:=(hfar B hvB (Nat.lt_of_lt_of_le hv.lt hs1)).trans ((hb1 B hv.lt).trans hv);have hsm:∀g t cs,Row W g t cs->t=83->(w2.setCell ⟨B,0,none⟩ v').heap[g]?=W.heap[g]?:=by
  intro g t cs hr ht;have h1:v.ownBlock≠some g:=fun e=>by
   obtain ⟨_,cs',h2⟩:=hvb g e;unfold Row at hr h2;rw [hr] at h2;injection h2 with h2;injection h2 with _ h2 _;rw [ht] at h2;exact absurd h2 (by decide)
  have h2:g≠B:=fun e=>by
   subst e;have h3:=(show W.heap[g]?=_ from hv);unfold Row at hr;rw [hr] at h3;injection h3 with h3;injection h3 with _ h3 _;rw [ht] at h3;exact absurd h3 (by decide)
  exact (hset g h2).trans ((hfar g h1 (Nat.lt_of_lt_of_le hr.lt hs1)).trans (hb1 g hr.lt))
 have hrow':(w2.setCell ⟨B,0,none⟩ v').ownsRow n₀ 49 1 v' (pre++[x]).length (vs++[cv]):=by
  rw [List.length_append,List.length_singleton];exact rows_in hr fun g cs hg' _=>hset g (by omega)
 refine ⟨hv2,⟨v',vs++[cv],hv2.set v',hrow',fun i hi=>?_⟩,⟨?_,fun k ob hk ho=>?_⟩,fun m hm=>⟨?_,fun k hk hkB=>?_⟩⟩
 ·rw [List.length_append,List.length_singleton] at hi
  by_cases he:i<pre.length
  ·have e1:(vs++[cv]).getD i undef=vs.getD i undef:=by simp [List.getD_eq_getElem?_getD,List.getElem?_append_left (show i<vs.length by omega)]
   have e2:(pre++[x]).getD i 0=pre.getD i 0:=by simp [List.getD_eq_getElem?_getD,List.getElem?_append_left he]
   rw [e1,e2];exact rows_in (hp.2 i he) fun g cs _ hr=>hsm g _ cs hr rfl
  ·obtain rfl:i=pre.length:=by omega
   have e1:(vs++[cv]).getD pre.length undef=cv:=by rw [<-hlen];simp [List.getD_eq_getElem?_getD]
   have e2:(pre++[x]).getD pre.length 0=x:=by simp [List.getD_eq_getElem?_getD]
   rw [e1,e2];refine rows_lower (rows_in hcv fun g cs hgW hr=>?_) hn;have h1:v.ownBlock≠some g:=fun e=>by
    obtain ⟨_,cs',h2⟩:=hvb g e;have:=h2.lt;omega
   exact (hset g (by have:=hv.lt;omega)).trans ((hfar g h1 (Nat.lt_of_lt_of_le hr.lt hA.size)).trans (hA.block g hr.lt))
 ·exact Nat.le_trans hs1 (Nat.le_trans hg.size (by simp [World.setCell]))
 ·have hkB:k≠B:=fun e=>by
   subst e;rw [show W.heap[k]?=_ from hv] at hk;cases hk;cases ho
  have hkv:v.ownBlock≠some k:=fun e=>by
   obtain ⟨_,cs',h2⟩:=hvb k e;rw [show W.heap[k]?=_ from h2] at hk;cases hk;cases ho
  have hlt:=(Array.getElem?_eq_some_iff.1 hk).1;exact (hset k hkB).trans ((hfar k hkv (Nat.lt_of_lt_of_le hlt hs1)).trans ((hb1 k hlt).trans hk))
 ·have h1:Below m W (w1.alloc o):=(hcb.mono (by omega)).trans (hA.mono (Nat.le_trans (by omega) hcb.size));exact (h1.grown hg (Nat.le_trans (by omega) hs1) (fun k e=>by have:=(hvb k e).1;omega)).setCell (p:=⟨B,0,none⟩) hm v'
 ·have hkv:v.ownBlock≠some k:=fun e=>by have:=(hvb k e).1;omega
  exact (hset k hkB).trans ((hfar k hkv (by omega)).trans (hb1 k (by omega)))
attribute [local go_sem] Oper.semAt_some
theorem row_info:(Tryz.prog.info? 49).map (fun i=>(i.zero,i.size,i.bytes))=some (some (.slice none 0 0),1,24):=by kernel_rfl
theorem app_pcs{w1:World}{n₀ k:Nat}{v cv:Value}{vs:List Value}(h:w1.ownsRow n₀ 49 1 v k vs)(hc:cv.oneCell'=true)(hk:k<=1000000000000)(hn:n₀<=w1.heap.size):
 ∃v' w2,(Builtin.append_ #[71,71] 71 #[v,.slice (some ⟨w1.heap.size,0,none⟩) 1 1]).run Tryz.prog (w1.alloc (.cells #[cv] 49))=.ok v' w2 /\
  w2.ownsRow n₀ 49 1 v' (k+1) (vs++[cv])/\(w1.alloc (.cells #[cv] 49)).grownBy w2 v.ownBlock:=by
 obtain ⟨i0,hi,hz0,hz1,hz2⟩:=info_parts row_info;have hA:=below_one w1 (.cells #[cv] 49);obtain ⟨v',w2,a1,a2,_,a4⟩:=run_app_at (P:=Tryz.prog) (w:=w1.alloc (.cells #[cv] 49)) 71 71 n₀ 49 i0 _ 1 24 Tryz.underlying71 hi hz0 hz1 hz2 rfl (by omega) v k vs (rows_below h hA)
  (some ⟨w1.heap.size,0,none⟩) 1 1 [cv] rfl (At.row (Row.new w1 _ _)) (by intro u hu;simp at hu;subst hu;exact hc) (by simp only [maxLen];omega) (by omega) (Nat.le_trans hn hA.size)
 exact ⟨v',w2,a1,a2,a4⟩
attribute [-go_sem] Builtin.append_
set_option maxRecDepth 100000 in
set_option maxHeartbeats 4000000 in
theorem cut_prog(A:Option Addr)(l:List Smp)(c:Nat)(w:World)(hA:Smps w A l)(hl:l.length*16<=140737488351232)(hlc:l.length<=c):
 Calls Tryz.prog 31 #[.slice A l.length c] w fun e w'=>∃v vs,e=.returned v/\PcsAt w' w.heap.size l v vs (List.range ((l.length+119)/120))/\Below w.heap.size w w':=by
 obtain ⟨b,o,hAo⟩:∃b o,l.length=0\/(A=some ⟨b,o,none⟩/\b<w.heap.size):=by
  by_cases h:l.length=0
  ·exact ⟨0,0,.inl h⟩
  ·obtain ⟨b,o,h1,h2,_⟩:=hA.at_ (i:=0) (by omega);exact ⟨b,o,.inr ⟨h1,h2⟩⟩
 refine (callsIn_wide (n:=3)).1 ?_;refine callsIn_of_wp_marks Tryz.func31 rfl trivial ?_ rfl;simp only [Tryz.ntmps31,List.size_toArray,List.length_cons,List.length_nil,Nat.reduceAdd,Nat.reduceSub,Array.replicate_succ,Array.replicate_zero,List.push_toArray,List.append_toArray,List.nil_append,List.cons_append]
 gi_wp2_with (refine ⟨trivial,?_⟩;gi_at_call 65;refine (chunk_in _ _ _ _ _).mono ?_;rintro e w' ⟨rfl,rfl⟩)
 obtain ⟨N,hNd⟩:∃N,N=(l.length+119)/120:=⟨_,rfl⟩;have bP:=Boxed.new w 71 (.slice none 0 0);have bS:=Boxed.new (w.alloc (.cells #[.slice none 0 0] 71)) 49 (.slice A l.length c);have bN:=Boxed.new ((w.alloc (.cells #[.slice none 0 0] 71)).alloc (.cells #[.slice A l.length c] 49)) 3 (.int .i64 120);have bP':=(bP.alloc (.cells #[.slice A l.length c] 49)).alloc (.cells #[.int .i64 120] 3);have bS':=bS.alloc (.cells #[.int .i64 120] 3);have hB0:Below w.heap.size w (((w.alloc (.cells #[.slice none 0 0] 71)).alloc (.cells #[.slice A l.length c] 49)).alloc (.cells #[.int .i64 120] 3)) :=
  (((Below.refl _ w).alloc (Nat.le_refl _) _).alloc (by simp) _).alloc (by simp;omega) _
 simp only [World.size_alloc] at bP' bS' bN;obtain ⟨W0,hW0⟩:∃W0,(((w.alloc (.cells #[.slice none 0 0] 71)).alloc (.cells #[.slice A l.length c] 49)).alloc (.cells #[.int .i64 120] 3))=W0:=⟨_,rfl⟩;have hsz:W0.heap.size=w.heap.size+3:=by rw [<-hW0];simp
 rw [hW0] at bP' bS' bN hB0 ⊢
 try simp only [World.size_alloc]
 refine wpIn_rangeFunc_ownG rfl (by omega) (gf:=104) (lb:=#[.pointer (some ⟨w.heap.size+1,0,none⟩),.pointer (some ⟨w.heap.size+1+1,0,none⟩)]) rfl trivial (enters_of Tryz.func104 (by kernel_rfl) rfl)
  (chunk_stops 2 (by omega) (w.heap.size+1) (w.heap.size+1+1) A b o l.length c (hAo.imp id (fun h=>h.1)) hl hlc W0 (by omega) (by omega) bS'.cell bN.cell) Boxes.trans (Boxes.put (by omega) (by omega)) (Below.refl _ _) (fun _=>rfl)
  (fun pre W=>Held w.heap.size (w.heap.size+3) l pre W/\Below w.heap.size w W/\w.heap.size+3<=W.heap.size)
  (fun _ _ _=>False)
  (OwnFrom.and (Go.Own.from (held_own _ _ _) _) (OwnFrom.and (ownFrom_below (Nat.le_refl _) (by omega)) (fun _ _ _ _ hs hg _=>Nat.le_trans hs hg.size)))
  (fun _ _ _ _ _ hs _ _=>hs)
  ⟨⟨_,_,bP',PcsAt.none_ _ _ _⟩,hB0,by omega⟩
  (fun x=>{ tmps:=#[.slice A l.length c,undef,.slice none 0 0,.pointer (some ⟨w.heap.size,0,none⟩),pieceV b o l.length x,.slice A l.length c,.func (.func 104) #[] #[.pointer (some ⟨w.heap.size+1,0,none⟩),.pointer (some ⟨w.heap.size+1+1,0,none⟩)],pieceV b o l.length x,undef,undef,undef,undef,undef,undef],defers:=[] }) ?assign ?body ?done ?stop
 case assign =>
  intro l' x W K hK
  gi_wp2
  exact hK
 case body =>
  rintro l' pre x W ⟨⟨v,vs,hv,hp⟩,hB,hW3⟩ hlt;have hd:1<=3-1-1:=by omega
  have hmx:Tryz.prog.follows .mixedOrders=true:=by kernel_rfl
  obtain ⟨rfl,hbw⟩:A=some ⟨b,o,none⟩/\b<w.heap.size:=hAo.resolve_left (by intro h;rw [h] at hlt;simp at hlt);have hWs:=hB.size;have hps:PcsAt W.drew (w.heap.size+3) l v vs pre:=hp;have hvs:Boxed W.drew w.heap.size 71 v:=hv;have hBd:Below w.heap.size w W.drew:=hB.drew;have hSm:Smps W.drew (some ⟨b,o,none⟩) l:=hA.below hBd;have HCL:Calls Tryz.prog 66 #[pieceV b o l.length x] W.drew fun e w'=>∃v,e=.returned v/\OwnS w' W.drew.heap.size v (pieceL l x)/\Below W.drew.heap.size W.drew w':=by
   have:=clone_prog b (o+x*120*2) (pieceL l x) (pieceL l x).length W.drew (piece_smps hSm x) (by rw [piece_len];omega);rw [piece_len] at this;exact this
  have c0:=hv.cell
  gi_wp2
  gi_region_with_o (refine ⟨trivial,?_⟩;gi_at_call 66;refine (CallsIn.inRound l' (callsIn_wide.2 HCL)).mono ?_;rintro e w1 ⟨cv,rfl,hcv,hcb⟩;obtain ⟨Pc,cc,rfl,_,_,_⟩:=owns_slice hcv;have hv1:Boxed w1 w.heap.size 71 v:=(hcb.block _ hvs.lt).trans hvs;have k1:=hv1.cell;have k4:=(hv1.alloc (.cells #[.slice Pc (pieceL l x).length cc] 49)).cell;obtain ⟨v',w2,hrun,hr2,hg2⟩:=app_pcs (hps.below hcb).1 (show (Value.slice Pc (pieceL l x).length cc).oneCell'=true from rfl) (by omega) (Nat.le_trans hW3 hcb.size);obtain ⟨hb2,hh,hko,hbe⟩:=held_step (n₀:=w.heap.size+3) hvs hps (by omega) hW3 hcb hcv hg2 hr2;have k2:=hb2.cell;have k3:=hb2.frozen;obtain ⟨g',cap',rfl⟩:=ownsRow_succ hr2)
  all_goals gi_wp2
  all_goals exact ⟨((KeepsOthers.drew W).trans hko).from _,fun k hk=>(hbe _ (Nat.le_refl _)).2 k (by omega) (by omega),hh,hBd.trans (hbe _ (Nat.le_refl _)).1,Nat.le_trans hW3 hko.size⟩
 case done =>
  rintro D ys W hD rfl ⟨⟨v,vs,hv,hp⟩,hB,hW3⟩ hK;have hc:=hv.cell
  gi_wp2
  refine ⟨by simp,.inl ⟨_,_,rfl,run_takeDeferred hK,?_⟩⟩;refine ⟨_,results_tmp rfl _ _ _,v,vs,rfl,(hp.move fun g t cs _ hr _=>(grownBy_putObj' W D _).block g hr.lt (fun e=>?_)).lower (by omega),hB.trans (belowK_b (w:=w) (Nat.le_refl _) W D _ _ (by omega) hK rfl rfl)⟩;injection e with e;subst e;rw [show W.heap[g]?=_ from hr] at hK
  cases hK
 case stop =>
  rintro D cc pre W _ _ h _;exact h.elim
end Go.Proofs.YtgdmcnoogacdaaaGreatDoor.Ch
