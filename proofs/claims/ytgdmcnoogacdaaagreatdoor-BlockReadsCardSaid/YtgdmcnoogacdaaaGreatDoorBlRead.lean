/- What read tells of bytes. -/
import Derived.Test.YtgdmcnoogacdaaaGreatDoorBlLotQQ
namespace Go.Proofs.YtgdmcnoogacdaaaGreatDoor
open Go.RowKit Go.Maps
open Ch
set_option linter.unusedVariables false
set_option linter.unusedSimpArgs false
set_option maxRecDepth 100000
def ReadTold(w:World)(o:BlRes)(e:Ending)(w':World):Prop :=
 Below w.heap.size w w'/\((∃ss Q I v B,o=some (ss,Q)/\e=.returned (.agg #[.pointer (some ⟨I,0,none⟩),v])/\w.heap.size<=B/\IdxAt w' B I ss/\OwnQ w' w.heap.size v Q)\/(o=none/\e=.panicked blbroken))
theorem ret_content{fn:Func}{p:Tmp}(h:fn.results=#[.cell p 87])(tmps:Array Value)(w:World)(g:Nat)(cs:Array Value)(hp:tmps.getD p undef=.pointer (some ⟨g,0,none⟩))(hg:Row w g 87 cs)(hs:cs.size=2):
 (results fn tmps).run Tryz.prog w=.ok (.agg cs) w :=
 results_cell_row h tmps w g _ cs _ _ hp hg Tryz.underlying87 rfl (by rw [hs];kernel_rfl)
theorem cntQ_small{Q:List (List (List Smp))}(h:∀ps∈Q,Ch.Good ps.flatten):cntQ Q<=1099511627777*Q.length:=by
 unfold cntQ
 induction Q with
 | nil=>simp
 | cons a r ih =>
   rw [List.map_cons,List.sum_cons,List.length_cons,cntP_flat];have h1:=good_few (h a (by simp));have h2:=ih fun ps hp=>h ps (List.mem_cons_of_mem _ hp)
   omega
set_option maxHeartbeats 8000000 in
theorem blread_short(A:Option Addr)(b:List UInt8)(c:Nat)(w:World)(hA:Bys w A b){o:BlRes}(ho:BlO b o)(h4:¬4<=b.length):
 Calls Tryz.prog 44 #[.slice A b.length c] w (ReadTold w o):=by
 have HO:=zz (blO_short ho h4);obtain ⟨L,hL⟩:∃L,b.length=L:=⟨_,rfl⟩;rw [hL] at h4 ⊢;obtain ⟨E,hE⟩:∃E:Int,(L:Int)-4=E:=⟨_,rfl⟩;have wE:IntKind.i64.wrap ((L:Int)-4)=E:=by rw [hE];exact IntWalk.i64_in _ (by omega)
 have wE2:IntKind.i64.wrap E=E:=IntWalk.i64_in _ (by omega);have dE:decide (0<=E)=false:=decide_eq_false (by omega);clear hA ho hL h4;go_enter Tryz.func44,Tryz.ntmps44
 go_wp2_with fail
 refine wp_region_held_drew (S:=fun _=>True) (by kernel_rfl) ?_ (fun hHeld=>?_)
 ·trivial
 refine tk 0 ⟨some 11,.move (.tmp 3),3, "block.go:175",#[],none⟩ ?_
 try simp only [Act.put,lsA,lsB,lsC]
 refine tk 1 ⟨some 12,.binOp .geq 3 (.tmp 11) (.const (.int .i64 0)) 3,4, "block.go:175",#[⟨0,.data⟩],none⟩ ?_
 try simp only [Act.put,lsA,lsB,lsC]
 refine tk 2 ⟨some 13,.move (.tmp 12),4, "block.go:175",#[⟨1,.data⟩],none⟩ ?_
 try simp only [Act.put,lsA,lsB,lsC]
 refine tku 3 ⟨some 14,.move (.tmp 0),24, "block.go:175",#[⟨2,.guard⟩],some (2,true)⟩ ?_
 try simp only [Act.put,lsA,lsB,lsC]
 refine tku 4 ⟨some 15,.move (.tmp 3),3, "block.go:175",#[⟨2,.guard⟩],some (2,true)⟩ ?_
 try simp only [Act.put,lsA,lsB,lsC]
 refine tku 5 ⟨some 16,.slice 24 (.tmp 14) (some (.tmp 15)) none none,24, "block.go:175",#[⟨3,.data⟩,⟨4,.data⟩,⟨2,.guard⟩],some (2,true)⟩ ?_
 try simp only [Act.put,lsA,lsB,lsC]
 refine tku 6 ⟨some 17,.move (.tmp 0),24, "block.go:175",#[⟨2,.guard⟩],some (2,true)⟩ ?_
 try simp only [Act.put,lsA,lsB,lsC]
 refine tku 7 ⟨some 18,.move (.tmp 3),3, "block.go:175",#[⟨2,.guard⟩],some (2,true)⟩ ?_
 try simp only [Act.put,lsA,lsB,lsC]
 refine tku 8 ⟨some 19,.slice 24 (.tmp 17) none (some (.tmp 18)) none,24, "block.go:175",#[⟨6,.data⟩,⟨7,.data⟩,⟨2,.guard⟩],some (2,true)⟩ ?_
 try simp only [Act.put,lsA,lsB,lsC]
 refine tku 9 ⟨some 20,.call { callee:=.value (.func 34),args:=#[.tmp 19],argTypes:=#[24] },24, "block.go:175",#[⟨8,.data⟩,⟨2,.chain⟩,⟨2,.guard⟩],some (2,true)⟩ ?_
 try simp only [Act.put,lsA,lsB,lsC]
 refine tku 10 ⟨some 21,.call { callee:=.value (.func 81),args:=#[.tmp 16,.tmp 20],argTypes:=#[24,24] },4, "block.go:175",#[⟨5,.data⟩,⟨9,.data⟩,⟨9,.chain⟩,⟨2,.guard⟩],some (2,true)⟩ ?_
 try simp only [Act.put,lsA,lsB,lsC]
 refine tk 11 ⟨some 22,.pick (.tmp 13) (.tmp 21) (.const (.bool false)),4, "block.go:175",#[⟨2,.data⟩,⟨10,.data⟩],none⟩ ?_
 try simp only [Act.put,lsA,lsB,lsC]
 refine wpAnyH_ready (rs:=[12]) (by kernel_rfl) (by simp) ?_;refine AllReadyH.cons (o:=⟨some 23,.call { callee:=.value (.func 80),args:=#[.tmp 22],argTypes:=#[4] },0, "block.go:175",#[⟨11,.data⟩,⟨10,.chain⟩],none⟩) rfl (fun K hK=>?_) AllReadyH.nil
 go_simp
 go_at_call 80
 refine (blmust_no _).mono ?_;rintro e w5 ⟨rfl,rfl⟩;exact ⟨rfl,(below_one w _).drew,.inr ⟨HO.out,rfl⟩⟩
set_option maxHeartbeats 8000000 in
theorem blread_sum(bb oo:Nat)(b:List UInt8)(c:Nat)(hbc:b.length<=c)(hbl:b.length<=140737488355328)(w:World)(hA:Bys w (some ⟨bb,oo,none⟩) b){o:BlRes}(ho:BlO b o)(h4:4<=b.length)
 (hs:b.drop (b.length-4)≠le4 (sumN (b.take (b.length-4)))):
 Calls Tryz.prog 44 #[.slice (some ⟨bb,oo,none⟩) b.length c] w (ReadTold w o):=by
 have HO:=zz (blO_sum ho h4 hs);obtain ⟨E,hE⟩:∃E,b.length-4=E:=⟨_,rfl⟩;rw [hE] at hs;have hl1:(b.take E).length=E:=by rw [List.length_take];omega
 have hl2:(b.drop E).length=b.length-E:=List.length_drop;have HSUM:=zz (fun x (h:Below w.heap.size w x)=>blsum_prog (some ⟨bb,oo,none⟩) (b.take E) c x ((hA.below h).front E) (by omega));have HEQ:=zz (fun P d x (h:Below w.heap.size w x) (hP:Bys x P (le4 (sumN (b.take E))))=>equal_prog (some ⟨bb,oo+E,none⟩) P (b.drop E) (le4 (sumN (b.take E))) (c-E) d x ((hA.below h).from E) hP);rw [hl1] at HSUM;rw [hl2,decide_eq_false hs] at HEQ;obtain ⟨L,hL⟩:∃L,b.length=L:=⟨_,rfl⟩;rw [hL] at h4 hE hbc hbl HEQ ⊢;generalize sumN (b.take E)=SM at *;have HW:=zz ((below_one w (.cells #[.pointer none,.slice none 0 0] 87)).drew);have wE:IntKind.i64.wrap ((L:Int)-4)=(E:Int):=by rw [show (L:Int)-4=(E:Int) by omega];exact IntWalk.i64_in _ (by omega)
 have wE2:IntKind.i64.wrap (E:Int)=(E:Int):=IntWalk.i64_in _ (by omega);have dE:decide (0<=(E:Int))=true:=decide_eq_true (by omega);have hq:¬c=E:=by omega
 have hEL:(E:Int)<=(L:Int):=by omega
 have hEc:E<=c:=by omega
 clear hA ho hL h4 hs hE hl1 hl2 hbc;go_enter Tryz.func44,Tryz.ntmps44
 go_wp2_with fail
 refine wp_region_held_drew (S:=fun _=>True) (by kernel_rfl) ?_ (fun hHeld=>?_)
 ·trivial
 refine tk 0 ⟨some 11,.move (.tmp 3),3, "block.go:175",#[],none⟩ ?_
 try simp only [Act.put,lsA,lsB,lsC]
 refine tk 1 ⟨some 12,.binOp .geq 3 (.tmp 11) (.const (.int .i64 0)) 3,4, "block.go:175",#[⟨0,.data⟩],none⟩ ?_
 try simp only [Act.put,lsA,lsB,lsC]
 refine tk 2 ⟨some 13,.move (.tmp 12),4, "block.go:175",#[⟨1,.data⟩],none⟩ ?_
 try simp only [Act.put,lsA,lsB,lsC]
 refine tk 3 ⟨some 14,.move (.tmp 0),24, "block.go:175",#[⟨2,.guard⟩],some (2,true)⟩ ?_
 try simp only [Act.put,lsA,lsB,lsC]
 refine tk 4 ⟨some 15,.move (.tmp 3),3, "block.go:175",#[⟨2,.guard⟩],some (2,true)⟩ ?_
 try simp only [Act.put,lsA,lsB,lsC]
 refine tk 5 ⟨some 16,.slice 24 (.tmp 14) (some (.tmp 15)) none none,24, "block.go:175",#[⟨3,.data⟩,⟨4,.data⟩,⟨2,.guard⟩],some (2,true)⟩ ?_
 try simp only [Act.put,lsA,lsB,lsC]
 refine tk 6 ⟨some 17,.move (.tmp 0),24, "block.go:175",#[⟨2,.guard⟩],some (2,true)⟩ ?_
 try simp only [Act.put,lsA,lsB,lsC]
 refine tk 7 ⟨some 18,.move (.tmp 3),3, "block.go:175",#[⟨2,.guard⟩],some (2,true)⟩ ?_
 try simp only [Act.put,lsA,lsB,lsC]
 refine tk 8 ⟨some 19,.slice 24 (.tmp 17) none (some (.tmp 18)) none,24, "block.go:175",#[⟨6,.data⟩,⟨7,.data⟩,⟨2,.guard⟩],some (2,true)⟩ ?_
 try simp only [Act.put,lsA,lsB,lsC]
 refine wpAnyH_ready (rs:=[9]) (by kernel_rfl) (by simp) ?_;refine AllReadyH.cons (o:=⟨some 20,.call { callee:=.value (.func 34),args:=#[.tmp 19],argTypes:=#[24] },24, "block.go:175",#[⟨8,.data⟩,⟨2,.chain⟩,⟨2,.guard⟩],some (2,true)⟩) rfl (fun K hK=>?_) AllReadyH.nil
 go_simp
 go_at_call 34
 refine (HSUM.out _ HW.out).mono ?_;rintro e w2 ⟨v2,rfl,ho2,hb2⟩;obtain ⟨P2,d2,hv2,hP2,_⟩:=own_slice' ho2;change v2=.slice P2 4 d2 at hv2;subst hv2;have HP2:=zz hP2;have HW2:=zz (HW.out.trans (hb2.mono HW.out.size));have HB2:=zz hb2;clear ho2 hb2 hP2;refine hK.out _ _ ?_ (fun hHeld=>?_)
 ·trivial
 clear hK K
 try simp only [Act.put,lsA,lsB,lsC]
 refine wpAnyH_ready (rs:=[10]) (by kernel_rfl) (by simp) ?_;refine AllReadyH.cons (o:=⟨some 21,.call { callee:=.value (.func 81),args:=#[.tmp 16,.tmp 20],argTypes:=#[24,24] },4, "block.go:175",#[⟨5,.data⟩,⟨9,.data⟩,⟨9,.chain⟩,⟨2,.guard⟩],some (2,true)⟩) rfl (fun K hK=>?_) AllReadyH.nil
 go_simp
 go_at_call 81
 refine (HEQ.out _ _ _ HW2.out HP2.out).mono ?_;rintro e w2 ⟨rfl,rfl⟩;refine hK.out _ _ ?_ (fun hHeld=>?_)
 ·trivial
 clear hK K
 try simp only [Act.put,lsA,lsB,lsC]
 refine tk 11 ⟨some 22,.pick (.tmp 13) (.tmp 21) (.const (.bool false)),4, "block.go:175",#[⟨2,.data⟩,⟨10,.data⟩],none⟩ ?_
 try simp only [Act.put,lsA,lsB,lsC]
 refine wpAnyH_ready (rs:=[12]) (by kernel_rfl) (by simp) ?_;refine AllReadyH.cons (o:=⟨some 23,.call { callee:=.value (.func 80),args:=#[.tmp 22],argTypes:=#[4] },0, "block.go:175",#[⟨11,.data⟩,⟨10,.chain⟩],none⟩) rfl (fun K hK=>?_) AllReadyH.nil
 go_simp
 go_at_call 80
 refine (blmust_no _).mono ?_;rintro e w5 ⟨rfl,rfl⟩;exact ⟨rfl,HW2.out,.inr ⟨HO.out,rfl⟩⟩
theorem two_ownq{w w':World}{R base:Nat}{v:Value}{Q:List (List (List Smp))}{cs:Array Value}(h:OwnQ w base v Q)(ht:Two w w' R R)(hR:Row w R 148 cs):OwnQ w' base v Q :=
 ownq_keep h fun k t c _ hr hty=>ht.block k hr.lt (fun e=>by subst e;have:=row_types hr hR (by rcases hty with rfl|rfl|rfl<;>decide);exact this rfl) (fun e=>by subst e;have:=row_types hr hR (by rcases hty with rfl|rfl|rfl<;>decide);exact this rfl)
structure RdS(w w6 wr:World)(R C X:Nat)(v:Value)(dn:List (List (List Smp)))(rs:List UInt8):Prop where
 row:Row wr C 87 #[.pointer (some ⟨X,0,none⟩),v]
 own:OwnQ wr C v dn
 rd:BRd wr R rs
 bel:Below w.heap.size w wr
 z:Row wr w.heap.size 87 #[.pointer none,.slice none 0 0]
 idx:∀k,R<k->k<C->wr.heap[k]?=w6.heap[k]?
theorem RdS.drew{w w6 wr:World}{R C X:Nat}{v:Value}{dn:List (List (List Smp))}{rs:List UInt8}(h:RdS w w6 wr R C X v dn rs):RdS w w6 wr.drew R C X v dn rs :=
 ⟨h.row,h.own,h.rd,h.bel.drew,h.z,h.idx⟩
theorem RdS.two{w w6 wr w8:World}{R C X:Nat}{v:Value}{dn:List (List (List Smp))}{rs r:List UInt8}(h:RdS w w6 wr R C X v dn rs)(ht:Two wr w8 R R)(hr:BRd w8 R r)(h1:w.heap.size<R)(h2:R<C):RdS w w6 w8 R C X v dn r:=by
 obtain ⟨cs,hcs⟩:=h.rd.row;refine ⟨(ht.block C h.row.lt (by omega) (by omega)).trans h.row,two_ownq h.own ht hcs,hr,Two.below h.bel ht h.bel.size (by omega) (by omega),(ht.block _ h.z.lt (by omega) (by omega)).trans h.z,fun k k1 k2=>?_⟩;exact (ht.block k (Nat.lt_trans k2 h.row.lt) (by omega) (by omega)).trans (h.idx k k1 k2)
theorem RdS.app{w w6 w8 w9:World}{R C X:Nat}{v v9:Value}{dn:List (List (List Smp))}{ps:List (List Smp)}{rs:List UInt8}(h:RdS w w6 w8 R C X v dn rs){o:Obj}(hg:(w8.alloc o).grownBy w9 v.ownBlock)(ho:OwnQ w9 C v9 (dn++[ps]))
 (hvb:∀k,v.ownBlock=some k->∃cs,Row w8 k 103 cs)(hb:Below C w8 w9)(h1:w.heap.size<R)(h2:R<C):
 Row w9 C 87 #[.pointer (some ⟨X,0,none⟩),v]/\RdS w w6 (w9.setCell ⟨C,1,none⟩ v9) R C X v9 (dn++[ps]) rs:=by
 have hC9:Row w9 C 87 #[.pointer (some ⟨X,0,none⟩),v]:=grown_row (h.row.alloc _) hg (fun e=>by
  obtain ⟨cs,hc⟩:=hvb _ e.symm;exact absurd (row_kind hc h.row) (by decide))
 have hb9:Below C w8 (w9.setCell ⟨C,1,none⟩ v9):=hb.setCell (p:=⟨C,1,none⟩) (Nat.le_refl _) v9;refine ⟨hC9,hC9.setAt 1 v9,ownq_keep ho fun k t cs _ hr ht=>Below.heap_setCell w9 ⟨C,1,none⟩ v9 k (fun e=>?_),h.rd.in_ hb9 h2,h.bel.trans (hb9.mono (by have:=h.bel.size;omega)),(hb9.block _ (by omega)).trans h.z,fun k k1 k2=>(hb9.block k k2).trans (h.idx k k1 k2)⟩;subst e;have:=row_types hr hC9 (by rcases ht with rfl|rfl|rfl<;>decide);exact this rfl
theorem put2_row{W:World}{g:Nat}{t:TypeId}{c0 c1:Value}(h:Row W g t #[c0,c1])(a b:Value):Row ((W.setCell ⟨g,0,none⟩ a).setCell ⟨g,1,none⟩ b) g t #[a,b]:=by
 have h1:=(h.setAt 0 a).setAt 1 b;simp only [List.setIfInBounds_toArray,List.set_cons_zero,List.set_cons_succ] at h1;exact h1
theorem RdS.fin{w w6 wr w8:World}{R C X B:Nat}{v:Value}{dn:List (List (List Smp))}{rs:List UInt8}{ss:List (List Lbl)}{o:BlRes}(h:RdS w w6 wr R C X v dn rs)(hb:Below wr.heap.size wr w8)(hC:w6.heap.size=C)(h1:w.heap.size<R)(h2:R<C)(hRB:R<B)
 (hB:w.heap.size<=B)(hI:IdxAt w6 B X ss)(ho:o=some (ss,dn)):
 ReadTold w o (.returned (.agg #[.pointer (some ⟨X,0,none⟩),v])) ((w8.setCell ⟨w.heap.size,0,none⟩ (.pointer (some ⟨X,0,none⟩))).setCell ⟨w.heap.size,1,none⟩ v):=by
 have hz8:=h.z.below hb h.z.lt;refine ⟨((h.bel.trans (hb.mono h.bel.size)).setCell (p:=⟨w.heap.size,0,none⟩) (Nat.le_refl _) _).setCell (p:=⟨w.heap.size,1,none⟩) (Nat.le_refl _) _,.inl ⟨ss,dn,X,v,B,ho,rfl,hB,?_,?_⟩⟩
 ·have hsz:((w8.setCell ⟨w.heap.size,0,none⟩ (.pointer (some ⟨X,0,none⟩))).setCell ⟨w.heap.size,1,none⟩ v).heap.size=w8.heap.size:=by simp [World.setCell]
  refine idx_range hI (by rw [hsz,hC];have:=hb.size;have:=h.row.lt;omega) fun k k1 k2=>?_
  rw [Below.heap_setCell _ ⟨w.heap.size,1,none⟩ v k (by show k≠w.heap.size;omega),Below.heap_setCell _ ⟨w.heap.size,0,none⟩ _ k (by show k≠w.heap.size;omega),hb.block k (by have:=h.row.lt;omega)];exact h.idx k (by omega) (by omega)
 ·refine ownq_keep (ownq_lower (ownq_below h.own hb) (by omega)) fun k t cs _ hr ht=>?_
  have hne:k≠w.heap.size:=fun e=>by
   subst e;have:=row_types hr hz8 (by rcases ht with rfl|rfl|rfl<;>decide);exact this rfl
  rw [Below.heap_setCell _ ⟨w.heap.size,1,none⟩ v k hne,Below.heap_setCell _ ⟨w.heap.size,0,none⟩ _ k hne]
theorem mag_eq{l:List UInt8}(h:l=magL):((txt l).toList==[71,66,75,49])=true:=by
 subst h;rw [ByteArray.toList_eq];rfl
theorem mag_ne{l:List UInt8}(h:l≠magL):((txt l).toList==[71,66,75,49])=false:=by
 rw [beq_eq_false_iff_ne,ByteArray.toList_eq];intro e
 apply h
 have:(txt l).data.toList=l:=by simp [txt]
 rw [this] at e;exact e
set_option maxHeartbeats 16000000 in
theorem blread_good(bb oo:Nat)(b:List UInt8)(c:Nat)(hbc:b.length<=c)(hbl:b.length<=140737488355328)(w:World)(hbw:bb<w.heap.size)(hA:Bys w (some ⟨bb,oo,none⟩) b){o:BlRes}(ho:BlO b o)(h4:4<=b.length)
 (hs:b.drop (b.length-4)=le4 (sumN (b.take (b.length-4)))):
 Calls Tryz.prog 44 #[.slice (some ⟨bb,oo,none⟩) b.length c] w (ReadTold w o):=by
 obtain ⟨f,hf⟩:∃f,b.take (b.length-4)=f:=⟨_,rfl⟩;have HMG:=zz (fun h=>blO_mag ho hf h);have HRS:=zz (fun h1 h2=>blO_rest ho hf h4 (by rw [hf] at hs;exact hs) h1 h2);obtain ⟨E,hE⟩:∃E,b.length-4=E:=⟨_,rfl⟩;rw [hE] at hs hf;have hl1:(b.take E).length=E:=by rw [List.length_take];omega
 have hl2:(b.drop E).length=b.length-E:=List.length_drop;have HSUM:=zz (fun x (h:Below w.heap.size w x)=>blsum_prog (some ⟨bb,oo,none⟩) (b.take E) c x ((hA.below h).front E) (by omega));have HEQ:=zz (fun P d x (h:Below w.heap.size w x) (hP:Bys x P (le4 (sumN (b.take E))))=>equal_prog (some ⟨bb,oo+E,none⟩) P (b.drop E) (le4 (sumN (b.take E))) (c-E) d x ((hA.below h).from E) hP);have HFB:=zz (fun x (h:Below w.heap.size w x)=>(hA.below h).front E);rw [hf] at hl1 HFB;rw [hl2,decide_eq_true hs] at HEQ;rw [hf] at HSUM HEQ;rw [hl1] at HSUM;obtain ⟨L,hL⟩:∃L,b.length=L:=⟨_,rfl⟩;rw [hL] at h4 hE hbc hbl HEQ ⊢;generalize sumN f=SM at *;have HW:=zz ((below_one w (.cells #[.pointer none,.slice none 0 0] 87)).drew);have HZ:=zz (show Row (w.alloc (.cells #[.pointer none,.slice none 0 0] 87)).drew w.heap.size 87 #[.pointer none,.slice none 0 0] from Row.new _ _ _);have wE:IntKind.i64.wrap ((L:Int)-4)=(E:Int):=by rw [show (L:Int)-4=(E:Int) by omega];exact IntWalk.i64_in _ (by omega)
 have wE2:IntKind.i64.wrap (E:Int)=(E:Int):=IntWalk.i64_in _ (by omega);have dE:decide (0<=(E:Int))=true:=decide_eq_true (by omega);have hq:¬c=E:=by omega
 have hEL:(E:Int)<=(L:Int):=by omega
 have hEc:E<=c:=by omega
 have HE4:=zz (show E+4<=c/\E<=140737488355328 by omega);have HFL:=zz hl1;clear hA ho hL h4 hs hE hl1 hl2 hbc hf;go_enter Tryz.func44,Tryz.ntmps44
 go_wp2_with fail
 refine wp_region_held_drew (S:=fun _=>True) (by kernel_rfl) ?_ (fun hHeld=>?_)
 ·trivial
 refine tk 0 ⟨some 11,.move (.tmp 3),3, "block.go:175",#[],none⟩ ?_
 try simp only [Act.put,lsA,lsB,lsC]
 refine tk 1 ⟨some 12,.binOp .geq 3 (.tmp 11) (.const (.int .i64 0)) 3,4, "block.go:175",#[⟨0,.data⟩],none⟩ ?_
 try simp only [Act.put,lsA,lsB,lsC]
 refine tk 2 ⟨some 13,.move (.tmp 12),4, "block.go:175",#[⟨1,.data⟩],none⟩ ?_
 try simp only [Act.put,lsA,lsB,lsC]
 refine tk 3 ⟨some 14,.move (.tmp 0),24, "block.go:175",#[⟨2,.guard⟩],some (2,true)⟩ ?_
 try simp only [Act.put,lsA,lsB,lsC]
 refine tk 4 ⟨some 15,.move (.tmp 3),3, "block.go:175",#[⟨2,.guard⟩],some (2,true)⟩ ?_
 try simp only [Act.put,lsA,lsB,lsC]
 refine tk 5 ⟨some 16,.slice 24 (.tmp 14) (some (.tmp 15)) none none,24, "block.go:175",#[⟨3,.data⟩,⟨4,.data⟩,⟨2,.guard⟩],some (2,true)⟩ ?_
 try simp only [Act.put,lsA,lsB,lsC]
 refine tk 6 ⟨some 17,.move (.tmp 0),24, "block.go:175",#[⟨2,.guard⟩],some (2,true)⟩ ?_
 try simp only [Act.put,lsA,lsB,lsC]
 refine tk 7 ⟨some 18,.move (.tmp 3),3, "block.go:175",#[⟨2,.guard⟩],some (2,true)⟩ ?_
 try simp only [Act.put,lsA,lsB,lsC]
 refine tk 8 ⟨some 19,.slice 24 (.tmp 17) none (some (.tmp 18)) none,24, "block.go:175",#[⟨6,.data⟩,⟨7,.data⟩,⟨2,.guard⟩],some (2,true)⟩ ?_
 try simp only [Act.put,lsA,lsB,lsC]
 refine wpAnyH_ready (rs:=[9]) (by kernel_rfl) (by simp) ?_;refine AllReadyH.cons (o:=⟨some 20,.call { callee:=.value (.func 34),args:=#[.tmp 19],argTypes:=#[24] },24, "block.go:175",#[⟨8,.data⟩,⟨2,.chain⟩,⟨2,.guard⟩],some (2,true)⟩) rfl (fun K hK=>?_) AllReadyH.nil
 go_simp
 go_at_call 34
 refine (HSUM.out _ HW.out).mono ?_;rintro e w2 ⟨v2,rfl,ho2,hb2⟩;obtain ⟨P2,d2,hv2,hP2,_⟩:=own_slice' ho2;change v2=.slice P2 4 d2 at hv2;subst hv2;have HP2:=zz hP2;have HW2:=zz (HW.out.trans (hb2.mono HW.out.size));have HB2:=zz hb2;clear ho2 hb2 hP2;refine hK.out _ _ ?_ (fun hHeld=>?_)
 ·trivial
 clear hK K
 try simp only [Act.put,lsA,lsB,lsC]
 refine wpAnyH_ready (rs:=[10]) (by kernel_rfl) (by simp) ?_;refine AllReadyH.cons (o:=⟨some 21,.call { callee:=.value (.func 81),args:=#[.tmp 16,.tmp 20],argTypes:=#[24,24] },4, "block.go:175",#[⟨5,.data⟩,⟨9,.data⟩,⟨9,.chain⟩,⟨2,.guard⟩],some (2,true)⟩) rfl (fun K hK=>?_) AllReadyH.nil
 go_simp
 go_at_call 81
 refine (HEQ.out _ _ _ HW2.out HP2.out).mono ?_;rintro e w2 ⟨rfl,rfl⟩;refine hK.out _ _ ?_ (fun hHeld=>?_)
 ·trivial
 clear hK K
 try simp only [Act.put,lsA,lsB,lsC]
 refine tk 11 ⟨some 22,.pick (.tmp 13) (.tmp 21) (.const (.bool false)),4, "block.go:175",#[⟨2,.data⟩,⟨10,.data⟩],none⟩ ?_
 try simp only [Act.put,lsA,lsB,lsC]
 refine wpAnyH_ready (rs:=[12]) (by kernel_rfl) (by simp) ?_;refine AllReadyH.cons (o:=⟨some 23,.call { callee:=.value (.func 80),args:=#[.tmp 22],argTypes:=#[4] },0, "block.go:175",#[⟨11,.data⟩,⟨10,.chain⟩],none⟩) rfl (fun K hK=>?_) AllReadyH.nil
 go_simp
 go_at_call 80
 refine (blmust_yes _).mono ?_;rintro e w5 ⟨rfl,rfl⟩;refine hK.out _ _ ?_ (fun hHeld=>?_)
 ·trivial
 clear hK K
 try simp only [Act.put,lsA,lsB,lsC]
 refine wpAnyH_done (by kernel_rfl) ?_ _;have hw1:(w.alloc (.cells #[.pointer none,.slice none 0 0] 87)).heap.size=w.heap.size+1:=by simp
 have hsz2:w.heap.size<w2.heap.size:=Nat.lt_of_lt_of_le (by show w.heap.size<w.heap.size+1;omega) (Nat.le_trans (Nat.le_of_eq hw1.symm) HB2.out.size);have HZ2:=zz (HZ.out.below HB2.out (by show w.heap.size<(w.alloc _).heap.size;omega));have HR:=zz (show BRd (w2.alloc (.cells #[.slice (some ⟨bb,oo,none⟩) E c] 148)) w2.heap.size f from
  ⟨bb,oo,c,by rw [HFL.out];exact Row.new _ _ _,HFB.out _ (HW2.out.alloc HW2.out.size _),by rw [HFL.out];exact HE4.out.1,by rw [HFL.out];exact HE4.out.2,by omega⟩)
 have HW3:=zz (HW2.out.alloc HW2.out.size (.cells #[.slice (some ⟨bb,oo,none⟩) E c] 148));have HZ3:=zz (HZ2.out.alloc (.cells #[.slice (some ⟨bb,oo,none⟩) E c] 148));have hs3:(w2.alloc (.cells #[.slice (some ⟨bb,oo,none⟩) E c] 148)).heap.size=w2.heap.size+1:=by simp
 clear HSUM HEQ HZ HW hw1 HZ2 HB2 HP2
 go_upto_region 4 with fail
 generalize (w2.alloc (.cells #[.slice (some ⟨bb,oo,none⟩) E c] 148))=w3 at *;obtain ⟨R,hR⟩:∃R,w2.heap.size=R:=⟨_,rfl⟩;rw [hR] at HR hs3 hsz2 ⊢;clear HW2 hR
 by_cases hf4:4<=f.length
 ·have hl4:(f.take 4).length=4:=by rw [List.length_take];omega
  have HT:=zz (take_yes HR.out 4 hf4);have HL4:=zz hl4
  by_cases hm:f.take 4=magL
  ·have q0:=mag_eq hm;have HRR:=zz (HRS.out hf4 hm);clear HMG HRS hf4 hm hl4
   go_wp2_with fail
   refine (show Calls Tryz.prog 82 #[.pointer (some ⟨R,0,none⟩),.int .i64 4] w3 _ from HT.out).mono ?_;rintro e w4 ⟨P4,c4,rfl,_,hB4,hR4,ht4⟩;have k4:(convert 24 9 (.slice P4 4 c4)).run Tryz.prog w4=.ok (.string (txt (f.take 4))) w4:=by
    have:=conv_bys w4 P4 (f.take 4) c4 hB4;rw [HL4.out] at this;exact this
   rw [HL4.out];have HR4:=zz hR4;have HW4:=zz (Two.below HW3.out ht4 HW3.out.size (by omega) (by omega));have HZ4:=zz (show Row w4 w.heap.size 87 #[.pointer none,.slice none 0 0] from (ht4.block w.heap.size HZ3.out.lt (by omega) (by omega)).trans HZ3.out);have hR4l:=hR4.lt;clear hB4 hR4 ht4 HT HR HW3 HZ3 hs3;obtain ⟨F,hF⟩:∃F,f.drop 4=F:=⟨_,rfl⟩;rw [hF] at HRR HR4;generalize txt (f.take 4)=T at *;clear HL4 hF
   go_wp2_with (refine (blmust_yes _).mono ?_;rintro e w5 ⟨rfl,rfl⟩)
   clear k4 q0;rcases HRR.out with ⟨rfl,hc⟩|⟨x,r,hc,hx⟩
   ·have HC:=zz (counted_prog HR4.out hc);clear hc HRR
    go_wp2_with fail
    refine HC.out.mono ?_;rintro e w5 (⟨x,rr,h,_⟩|⟨_,rfl,ht5⟩)
    ·cases h
    ·go_wp2_with fail
     exact ⟨rfl,Two.below HW4.out ht5 HW4.out.size (by omega) (by omega),.inr ⟨rfl,rfl⟩⟩
   ·have hxl:x.length<=140737488355328:=by
     have h7:=HR4.out.len;rw [cntO_sound hc] at h7;unfold cntL at h7;rw [List.length_append,List.length_append] at h7;omega
    have HC:=zz (counted_prog HR4.out hc);clear hc HRR;rcases hx with ⟨rfl,hno⟩|⟨ss,g,h0,rfl,hq,hg1,hg2⟩
    ·have HNO:=zz hno;clear hno
     go_wp2_with fail
     refine HC.out.mono ?_;rintro e w5 (⟨x',rr,h,P5,c5,rfl,hc5,hB5,hR5,ht5⟩|⟨h,_⟩)
     rotate_left
     ·cases h
     injection h with h;injection h with e1 e2;subst e1 e2;have HOF:=zz (of_any P5 x c5 hc5 hxl w5 hB5);have HW5:=zz (Two.below HW4.out ht5 HW4.out.size (by omega) (by omega));clear hB5 hR5 ht5 hc5 hxl;generalize x.length=xl at *
     go_wp2_with fail
     refine HOF.out.mono ?_;rintro e w6 ⟨hb6,rfl|⟨ss,X,B,h1,h2,_⟩⟩
     rotate_left
     ·exact absurd h2 (HNO.out ss h1)
     have HW6:=zz (HW5.out.trans (hb6.mono HW5.out.size));clear hb6
     go_wp2_with (refine (blmust_no _).mono ?_;rintro e w7 ⟨rfl,rfl⟩)
     exact ⟨rfl,HW6.out,.inr ⟨rfl,rfl⟩⟩
    ·have HG1:=zz hg1;have HG2:=zz hg2;have HQ:=zz hq;have H0:=zz h0;clear hg1 hg2 hq h0
     go_wp2_with fail
     refine HC.out.mono ?_;rintro e w5 (⟨x',rr,h,P5,c5,rfl,hc5,hB5,hR5,ht5⟩|⟨h,_⟩)
     rotate_left
     ·cases h
     injection h with h;injection h with e1 e2;subst e1 e2;have HOF:=zz (of_right P5 ss c5 H0.out hc5 w5 hB5);have HW5:=zz (Two.below HW4.out ht5 HW4.out.size (by omega) (by omega));have HZ5:=zz (show Row w5 w.heap.size 87 #[.pointer none,.slice none 0 0] from (ht5.block w.heap.size HZ4.out.lt (by omega) (by omega)).trans HZ4.out);have HR5:=zz hR5;have hR5l:=hR5.lt;clear hB5 hR5 ht5 hc5 hxl HR4 HZ4 HW4 hR4l HC;generalize (ixBytes ss).length=xl at *
     go_wp2_with fail
     refine HOF.out.mono ?_;rintro e w6 ⟨hb6,X,B,rfl,hB,hI⟩;have HW6:=zz (HW5.out.trans (hb6.mono HW5.out.size));have HZ6:=zz (HZ5.out.below hb6 HZ5.out.lt);have HR6:=zz (HR5.out.below hb6);have HI6:=zz hI;have hR6l:=HR6.out.lt;have HBB:=zz hB;have hRB:R<B:=by omega
     have HBB2:=zz (show w.heap.size<=B from Nat.le_trans HW5.out.size hB);clear hb6 hI HR5 HZ5 HW5 HOF hR5l
     go_wp2_with (refine (blmust_yes _).mono ?_;rintro e w7 ⟨rfl,rfl⟩)
     have HLN:=zz (len_prog X ss B _ (HI6.out.below (below_one w6 (.cells #[.pointer (some ⟨X,0,none⟩),.slice none 0 0] 87))));have h256:=(ixChk_right H0.out).1;have HSS:=zz (show ∃n,ss.length=n/\n<=256 from ⟨_,rfl,h256⟩);have HS0:=zz (show RdS w w6 (w6.alloc (.cells #[.pointer (some ⟨X,0,none⟩),.slice none 0 0] 87)) R w6.heap.size X (.slice none 0 0) [] r from
      ⟨Row.new _ _ _,ownq_nil _ _,HR6.out.below (below_one _ _),HW6.out.alloc HW6.out.size _,HZ6.out.alloc _,fun k _ k2=>(below_one w6 _).block k k2⟩)
     obtain ⟨C,hC⟩:∃C,w6.heap.size=C:=⟨_,rfl⟩;rw [hC] at HS0;have HCC:=zz hC;obtain ⟨n,hn,h256⟩:=HSS.out;rw [hn] at HLN HQ;have HNN:=zz hn;clear HR6 HW6 HZ6 hn;refine HLN.out.mono ?_;rintro e w7 ⟨rfl,rfl⟩;rw [hC] at hR6l ⊢;clear hC HLN
     go_wp2_with fail
     generalize (w6.alloc (.cells #[.pointer (some ⟨X,0,none⟩),.slice none 0 0] 87))=w7 at *
     go_loopw [48] (fun i wr=>∃(j:Nat) (v:Value) (dn:List (List (List Smp))) (rs:List UInt8) (g':Option (List (List (List Smp)) × List UInt8)),j<=n/\i=.int .i64 (j:Int)/\dn.length=j/\(∀ps∈dn,Ch.Good ps.flatten)/\RdS w w6 wr R C X v dn rs/\SsO' (n-j) rs g'/\GlueQ dn g' g)
      (fun i _=>n-(intOf i).toNat)
     case atStart=>exact ⟨0,_,[],r,g,Nat.zero_le _,rfl,rfl,fun ps hp=>(by cases hp),HS0.out,HQ.out,fun e=>e,fun Q r e=>e⟩
     case round =>
      obtain ⟨j,v,dn,rs,g',hj,rfl,hdl,hgd,hS,hq,hgl⟩:=hrel;have HS:=zz hS;have HGD:=zz hgd;have HGL:=zz hgl
      by_cases hlt:j<n
      ·obtain ⟨m,hm⟩:∃m,n-j=m+1:=⟨n-j-1,by omega⟩;rw [hm] at hq;have i1:decide ((j:Int)<(n:Int))=true:=decide_eq_true (by omega);have i2:(j:Int)<(n:Int):=by omega
       have x1:wr.cell? ⟨C,1,none⟩=some v:=hS.row.cell 1;rcases ssQ_step hq with ⟨rfl,hser⟩|⟨ps,rr,g2,hser,hq2,hk1,hk2⟩
       ·have HPC:=zz (pieces_prog (w:=wr.drew) hS.rd hser);have HO:=zz (HG1.out (HGL.out.1 rfl));clear hS hgd hgl hq hser hdl
        go_wp2_with fail
        go_region_dies
        all_goals
         refine HPC.out.mono ?_;rintro e w8 ⟨ht8,⟨v8,ps8,r8,h,_⟩|⟨_,rfl⟩⟩
         ·cases h
         ·exact ⟨rfl,Two.below HS.out.drew.bel ht8 HS.out.drew.bel.size (by omega) (by omega),.inr ⟨HO.out,rfl⟩⟩
       ·have HPC:=zz (pieces_prog (w:=wr.drew) hS.rd hser);have HQ2:=zz (show SsO' (n-(j+1)) rr g2 by rw [show n-(j+1)=m by omega];exact hq2);have HGL2:=zz (glueQ_next HGL.out hk1 hk2);have HGD2:=zz (show ∀p∈dn++[ps],Ch.Good p.flatten from fun p hp=>by
         rcases List.mem_append.1 hp with hp|hp
         ·exact hgd p hp
         ·obtain rfl:=List.mem_singleton.1 hp;exact (serO_sound hser).2.1)
        have HDL:=zz (show (dn++[ps]).length=j+1 by rw [List.length_append,hdl];rfl);have HFEW:=zz (show dn.length<=5864062014800 by omega);have HJ1:=zz (show j+1<=n/\n-(j+1)<n-j by omega);have x1d:wr.drew.cell? ⟨C,1,none⟩=some v:=x1;clear hS hgd hgl hq hser hdl hq2 hk1 hk2
        go_upto_region 10 with fail
        go_region_law
         (first
           | (refine step_app_pcs rfl (.tmp 51) (.tmp 54) rfl C v dn rfl HS8.out.own P8 ps d8 1 HP8.out rfl HFEW.out HB8.out ?_
              intro v9 w9 ho9 hb9 hg9 hvb9;obtain ⟨P9,c9,hv9,-⟩:=ownq_slice ho9;obtain ⟨n9,hn9⟩:∃n9,(dn++[ps]).length=n9:=⟨_,rfl⟩;rw [hn9] at hv9;clear hn9;subst hv9;obtain ⟨hC9,hS9⟩:=HS8.out.app hg9 ho9 hvb9 hb9 hsz2 hR6l;have HS9:=zz hS9;have x19:w9.cell? ⟨C,1,none⟩=some v:=hC9.cell 1;have f19:=hC9.frozen 1;clear ho9 hb9 hg9 hvb9 hC9 hS9)
           | (go_simp
              go_at_call 85
              refine HPC.out.mono ?_;rintro e w8 ⟨ht8,⟨v8,ps8,r8,h,rfl,ho8,hR8⟩|⟨h,_⟩⟩
              rotate_left
              ·cases h
              injection h with h;injection h with e1 e2;subst e1 e2;have HS8:=zz (HS.out.drew.two ht8 hR8 hsz2 hR6l);have HP8':=zz (ownpc_lower ho8 (show C<=wr.drew.heap.size from Nat.le_of_lt HS.out.row.lt));obtain ⟨P8,d8,hv8,-⟩:=ownpc_slice ho8;subst hv8;have HP8:=HP8';have x18:w8.cell? ⟨C,1,none⟩=some v:=HS8.out.row.cell 1;have x18a:∀o,(w8.alloc o).cell? ⟨C,1,none⟩=some v:=fun o=>(HS8.out.row.alloc o).cell 1
              have HB8:=zz (show C<=w8.heap.size from Nat.le_of_lt HS8.out.row.lt);clear ho8 hR8 ht8))
        all_goals
         go_wp2_with fail
         go_roundw
         case rel=>exact ⟨j+1,_,dn++[ps],rr,g2,HJ1.out.1,by go_num,HDL.out,HGD2.out,HS9.out,HQ2.out,HGL2.out⟩
         case measure=>simp [intOf];omega
      ·have i1:decide ((j:Int)<(n:Int))=false:=decide_eq_false (by omega);have i2:¬(j:Int)<(n:Int):=by omega
       rw [show n-j=0 by omega] at hq;have hge:=ssQ_end hq;subst hge;have hgf:=hgl.2 _ _ rfl;rw [List.append_nil] at hgf;have hfin:=HG2.out dn rs hgf;have HF:=zz hfin;obtain ⟨b1,o1,c1,hRow,_⟩:=hS.rd;have y0:wr.cell? ⟨R,0,none⟩=some (.slice (some ⟨b1,o1,none⟩) rs.length c1):=hRow.cell 0;have x0:wr.cell? ⟨C,0,none⟩=some (.pointer (some ⟨X,0,none⟩)):=hS.row.cell 0;have x1:wr.cell? ⟨C,1,none⟩=some v:=hS.row.cell 1;have hcs:=cntQ_small hgd;have hcs2:cntQ dn<=4611686018427387904:=by omega
       obtain ⟨Pv,cv,hvv,-⟩:=ownq_slice hS.own;subst hvv;have HCT:=zz (count_prog (.pointer (some ⟨X,0,none⟩)) rfl C Pv cv dn wr hS.own hcs2 (by omega))
       by_cases hrs:rs=[]
       ·subst hrs;have q1:((([]:List UInt8).length:Int)==0)=true:=rfl
        by_cases hcn:cntQ dn<=65536
        ·have HO:=zz (hfin.2 rfl hcn);have HXC:=zz (show wr.cell? ⟨C,0,none⟩=some (.pointer (some ⟨X,0,none⟩))/\wr.cell? ⟨C,1,none⟩=some (.slice Pv dn.length cv) from ⟨x0,x1⟩);have hCl:=hS.row.lt;generalize cntQ dn=K at *;have q2:decide ((K:Int)<=65536)=true:=decide_eq_true (by omega);obtain ⟨dl,hdl2⟩:∃dl,dn.length=dl:=⟨_,rfl⟩;have HDL2:=zz hdl2;clear hS hgd hgl hq hdl hgf hfin hRow hcs hcs2;rw [hdl2] at HCT x1 HXC
         try rw [hdl2]
         clear hdl2
         go_wp2_with fail
         refine HCT.out.mono ?_;rintro e w8 ⟨rfl,hb8⟩;have z0:w8.cell? ⟨C,0,none⟩=some (.pointer (some ⟨X,0,none⟩)):=(hb8.cell hCl).trans HXC.out.1;have z1:w8.cell? ⟨C,1,none⟩=some (.slice Pv dl cv):=(hb8.cell hCl).trans HXC.out.2;have hz8:=HS.out.z.below hb8 HS.out.z.lt;have u0:=hz8.cell 0;have u1:=hz8.cell 1;have f0:=hz8.frozen 0;have f1:=hz8.frozen 1;have HZ8:=zz hz8;have HB8:=zz hb8;clear hz8 hb8 y0 x0 x1
         go_wp2_with (refine (blmust_yes _).mono ?_;rintro e w9 ⟨rfl,rfl⟩)
         (try simp only [Exit.inBlock,Exit.then])
         refine bodyPost_ret (ret_content rfl _ _ _ _ rfl (put2_row HZ8.out _ _) rfl) rfl ?_;have:=HS.out.fin HB8.out HCC.out hsz2 hR6l hRB HBB2.out HI6.out HO.out;rw [HDL2.out] at this;exact this
        ·have HO:=zz (hfin.1 (.inr (by omega)));generalize cntQ dn=K at *;have q2:decide ((K:Int)<=65536)=false:=decide_eq_false (by omega);have q3:decide (K<=65536)=false:=decide_eq_false (by omega);have q4:¬K<=65536:=hcn;clear hS hgd hgl hq hdl hgf hfin hRow hcs hcs2 HF
         go_wp2_with fail
         refine HCT.out.mono ?_;rintro e w8 ⟨rfl,hb8⟩
         go_wp2_with (refine (blmust_no _).mono ?_;rintro e w9 ⟨rfl,rfl⟩)
         exact ⟨rfl,HS.out.bel.trans (hb8.mono HS.out.bel.size),.inr ⟨HO.out,rfl⟩⟩
       ·have HO:=zz (hfin.1 (.inl hrs));have q1:((rs.length:Int)==0)=false:=by
         rw [beq_eq_false_iff_ne];intro e;exact hrs (List.length_eq_zero_iff.1 (by omega))
        clear hS hgd hgl hq hdl hgf hfin hRow hcs hcs2 HF HCT hrs
        go_wp2_with (refine (blmust_no _).mono ?_;rintro e w9 ⟨rfl,rfl⟩)
        exact ⟨rfl,HS.out.bel,.inr ⟨HO.out,rfl⟩⟩
  ·have HO:=zz (HMG.out (.inr hm));have q0:=mag_ne hm;clear HMG HRS hf4 hm hl4
   go_wp2_with fail
   refine (show Calls Tryz.prog 82 #[.pointer (some ⟨R,0,none⟩),.int .i64 4] w3 _ from HT.out).mono ?_;rintro e w4 ⟨P4,c4,rfl,_,hB4,hR4,ht4⟩;have k4:(convert 24 9 (.slice P4 4 c4)).run Tryz.prog w4=.ok (.string (txt (f.take 4))) w4:=by
    have:=conv_bys w4 P4 (f.take 4) c4 hB4;rw [HL4.out] at this;exact this
   rw [HL4.out];have HW4:=zz (Two.below HW3.out ht4 HW3.out.size (by omega) (by omega));clear hB4 hR4 ht4 HT HR;generalize txt (f.take 4)=T at *
   go_wp2_with (refine (blmust_no _).mono ?_;rintro e w5 ⟨rfl,rfl⟩)
   exact ⟨rfl,HW4.out,.inr ⟨HO.out,rfl⟩⟩
 ·have HO:=zz (HMG.out (.inl (by omega)));have HT:=zz (show Calls Tryz.prog 82 #[.pointer (some ⟨R,0,none⟩),.int .i64 4] w3 _ from take_no HR.out 4 (by omega));clear HMG HRS hf4
  go_wp2_with fail
  refine HT.out.mono ?_;rintro e w5 ⟨rfl,rfl⟩
  go_wp2_with fail
  exact ⟨rfl,HW3.out,.inr ⟨HO.out,rfl⟩⟩
end Go.Proofs.YtgdmcnoogacdaaaGreatDoor
