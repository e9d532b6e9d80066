/- Any bytes are the block that the document says, or none: BlockReads' walk. -/
import Derived.Test.YtgdmcnoogacdaaaGreatDoorBlTellsC
import Derived.Test.YtgdmcnoogacdaaaGreatDoorBlDocO
import Derived.Test.YtgdmcnoogacdaaaGreatDoorBlFind0
import Derived.Test.YtgdmcnoogacdaaaGreatDoorBlLives
namespace Go.Proofs.YtgdmcnoogacdaaaGreatDoor
open Go.RowKit Go.Maps
open Ch
set_option linter.unusedVariables false
set_option linter.unusedSimpArgs false
set_option maxRecDepth 100000
theorem refopen_yes(A:Option Addr)(b:List UInt8)(c:Nat)(hbc:b.length<=c)(hbl:b.length<=140737488355328)(w:World)(hA:Bys w A b){S:List Ser}(h1:blChk S=0)(h2:blL S=b):
 Calls Tryz.prog 19 #[.slice A b.length c] w fun e w'=>(∃P d,e=.returned (.tuple #[.slice P S.length d,.int .i64 0])/\S.length<=d/\Sers w' P S/\∀s∈S,SerFit s)/\Below w.heap.size w w':=by
 refine (doc_prog A b c hbc hbl w hA (o:=some S) (by rw [<-h2];exact openR_back h1)).mono ?_;rintro e w' ⟨hb,⟨h,_⟩|⟨S',P,d,h0,_,_,rfl,hd,ho,hf⟩⟩
 ·exact absurd ⟨h1,h2⟩ (h S rfl)
 ·obtain rfl:=Option.some.inj h0;exact ⟨⟨P,d,rfl,hd,ho,hf⟩,hb⟩
theorem refopen_no(A:Option Addr)(b:List UInt8)(c:Nat)(hbc:b.length<=c)(hbl:b.length<=140737488355328)(w:World)(hA:Bys w A b)(hno:∀S,blChk S=0->blL S≠b):
 Calls Tryz.prog 19 #[.slice A b.length c] w fun e w'=>e=.returned (.tuple #[.slice none 0 0,.int .i64 5])/\Below w.heap.size w w':=by
 obtain ⟨o,h⟩:=openR_total b;refine (doc_prog A b c hbc hbl w hA h).mono ?_;rintro e w' ⟨hb,⟨_,h⟩|⟨S',_,_,h0,h1,h2,_⟩⟩
 ·exact ⟨h,hb⟩
 ·exact absurd h2 (hno S' h1)
set_option maxHeartbeats 8000000 in
theorem blockReads_walk(w:World)(hD:Door w)(A:Option Addr)(b:List UInt8)(c:Nat)(hA:Bys w A b)(hbr:b.length<=140737488351232)(hbc:b.length<=c)
 (lo:Int)(b2:-9223372036854775808<=lo/\lo<=9223372036854775807)(hi:Int)(b3:-9223372036854775808<=hi/\hi<=9223372036854775807):
 Calls Tryz.prog 5 #[.slice A b.length c,.int .i64 lo,.int .i64 hi] w fun e w'=>e=.returned (.bool true)/\Below w.heap.size w w':=by
 have HX:=zz (fun x hx=>blLives_true x hx);have HD:=zz hD;have HA:=zz (fun x (hx:Below w.heap.size w x)=>(show Bys x A b from hA.below hx));have HBR:=zz hbr;have HE:=zz (own_empty (base:=w.heap.size) (Row.new w 5 #[]) (Nat.le_refl _));have HB0:=zz (below_one w (.cells #[] 5));clear hD
 by_cases hS:∃S,blChk S=0/\blL S=b
 ·obtain ⟨S,hz,hb⟩:=hS;have HO:=zz (fun B d (x:World) (hb':Bys x B b) (hd:b.length<=d) (hx:Door x)=>open_yes B b d hd (by have:=HBR.out;omega) x hb' hx hz hb);have HRO:=zz (fun (x:World) (hx:Below w.heap.size w x)=>refopen_yes A b c hbc (by have:=HBR.out;omega) x (HA.out x hx) hz hb);have HT:=zz (fun X bs (x:World) P d (h:BlkAt x bs X S) (hs:Sers x P S) (hd:S.length<=d) (hf:∀s∈S,SerFit s)=>tells_core h hz P d hs hf hd 0 (by omega) lo hi (.slice none 0 0) [] 2 (by simp)
   (fun y hy=>(blfind_none0 (h.below hy)).mono fun e w' k=>(show ∃P c,e=.returned (.tuple #[.slice P ([]:List Int).length c,.int .i64 2])/\Zi w' P []/\Below y.heap.size y w' from ⟨none,0,k.1,.inl rfl,k.2⟩))
   (fun P d y _ _=>(reffind_none0 _ y).mono fun e w' k=>(show ∃P c,e=.returned (.tuple #[.slice P ([]:List Int).length c,.int .i64 2])/\Zi w' P []/\Below y.heap.size y w' from ⟨none,0,k.1,.inl rfl,k.2⟩)))
  clear hA hz hb;obtain ⟨L,hL⟩:∃L,b.length=L:=⟨_,rfl⟩;have HL:=zz hL;rw [hL] at HO HRO hbr hbc ⊢;clear hL;go_enter Tryz.func5,Tryz.ntmps5
  go_wp2_with (at_builtin;refine app_u8 rfl (.tmp 12) (.tmp 13) rfl w.heap.size _ [] rfl HE.out A b c (by rw [HL.out];rfl) (HA.out _ HB0.out) (by have:=HBR.out;simp only [List.length_nil];omega) HB0.out.size ?_;intro v3 w3 ho3 hb3 _;rw [List.nil_append] at ho3;have HB3:=zz (HB0.out.trans hb3);obtain ⟨P3,d3,hv3,hP3,_,hd3,_⟩:=own_cap ho3;have HO3:=zz (HO.out P3 d3 w3 hP3 (by rw [<-HL.out];exact hd3) (HD.out.below HB3.out));rw [HL.out] at hv3;subst hv3;clear ho3 hb3 hP3 hd3)
  refine HO3.out.mono ?_;rintro e w4 ⟨hb4,X,rfl,hX4⟩;have HB4:=zz (below_then HB3.out hb4);have HX4:=zz hX4;clear hb4 hX4
  go_wp2_with fail
  refine (HRO.out _ HB4.out).mono ?_;rintro e w5 ⟨⟨P5,d5,rfl,hd5,hS5,hf5⟩,hb5⟩;have HT5:=zz (HT.out X _ w5 P5 d5 (HX4.out.below hb5) hS5 hd5 hf5);have HB5:=zz (below_then HB4.out hb5);clear hb5 hd5 hS5 hf5;generalize S.length=nS at *
  go_wp2_with fail
  refine HT5.out.mono ?_;rintro e w6 ⟨rfl,hb6⟩;have HB6:=zz (below_then HB5.out hb6);clear hb6
  go_wp2_with fail
  refine (HX.out _ (HD.out.below HB6.out)).mono ?_;rintro e w7 ⟨rfl,hb7⟩;have HB7:=zz (below_then HB6.out hb7);clear hb7
  go_wp2
  go_ret;exact ⟨rfl,HB7.out⟩
 ·have hno:∀S,blChk S=0->blL S≠b:=fun S h1 h2=>hS ⟨S,h1,h2⟩
  have HO:=zz (fun B d (x:World) (hb':Bys x B b) (hd:b.length<=d) (hx:Door x)=>open_no B b d hd (by have:=HBR.out;omega) x hb' hx hno);have HRO:=zz (fun (x:World) (hx:Below w.heap.size w x)=>refopen_no A b c hbc (by have:=HBR.out;omega) x (HA.out x hx) hno);clear hA hno hS;obtain ⟨L,hL⟩:∃L,b.length=L:=⟨_,rfl⟩;have HL:=zz hL;rw [hL] at HO HRO hbr hbc ⊢;clear hL;go_enter Tryz.func5,Tryz.ntmps5
  go_wp2_with (at_builtin;refine app_u8 rfl (.tmp 12) (.tmp 13) rfl w.heap.size _ [] rfl HE.out A b c (by rw [HL.out];rfl) (HA.out _ HB0.out) (by have:=HBR.out;simp only [List.length_nil];omega) HB0.out.size ?_;intro v3 w3 ho3 hb3 _;rw [List.nil_append] at ho3;have HB3:=zz (HB0.out.trans hb3);obtain ⟨P3,d3,hv3,hP3,_,hd3,_⟩:=own_cap ho3;have HO3:=zz (HO.out P3 d3 w3 hP3 (by rw [<-HL.out];exact hd3) (HD.out.below HB3.out));rw [HL.out] at hv3;subst hv3;clear ho3 hb3 hP3 hd3)
  refine HO3.out.mono ?_;rintro e w4 ⟨hb4,rfl⟩;have HB4:=zz (below_then HB3.out hb4);clear hb4
  go_wp2_with fail
  refine (HRO.out _ HB4.out).mono ?_;rintro e w5 ⟨rfl,hb5⟩;have HB5:=zz (below_then HB4.out hb5);clear hb5
  go_wp2_with fail
  refine (HX.out _ (HD.out.below HB5.out)).mono ?_;rintro e w6 ⟨rfl,hb6⟩;have HB6:=zz (below_then HB5.out hb6);clear hb6
  go_wp2
  go_ret;exact ⟨rfl,HB6.out⟩
end Go.Proofs.YtgdmcnoogacdaaaGreatDoor
