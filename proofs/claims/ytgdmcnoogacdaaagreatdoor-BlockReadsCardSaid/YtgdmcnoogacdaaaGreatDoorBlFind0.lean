/- Find of no matchers: that is refused, by a block as by the document. -/
import Derived.Test.YtgdmcnoogacdaaaGreatDoorBlLotOp
namespace Go.Proofs.YtgdmcnoogacdaaaGreatDoor
open Go.RowKit Go.Maps
open Ch
set_option linter.unusedVariables false
set_option linter.unusedSimpArgs false
set_option maxRecDepth 100000
theorem idx_none0(F:Value)(w:World):Calls Tryz.prog 205 #[.slice none 0 0,F] w fun e w'=>e=.returned (.int .i64 (-1))/\Below w.heap.size w w':=by
 go_enter Tryz.func205,Tryz.ntmps205
 go_wp2_with fail
 refine wp_loop_rounds 1 ?_;rw [rounds_succ]
 go_wp2_with fail
 go_ret;exact ⟨rfl,Below.refl _ _⟩
theorem contains_none0(F:Value)(w:World):Calls Tryz.prog 174 #[.slice none 0 0,F] w fun e w'=>e=.returned (.bool false)/\Below w.heap.size w w':=by
 go_enter Tryz.func174,Tryz.ntmps174
 go_wp2_with fail
 refine (idx_none0 _ _).mono ?_;rintro e w2 ⟨rfl,hb2⟩;have HB2:=zz hb2;clear hb2
 go_wp2_with fail
 go_ret;exact ⟨rfl,HB2.out⟩
theorem all_none0(w:World):Calls Tryz.prog 131 #[.slice none 0 0,.slice none 0 0] w fun e w'=>e=.returned (.bool true)/\Below w.heap.size w w':=by
 have HB0:=zz (below_one w (.cells #[.slice none 0 0] 56));go_enter Tryz.func131,Tryz.ntmps131
 go_wp2_with (go_at_call 174;refine (contains_none0 _ _).mono ?_;rintro e w2 ⟨rfl,hb2⟩;have HB2:=zz (below_then HB0.out hb2);clear hb2)
 go_ret;exact ⟨rfl,HB2.out⟩
theorem chkall_none0(w:World):Calls Tryz.prog 95 #[.slice none 0 0] w fun e w'=>e=.returned (.int .i64 2)/\Below w.heap.size w w':=by
 go_enter Tryz.func95,Tryz.ntmps95
 go_wp2_with fail
 refine wp_loop_rounds 1 ?_;rw [rounds_succ]
 go_wp2_with fail
 refine (all_none0 _).mono ?_;rintro e w2 ⟨rfl,hb2⟩;have HB2:=zz hb2;clear hb2
 go_wp2_with fail
 go_ret;exact ⟨rfl,HB2.out⟩
theorem find_none0(I:Nat)(w:World):Calls Tryz.prog 55 #[.pointer (some ⟨I,0,none⟩),.slice none 0 0] w fun e w'=>e=.returned (.tuple #[.slice none 0 0,.int .i64 2])/\Below w.heap.size w w':=by
 go_enter Tryz.func55,Tryz.ntmps55
 go_wp2_with fail
 refine (chkall_none0 _).mono ?_;rintro e w2 ⟨rfl,hb2⟩;have HB2:=zz hb2;clear hb2
 go_wp2_with fail
 go_ret2;exact ⟨rfl,HB2.out⟩
theorem blfind_none0{w:World}{base X:Nat}{S:List Ser}(h:BlkAt w base X S):Calls Tryz.prog 25 #[.pointer (some ⟨X,0,none⟩),.slice none 0 0] w fun e w'=>e=.returned (.tuple #[.slice none 0 0,.int .i64 2])/\Below w.heap.size w w':=by
 have hf0:=fld0;have HIN:=zz (inside_prog h);clear h;go_enter Tryz.func25,Tryz.ntmps25
 go_wp2_with fail
 refine HIN.out.mono ?_;rintro e w2 ⟨I,B,P,c,rfl,hB,hI,hQ,hb2⟩;have HB2:=zz hb2;clear hI hQ hb2 hB
 go_wp2_with fail
 refine (find_none0 I _).mono ?_;rintro e w3 ⟨rfl,hb3⟩;have HB3:=zz (below_then HB2.out hb3);clear hb3
 go_wp2_with fail
 go_ret2;exact ⟨rfl,HB3.out⟩
theorem refall_none0(w:World):Calls Tryz.prog 87 #[.slice none 0 0,.slice none 0 0] w fun e w'=>e=.returned (.bool true)/\Below w.heap.size w w':=by
 go_enter Tryz.func87,Tryz.ntmps87
 go_wp2_with fail
 refine wp_loop_rounds 1 ?_;rw [rounds_succ]
 go_wp2_with fail
 go_ret;exact ⟨rfl,Below.refl _ _⟩
theorem refchkall_none0(w:World):Calls Tryz.prog 86 #[.slice none 0 0] w fun e w'=>e=.returned (.int .i64 2)/\Below w.heap.size w w':=by
 go_enter Tryz.func86,Tryz.ntmps86
 go_wp2_with fail
 refine wp_loop_rounds 1 ?_;rw [rounds_succ]
 go_wp2_with fail
 refine (refall_none0 _).mono ?_;rintro e w2 ⟨rfl,hb2⟩;have HB2:=zz hb2;clear hb2
 go_wp2_with fail
 go_ret;exact ⟨rfl,HB2.out⟩
theorem reffind_none0(V:Value)(w:World):Calls Tryz.prog 46 #[V,.slice none 0 0] w fun e w'=>e=.returned (.tuple #[.slice none 0 0,.int .i64 2])/\Below w.heap.size w w':=by
 go_enter Tryz.func46,Tryz.ntmps46
 go_wp2_with fail
 refine (refchkall_none0 _).mono ?_;rintro e w2 ⟨rfl,hb2⟩;have HB2:=zz hb2;clear hb2
 go_wp2_with fail
 go_ret2;exact ⟨rfl,HB2.out⟩
end Go.Proofs.YtgdmcnoogacdaaaGreatDoor
