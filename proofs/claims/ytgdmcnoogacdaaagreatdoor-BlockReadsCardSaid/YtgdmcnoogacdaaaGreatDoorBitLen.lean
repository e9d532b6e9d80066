/- How many digits a number has, as the program asks it: every number of 64 bits. -/
import Derived.Test.YtgdmcnoogacdaaaGreatDoorChecked
import Derived.Test.YtgdmcnoogacdaaaGreatDoorBitMath
import Derived.Lib.Slices
import Derived.Lib.Strings
import Derived.Lib.Small
import Derived.Lib.Walk
import Derived.Lib.BitFns
namespace Go.Proofs.YtgdmcnoogacdaaaGreatDoor.Ch
set_option linter.unusedVariables false
theorem bitLen_digs(x:Nat)(h:x<=18446744073709551615):Lib.bitLen x=digs x:=by
 have hd:=digs_64 h;have h1:Lib.bitLen x<=digs x:=Lib.bitLen_le x (digs x) hd (digs_le.1 (Nat.le_refl _));have h2:∀f y,y<2^f->digs y<=Lib.bitLenAux f y:=by
  intro f
  induction f with
  | zero=>intro y hy;rw [show y=0 from by omega];simp [digs]
  | succ f ih =>
    intro y hy;unfold Lib.bitLenAux
    by_cases h0:y=0
    ·subst h0;simp [digs]
    ·have:=ih (y/2) (by rw [Nat.pow_succ] at hy;omega);have e:=digs_half h0;simp only [h0,if_false]
     first|omega|(simp;omega)
 have:=h2 64 x (by omega);unfold Lib.bitLen;unfold Lib.bitLen at h1;omega
set_option maxHeartbeats 4000000 in
set_option maxRecDepth 100000 in
theorem len64_prog(u:Nat)(w:World)(h1:u<=18446744073709551615):
 Calls Tryz.prog 146 #[.int .u64 u] w fun e w'=>e=.returned (.int .i64 (digs u))/\w=w':=by
 rw [<-bitLen_digs u h1];obtain ⟨x,hx,h0,hx1⟩:∃x:Int,(u:Int)=x/\0<=x/\x<=18446744073709551615:=⟨u,rfl,by omega,by omega⟩;rw [show u=x.toNat from by omega,show ((x.toNat:Nat):Int)=x from by omega];clear hx h1;go_enter Tryz.func146,Tryz.ntmps146
 go_wp2
 all_goals (go_ret;refine ⟨congrArg Ending.returned (congrArg (Value.int IntKind.i64) ?_),rfl⟩)
 all_goals first
  | (rw [Lib.len8_of (x/4294967296/65536/256%256) (by omega) (by omega)]
     have e:(x/4294967296/65536/256%256).toNat=x.toNat/72057594037927936:=by omega
     have l:=Lib.bitLen_le8' (x/4294967296/65536/256%256) (by omega) (by omega);have s:=Lib.bitLen_shift56 x.toNat (by omega) (by omega);rw [e] at l ⊢;omega)
  | (rw [Lib.len8_of (x/4294967296/65536%256) (by omega) (by omega)]
     have e:(x/4294967296/65536%256).toNat=x.toNat/281474976710656:=by omega
     have l:=Lib.bitLen_le8' (x/4294967296/65536%256) (by omega) (by omega);have s:=Lib.bitLen_shift48 x.toNat (by omega) (by omega);rw [e] at l ⊢;omega)
  | (rw [Lib.len8_of (x/4294967296/256%256) (by omega) (by omega)]
     have e:(x/4294967296/256%256).toNat=x.toNat/1099511627776:=by omega
     have l:=Lib.bitLen_le8' (x/4294967296/256%256) (by omega) (by omega);have s:=Lib.bitLen_shift40 x.toNat (by omega) (by omega);rw [e] at l ⊢;omega)
  | (rw [Lib.len8_of (x/4294967296%256) (by omega) (by omega)]
     have e:(x/4294967296%256).toNat=x.toNat/4294967296:=by omega
     have l:=Lib.bitLen_le8' (x/4294967296%256) (by omega) (by omega);have s:=Lib.bitLen_shift32 x.toNat (by omega) (by omega);rw [e] at l ⊢;omega)
  | (rw [Lib.len8_of (x/65536/256%256) (by omega) (by omega)]
     have e:(x/65536/256%256).toNat=x.toNat/16777216:=by omega
     have l:=Lib.bitLen_le8' (x/65536/256%256) (by omega) (by omega);have s:=Lib.bitLen_shift24 x.toNat (by omega) (by omega);rw [e] at l ⊢;omega)
  | (rw [Lib.len8_of (x/65536%256) (by omega) (by omega)]
     have e:(x/65536%256).toNat=x.toNat/65536:=by omega
     have l:=Lib.bitLen_le8' (x/65536%256) (by omega) (by omega);have s:=Lib.bitLen_shift16 x.toNat (by omega) (by omega);rw [e] at l ⊢;omega)
  | (rw [Lib.len8_of (x/256%256) (by omega) (by omega)]
     have e:(x/256%256).toNat=x.toNat/256:=by omega
     have l:=Lib.bitLen_le8' (x/256%256) (by omega) (by omega);have s:=Lib.bitLen_shift8 x.toNat (by omega) (by omega);rw [e] at l ⊢;omega)
  | (rw [Lib.len8_of (x%256) (by omega) (by omega)]
     have e:(x%256).toNat=x.toNat:=by omega
     have l:=Lib.bitLen_le8' (x%256) (by omega) (by omega);rw [e] at l ⊢;omega)
end Go.Proofs.YtgdmcnoogacdaaaGreatDoor.Ch
