/- In one text, written by lotify.py: BlAs, BlDoor. -/
import Derived.Test.YtgdmcnoogacdaaaGreatDoorBlLotA
import Derived.Stop.Asserts
import Derived.Test.YtgdmcnoogacdaaaGreatDoorCards
import Derived.LaidLaws
import Derived.LaidHandle
namespace Go.Proofs.YtgdmcnoogacdaaaGreatDoor
open Go.RowKit Go.Extern.Stop Go.Stop Go.Extern
set_option linter.unusedVariables false
def Door(w:World):Prop:=w.cell? ⟨0,0,none⟩=some (.iface 227 (.agg #[.pointer (some ⟨2,140,none⟩)]))
theorem Door.lt{w:World}(h:Door w):0<w.heap.size:=by
 rcases Nat.eq_zero_or_pos w.heap.size with h0|h1
 ·unfold Door at h;simp [World.cell?,h0] at h
 ·exact h1
theorem Door.below{w w':World}(h:Door w)(hb:Below w.heap.size w w'):Door w':=(hb.cell (p:=⟨0,0,none⟩) h.lt).trans h
theorem Door.alloc{w:World}(h:Door w)(o:Obj):Door (w.alloc o):=h.below (below_one w o)
theorem as_valueOfP(t:Nat)(w:World):(ReflectliteValue.unpack (.iface 143 (.pointer (some ⟨t,0,none⟩)))).run Tryz.prog w
 = .ok (.agg #[.pointer (some ⟨2,143,none⟩),.pointer (some ⟨w.heap.size,0,none⟩),.int .u64 150]) (w.alloc (.cells #[.pointer (some ⟨t,0,none⟩)] 143)):=by kernel_rfl
theorem as_typeP(a:Addr)(w:World):(ReflectliteValue.methodAny (ReflectliteValue.valueError "reflectlite.Value.Type" 0) (fun t _ _ _=>ReflectliteType.toType t) #[.agg #[.pointer (some ⟨2,143,none⟩),.pointer (some a),.int .u64 150]]).run Tryz.prog w
 = .ok (.iface 227 (.agg #[.pointer (some ⟨2,143,none⟩)])) w:=by kernel_rfl
theorem as_mKind(h:Value)(w:World):(Go.method 480 227 (.agg #[h]) "Kind").run Tryz.prog w=.ok (285,h) w:=by kernel_rfl
theorem as_kindP(w:World):((ReflectliteType.abiMethod fun t=>(fun a:Nat=>Value.int IntKind.u8 (a:Int)) <$> Rtype.kind t) #[.pointer (some ⟨2,143,none⟩)]).run Tryz.prog w=.ok (.int .u8 22) w:=by kernel_rfl
theorem as_kindB(w:World):((ReflectliteType.abiMethod fun t=>(fun a:Nat=>Value.int IntKind.u8 (a:Int)) <$> Rtype.kind t) #[.pointer (some ⟨2,138,none⟩)]).run Tryz.prog w=.ok (.int .u8 2) w:=by kernel_rfl
theorem as_rlm(z:Sem Value)(f:TypeId->Addr->Nat->Nat->Sem Value)(v:Value):
 ReflectliteValue.method z f #[v]=(do match <-ReflectliteValue.parts v with|none=>z|some (t,a,fl)=>f t a fl (fl%32)):=rfl
theorem as_partsP(a:Addr)(w:World):(ReflectliteValue.parts (.agg #[.pointer (some ⟨2,143,none⟩),.pointer (some a),.int .u64 150])).run Tryz.prog w=.ok (some (143,a,150)) w:=by kernel_rfl
theorem as_isNilP(a p:Addr)(W:World)(ha:W.cell? a=some (.pointer (some p))):
 (ReflectliteValue.method (ReflectliteValue.valueError "reflectlite.Value.IsNil" 0) ReflectliteValue.isNil #[.agg #[.pointer (some ⟨2,143,none⟩),.pointer (some a),.int .u64 150]]).run Tryz.prog W=.ok (.bool false) W:=by
 rw [as_rlm];simp only [Sem.run_bind,as_partsP,Result.andThen];simp [ReflectliteValue.isNil,loadVar,isAgg,underlying,Tryz.underlying143,ha,Result.andThen]
theorem as_mElem(h:Value)(w:World):(Go.method 480 227 (.agg #[h]) "Elem").run Tryz.prog w=.ok (295,.agg #[h]) w:=by kernel_rfl
theorem as_mImpl(h:Value)(w:World):(Go.method 480 227 (.agg #[h]) "Implements").run Tryz.prog w=.ok (296,.agg #[h]) w:=by kernel_rfl
theorem as_mAssign(h:Value)(w:World):(Go.method 480 227 (.agg #[h]) "AssignableTo").run Tryz.prog w=.ok (293,.agg #[h]) w:=by kernel_rfl
theorem as_elemP(w:World):(ReflectliteType.method ReflectliteType.elem #[.agg #[.pointer (some ⟨2,143,none⟩)]]).run Tryz.prog w=.ok (.iface 227 (.agg #[.pointer (some ⟨2,138,none⟩)])) w:=by kernel_rfl
theorem as_implB(w:World):(ReflectliteType.relation "Implements" ReflectliteType.implements_ #[.agg #[.pointer (some ⟨2,138,none⟩)],.iface 227 (.agg #[.pointer (some ⟨2,140,none⟩)])]).run Tryz.prog w=.ok (.bool true) w:=by kernel_rfl
theorem as_typeOfB(v:Value)(w:World):(ReflectliteType.typeOf #[.iface 138 v]).run Tryz.prog w=.ok (.iface 227 (.agg #[.pointer (some ⟨2,138,none⟩)])) w:=by kernel_rfl
theorem as_assignB(w:World):(ReflectliteType.relation "AssignableTo" ReflectliteType.assignableTo #[.agg #[.pointer (some ⟨2,138,none⟩)],.iface 227 (.agg #[.pointer (some ⟨2,138,none⟩)])]).run Tryz.prog w=.ok (.bool true) w:=by kernel_rfl
theorem as_valueOfB(n:Int)(w:World):(ReflectliteValue.unpack (.iface 138 (.int .i64 n))).run Tryz.prog w
 = .ok (.agg #[.pointer (some ⟨2,138,none⟩),.pointer (some ⟨w.heap.size,0,none⟩),.int .u64 130]) (w.alloc (.cells #[.int .i64 n] 138)):=by kernel_rfl
theorem as_elemOfP(w:World):(Rtype.elem? 143).run Tryz.prog w=.ok (some 138) w:=by kernel_rfl
theorem as_mkB(p:Addr)(w:World):(ReflectliteValue.mk 138 p ReflectliteValue.flagAddr).run Tryz.prog w=.ok (.agg #[.pointer (some ⟨2,138,none⟩),.pointer (some p),.int .u64 386]) w:=by kernel_rfl
theorem as_elemV(a p:Addr)(W:World)(ha:W.cell? a=some (.pointer (some p))):
 (ReflectliteValue.method (ReflectliteValue.valueError "reflectlite.Value.Elem" 0) ReflectliteValue.elem #[.agg #[.pointer (some ⟨2,143,none⟩),.pointer (some a),.int .u64 150]]).run Tryz.prog W
   = .ok (.agg #[.pointer (some ⟨2,138,none⟩),.pointer (some p),.int .u64 386]) W:=by
 rw [as_rlm];simp only [Sem.run_bind,as_partsP,Result.andThen];simp [ReflectliteValue.elem,loadVar,isAgg,underlying,Tryz.underlying143,ha,Result.andThen,as_elemOfP,as_mkB]
theorem as_rls(v x:Value):ReflectliteValue.set #[v,x]=(do
 let (some (dst,a,fl),some (src,b,_)):=(<-ReflectliteValue.parts v,<-ReflectliteValue.parts x)
  | unsupported (.noEntry "extern/(internal/reflectlite.Value).Set.zeroValue")
 if fl/ReflectliteValue.flagAddr%2==0 then unsupported (.noEntry "extern/(internal/reflectlite.Value).Set.unaddressable")
 let val <-loadVar src b
 if <-Rtype.directlyAssignable dst src then storeVar dst a val
 else if <-Rtype.implements dst src then
  if (<-Rtype.kind src)==20 then
   match val with
   | .nilIface=>unsupported (.noEntry "extern/reflectlite: a nil value of one interface type handed on as a value of another")
   | _=>storeVar dst a val
  else storeVar dst a (.iface src val)
 else panicString ("reflectlite.Set: value of type " ++ (<-Rtype.spelt src) ++ " is not assignable to type " ++ (<-Rtype.spelt dst))
 pure (.tuple #[])):=rfl
theorem as_partsA(a:Addr)(w:World):(ReflectliteValue.parts (.agg #[.pointer (some ⟨2,138,none⟩),.pointer (some a),.int .u64 386])).run Tryz.prog w=.ok (some (138,a,386)) w:=by kernel_rfl
theorem as_partsB(a:Addr)(w:World):(ReflectliteValue.parts (.agg #[.pointer (some ⟨2,138,none⟩),.pointer (some a),.int .u64 130])).run Tryz.prog w=.ok (some (138,a,130)) w:=by kernel_rfl
theorem as_direct(w:World):(Rtype.directlyAssignable 138 138).run Tryz.prog w=.ok true w:=by kernel_rfl
theorem as_set(ta b:Addr)(n:Int)(old:Value)(W:World)(hb:W.cell? b=some (.int .i64 n))(ht:W.cell? ta=some old)(hf:W.frozen? ta=false):
 (ReflectliteValue.set #[.agg #[.pointer (some ⟨2,138,none⟩),.pointer (some ta),.int .u64 386],.agg #[.pointer (some ⟨2,138,none⟩),.pointer (some b),.int .u64 130]]).run Tryz.prog W
   = .ok (.tuple #[]) (W.setCell ta (.int .i64 n)):=by
 rw [as_rls];simp only [Sem.run_bind,as_partsA,as_partsB,Result.andThen];simp [ReflectliteValue.flagAddr,loadVar,isAgg,underlying,Tryz.underlying138,hb,Result.andThen,as_direct,storeVar,Value.cells,storeCells,Addr.add];rw [run_store Tryz.prog W ta _ _ (by rfl)];simp [ht,hf]
set_option maxHeartbeats 4000000 in
theorem as_hit(n:Int)(t:Nat)(old:Value)(w:World)(hg:Door w)(ht:Row w t 138 #[old]):
 Calls Tryz.prog 79 #[.iface 138 (.int .i64 n),.iface 143 (.pointer (some ⟨t,0,none⟩))] w fun ev w'=>ev=.returned (.bool true)/\w'=((((w.alloc (.cells #[.pointer (some ⟨t,0,none⟩)] 143)).alloc (.cells #[.pointer (some ⟨2,143,none⟩),.pointer (some ⟨w.heap.size,0,none⟩),.int .u64 150] 191)).alloc (.cells #[.pointer (some ⟨2,143,none⟩),.pointer (some ⟨w.heap.size,0,none⟩),.int .u64 150] 191)).alloc (.cells #[.int .i64 n] 138)).setCell ⟨t,0,none⟩ (.int .i64 n):=by
 have ht0:w.cell? ⟨t,0,none⟩=some old:=ht.cell 0;have hf0:w.frozen? ⟨t,0,none⟩=false:=ht.frozen 0;have hlt:=hg.lt;unfold Door at hg;have htl:t<w.heap.size:=ht.lt;have h6:=@run_callFunc_extern Tryz.prog 117 _ (fun args=>ReflectliteValue.unpack (args.getD 0 (.tuple #[]))) Tryz.func117 (by kernel_rfl) (by kernel_rfl) (by kernel_rfl) (by kernel_rfl);have h7:=@run_callFunc_extern Tryz.prog 118 _ (ReflectliteValue.methodAny (ReflectliteValue.valueError "reflectlite.Value.Type" 0) (fun t _ _ _=>ReflectliteType.toType t)) Tryz.func118 (by kernel_rfl) (by kernel_rfl) (by kernel_rfl) (by kernel_rfl);have h8:=@run_callFunc_extern Tryz.prog 119 _ (ReflectliteValue.method (ReflectliteValue.valueError "reflectlite.Value.IsNil" 0) ReflectliteValue.isNil) Tryz.func119 (by kernel_rfl) (by kernel_rfl) (by kernel_rfl) (by kernel_rfl);have h27:=@run_callFunc_extern Tryz.prog 285 _ (ReflectliteType.abiMethod fun t=>do pure (.int .u8 (<-Rtype.kind t))) Tryz.func285 (by kernel_rfl) (by kernel_rfl) (by kernel_rfl) (by kernel_rfl);have h37:=@run_callFunc_extern Tryz.prog 295 _ (ReflectliteType.method ReflectliteType.elem) Tryz.func295 (by kernel_rfl) (by kernel_rfl) (by kernel_rfl) (by kernel_rfl);have h38:=@run_callFunc_extern Tryz.prog 296 _ (ReflectliteType.relation "Implements" ReflectliteType.implements_) Tryz.func296 (by kernel_rfl) (by kernel_rfl) (by kernel_rfl) (by kernel_rfl);have h10:=@run_callFunc_extern Tryz.prog 152 _ ReflectliteType.typeOf Tryz.func152 (by kernel_rfl) (by kernel_rfl) (by kernel_rfl) (by kernel_rfl);have h35:=@run_callFunc_extern Tryz.prog 293 _ (ReflectliteType.relation "AssignableTo" ReflectliteType.assignableTo) Tryz.func293 (by kernel_rfl) (by kernel_rfl) (by kernel_rfl) (by kernel_rfl);have h11:=@run_callFunc_extern Tryz.prog 153 _ (ReflectliteValue.method (ReflectliteValue.valueError "reflectlite.Value.Elem" 0) ReflectliteValue.elem) Tryz.func153 (by kernel_rfl) (by kernel_rfl) (by kernel_rfl) (by kernel_rfl);have h12:=@run_callFunc_extern Tryz.prog 154 _ ReflectliteValue.set Tryz.func154 (by kernel_rfl) (by kernel_rfl) (by kernel_rfl) (by kernel_rfl);have tO:=as_typeOfB;have mA:=as_mAssign;have a25:=as_assignB;have v25:=as_valueOfB;have f6:=as_valueOfP;have f7:=as_typeP;have mK:=as_mKind;have mE:=as_mElem;have mI:=as_mImpl;have k27:=as_kindP;have k25:=as_kindB;have e27:=as_elemP;have i25:=as_implB;have n8:=as_isNilP ⟨w.heap.size,0,none⟩ ⟨t,0,none⟩ ((w.alloc (.cells #[.pointer (some ⟨t,0,none⟩)] 143)).alloc (.cells #[.pointer (some ⟨2,143,none⟩),.pointer (some ⟨w.heap.size,0,none⟩),.int .u64 150] 191)) (by simp);have hg2:((w.alloc (.cells #[.pointer (some ⟨t,0,none⟩)] 143)).alloc (.cells #[.pointer (some ⟨2,143,none⟩),.pointer (some ⟨w.heap.size,0,none⟩),.int .u64 150] 191)).cell? ⟨0,0,none⟩=some (.iface 227 (.agg #[.pointer (some ⟨2,140,none⟩)])):=by
  rw [World.cell?_alloc_lt _ _ ⟨0,0,none⟩ (by simp),World.cell?_alloc_lt _ _ ⟨0,0,none⟩ hlt];exact hg
 have el:=as_elemV ⟨w.heap.size,0,none⟩ ⟨t,0,none⟩ (((w.alloc (.cells #[.pointer (some ⟨t,0,none⟩)] 143)).alloc (.cells #[.pointer (some ⟨2,143,none⟩),.pointer (some ⟨w.heap.size,0,none⟩),.int .u64 150] 191)).alloc (.cells #[.pointer (some ⟨2,143,none⟩),.pointer (some ⟨w.heap.size,0,none⟩),.int .u64 150] 191)) (by rw [World.cell?_alloc_lt _ _ ⟨w.heap.size,0,none⟩ (by simp;omega)];simp);have st:=as_set ⟨t,0,none⟩ ⟨w.heap.size+1+1+1,0,none⟩ n old ((((w.alloc (.cells #[.pointer (some ⟨t,0,none⟩)] 143)).alloc (.cells #[.pointer (some ⟨2,143,none⟩),.pointer (some ⟨w.heap.size,0,none⟩),.int .u64 150] 191)).alloc (.cells #[.pointer (some ⟨2,143,none⟩),.pointer (some ⟨w.heap.size,0,none⟩),.int .u64 150] 191)).alloc (.cells #[.int .i64 n] 138))
  (by rw [World.cell?_alloc_at _ _ _ _ (by simp)];rfl)
  (by rw [World.cell?_alloc_lt _ _ ⟨t,0,none⟩ (by simp;omega),World.cell?_alloc_lt _ _ ⟨t,0,none⟩ (by simp;omega),World.cell?_alloc_lt _ _ ⟨t,0,none⟩ (by simp;omega),World.cell?_alloc_lt _ _ ⟨t,0,none⟩ htl];exact ht0)
  (by rw [World.frozen?_alloc_old _ _ ⟨t,0,none⟩ (by simp;omega),World.frozen?_alloc_old _ _ ⟨t,0,none⟩ (by simp;omega),World.frozen?_alloc_old _ _ ⟨t,0,none⟩ (by simp;omega),World.frozen?_alloc_old _ _ ⟨t,0,none⟩ (Nat.ne_of_lt htl)];exact hf0)
 clear ht hg;go_enter Tryz.func79,Tryz.ntmps79
 go_wp2
 refine wp_loop_rounds 1 ?_;rw [rounds_succ]
 go_wp2
 go_ret;exact ⟨rfl,rfl⟩
end Go.Proofs.YtgdmcnoogacdaaaGreatDoor

namespace Go.Proofs.YtgdmcnoogacdaaaGreatDoor
open Go.RowKit
theorem bl_et:Tryz.prog.globalNamed "errors.errorType" = some 0:=by kernel_rfl
theorem bl_rt:(Tryz.prog.cutTypes.find? (·.1 == "internal/reflectlite.rtype")).map (·.2)=some 227:=by kernel_rfl
theorem bl_oneRow:((List.range Tryz.prog.types.size).filter fun t=>Tryz.prog.rowNamed t [101,114,114,111,114])=[140]:=by kernel_rfl
theorem door_of{W:World}(h:laidMetH Tryz.prog Rows.blockNilRow.laid W):Door W:=by
 have h':laidMet Tryz.prog [] W/\handlesMet Tryz.prog Rows.blockNilRow.laid W:=h;obtain ⟨name,u,ty,e1,e2,e3,e4,e5⟩:=h'.2 _ (List.mem_singleton.2 rfl);have en:name=[101,114,114,111,114]:=(Option.some.inj e1).symm;subst en;obtain rfl:=Option.some.inj (bl_rt.symm.trans e2);have hm:ty∈(List.range Tryz.prog.types.size).filter fun t=>Tryz.prog.rowNamed t [101,114,114,111,114]:=List.mem_filter.2 ⟨List.mem_range.2 e3,e4⟩
 rw [bl_oneRow] at hm;obtain rfl:=List.mem_singleton.1 hm;have hh:typeHandle Tryz.prog 140=.pointer (some ⟨2,140,none⟩):=by kernel_rfl
 rw [hh] at e5;unfold Door;simpa using World.var?_cell bl_et e5 0
end Go.Proofs.YtgdmcnoogacdaaaGreatDoor
