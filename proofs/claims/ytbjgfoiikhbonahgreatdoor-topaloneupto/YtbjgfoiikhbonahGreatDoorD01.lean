import Derived.Test.YtbjgfoiikhbonahGreatDoorRows
import Derived.WalkKit
import Derived.ProofKit
import Derived.OpenShut
import Derived.ShutString
import Derived.ChangeOld
import Derived.Below
import Derived.WalkLawsBesides
import Derived.WalkSpells
import Derived.BigQuiet
import Derived.Deep.QuietTactic
import Derived.Laws.CopyOwn
import Derived.Laws.AppendOwnNone
import Derived.Laws.BitsAllLaws
import Derived.Laws.BytesArg
import Derived.Laws.BytesString
import Derived.Deep.RegionLaw
set_option linter.unusedVariables false
set_option linter.unusedSimpArgs false
set_option maxRecDepth 100000
set_option maxHeartbeats 4000000
set_option linter.defProp false
namespace Go.Proofs.YtbjgfoiikhbonahGreatDoor
open Go.ChangeShapes Go.WideShapes Go.ChangeAt Go.RowKit Go.Proofs.Tryz
open Value (int slice)
open IntKind (i64)
variable {A D L M Z l x y zs:List Int}{B B' N c g n:Nat}{Q:Exit->Act->World->Prop}{S:List Nat}{T e:TypeId}{a b w w' w0:World}{ad:Option Addr}{k:IntKind}{o:Oper}{ops:Array Oper}{rest:List Oper}{v:Value}
theorem E7{α:Type}(a:α):∃ b,b=a:=⟨_,rfl⟩
def Ac:=@Nat.le_refl
def Aa:=@if_neg
def Ab:=@if_pos
def Ad:=@Go.RowKit.Below.refl
def Ae:=@decide_eq_false
def Af:=@Nat.zero_le
def Ag:=@decide_eq_true
def Ah:=@Go.bodyPost_ret
def Aj:=@Go.World.block_lt_of_cell?
def Ak:=@Nat.le_trans
def Al:=@Go.cell_of_row
def Am:=@Go.heap_alloc_new
def Ai:=@List.length_append
def An:=@List.length_set
def Ao:=@Nat.zero_add
def Aq:=@Go.Value.slice.injEq
def As:=@Go.info_parts
def Ap:=@List.getElem?_eq_getElem
def Av:=@Go.run_underlying
def Ar:=@List.mem_cons
def Aw:=@List.take_of_length_le
def Ax:=@Go.World.size_alloc
def Az:=@List.range_succ
def AB:=@Go.World.ownsRow.lt
def AA:=@List.append_nil
def AN:=@Int.toNat_natCast
def AD:=@Go.results_cell_tmp
def AF:=@Go.World.cell?_of_block
def AI:=@Nat.lt_of_lt_of_le
def AO:=@Go.IntKind.wrap_i64
def AK:=@List.nil_append
def AL:=@List.mem_cons_self
def Au:=@List.getD_eq_getElem?_getD
def AC:=@List.mem_singleton
def AQ:=@of_decide_eq_true
def AH:=@Array.length_toList
def AT:=@List.cons_append
def AM:=@List.all_eq_true
def Ay:=@List.length_take
def AW:=@List.ext_getElem
def AU:=@List.mem_cons_of_mem
def AR:=@List.map_append
def AE:=@List.length_cons
def AJ:=@List.length_drop
def A5:=@List.getElem_of_mem
def A6:=@Go.World.ownsRow.alloc
def AP:=@if_true
def Ba:=@Go.Calls.quiet_of_same
def Bc:=@Go.RowKit.Below.heap_alloc
def AZ:=@Nat.mod_lt
def A8:=@List.size_toArray
def A9:=@List.getElem?_map
def Bf:=@List.ext_getElem?
def Bd:=@List.flatMap_append
def Bh:=@Nat.add_zero
def Bi:=@Go.wp_mono
def AX:=@Option.some.inj
def Bj:=@Go.World.ownsRow_nil
def A7:=@List.length_replicate
def Bm:=@Nat.sub_self
def Be:=@List.map_cons
def AS:=@Nat.lt_or_ge
def A3:=@List.getElem?_take_of_lt
def Bb:=@List.mem_map
def Bg:=@List.append_assoc
def Br:=@List.take_add_one
def A4:=@List.getElem_mem
def Bq:=@decide_eq_true_eq
def Bu:=@List.take_succ_eq_append_getElem
def Bw:=@Go.callsIn_wide
def Bt:=@List.not_mem_nil
def Bx:=@Nat.le_succ
def By:=@Nat.mul_one
def Bz:=@Go.frozen_of_row
def BA:=@Go.RowKit.Below.heap_setCell
def AV:=@if_false
def BC:=@Nat.pow_le_pow_right
def BE:=@List.map_nil
def BG:=@Go.length_splice
def Bl:=@Option.some.injEq
def BK:=@Go.heap_setCell_same
def BM:=@Nat.mul_le_mul_right
def BD:=@Bool.and_eq_true
def Bo:=@List.length_map
def BN:=@Go.Sem.run_bind
def BO:=@Go.results_cell_row
def Bs:=@List.length_nil
def BF:=@or_false
def BP:=@Go.strOfNums_size
def BH:=@List.mem_append
def BI:=@Go.Addr.mk.injEq
def BS:=@List.filter_append
def Bv:=@List.mem_range
def BT:=@Go.Addr.add_lit
def Bp:=@Nat.lt_irrefl
def BJ:=@and_true
def BQ:=@List.mem_of_mem_drop
def B5:=@Nat.lt_of_le_of_lt
def B7:=@Go.Result.andThen_ok
def B8:=@Nat.min_eq_left
def B9:=@List.set_set
def Ca:=@List.map_toArray
def Cb:=@beq_eq_false_iff_ne
def Cc:=@Go.ByteArray.toList_eq
def Cd:=@Go.results_none
def Ce:=@List.mem_flatMap
def Cf:=@List.foldl_append
def Cg:=@Go.Lib.run_firstCells_string
def Ch:=@List.getElem?_range
def Cj:=@Go.size_zeroCells
def Ck:=@Ne.symm
def Cl:=@Go.setRow_other
def Cn:=@Go.setRow_heap
def Co:=@Go.heap_setCell_other
def Cq:=@List.set_append_right
def BB:=@List.getElem?_append_left
def BL:=@List.getElem?_append_right
def Cr:=@List.mem_of_mem_take
def Cs:=@List.take_append_drop
def Ct:=@Bool.false_eq_true
def Cu:=@Go.u32_xor_nat
def Cv:=@Go.Sem.run_pure
def Cw:=@Int.eq_ofNat_of_zero_le
def Cx:=@Option.map_some
def Cy:=@Go.WalkArith.wf_i64
def Cz:=@Array.replicate_succ
def CA:=@Array.replicate_zero
def CB:=@List.push_toArray
def CC:=@List.append_toArray
def CD:=@Nat.add_mul
def CF:=@ByteArray.size_extract
def CG:=@Nat.not_lt_zero
def CH:=@ByteArray.size_append
def CJ:=@Go.wpList_append_own
def CK:=@Go.wpList_make_full
def CL:=@Go.toList_madeCells_one
def CM:=@Go.wpList_plain
def Cp:=@List.eq_nil_of_length_eq_zero
def BZ:=@Nat.add_assoc
def CN:=@List.pairwise_cons
def CO:=@Nat.xor_lt_two_pow
def CP:=@Go.wpList_load_row
def CQ:=@Go.World.ownsMap.lt
def CR:=@List.map_map
def CS:=@ByteArray.data_extract
def Ci:=@Int.le_refl
def CU:=@Go.run_storeCells_at
def CV:=@List.getElem?_set_ne
def CW:=@List.take_set
def BW:=@List.getElem?_set
def AY:=@List.getElem?_eq_none
def CX:=@Go.World.ownsRow.cellAt
def CI:=@Iff.rfl
def CY:=@List.drop_eq_getElem_cons
def CZ:=@Nat.add_sub_cancel_left
def C0:=@List.take_zero
def C1:=@List.length_range
def C3:=@Nat.div_le_self
def C4:=@List.replicate_zero
def C5:=@Array.ext
def C6:=@Nat.two_pow_pos
def C7:=@Go.u64_and_nat
def C9:=@Go.World.ownsMap_made
def Da:=@Go.Oper.semAt_some
def CE:=@Int.natCast_mul
def Db:=@Nat.le_of_lt
def Dd:=@List.drop_eq_nil_of_le
def Dg:=@Go.World.cell?_alloc_past
def Dh:=@List.map_replicate
def Di:=@List.map_set
def Dj:=@Nat.one_le_two_pow
def Dk:=@Nat.pow_succ
def Dm:=@List.filter_eq_nil_iff
def Dq:=@Nat.and_one_is_mod
def Dr:=@Bool.eq_iff_iff
def Ds:=@Array.getD_eq_getD_getElem?
def Du:=@List.map_congr_left
def Dv:=@Nat.min_eq_right
def DW:=@Nat.mul_le_mul
def Dw:=@Nat.and_le_right
def Dx:=@List.map_take
def Dy:=@List.replicate_succ
def Dz:=@Go.callsIn_of_wp
def DB:=@Go.length_sorted
def DC:=@Go.growslice_fits
def DE:=@beq_false_of_ne
def DG:=@Int.le_trans
def DJ:=@Option.isSome_map
def DK:=@Go.cell_one_new
def DL:=@List.set_append_left
def DM:=@decide_eq_false_iff_not
def Dl:=@List.filter_cons
def B4:=@List.getElem_set
def DQ:=@List.count_cons
def Dp:=@Nat.mul_comm
def DR:=@Nat.eq_or_lt_of_le
def DS:=@Nat.pow_pos
def DT:=@Go.u32_and_nat
def DU:=@Array.size_setIfInBounds
def DV:=@Go.Oper.upon_enter
def DX:=@Int.natAbs_mul_self
def Dn:=@Nat.sub_zero
def C8:=@Int.tmod_eq_emod_of_nonneg
def DY:=@Go.wpList_lookup_own_ok_int
def DZ:=@Nat.mul_le_mul_left
def D1:=@Go.wpListIn_plain
def D2:=@Go.results_tmp
def D3:=@List.getD_cons_succ
def D4:=@Go.wpList_make_own
def D5:=@Go.strOfNums_data
def D7:=@UInt8.toNat_lt
def DD:=@Nat.add_sub_cancel
def Ea:=@Nat.lt_trichotomy
def Eb:=@List.getElem?_toArray
def DF:=@Nat.eq_zero_or_pos
def Ec:=@Go.run_append_own_at
def Dc:=@List.getElem?_drop
def Ef:=@Go.World.size_setCell
def Df:=@List.mem_append_left
def Eh:=@List.takeWhile_cons
def Ei:=@Option.getD_some
def CT:=@Nat.zero_mul
def DH:=@List.mem_append_right
def Ek:=@List.length_pos_iff
def El:=@Go.World.drewN_drewN
def DI:=@bne_iff_ne
def En:=@List.set_cons_zero
def DN:=@List.length_eq_zero_iff
def Eo:=@List.mergeSort_perm
def Ep:=@List.pairwise_mergeSort
def Do:=@List.flatMap_cons
def Eq:=@Nat.testBit_xor
def Er:=@Nat.testBit_lt_two_pow
def Es:=@Int.natCast_nonneg
def Et:=@List.take_length
def Eu:=@Array.getElem?_eq_getElem
def Ev:=@List.range'_succ
def Ew:=@List.eq_replicate_iff
def Ex:=@Nat.two_pow_add_eq_or_of_lt
def BR:=@List.getElem_map
def B6:=@List.getElem_range
def Ey:=@List.set_eq_of_length_le
def Ez:=@Nat.pow_lt_pow_right
def EA:=@Array.getElem?_modify
def EC:=@Go.wpList_mapUpdate_own
def ED:=@Go.World.ownsRow.kept
def EF:=@of_decide_eq_false
def EH:=@List.cons.injEq
def DA:=@List.getElem?_replicate
def D6:=@List.flatMap_singleton
def EI:=@Go.Lib.run_append_own_string
def EJ:=@Go.WideShapes.bytes_inj
def EO:=@Nat.pos_of_ne_zero
def EP:=@List.find?_eq_none
def EQ:=@List.setIfInBounds_toArray
def ES:=@Array.toArray_toList
def EU:=@List.drop_succ_cons
def Eg:=@List.getElem?_set_self
def EW:=@List.set_cons_succ
def E0:=@List.getElem?_cons_zero
def Dt:=@List.getElem?_cons_succ
def E3:=@Go.Lib.byteCells_length
def Rd (k:IntKind)(w:World)(a:Option Addr)(zs:List Int):Prop:=
 zs≠[]->∃b off,a=some ⟨b,off,none⟩/\∀j,j<zs.length->w.cell? ⟨b,off+j,none⟩=some (.int k (zs.getD j 0))
theorem Rd.at{k:IntKind}{w:World}{a:Option Addr}{zs:List Int}(h:Rd k w a zs){i:Nat}(hi:i<zs.length):
 ∃b off,a=some ⟨b,off,none⟩/\∀j,j<zs.length->w.cell? ⟨b,off+j,none⟩=some (.int k (zs.getD j 0)):=
 h (by intro e;subst e;simp at hi)
theorem Rd.below{a:Option Addr}(h:Rd k w a zs)(p:Below w.heap.size w w'):Rd k w' a zs:=by
 intro d;obtain⟨b,f,rfl,i⟩:=h d;exact⟨b,f,rfl,fun j m=>(p.cell (Aj w _ (i j m))).trans (i j m)⟩
theorem Rd.nil(k:IntKind)(w:World)(a:Option Addr):Rd k w a []:=fun h=>absurd rfl h
theorem Rd.own{d:Nat}{a:Option Addr}(h:w.ownsRow d e 1 (slice a n c) zs.length (zs.map (Value.int k))):Rd k w a zs:=by
 intro p
 rcases h.2 with⟨_,q⟩ | ⟨g,i,cur,f,_⟩
 ·grind
 ·simp only[Aq]at f;obtain⟨rfl,rfl,rfl⟩:=f;refine⟨g,0,rfl,fun j m=>?_⟩;rw[Ao,h.cellAt j (by omega)];simp[List.getD,m]
theorem AaQ{b:Nat}{m:Nat×Nat}(h:w.heap[b]?=some (.cells (zs.map (Value.int k)).toArray e m)):Rd k w (some ⟨b,0,none⟩) zs:=by
 intro _;refine⟨b,0,rfl,fun j d=>?_⟩;rw[Ao,Al w b j _ e m h];simp[List.getD,d]
theorem Fr{w1 w2:World}(d:Below w.heap.size w w1)(f:Below w1.heap.size w1 w2):Below w.heap.size w w2:=d.trans (f.mono d.size)
theorem Rd.take{b o:Nat}(h:∀j,j<zs.length->w.cell? ⟨b,o+j,none⟩=some (.int k (zs.getD j 0)))(n:Nat):Rd k w (some ⟨b,o,none⟩) (zs.take n):=by grind [Rd]
theorem Rd.drop{b o:Nat}(h:∀j,j<zs.length->w.cell? ⟨b,o+j,none⟩=some (.int k (zs.getD j 0)))(n:Nat):Rd k w (some ⟨b,o+n,none⟩) (zs.drop n):=by grind [Rd]
theorem hid{p:Prop}(h:p):Hid p:=h
def Bytes(zs:List Int):Prop:=∀n∈zs,0<=n/\n<=255
def Bits (zs:List Int):Prop:=∀k,0<=zs.getD k 0/\zs.getD k 0<=1
def Okay (zs:List Int)(k:Nat):Prop:=∀j,j<k->zs.getD j 0<=1
def F6 (zs:List Int):Int:=if zs.all (fun x=>decide (x<=1)) then (if 4096<zs.length then 2 else 0) else 1
theorem Bytes.at(h:Bytes zs)(k:Nat):0<=zs.getD k 0/\zs.getD k 0<=255:=by
 by_cases d:k<zs.length
 ·have:zs.getD k 0=zs[k]:=by simp[List.getD,d]
  rw[this];exact h _ (A4 d)
 grind
theorem Aah(h:Okay zs zs.length):zs.all (fun x=>decide (x<=1))=true:=by
 rw[AM];intro x f;obtain⟨k,d,rfl⟩:=A5 f;have:=h k d
 simpa [List.getD,d]using this
theorem YS(h:zs.all (fun x=>decide (x<=1))=true)(k:Nat):zs.getD k 0<=1:=by
 rw[AM]at h
 by_cases d:k<zs.length
 ·have:=h _ (A4 d)
  simpa [List.getD,d]using this
 ·simp[List.getD,Nat.le_of_not_lt d]
theorem err_bad{k:Nat}(h:¬zs.getD k 0<=1):F6 zs=1:=by
 unfold F6;rw[Aa];intro e;exact h (YS e k)
theorem AiL(h:Okay zs zs.length)(d:4096<zs.length):F6 zs=2:=by
 unfold F6;rw[Ab (Aah h),Ab d]
theorem TB(h:Okay zs zs.length)(d:¬4096<zs.length):F6 zs=0:=by
 unfold F6;rw[Ab (Aah h),Aa d]
theorem Okay.succ{k:Nat}(h:Okay zs k)(e:zs.getD k 0<=1):Okay zs (k+1):=by grind [Okay]
theorem IA(h:F6 zs=0):(∀k,zs.getD k 0<=1)/\zs.length<=4096:=by
 unfold F6 at h
 split at h
 ·rename_i d;refine⟨YS d,?_⟩
  split at h
  ·simp at h
  ·omega
 ·simp at h
theorem An4(zs:List Int):F6 zs=0\/F6 zs=1\/F6 zs=2:=by grind [F6]
theorem Fs{a b:Int}(h:a=b):Ending.returned (.int k a)=.returned (.int k b):=by rw[h]
theorem IP(zs:List Int)(a:Option Addr)(c:Nat)(w:World)(t:Rd .u8 w a zs)(u:zs.length<=maxLen):
 Calls prog 225 #[slice a zs.length c] w fun e w'=>e=.returned (int i64 (F6 zs))/\w=w':=by
 unfold maxLen at u;go_enter func225,ntmps225;go_wp2
 go_loop [7] (fun i=>∃k:Nat,k<=zs.length/\i=int i64 k/\Hid (Okay zs k)) (fun i=>zs.length-(intOf i).toNat)
 case atStart=>exact⟨0,Af _,rfl,fun j z=>by omega⟩
 case round=>
  obtain⟨k,C,rfl,d⟩:=hrel
  by_cases h:k<zs.length
  ·obtain⟨b1,E,rfl,f⟩:=t.at h;have g1:=f k h;clear f;obtain⟨x,p⟩:=E7 (zs.getD k 0);rw[<-p]at g1;have q:Hid (x=zs.getD k 0):=p;clear p
   by_cases s:x<=1
   ·go_wp2
    go_round
    case rel=>exact⟨k+1,by omega,by go_num,d.out.succ (q.out▸s)⟩
    case measure=>simp[intOf];omega
   ·go_wp2;go_ret;exact⟨Fs (err_bad (k:=k) (by rw[<-q.out];omega)).symm,rfl⟩
  ·have m:k=zs.length:=by omega
   subst m
   by_cases r:4096<zs.length
   ·go_wp2;go_ret;exact⟨Fs (AiL d.out r).symm,rfl⟩
   ·go_wp2;go_ret;exact⟨Fs (TB d.out r).symm,rfl⟩
theorem Tryz.Of:(prog.info? 5).map (fun i=>(i.zero,i.size,i.bytes))=some (some (int .u8 0),1,1):=by kernel_rfl
def Own (w:World)(B:Nat)(v:Value)(L:List Int):Prop:=w.ownsRow B 5 1 v L.length (L.map (Value.int .u8))
theorem Own.nil(w:World)(B:Nat):Own w B (.slice none 0 0) []:=Bj _ _ _ _
theorem Own.Amk{x:Int}(h:w.ownsRow B 5 1 v (L.length+1) (L.map (Value.int .u8)++[int .u8 x])):Own w B v (L++[x]):=by
 unfold Own
 grind
theorem Lz(h:Own w B v L):∀k,v.ownBlock=some k->B<=k:=fun k d=>(h.lt k d).1
theorem AbR{a:Act}(B:Nat)(f:World)(y:Int)(d:Own w0 B v L)(i:o.guard=none)(s x:Operand)
 (z:o.op=.call {callee:=.builtin .append,args:=#[s,x],argTypes:=#[103,103]}) (hs:a.eval s=v)
 (hx:a.eval x=slice (some ⟨w0.heap.size,0,none⟩) 1 1) (hlen:L.length<70368744177664) (hbel:Below B f w0) (hB:B<=w0.heap.size)
 (h:∀v' w',Own w' B v' (L++[y])->Below B f w'->wpList prog ops Q rest (a.put o.dst v') w'):wpList prog ops Q (o::rest) a (w0.alloc (.cells #[int .u8 y] 5)):=by
 obtain⟨C,hi,j,m,p⟩:=As Tryz.Of;refine CJ _ i s x 103 z B 5 C (int .u8 0) 1 1 underlying103 hi j m p rfl (by decide) v _ _ hs (A6 d _) ⟨w0.heap.size,0,none⟩ 1 1 [int .u8 y] hx rfl (DK _ _ _) ?_ ?_ ?_ ?_ ?_
 ·intro u q;simp at q;subst q;rfl
 ·unfold maxLen;omega
 ·omega
 ·simp;omega
 ·intro v' w' r t _;exact h v' w' (Own.Amk r) ((hbel.alloc hB _).grown t (by simp;omega) (Lz d))
theorem FH{a:Act}(B:Nat)(f:World)(N:Nat)(j:o.guard=none)(l c:Operand)
 (E:o.op=Op.makeSlice 103 l c) (x y:Int) (C:a.eval l=int i64 x) (u:a.eval c=int i64 y) (F:x=(N:Int)) (G:y=(N:Int)) (I:N<=70368744177664) (d:Below B f w) (s:B<=w.heap.size)
 (h:∀w',Own w' B (slice (some ⟨w.heap.size,0,none⟩) N N) (List.replicate N 0)->Below B f w'->w.heap.size<w'.heap.size->wpList prog ops Q rest (a.put o.dst (slice (some ⟨w.heap.size,0,none⟩) N N)) w'):
 wpList prog ops Q (o::rest) a w:=by
 obtain⟨H,hi,p,q,r⟩:=As Tryz.Of;refine CK w j l c 103 E B 5 H (int .u8 0) 1 underlying103 hi p q i64 i64 x y N C u F G (by rw[r];omega) (by unfold maxLen;omega) s fun w' i t=>?_
 have e:(madeCells (Value.cells (int .u8 0)) (N*1)).toList=List.replicate N (int .u8 0):=by
  rw[By];exact CL _ _
 rw[e]at i;have m:=(i.lt w.heap.size rfl).2;refine h w' ?_ (d.grown t s (by intro k z;cases z)) m;unfold Own;rw[A7,Dh];exact i
theorem Own.cell(h:Own w B (.slice (some ⟨g,0,none⟩) N c) L){i:Nat}(hi:i<L.length):w.cell? ⟨g,i,none⟩=some (int .u8 (L.getD i 0)):=by
 obtain⟨b,d,e,f⟩:=(Rd.own (k:=.u8) h) (by intro e;subst e;simp at hi)
 grind
theorem Own.len(h:Own w B (.slice (some ⟨g,0,none⟩) N c) L):L.length=N:=by
 rcases h.2 with⟨d,_⟩ | ⟨i,f,cur,d,_⟩
 ·simp at d
 grind
theorem Own.block(h:Own w B (.slice (some ⟨g,0,none⟩) N c) L):B<=g/\g<w.heap.size:=h.lt g rfl
theorem Own.free(h:Own w B (.slice (some ⟨g,0,none⟩) N c) L)(i:Nat):w.frozen? ⟨g,i,none⟩=false:=by
 have e:=h.len;unfold Own at h;rw[e]at h;exact h.frozenAt i
theorem Own.set(h:Own w B (.slice (some ⟨g,0,none⟩) N c) L)(i:Nat)(x:Int):Own (w.setCell ⟨g,i,none⟩ (int .u8 x)) B (.slice (some ⟨g,0,none⟩) N c) (L.set i x):=by
 have e:=h.len;unfold Own at h |-;rw[An,e,Di];rw[e]at h;exact(h.stored i _).1
theorem Own.drew(h:Own w B v L):Own w.drew B v L:=h
theorem Own.rd{a:Option Addr}(h:Own w B (.slice a n c) L):Rd .u8 w a L:=Rd.own h
theorem Own.FC(h:Own w B v L):∃a c,v=.slice a L.length c/\(L≠[]->∃g,a=some ⟨g,0,none⟩)/\L.length<=c/\c<=maxLen:=by
 rcases h.2 with⟨f,i⟩ | ⟨g,d,cur,f,_,_,j,m,_⟩
 ·grind
 grind
theorem Own.below(h:Own w B v L)(r:Below w.heap.size w w'):Own w' B v L:=by
 refine⟨h.1,?_⟩
 rcases h.2 with i | ⟨g,d,cur,j,m,p,q⟩
 ·exact .inl i
 ·have f:g<w.heap.size:=by
   grind
  exact .inr ⟨g,d,cur,j,m,(r.block g f).trans p,q⟩
theorem Own.mono(h:Own w B v L)(p:B'<=B):Own w B' v L:=by
 refine⟨h.1,?_⟩
 rcases h.2 with f | ⟨g,d,cur,i,m,j⟩
 ·exact .inl f
 ·exact .inr ⟨g,d,cur,i,by omega,j⟩
theorem L6{a:Option Addr}(h:Rd .u8 w a L)(c:Nat):(convert 103 9 (slice a L.length c)).run prog w=.ok (.string (strOfNums L)) w:=by
 cases L with
 | nil=>
  rw[run_convert_bytes_string w 103 9 5 a ([]:List Int).length c underlying103 underlying5 underlying9]
  cases a with
  | none=>simp[Conv.bytesToString,strOfNums];rfl
  | some x=>exact(run_bytesToString w x 0 c [] (by simp[loadCells];rfl)).trans (by simp[strOfNums];rfl)
 | cons y L=>
  obtain⟨b,d,rfl,f⟩:=h (by simp);exact run_convert_bytes_arg w 103 5 underlying103 underlying5 b d _ c _ rfl f 9 underlying9
theorem KI(A:List Int)(k m:Nat)(x:Int)(d:A.length=k):(A++List.replicate (m+1) 0).set k x=(A++[x])++List.replicate m 0:=by
 subst d
 grind
def Je (L:List Int)(off:Nat)(M:List Int):List Int:=L.take off++(M++L.drop (off+M.length))
theorem Tryz.AoR:(prog.info? 5).map (·.size)=some 1:=by kernel_rfl
theorem Own.whole(h:Own w B (.slice (some ⟨g,0,none⟩) N N) L):w.heap[g]?=some (.cells (L.map (Value.int .u8)).toArray 5 (0,0))/\B<=g/\N<=maxLen:=by
 have q:=h.len
 rcases h.2 with⟨d,_⟩ | ⟨p,f,cur,d,i,hg,_,m,j,ht⟩
 ·simp at d
 ·simp only[Aq,Bl,BI,BJ]at d;obtain⟨rfl,_,rfl⟩:=d;refine⟨?_,i,m⟩;rw[hg,<-ht,Aw (by simp;omega)]
theorem X9(hg:w.heap[g]?=some (.cells (L.map (Value.int .u8)).toArray 5 (0,0)))(d:B<=g)(f:L.length=N)(h:N<=maxLen):Own w B (slice (some ⟨g,0,none⟩) N N) L:=by
 subst f;exact⟨by simp,.inr ⟨g,_,_,rfl,d,hg,Ac _,h,by simp,Aw (by simp)⟩⟩
theorem QW(i:Own w B (slice (some ⟨g,0,none⟩) N N) L)(E:Rd .u8 w ad M)(ty:TypeId)(s:Option Addr)(d f m p n:Nat)(h:n=min M.length d)
 (z:0<n->s=some ⟨g,p,none⟩) (F:p+n<=N):
 ∃w',(Builtin.copy_ #[103,103] ty #[slice s d f,slice ad M.length m]).run prog w=.ok (goInt n) w'/\
  Own w' B (slice (some ⟨g,0,none⟩) N N) (Je L p (M.take n))/\w.grownBy w' (some g):=by
 obtain⟨hg,G,K⟩:=i.whole;have V:=i.len
 by_cases t:n=0
 ·refine⟨w,?_,?_,⟨rfl,rfl,rfl,Ac _,fun _ _ _=>rfl⟩⟩
  ·rw[t];exact run_copy_none (P:=prog) w 103 103 ty 5 s ad d f M.length m underlying103 Tryz.AoR (h.symm.trans t)
  ·rw[t]
   simpa [Je]using i
 ·obtain rfl:=z (by omega);have H:M≠[]:=by rintro rfl;simp at h;omega
  obtain⟨b,o,rfl,R⟩:=E H;have C:((M.take n).map (Value.int .u8)).length=n:=by simp;omega
  have q:=run_copy_row (P:=prog) w 103 103 ty 5 g p d f ⟨b,o,none⟩ M.length m _ 5 ((M.take n).map (Value.int .u8)) underlying103 Tryz.AoR hg (C.trans h) ?_ ?_ ?_
  ·rw[C]at q;refine⟨_,q,?_,⟨rfl,rfl,rfl,by simp,fun k _ J=>Cl w g k _ (fun e=>J (by simp[e]))⟩⟩;refine X9 ?_ G ?_ K
   ·refine(Cn w g _ _ 5 _ hg).trans ?_;have r:(M.take n).length=n:=by simp;omega
    simp[Je,r]
   ·simp[Je];omega
  ·intro j u U;have I:j<n:=by
    grind
   have e1:(⟨b,o,none⟩:Addr).add j=⟨b,o+j,none⟩:=by unfold Addr.add;split<;>simp_all
   grind
  ·rw[C];simp;omega
  ·intro u O;obtain⟨y,_,rfl⟩:=Bb.1 O;rfl
theorem M4{a:Act}(j:World)(f:Own w B (slice (some ⟨g,0,none⟩) N N) L)(p:Rd .u8 w ad M)
 (m:o.guard=none) (d s:Operand) (z:o.op=.call {callee:=.builtin .copy,args:=#[d,s],argTypes:=#[103,103]}) (dp:Option Addr) (dLen dCap sCap off n:Nat) (hmin:n=min M.length dLen) (hd:a.eval d=slice dp dLen dCap) (hs:a.eval s=slice ad M.length sCap)
 (hdp:0<n->dp=some ⟨g,off,none⟩) (hfit:off+n<=N) (hbel:Below B j w)
 (h:∀w',Own w' B (slice (some ⟨g,0,none⟩) N N) (Je L off (M.take n))->Below B j w'->w.heap.size<=w'.heap.size->wpList prog ops Q rest (a.put o.dst (goInt n)) w'):
 wpList prog ops Q (o::rest) a w:=by
 obtain⟨w',i,r,q⟩:=QW f p o.type dp dLen dCap sCap off n hmin hdp hfit;refine CM m fun K t=>?_
 unfold Oper.wp;simp[execOp,z,resolve,invoke,builtin,hd,hs,i,Result.andThen];have C:=f.block;exact t _ _ (h w' r (hbel.grown q (by omega) (by intro k u;simp at u;omega)) q.size)
def ArrAt(k:IntKind)(T:TypeId)(w:World)(g:Nat)(L:List Int):Prop:=w.heap[g]?=some (.cells (L.map (Value.int k)).toArray T (0,0))
theorem ArrAt.cell(h:ArrAt k T w g L){j:Nat}(d:j<L.length):w.cell? ⟨g,j,none⟩=some (.int k (L.getD j 0)):=by
 rw[Al w g j _ T (0,0) h];simp[List.getD,d]
theorem ArrAt.free(h:ArrAt k T w g L)(j:Nat):w.frozen? ⟨g,j,none⟩=false:=Bz w g j _ T h
theorem ArrAt.set(h:ArrAt k T w g L)(j:Nat)(x:Int):ArrAt k T (w.setCell ⟨g,j,none⟩ (.int k x)) g (L.set j x):=by
 unfold ArrAt;rw[BK w g j _ T _ h,Di];simp
theorem ArrAt.other(h:ArrAt k T w g L)(p:Addr)(v:Value)(d:g≠p.block):ArrAt k T (w.setCell p v) g L:=by
 unfold ArrAt;rw[Co w p g v d];exact h
theorem ArrAt.below(h:ArrAt k T w g L)(d:Below B w w')(hg:g<B):ArrAt k T w' g L:=(d.block g hg).trans h
theorem ArrAt.lt(h:ArrAt k T w g L):g<w.heap.size:=by grind [ArrAt]
theorem ArrAt.alloc(h:ArrAt k T w g L)(o:Obj):ArrAt k T (w.alloc o) g L:=(Bc w o g h.lt).trans h
theorem ArrAt.rd(h:ArrAt k T w g (A++x++Z)){o:Nat}(d:o=A.length):Rd k w (some ⟨g,o,none⟩) x:=by
 subst d;intro _;refine⟨g,A.length,rfl,fun j f=>?_⟩;rw[h.cell (by simp;omega)]
 grind
theorem Ql(k:IntKind)(T:TypeId)(w:World)(L:List Int):ArrAt k T (w.alloc (.cells (L.map (Value.int k)).toArray T)) w.heap.size L:=Am w _
theorem Own.arr(h:Own w B (.slice (some ⟨g,0,none⟩) N N) L):ArrAt .u8 5 w g L/\B<=g/\N<=maxLen:=by
 have q:=h.len
 rcases h.2 with⟨d,_⟩ | ⟨p,f,cur,d,i,hg,_,m,j,ht⟩
 ·simp at d
 ·simp only[Aq,Bl,BI,BJ]at d;obtain⟨rfl,_,rfl⟩:=d;refine⟨?_,i,m⟩;unfold ArrAt;rw[hg,<-ht,Aw (by simp;omega)]
theorem PX(hg:ArrAt .u8 5 w g L)(d:B<=g)(f:L.length=N)(h:N<=maxLen):Own w B (slice (some ⟨g,0,none⟩) N N) L:=by
 subst f;exact⟨by simp,.inr ⟨g,_,_,rfl,d,hg,Ac _,h,by simp,Aw (by simp)⟩⟩
structure Kept(S:List Nat)(w w':World):Prop where
 os:w'.os=w.os
 tape:w'.tape=w.tape
 output:w'.output=w.output
 size:w.heap.size<=w'.heap.size
 block:∀k,k<w.heap.size->k∉S->w'.heap[k]?=w.heap[k]?
theorem Kept.refl(S:List Nat)(w:World):Kept S w w:=⟨rfl,rfl,rfl,Ac _,fun _ _ _=>rfl⟩
theorem Kept.trans{S:List Nat}{a b c:World}(h:Kept S a b)(k:Kept S b c):Kept S a c:=
 ⟨k.os.trans h.os,k.tape.trans h.tape,k.output.trans h.output,Ak h.size k.size,fun i hi d=>(k.block i (AI hi h.size) d).trans (h.block i hi d)⟩
theorem Kept.Fn{d:List Nat}(h:Kept S a b)(j:∀x∈S,x∈d):Kept d a b:=⟨h.os,h.tape,h.output,h.size,fun i hi f=>h.block i hi (fun e=>f (j i e))⟩
theorem Kept.drew(h:Kept S a w):Kept S a w.drew:=⟨h.os,h.tape,h.output,h.size,h.block⟩
theorem Kept.drewN(h:Kept S a w)(n:Nat):Kept S a (w.drewN n):=⟨h.os,h.tape,h.output,h.size,h.block⟩
theorem Kept.setCell{S:List Nat}{a w:World}(h:Kept S a w){p:Addr}(f:p.block∈S)(u:Value):Kept S a (w.setCell p u):=
 h.trans ⟨rfl,rfl,rfl,by simp[World.setCell],fun k _ d=>BA _ _ _ _ (fun e=>d (e▸f))⟩
theorem Kept.alloc(h:Kept S a w)(o:Obj):Kept S a (w.alloc o):=h.trans ⟨rfl,rfl,rfl,by simp,fun k d _=>Bc _ _ _ d⟩
theorem Kept.E5(h:Below a.heap.size a b):Kept S a b:=⟨h.os,h.tape,h.output,h.size,fun k d _=>h.block k d⟩
theorem Kept.below(h:Kept S a b)(f:B<=a.heap.size)(d:∀x∈S,B<=x):Below B a b:=⟨h.os,h.tape,h.output,h.size,fun k i=>h.block k (by omega) (fun e=>by have:=d k e;omega)⟩
theorem Kept.rd(h:Kept S a b)(p:Rd k a ad zs)(q:∀g o,ad=some ⟨g,o,none⟩->g∉S):Rd k b ad zs:=by
 intro f;obtain⟨g,o,rfl,i⟩:=p f;refine⟨g,o,rfl,fun j m=>?_⟩;have d:=Aj a _ (i j m);rw[<-i j m];have:=h.block g d (q g o rfl);simp only[World.cell?,this]
theorem ArrAt.kept(h:ArrAt k T w g L)(d:Kept S w w')(hg:g∉S):ArrAt k T w' g L:=(d.block g h.lt hg).trans h
def AllBits(c:List Int):Prop:=∀x∈c,0<=x/\x<=1
def nxt (s x:Int):Int:=x*32+s / 2
def AnE (s x:Int):Int:=(x+s / 32 % 2+s / 16 % 2+s / 8 % 2+s % 2) % 2
def AnF (s x:Int):Int:=(x+s / 16 % 2+s / 8 % 2+s / 2 % 2+s % 2) % 2
def AnG (s x:Int):Int:=(x+s / 32 % 2+s / 16 % 2+s / 4 % 2+s % 2) % 2
def sgn (c y:Int):Int:=if c=1 then -y else y
def gain (soft:List Int)(i:Nat)(s x:Int):Int:=sgn (AnE s x) (soft.getD (3*i) 0)+sgn (AnF s x) (soft.getD (3*i+1) 0)+sgn (AnG s x) (soft.getD (3*i+2) 0)
def sc (soft:List Int):Nat->Int->List Int->Int
 | _,_,[]=>0
 | i,s,x::c=>gain soft i s x+sc soft (i+1) (nxt s x) c
def ends:Int->List Int->Int
 | s,[]=>s
 | s,x::c=>ends (nxt s x) c
def ahead:List Int->List Int->Bool
 | x::a,y::b=>if x=y then ahead a b else decide (x<y)
 | _,_=>false
structure Best(F:List Int->Int)(n:Nat)(d:List Int):Prop where
 len:d.length=n
 bits:AllBits d
 most:∀o,o.length=n->AllBits o->F o<F d\/(F o=F d/\ahead o d=false)
def MA:List Int:=[0,0,0,0,0,0]
def top (soft:List Int):Nat->Nat->Int->Int
 | 0,i,s=>sc soft i s MA
 | r+1,i,s=>max (gain soft i s 0+top soft r (i+1) (nxt s 0)) (gain soft i s 1+top soft r (i+1) (nxt s 1))
def way (soft:List Int):Nat->Nat->Int->List Int
 | 0,_,_=>[]
 | r+1,i,s=>if gain soft i s 0+top soft r (i+1) (nxt s 0)<gain soft i s 1+top soft r (i+1) (nxt s 1) then 1::way soft r (i+1) (nxt s 1) else 0::way soft r (i+1) (nxt s 0)
theorem YA(soft:List Int):∀(r i:Nat) (s:Int),sc soft i s (way soft r i s++MA)=top soft r i s:=by
 intro r
 induction r with
 | zero=>intro i s;rfl
 | succ r ih=>
  grind [way,top,gain,nxt,sc,MA]
theorem Rg(soft:List Int):∀(r i:Nat) (s:Int),Best (fun o=>sc soft i s (o++MA)) r (way soft r i s)
 | 0,i,s=>⟨rfl,by intro x d;simp[way]at d,fun o p _=>by
  have:o=[]:=Cp p;subst this
  exact .inr ⟨rfl,rfl⟩⟩
 | r+1,i,s=>by
  have b0:=Rg soft r (i+1) (nxt s 0);have b1:=Rg soft r (i+1) (nxt s 1);have z:=YA soft r (i+1) (nxt s 0);have t1:=YA soft r (i+1) (nxt s 1);have t:=YA soft (r+1) i s;refine⟨?_,?_,fun o p j=>?_⟩
  ·unfold way;split
   ·simp[b1.len]
   ·simp[b0.len]
  ·unfold way;split
   ·intro x d
    rcases Ar.1 d with rfl | d
    ·omega
    ·exact b1.bits x d
   ·intro x d
    rcases Ar.1 d with rfl | d
    ·omega
    ·exact b0.bits x d
  ·cases o with
   | nil=>simp at p
   | cons x o=>
    have d:=j x (by simp);have m:o.length=r:=by simpa using p
    have f:AllBits o:=fun y u=>j y (by simp[u])
    show gain soft i s x+sc soft (i+1) (nxt s x) (o++MA)<sc soft i s (way soft (r+1) i s++MA)\/(gain soft i s x+sc soft (i+1) (nxt s x) (o++MA)=sc soft i s (way soft (r+1) i s++MA)/\ahead (x::o) (way soft (r+1) i s)=false);rw[t];unfold top way
    rcases (show x=0\/x=1 by omega)with rfl | rfl
    ·rcases b0.most o m f with h | ⟨h,q⟩
     ·rw[z]at h
      left;omega
     grind [ahead]
    ·rcases b1.most o m f with h | ⟨h,q⟩
     ·rw[t1]at h
      left;omega
     grind [ahead,gain,top,nxt]
def MD (x y:List Int):List Int:=List.zipWith (fun a b=>(a+b) % 2) x y
def GE:Nat->List Int->List Int
 | 0,b=>b
 | m+1,b=>MD (GE m (b.take (2 ^ m))) (GE m (b.drop (2 ^ m)))++GE m (b.drop (2 ^ m))
theorem YP(h:x.length=y.length):(MD x y).length=y.length:=by simp[MD,h]
theorem Afh(x y:List Int):AllBits (MD x y):=fun z d=>by
 unfold MD at d;obtain⟨i,hi,rfl⟩:=A5 d;rw[List.getElem_zipWith];omega
theorem YO{a b c d:List Int}(h:a.length=c.length):MD (a++b) (c++d)=MD a c++MD b d:=List.zipWith_append h
theorem JM:∀(m:Nat) (b:List Int),b.length=2 ^ m->(GE m b).length=2 ^ m:=by intro a;induction a<;>grind [GE,YP]
theorem M0:∀(m:Nat) (b:List Int),AllBits b->AllBits (GE m b):=by intro a;induction a<;>grind [AllBits,GE,Afh]
def Np (n:Int):Bool:=decide (n=1\/n=2\/n=4\/n=8\/n=16\/n=32\/n=64\/n=128\/n=256\/n=512)
def J2 (n:Int):Int:=if Np n then 0 else 1
theorem AnH{n:Int}(h:Np n=true):∃m:Nat,m<=9/\n=((2 ^ m:Nat):Int):=by
 unfold Np at h;simp only[Bq]at h
 rcases h with h | h | h | h | h | h | h | h | h | h
 ·exact⟨0,by omega,h⟩
 ·exact⟨1,by omega,h⟩
 ·exact⟨2,by omega,h⟩
 ·exact⟨3,by omega,h⟩
 ·exact⟨4,by omega,h⟩
 ·exact⟨5,by omega,h⟩
 ·exact⟨6,by omega,h⟩
 ·exact⟨7,by omega,h⟩
 ·exact⟨8,by omega,h⟩
 ·exact⟨9,by omega,h⟩
theorem Anx{m:Nat}(h:m<=9):Np ((2 ^ m:Nat):Int)=true:=by
 have:m=0\/m=1\/m=2\/m=3\/m=4\/m=5\/m=6\/m=7\/m=8\/m=9:=by omega
 rcases this with rfl | rfl | rfl | rfl | rfl | rfl | rfl | rfl | rfl | rfl<;>rfl
theorem Ail:∀k:Fin 513,1<=k.val->(bits BinOp.and IntKind.i64 (k.val:Int) ((k.val:Int)-1) !=0)=!Np (k.val:Int):=by decide+kernel
theorem Ak7(n:Int)(d:1<=n)(f:n<=512):(bits BinOp.and IntKind.i64 n (n-1) !=0)=!Np n:=by
 have:=Ail ⟨n.toNat,by omega⟩ (by show 1<=n.toNat;omega)
 grind
theorem Abn(n:Int)(w:World)(j: -9223372036854775808<=n/\n<=9223372036854775807):
 Calls prog 276 #[int i64 n] w fun e w'=>e=.returned (int i64 (J2 n))/\w=w':=by
 by_cases f:n<1
 ·have e:J2 n=1:=by unfold J2 Np;rw[Aa];simp;omega
  rw[e];go_enter func276,ntmps276;go_wp2;go_ret;exact⟨rfl,rfl⟩
 ·by_cases i:512<n
  ·have e:J2 n=1:=by unfold J2 Np;rw[Aa];simp;omega
   rw[e];have h:decide (n<1)=false:=Ae f;go_enter func276,ntmps276;go_wp2;go_ret;exact⟨rfl,rfl⟩
  ·have h:decide (n<1)=false:=Ae f;have d:=hid (Ak7 n (by omega) (by omega));go_enter func276,ntmps276;go_wp2
   ·go_ret;refine⟨Fs ?_,rfl⟩;have e:=d.out.symm.trans ‹(bits BinOp.and IntKind.i64 n (n-1) !=0)=_›
    grind [J2,Np]
   ·go_ret;refine⟨Fs ?_,rfl⟩;have e:=d.out.symm.trans ‹(bits BinOp.and IntKind.i64 n (n-1) !=0)=_›
    grind [J2,Np]
theorem AllBits.at(h:AllBits D)(k:Nat):0<=D.getD k 0/\D.getD k 0<=1:=by
 by_cases d:k<D.length
 ·have e:D.getD k 0=D[k]:=by simp[List.getD,d]
  rw[e];exact h _ (A4 d)
 grind
theorem AllBits.bits(h:AllBits D):Bits D:=h.at
theorem AllBits.bytes(h:AllBits D):Bytes D:=fun x d=>by have:=h x d;omega
theorem AmF{a x:Int}(h:0<=a/\a<=1)(i:0<=x/\x<=1):bits BinOp.xor IntKind.u8 a x=(a+x) % 2:=by
 have d:a=0\/a=1:=by omega
 have f:x=0\/x=1:=by omega
 rcases d with rfl | rfl<;>rcases f with rfl | rfl<;>decide+kernel
def NI (x y:List Int)(k:Nat):List Int:=MD (x.take k) (y.take k)++x.drop k
theorem Ajp(x y:List Int):NI x y 0=x:=by simp[NI,MD]
theorem AlL(h:x.length=y.length):NI x y x.length=MD x y:=by grind [NI,MD]
theorem Ac7(h:x.length=y.length)(k:Nat):(NI x y k).length=x.length:=by grind [NI,MD]
theorem Anu(h:x.length=y.length){k:Nat}(d:k<x.length):(NI x y k).getD k 0=x.getD k 0:=by grind [NI,MD]
theorem AlM(h:x.length=y.length){k:Nat}(f:k<x.length):(NI x y k).set k ((x.getD k 0+y.getD k 0) % 2)=NI x y (k+1):=by
 have i:(MD (x.take k) (y.take k)).length=k:=by simp[MD];omega
 have d:k<y.length:=by omega
 unfold NI;rw[Cq _ _ (by omega),i,Bm,CY f,En,Bu f,Bu d,YO (by simp;omega),Bg];simp[MD,List.getD,f,d]
theorem AdC{o k:Nat}(f:A.length=o)(d:k<x.length):(A++x++Z).getD (o+k) 0=x.getD k 0:=by grind
theorem Amc{o k:Nat}(f:A.length=o)(d:k<x.length)(v:Int):(A++x++Z).set (o+k) v=A++x.set k v++Z:=by grind
theorem ZQ(A x y Z:List Int)(g o n c h:Nat)(w:World)(z:ArrAt .u8 5 w g (A++(x++y)++Z))(K:A.length=o)(G:x.length=h)(H:y.length=h)(R:n=h+h)(h0:1<=h)(hb:n<=512)(hc:n<=c)
 (V:AllBits x) (U:AllBits y):
 Calls prog 279 #[slice (some ⟨g,o,none⟩) n c] w fun e w'=>e=.returned (.tuple #[])/\ArrAt .u8 5 w' g (A++(MD x y++y)++Z)/\Kept [g] w w':=by
 have hq:(n:Int).tdiv 2=(h:Int):=by grind
 have aa:h<=n:=by omega
 have ab:¬c=h:=by omega
 have u:=hid K;have f:=hid G;have J:=hid H;have I:=hid R;have j:=hid (G.trans H.symm);clear K G H R;go_enter func279,ntmps279;go_wp2
 go_loopw [12] (fun q wr=>∃k:Nat,k<=h/\q=int i64 k/\ArrAt .u8 5 wr g (A++(NI x y k++y)++Z)/\Kept [g] w wr) (fun q _=>h-(intOf q).toNat)
 case atStart=>exact⟨0,Af _,rfl,by rw[Ajp];exact z,Kept.refl _ _⟩
 case round=>
  obtain⟨k,hk,rfl,t,d⟩:=hrel;have i:=hid (Ac7 j.out k)
  by_cases r:k<h
  ·have O:k<n-h:=by have:=I.out;omega
   have P:k<n:=by omega
   have W:wr.cell? ⟨g,o+k,none⟩=some (int .u8 (x.getD k 0)):=by
    rw[t.cell (by simp[i.out,u.out,f.out];omega),AdC u.out (by rw[Ai,i.out,f.out];omega)];rw[<-Anu j.out (k:=k) (by rw[f.out];exact r)];unfold List.getD;rw[BB (by rw[i.out,f.out];exact r)]
   have X:wr.cell? ⟨g,o+h+k,none⟩=some (int .u8 (y.getD k 0)):=by
    rw[BZ,t.cell (by simp[i.out,u.out,f.out,J.out];omega),AdC u.out (by rw[Ai,i.out,f.out,J.out];omega)];unfold List.getD;rw[BL (by rw[i.out,f.out];omega),i.out,f.out,CZ]
   have hf:=t.free (o+k);have C:=V.at k;have E:=U.at k;have s:=t.set (o+k) ((x.getD k 0+y.getD k 0) % 2);rw[Amc u.out (by rw[Ai,i.out,f.out];omega),DL _ _ (by rw[i.out,f.out];exact r),AlM j.out (by rw[f.out];exact r)]at s;have m:=d.setCell (p:=⟨g,o+k,none⟩) (by simp) (int .u8 ((x.getD k 0+y.getD k 0) % 2));obtain⟨p,F⟩:=E7 (x.getD k 0);obtain⟨q,eq⟩:=E7 (y.getD k 0);rw[<-F]at W C;rw[<-eq]at X E;rw[<-F,<-eq]at s m;have ac:=AmF C E;clear F eq t d;go_wp2
   go_roundw
   case rel=>grind
   case measure=>simp[intOf];omega
  ·obtain rfl:k=h:=by omega
   have Y:¬k<n-k:=by have:=I.out;omega
   go_wp2
   go_end0;refine⟨rfl,?_,d⟩;rw[<-AlL j.out,f.out];exact t
theorem Yx:∀(m:Nat) (A x Z:List Int) (g o n c:Nat) (w:World),ArrAt .u8 5 w g (A++x++Z)->A.length=o->x.length=n->n=2 ^ m->n<=512->n<=c->AllBits x->
 Calls prog 260 #[slice (some ⟨g,o,none⟩) n c] w fun e w'=>e=.returned (.tuple #[])/\ArrAt .u8 5 w' g (A++GE m x++Z)/\Kept [g] w w'
 | 0,A,x,Z,g,o,n,c,w,harr,hA,hx,hn,hb,hc,bx=>by
  obtain rfl:n=1:=hn;have HX:=hid hx;clear hx;go_enter func260,ntmps260;go_wp2;refine Ah (Cd rfl _ _ _) rfl ?_;exact⟨rfl,harr,Kept.refl _ _⟩
 | m+1,A,x,Z,g,o,n,c,w,harr,hA,hx,hn,hb,hc,bx=>by
  obtain⟨h,d⟩:=E7 (2 ^ m);have W:1<=h:=by rw[d];exact Dj
  have i:n=h+h:=by rw[hn,d,Dk];omega
  have J:(x.take h).length=h:=by rw[Ay];omega
  have K:(x.drop h).length=h:=by rw[AJ];omega
  have b1:AllBits (x.take h):=fun y I=>bx y (Cr I)
  have U:AllBits (x.drop h):=fun y I=>bx y (BQ I)
  have V:GE (m+1) x=MD (GE m (x.take h)) (GE m (x.drop h))++GE m (x.drop h):=by rw[GE,d]
  have t1:=JM m (x.take h) (J.trans d);have O:=JM m (x.drop h) (K.trans d);rw[<-d]at t1 O;have c1:=M0 m _ b1;have c2:=M0 m _ U;have j:x=x.take h++x.drop h:=(Cs h x).symm;rw[j]at harr;rw[V];have p:=fun w' f=>Yx m A (x.take h) (x.drop h++Z) g o h c w' f hA J d (by omega) (by omega) b1
  have q:=fun w' f=>Yx m (A++GE m (x.take h)) (x.drop h) Z g (o+h) h (c-h) w' f (by rw[Ai,hA,t1]) K d (by omega) (by omega) U
  generalize x.take h=P at*;generalize x.drop h=s at*;generalize GE m P=t at*;generalize GE m s=R at*;have X:=fun w' f=>ZQ A t R Z g o n c h w' f hA t1 O i W hb hc c1 c2
  have hq:(n:Int).tdiv 2=(h:Int):=by grind
  have aa:h<=n:=by omega
  have Y:h<=c:=by omega
  have ac:¬c=h:=by omega
  have ab:((n:Int)==1)=false:=by simp;omega
  have u:=hid (show n-h=h by omega);clear hn i hx d j V J K t1 O hA;have e1:A++(P++s)++Z=A++P++(s++Z):=by simp
  have e2:A++t++(s++Z)=A++t++s++Z:=by simp
  have e3:A++t++R++Z=A++(t++R)++Z:=by simp
  rw[e1]at harr;rw[e2]at p;rw[e3]at q;clear e1 e2 e3;have r:True:=trivial;go_enter func260,ntmps260
  go_wp2_with(first
   | (go_at_call 260;have _t:=r;refine(p _ harr).mono ?_;rintro e w1 ⟨rfl,F,z⟩;clear r)
   | (go_at_call 260;rw[u.out];refine(q _ F).mono ?_;rintro e w2 ⟨rfl,G,C⟩)
   | (go_at_call 279;refine(X _ G).mono ?_;rintro e w3 ⟨rfl,H,E⟩))
  go_end0;exact⟨rfl,H,(z.trans C).trans E⟩
def Lk (xs ys:List Int)(k:Nat):List Int:=(List.range k).map fun i=>(xs.getD i 0+ys.getD i 0) % 2
theorem GZ(xs d:List Int)(k:Nat):(Lk xs d k).length=k:=by simp[Lk]
theorem Tryz.Wa:(prog.info? 3).map (fun i=>(i.zero,i.size,i.bytes))=some (some (int i64 0),1,8):=by kernel_rfl
def OwnI (w:World)(B:Nat)(v:Value)(L:List Int):Prop:=w.ownsRow B 3 1 v L.length (L.map (Value.int i64))
theorem OwnI.nil(w:World)(B:Nat):OwnI w B (slice none 0 0) []:=Bj _ _ _ _
theorem OwnI.Amk{x:Int}(h:w.ownsRow B 3 1 v (L.length+1) (L.map (Value.int i64)++[int i64 x])):OwnI w B v (L++[x]):=by
 unfold OwnI
 grind
theorem Aar(h:OwnI w B v L):∀k,v.ownBlock=some k->B<=k:=fun k d=>(h.lt k d).1
theorem YE{a:Act}(B:Nat)(f:World)(y:Int)(d:OwnI w0 B v L)(i:o.guard=none)(s x:Operand)
 (z:o.op=.call {callee:=.builtin .append,args:=#[s,x],argTypes:=#[74,74]}) (hs:a.eval s=v)
 (hx:a.eval x=slice (some ⟨w0.heap.size,0,none⟩) 1 1) (hlen:L.length<17592186044416) (hbel:Below B f w0) (hB:B<=w0.heap.size)
 (h:∀v' w',OwnI w' B v' (L++[y])->Below B f w'->wpList prog ops Q rest (a.put o.dst v') w'):wpList prog ops Q (o::rest) a (w0.alloc (.cells #[int i64 y] 3)):=by
 obtain⟨C,hi,j,m,p⟩:=As Tryz.Wa;refine CJ _ i s x 74 z B 3 C (int i64 0) 1 8 underlying74 hi j m p rfl (by decide) v _ _ hs (A6 d _) ⟨w0.heap.size,0,none⟩ 1 1 [int i64 y] hx rfl (DK _ _ _) ?_ ?_ ?_ ?_ ?_
 ·intro u q;simp at q;subst q;rfl
 ·unfold maxLen;omega
 ·omega
 ·simp;omega
 ·intro v' w' r t _;exact h v' w' (OwnI.Amk r) ((hbel.alloc hB _).grown t (by simp;omega) (Aar d))
theorem Rj{a:Act}(B:Nat)(d:World)(y:Int)(f:OwnI w0 B v L)(i:o.guard=none)(s x:Operand)
 (j:o.op=.call {callee:=.builtin .append,args:=#[s,x],argTypes:=#[74,74]}) (hs:a.eval s=v)
 (hx:a.eval x=slice (some ⟨w0.heap.size,0,none⟩) 1 1) (hlen:L.length<8796093022208) (hbel:Below B d w0) (hB:B<=w0.heap.size)
 (h:∀v' w',OwnI w' B v' (L++[y])->Below B d w'->wpList prog ops Q rest (a.put o.dst v') w'):wpList prog ops Q (o::rest) a (w0.alloc (.cells #[int i64 y] 3)):=
 YE B d y f i s x j hs hx (Nat.lt_trans hlen (by decide)) hbel hB h
theorem OwnI.rd{a:Option Addr}(h:OwnI w B (slice a n c) L):Rd i64 w a L:=Rd.own h
theorem OwnI.FC(h:OwnI w B v L):∃a c,v=slice a L.length c/\L.length<=c/\c<=maxLen:=by
 rcases h.2 with⟨rfl,j⟩ | ⟨g,d,cur,rfl,_,_,f,i,_⟩
 ·grind
 ·exact⟨_,d,rfl,f,i⟩
theorem FZ{a:Act}(B:Nat)(f:World)(N:Nat)(j:o.guard=none)(l c:Operand)
 (E:o.op=Op.makeSlice 74 l c) (x y:Int) (C:a.eval l=int i64 x) (z:a.eval c=int i64 y) (F:x=(N:Int)) (G:y=(N:Int)) (I:N<=8796093022208) (d:Below B f w) (u:B<=w.heap.size)
 (h:∀w',OwnI w' B (slice (some ⟨w.heap.size,0,none⟩) N N) (List.replicate N 0)->Below B f w'->w.heap.size<w'.heap.size->Below w.heap.size w w'->wpList prog ops Q rest (a.put o.dst (slice (some ⟨w.heap.size,0,none⟩) N N)) w'):
 wpList prog ops Q (o::rest) a w:=by
 obtain⟨H,hi,q,r,s⟩:=As Tryz.Wa;refine CK w j l c 74 E B 3 H (int i64 0) 1 underlying74 hi q r i64 i64 x y N C z F G (by rw[s];omega) (by unfold maxLen;omega) u fun w' i t=>?_
 have e:(madeCells (Value.cells (int i64 0)) (N*1)).toList=List.replicate N (int i64 0):=by
  rw[By];exact CL _ _
 rw[e]at i;have p:=(i.lt w.heap.size rfl).2;refine h w' ?_ (d.grown t u (by intro k m;cases m)) p ((Ad _ _).grown t (Ac _) (by intro k m;cases m));unfold OwnI;rw[A7,Dh];exact i
theorem OwnI.below(h:OwnI w B v L)(r:Below w.heap.size w w'):OwnI w' B v L:=by
 refine⟨h.1,?_⟩
 rcases h.2 with i | ⟨g,d,cur,j,m,p,q⟩
 ·exact .inl i
 ·have f:g<w.heap.size:=by
   grind
  exact .inr ⟨g,d,cur,j,m,(r.block g f).trans p,q⟩
theorem OwnI.mono(h:OwnI w B v L)(p:B'<=B):OwnI w B' v L:=by
 refine⟨h.1,?_⟩
 rcases h.2 with f | ⟨g,d,cur,i,m,j⟩
 ·exact .inl f
 ·exact .inr ⟨g,d,cur,i,by omega,j⟩
theorem OwnI.len(h:OwnI w B (slice (some ⟨g,0,none⟩) N c) L):L.length=N:=by
 rcases h.2 with⟨d,_⟩ | ⟨i,f,cur,d,_⟩
 ·simp at d
 grind
theorem OwnI.block(h:OwnI w B (slice (some ⟨g,0,none⟩) N c) L):B<=g/\g<w.heap.size:=h.lt g rfl
theorem OwnI.arr(h:OwnI w B (slice (some ⟨g,0,none⟩) N N) L):ArrAt i64 3 w g L/\B<=g/\N<=maxLen:=by
 have q:=h.len
 rcases h.2 with⟨d,_⟩ | ⟨p,f,cur,d,i,hg,_,m,j,ht⟩
 ·simp at d
 ·simp only[Aq,Bl,BI,BJ]at d;obtain⟨rfl,_,rfl⟩:=d;refine⟨?_,i,m⟩;unfold ArrAt;rw[hg,<-ht,Aw (by simp;omega)]
theorem Aas(hg:ArrAt i64 3 w g L)(d:B<=g)(f:L.length=N)(h:N<=maxLen):OwnI w B (slice (some ⟨g,0,none⟩) N N) L:=by
 subst f;exact⟨by simp,.inr ⟨g,_,_,rfl,d,hg,Ac _,h,by simp,Aw (by simp)⟩⟩
def Fy (l:List Int):Bool:=l.all fun x=>decide (-100000<=x/\x<=100000)
def AbU (l:List Int)(k:Nat):Prop:=∀j,j<k-> -100000<=l.getD j 0/\l.getD j 0<=100000
theorem Aku(h:AbU l l.length):Fy l=true:=by
 unfold Fy;rw[AM];intro x f;obtain⟨k,d,rfl⟩:=A5 f;have:=h k d
 grind
theorem O8(h:Fy l=true)(k:Nat): -100000<=l.getD k 0/\l.getD k 0<=100000:=by
 unfold Fy at h;rw[AM]at h
 by_cases d:k<l.length
 ·have:=h _ (A4 d)
  grind
 grind
theorem Abt{k:Nat}(h:l.getD k 0 < -100000\/100000<l.getD k 0):Fy l=false:=by
 cases d:Fy l with
 | false=>rfl
 | true=>have:=O8 d k;omega
def WY (a:Int):Int:=if a<0 then -a else a
def fI (a b:Int):Int:=if (a<0/\0<=b)\/(0<=a/\b<0) then -(min (WY a) (WY b)) else min (WY a) (WY b)
def gI (x a b:Int):Int:=if x=1 then b-a else b+a
def fL (a b:List Int):List Int:=List.zipWith fI a b
def gL:List Int->List Int->List Int->List Int
 | x::xs,a::l,b::r=>gI x a b::gL xs l r
 | _,_,_=>[]
def Ki:Nat->List Int->List Bool->List Int
 | 0,l,o=>[if o.getD 0 false && decide (l.getD 0 0<0) then 1 else 0]
 | m+1,l,o=>
  let u:=Ki m (fL (l.take (2 ^ m)) (l.drop (2 ^ m))) (o.take (2 ^ m))
  u++Ki m (gL (GE m u) (l.take (2 ^ m)) (l.drop (2 ^ m))) (o.drop (2 ^ m))
theorem N7:∀(m:Nat) (l:List Int) (o:List Bool),(Ki m l o).length=2 ^ m:=by intro a;induction a<;>grind [Ki]
theorem OP:∀(m:Nat) (l:List Int) (o:List Bool),AllBits (Ki m l o):=by intro a;induction a<;>grind [AllBits,Ki]
end Go.Proofs.YtbjgfoiikhbonahGreatDoor
