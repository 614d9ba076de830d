import Derived.Test.YtbjgfoiikhbonahGreatDoorRows
import Derived.WalkKit
import Derived.ProofKit
import Derived.OpenShut
import Derived.ShutString
import Derived.ChangeOld
import Derived.Below
import Derived.WalkLawsBesides
import Derived.WalkSpells
import Derived.BigQuiet
import Derived.Deep.QuietTactic
import Derived.Laws.CopyOwn
import Derived.Laws.AppendOwnNone
import Derived.Laws.BitsAllLaws
import Derived.Laws.BytesArg
import Derived.Laws.BytesString
import Derived.Deep.RegionLaw
set_option linter.unusedVariables false
set_option linter.unusedSimpArgs false
set_option maxRecDepth 100000
set_option maxHeartbeats 4000000
set_option linter.defProp false
namespace Go.Proofs.YtbjgfoiikhbonahGreatDoor
open Go.ChangeShapes Go.WideShapes Go.ChangeAt Go.RowKit Go.Proofs.Tryz
open Value renaming slice->C,int->I
open Option renaming none->E,some->G
open Go renaming World->H
open IntKind renaming i64->J
variable {A D L M Z l x y zs:List Int}{B B' N c g n:Nat}{Q:Exit->Act->H->Prop}{S:List Nat}{T e:TypeId}{a b w w' w0:H}{ad:Option Addr}{k:IntKind}{o:Oper}{ops:Array Oper}{rest:List Oper}{v:Value}
theorem E7{α:Type}(a:α):∃ b,b=a:=⟨_,rfl⟩
def Aa:=@if_neg
def Ac:=@Nat.le_refl
def Ab:=@if_pos
def Ad:=@Go.RowKit.Below.refl
def Ae:=@decide_eq_false
def Af:=@Nat.zero_le
def Ag:=@decide_eq_true
def Ah:=@Go.bodyPost_ret
def Aj:=@Go.World.block_lt_of_cell?
def Ak:=@Nat.le_trans
def Al:=@Go.cell_of_row
def Ai:=@List.length_append
def Am:=@Go.heap_alloc_new
def An:=@List.length_set
def Ao:=@Nat.zero_add
def Aq:=@Go.Value.slice.injEq
def As:=@Go.info_parts
def Ar:=@List.mem_cons
def Ap:=@List.getElem?_eq_getElem
def Av:=@Go.run_underlying
def Aw:=@List.take_of_length_le
def Ax:=@Go.World.size_alloc
def Az:=@List.range_succ
def AA:=@List.append_nil
def AB:=@Go.World.ownsRow.lt
def AN:=@Int.toNat_natCast
def AD:=@Go.results_cell_tmp
def AC:=@List.mem_singleton
def AF:=@Go.World.cell?_of_block
def AI:=@Nat.lt_of_lt_of_le
def AK:=@List.nil_append
def AO:=@Go.IntKind.wrap_i64
def AL:=@List.mem_cons_self
def Au:=@List.getD_eq_getElem?_getD
def Ay:=@List.length_take
def AQ:=@of_decide_eq_true
def AE:=@List.length_cons
def AH:=@Array.length_toList
def AJ:=@List.length_drop
def AT:=@List.cons_append
def AM:=@List.all_eq_true
def AW:=@List.ext_getElem
def AU:=@List.mem_cons_of_mem
def AR:=@List.map_append
def AZ:=@Nat.mod_lt
def AP:=@if_true
def A5:=@List.getElem_of_mem
def A6:=@Go.World.ownsRow.alloc
def AS:=@Nat.lt_or_ge
def AY:=@List.getElem?_eq_none
def Ba:=@Go.Calls.quiet_of_same
def A7:=@List.length_replicate
def Bb:=@List.mem_map
def Bc:=@Go.RowKit.Below.heap_alloc
def A8:=@List.size_toArray
def A3:=@List.getElem?_take_of_lt
def A9:=@List.getElem?_map
def Bf:=@List.ext_getElem?
def Bd:=@List.flatMap_append
def Bh:=@Nat.add_zero
def Bi:=@Go.wp_mono
def AX:=@Option.some.inj
def Bj:=@Go.World.ownsRow_nil
def Bm:=@Nat.sub_self
def Be:=@List.map_cons
def Bp:=@Nat.lt_irrefl
def Bl:=@Option.some.injEq
def Bq:=@decide_eq_true_eq
def Bg:=@List.append_assoc
def Br:=@List.take_add_one
def Bt:=@List.not_mem_nil
def A4:=@List.getElem_mem
def Bu:=@List.take_succ_eq_append_getElem
def AV:=@if_false
def Bw:=@Go.callsIn_wide
def Bx:=@Nat.le_succ
def By:=@Nat.mul_one
def Bz:=@Go.frozen_of_row
def BA:=@Go.RowKit.Below.heap_setCell
def BC:=@Nat.pow_le_pow_right
def Bo:=@List.length_map
def Bs:=@List.length_nil
def BE:=@List.map_nil
def BF:=@or_false
def BG:=@Go.length_splice
def BH:=@List.mem_append
def BI:=@Go.Addr.mk.injEq
def BK:=@Go.heap_setCell_same
def Bv:=@List.mem_range
def BD:=@Bool.and_eq_true
def BN:=@Go.Sem.run_bind
def BO:=@Go.results_cell_row
def BP:=@Go.strOfNums_size
def BJ:=@and_true
def BM:=@Nat.mul_le_mul_right
def BS:=@List.filter_append
def BT:=@Go.Addr.add_lit
def BQ:=@List.mem_of_mem_drop
def B5:=@Nat.lt_of_le_of_lt
def B7:=@Go.Result.andThen_ok
def B8:=@Nat.min_eq_left
def B9:=@List.set_set
def Ca:=@List.map_toArray
def Cb:=@beq_eq_false_iff_ne
def Cc:=@Go.ByteArray.toList_eq
def BW:=@List.getElem?_set
def BB:=@List.getElem?_append_left
def BZ:=@Nat.add_assoc
def BL:=@List.getElem?_append_right
def Cd:=@Go.results_none
def B4:=@List.getElem_set
def BR:=@List.getElem_map
def Ce:=@List.mem_flatMap
def Cf:=@List.foldl_append
def Cg:=@Go.Lib.run_firstCells_string
def Ch:=@List.getElem?_range
def Ci:=@Int.le_refl
def Cj:=@Go.size_zeroCells
def Ck:=@Ne.symm
def Cl:=@Go.setRow_other
def Cn:=@Go.setRow_heap
def Co:=@Go.heap_setCell_other
def Cq:=@List.set_append_right
def Cr:=@List.mem_of_mem_take
def Cs:=@List.take_append_drop
def Ct:=@Bool.false_eq_true
def Cu:=@Go.u32_xor_nat
def Cv:=@Go.Sem.run_pure
def B6:=@List.getElem_range
def Cw:=@Int.eq_ofNat_of_zero_le
def Cx:=@Option.map_some
def Cy:=@Go.WalkArith.wf_i64
def Cz:=@Array.replicate_succ
def CA:=@Array.replicate_zero
def CB:=@List.push_toArray
def CC:=@List.append_toArray
def CF:=@ByteArray.size_extract
def CG:=@Nat.not_lt_zero
def CH:=@ByteArray.size_append
def CJ:=@Go.wpList_append_own
def CK:=@Go.wpList_make_full
def CL:=@Go.toList_madeCells_one
def CM:=@Go.wpList_plain
def Cp:=@List.eq_nil_of_length_eq_zero
def CN:=@List.pairwise_cons
def CO:=@Nat.xor_lt_two_pow
def CP:=@Go.wpList_load_row
def CQ:=@Go.World.ownsMap.lt
def CR:=@List.map_map
def CS:=@ByteArray.data_extract
def CU:=@Go.run_storeCells_at
def CV:=@List.getElem?_set_ne
def CW:=@List.take_set
def CX:=@Go.World.ownsRow.cellAt
def CI:=@Iff.rfl
def CY:=@List.drop_eq_getElem_cons
def CZ:=@Nat.add_sub_cancel_left
def C0:=@List.take_zero
def C1:=@List.length_range
def C3:=@Nat.div_le_self
def C4:=@List.replicate_zero
def C5:=@Array.ext
def C6:=@Nat.two_pow_pos
def C7:=@Go.u64_and_nat
def C9:=@Go.World.ownsMap_made
def Da:=@Go.Oper.semAt_some
def CD:=@Nat.add_mul
def Db:=@Nat.le_of_lt
def Dd:=@List.drop_eq_nil_of_le
def Dg:=@Go.World.cell?_alloc_past
def Dh:=@List.map_replicate
def Di:=@List.map_set
def Dj:=@Nat.one_le_two_pow
def Dk:=@Nat.pow_succ
def Dm:=@List.filter_eq_nil_iff
def Dn:=@Nat.sub_zero
def Do:=@List.flatMap_cons
def Dq:=@Nat.and_one_is_mod
def Dr:=@Bool.eq_iff_iff
def Ds:=@Array.getD_eq_getD_getElem?
def Du:=@List.map_congr_left
def Dv:=@Nat.min_eq_right
def Dw:=@Nat.and_le_right
def C8:=@Int.tmod_eq_emod_of_nonneg
def Dx:=@List.map_take
def Dy:=@List.replicate_succ
def Dz:=@Go.callsIn_of_wp
def DB:=@Go.length_sorted
def DC:=@Go.growslice_fits
def CT:=@Nat.zero_mul
def DE:=@beq_false_of_ne
def DF:=@Nat.eq_zero_or_pos
def DG:=@Int.le_trans
def Dc:=@List.getElem?_drop
def DJ:=@Option.isSome_map
def DK:=@Go.cell_one_new
def DL:=@List.set_append_left
def DM:=@decide_eq_false_iff_not
def Dl:=@List.filter_cons
def DO:=@Bool.not_eq_true'
def DP:=@List.mem_filter
def DQ:=@List.count_cons
def Dp:=@Nat.mul_comm
def DR:=@Nat.eq_or_lt_of_le
def DS:=@Nat.pow_pos
def DT:=@Go.u32_and_nat
def DU:=@Array.size_setIfInBounds
def DV:=@Go.Oper.upon_enter
def DW:=@Nat.mul_le_mul
def DX:=@Int.natAbs_mul_self
def DY:=@Go.wpList_lookup_own_ok_int
def DZ:=@Nat.mul_le_mul_left
def D1:=@Go.wpListIn_plain
def D2:=@Go.results_tmp
def D3:=@List.getD_cons_succ
def CE:=@Int.natCast_mul
def D4:=@Go.wpList_make_own
def D5:=@Go.strOfNums_data
def DA:=@List.getElem?_replicate
def D7:=@UInt8.toNat_lt
def DD:=@Nat.add_sub_cancel
def D8:=@List.getElem_drop
def Ea:=@Nat.lt_trichotomy
def Eb:=@List.getElem?_toArray
def Ec:=@Go.run_append_own_at
def Ed:=@Bool.not_eq_true
def Ee:=@Classical.not_not
def Ef:=@Go.World.size_setCell
def Df:=@List.mem_append_left
def Eh:=@List.takeWhile_cons
def Ei:=@Option.getD_some
def DH:=@List.mem_append_right
def Ek:=@List.length_pos_iff
def El:=@Go.World.drewN_drewN
def DI:=@bne_iff_ne
def En:=@List.set_cons_zero
def DN:=@List.length_eq_zero_iff
def Eo:=@List.mergeSort_perm
def Ep:=@List.pairwise_mergeSort
def Eq:=@Nat.testBit_xor
def Er:=@Nat.testBit_lt_two_pow
def Es:=@Int.natCast_nonneg
def Et:=@List.take_length
def Eu:=@Array.getElem?_eq_getElem
def Ev:=@List.range'_succ
def Ew:=@List.eq_replicate_iff
def Ex:=@Nat.two_pow_add_eq_or_of_lt
def Ey:=@List.set_eq_of_length_le
def Ez:=@Nat.pow_lt_pow_right
def EA:=@Array.getElem?_modify
def EC:=@Go.wpList_mapUpdate_own
def ED:=@Go.World.ownsRow.kept
def EF:=@of_decide_eq_false
def EH:=@List.cons.injEq
def D6:=@List.flatMap_singleton
def EI:=@Go.Lib.run_append_own_string
def EJ:=@Go.WideShapes.bytes_inj
def EO:=@Nat.pos_of_ne_zero
def EP:=@List.find?_eq_none
def EQ:=@List.setIfInBounds_toArray
def ES:=@Array.toArray_toList
def EU:=@List.drop_succ_cons
def Eg:=@List.getElem?_set_self
def EW:=@List.set_cons_succ
def E0:=@List.getElem?_cons_zero
def Dt:=@List.getElem?_cons_succ
def E3:=@Go.Lib.byteCells_length
def Rd (k:IntKind)(w:H)(a:Option Addr)(zs:List Int):Prop:=
 zs≠[]->∃b off,a=G ⟨b,off,E⟩/\∀j,j<zs.length->w.cell? ⟨b,off+j,E⟩=G (.int k (zs.getD j 0))
theorem Rd.at{k:IntKind}{w:H}{a:Option Addr}{zs:List Int}(h:Rd k w a zs){i:Nat}(hi:i<zs.length):
 ∃b off,a=G ⟨b,off,E⟩/\∀j,j<zs.length->w.cell? ⟨b,off+j,E⟩=G (.int k (zs.getD j 0)):=
 h (by intro e;subst e;simp at hi)
theorem Rd.below{a:Option Addr}(h:Rd k w a zs)(q:Below w.heap.size w w'):Rd k w' a zs:=by
 intro d;obtain⟨b,i,rfl,m⟩:=h d;exact⟨b,i,rfl,fun j p=>(q.cell (Aj w _ (m j p))).trans (m j p)⟩
theorem Rd.nil(k:IntKind)(w:H)(a:Option Addr):Rd k w a []:=fun h=>absurd rfl h
theorem Rd.own{d:Nat}{a:Option Addr}(h:w.ownsRow d e 1 (C a n c) zs.length (zs.map (Value.int k))):Rd k w a zs:=by
 intro q
 rcases h.2 with⟨_,r⟩ | ⟨g,m,cur,i,_⟩
 ·grind
 ·simp only[Aq]at i;obtain⟨rfl,rfl,rfl⟩:=i;refine⟨g,0,rfl,fun j p=>?_⟩;rw[Ao,h.cellAt j (by omega)];simp[List.getD,p]
theorem AaQ{b:Nat}{m:Nat×Nat}(h:w.heap[b]?=G (.cells (zs.map (Value.int k)).toArray e m)):Rd k w (G ⟨b,0,E⟩) zs:=by
 intro _;refine⟨b,0,rfl,fun j d=>?_⟩;rw[Ao,Al w b j _ e m h];simp[List.getD,d]
theorem Fr{w1 w2:H}(d:Below w.heap.size w w1)(h:Below w1.heap.size w1 w2):Below w.heap.size w w2:=d.trans (h.mono d.size)
theorem Rd.take{b o:Nat}(h:∀j,j<zs.length->w.cell? ⟨b,o+j,E⟩=G (.int k (zs.getD j 0)))(n:Nat):Rd k w (G ⟨b,o,E⟩) (zs.take n):=by grind [Rd]
theorem Rd.drop{b o:Nat}(h:∀j,j<zs.length->w.cell? ⟨b,o+j,E⟩=G (.int k (zs.getD j 0)))(n:Nat):Rd k w (G ⟨b,o+n,E⟩) (zs.drop n):=by grind [Rd]
theorem hid{p:Prop}(h:p):Hid p:=h
def Bytes(zs:List Int):Prop:=∀n∈zs,0<=n/\n<=255
def Bits (zs:List Int):Prop:=∀k,0<=zs.getD k 0/\zs.getD k 0<=1
def Okay (zs:List Int)(k:Nat):Prop:=∀j,j<k->zs.getD j 0<=1
def F6 (zs:List Int):Int:=if zs.all (fun x=>decide (x<=1)) then (if 4096<zs.length then 2 else 0) else 1
theorem Bytes.at(h:Bytes zs)(k:Nat):0<=zs.getD k 0/\zs.getD k 0<=255:=by
 by_cases d:k<zs.length
 ·have:zs.getD k 0=zs[k]:=by simp[List.getD,d]
  rw[this];exact h _ (A4 d)
 grind
theorem Aah(h:Okay zs zs.length):zs.all (fun x=>decide (x<=1))=true:=by
 rw[AM];intro x i;obtain⟨k,d,rfl⟩:=A5 i;have:=h k d
 simpa [List.getD,d]using this
theorem YS(h:zs.all (fun x=>decide (x<=1))=true)(k:Nat):zs.getD k 0<=1:=by
 rw[AM]at h
 by_cases d:k<zs.length
 ·have:=h _ (A4 d)
  simpa [List.getD,d]using this
 ·simp[List.getD,Nat.le_of_not_lt d]
theorem err_bad{k:Nat}(h:¬zs.getD k 0<=1):F6 zs=1:=by
 unfold F6;rw[Aa];intro e;exact h (YS e k)
theorem AiL(h:Okay zs zs.length)(d:4096<zs.length):F6 zs=2:=by
 unfold F6;rw[Ab (Aah h),Ab d]
theorem TB(h:Okay zs zs.length)(d:¬4096<zs.length):F6 zs=0:=by
 unfold F6;rw[Ab (Aah h),Aa d]
theorem Okay.succ{k:Nat}(h:Okay zs k)(e:zs.getD k 0<=1):Okay zs (k+1):=by grind [Okay]
theorem IA(h:F6 zs=0):(∀k,zs.getD k 0<=1)/\zs.length<=4096:=by
 unfold F6 at h
 split at h
 ·rename_i d;refine⟨YS d,?_⟩
  split at h
  ·simp at h
  ·omega
 ·simp at h
theorem An4(zs:List Int):F6 zs=0\/F6 zs=1\/F6 zs=2:=by grind [F6]
theorem Fs{a b:Int}(h:a=b):Ending.returned (.int k a)=.returned (.int k b):=by rw[h]
theorem IP(zs:List Int)(a:Option Addr)(c:Nat)(w:H)(z:Rd .u8 w a zs)(F:zs.length<=maxLen):
 Calls prog 225 #[C a zs.length c] w fun e w'=>e=.returned (I J (F6 zs))/\w=w':=by
 unfold maxLen at F;go_enter func225,ntmps225;go_wp2
 go_loop [7] (fun i=>∃k:Nat,k<=zs.length/\i= I J k/\Hid (Okay zs k)) (fun i=>zs.length-(intOf i).toNat)
 case atStart=>exact⟨0,Af _,rfl,fun j P=>by omega⟩
 case round=>
  obtain⟨k,hk,rfl,d⟩:=hrel
  by_cases m:k<zs.length
  ·obtain⟨b1,o1,rfl,h⟩:=z.at m;have g1:=h k m;clear h;obtain⟨x, q⟩ := E7 (zs.getD k 0);rw[<-q]at g1;have r:Hid (x=zs.getD k 0):=q;clear q
   by_cases u:x<=1
   ·go_wp2
    go_round
    case rel=>exact⟨k+1,by omega,by go_num,d.out.succ (r.out▸u)⟩
    case measure=>simp[intOf];omega
   ·go_wp2;go_ret;exact⟨Fs (err_bad (k:=k) (by rw[<-r.out];omega)).symm,rfl⟩
  ·have p:k=zs.length:=by omega
   subst p
   by_cases s:4096<zs.length
   ·go_wp2;go_ret;exact⟨Fs (AiL d.out s).symm,rfl⟩
   ·go_wp2;go_ret;exact⟨Fs (TB d.out s).symm,rfl⟩
theorem Tryz.Of:(prog.info? 5).map (fun i=>(i.zero,i.size,i.bytes))=G (G (I .u8 0),1,1):=by kernel_rfl
def Own (w:H)(B:Nat)(v:Value)(L:List Int):Prop:=w.ownsRow B 5 1 v L.length (L.map (Value.int .u8))
theorem Own.nil(w:H)(B:Nat):Own w B (C E 0 0) []:=Bj _ _ _ _
theorem Own.Amk{x:Int}(h:w.ownsRow B 5 1 v (L.length+1) (L.map (Value.int .u8)++[I .u8 x])):Own w B v (L++[x]):=by
 unfold Own
 grind
theorem Lz(h:Own w B v L):∀k,v.ownBlock=G k->B<=k:=fun k d=>(h.lt k d).1
theorem AbR{a:Act}(B:Nat)(i:H)(y:Int)(d:Own w0 B v L)(j:o.guard=E)(s x:Operand)
 (P:o.op=.call {callee:=.builtin .append,args:=#[s,x],argTypes:=#[103,103]}) (hs:a.eval s=v)
 (hx:a.eval x= C (G ⟨w0.heap.size,0,E⟩) 1 1) (hlen:L.length<70368744177664) (hbel:Below B i w0) (hB:B<=w0.heap.size)
 (h:∀v' w',Own w' B v' (L++[y])->Below B i w'->wpList prog ops Q rest (a.put o.dst v') w'):wpList prog ops Q (o::rest) a (w0.alloc (.cells #[I .u8 y] 5)):=by
 obtain⟨i0,hi,m,p,q⟩:=As Tryz.Of;refine CJ _ j s x 103 P B 5 i0 (I .u8 0) 1 1 underlying103 hi m p q rfl (by decide) v _ _ hs (A6 d _) ⟨w0.heap.size,0,E⟩ 1 1 [I .u8 y] hx rfl (DK _ _ _) ?_ ?_ ?_ ?_ ?_
 ·intro u r;simp at r;subst r;rfl
 ·unfold maxLen;omega
 ·omega
 ·simp;omega
 ·intro v' w' z F _;exact h v' w' (Own.Amk z) ((hbel.alloc hB _).grown F (by simp;omega) (Lz d))
theorem FH{a:Act}(B:Nat)(i:H)(N:Nat)(m:o.guard=E)(l c:Operand)
 (ho:o.op=Op.makeSlice 103 l c) (x y:Int) (hl:a.eval l= I J x) (F:a.eval c= I J y) (hx:x=(N:Int)) (hy:y=(N:Int)) (hN:N<=70368744177664) (d:Below B i w) (u:B<=w.heap.size)
 (h:∀w',Own w' B (C (G ⟨w.heap.size,0,E⟩) N N) (List.replicate N 0)->Below B i w'->w.heap.size<w'.heap.size->wpList prog ops Q rest (a.put o.dst (C (G ⟨w.heap.size,0,E⟩) N N)) w'):
 wpList prog ops Q (o::rest) a w:=by
 obtain⟨i0,hi,q,r,s⟩:=As Tryz.Of;refine CK w m l c 103 ho B 5 i0 (I .u8 0) 1 underlying103 hi q r J J x y N hl F hx hy (by rw[s];omega) (by unfold maxLen;omega) u fun w' j z=>?_
 have e:(madeCells (Value.cells (I .u8 0)) (N*1)).toList=List.replicate N (I .u8 0):=by
  rw[By];exact CL _ _
 rw[e]at j;have p:=(j.lt w.heap.size rfl).2;refine h w' ?_ (d.grown z u (by intro k P;cases P)) p;unfold Own;rw[A7,Dh];exact j
theorem Own.cell(h:Own w B (C (G ⟨g,0,E⟩) N c) L){i:Nat}(hi:i<L.length):w.cell? ⟨g,i,E⟩=G (I .u8 (L.getD i 0)):=by
 obtain⟨b,d,e,j⟩:=(Rd.own (k:=.u8) h) (by intro e;subst e;simp at hi)
 grind
theorem Own.len(h:Own w B (C (G ⟨g,0,E⟩) N c) L):L.length=N:=by
 rcases h.2 with⟨d,_⟩ | ⟨j,i,cur,d,_⟩
 ·simp at d
 grind
theorem Own.block(h:Own w B (C (G ⟨g,0,E⟩) N c) L):B<=g/\g<w.heap.size:=h.lt g rfl
theorem Own.free(h:Own w B (C (G ⟨g,0,E⟩) N c) L)(i:Nat):w.frozen? ⟨g,i,E⟩=false:=by
 have e:=h.len;unfold Own at h;rw[e]at h;exact h.frozenAt i
theorem Own.set(h:Own w B (C (G ⟨g,0,E⟩) N c) L)(i:Nat)(x:Int):Own (w.setCell ⟨g,i,E⟩ (I .u8 x)) B (C (G ⟨g,0,E⟩) N c) (L.set i x):=by
 have e:=h.len;unfold Own at h ⊢;rw[An,e,Di];rw[e]at h;exact(h.stored i _).1
theorem Own.drew(h:Own w B v L):Own w.drew B v L:=h
theorem Own.rd{a:Option Addr}(h:Own w B (C a n c) L):Rd .u8 w a L:=Rd.own h
theorem Own.FC(h:Own w B v L):∃a c,v= C a L.length c/\(L≠[]->∃g,a=G ⟨g,0,E⟩)/\L.length<=c/\c<=maxLen:=by
 rcases h.2 with⟨i,j⟩ | ⟨g,d,cur,i,_,_,m,p,_⟩
 ·grind
 grind
theorem Own.below(h:Own w B v L)(s:Below w.heap.size w w'):Own w' B v L:=by
 refine⟨h.1,?_⟩
 rcases h.2 with j | ⟨g,d,cur,m,p,q,r⟩
 ·exact .inl j
 ·have i:g<w.heap.size:=by
   grind
  exact .inr ⟨g,d,cur,m,p,(s.block g i).trans q,r⟩
theorem Own.mono(h:Own w B v L)(q:B'<=B):Own w B' v L:=by
 refine⟨h.1,?_⟩
 rcases h.2 with i | ⟨g,d,cur,j,p,m⟩
 ·exact .inl i
 ·exact .inr ⟨g,d,cur,j,by omega,m⟩
theorem L6{a:Option Addr}(h:Rd .u8 w a L)(c:Nat):(convert 103 9 (C a L.length c)).run prog w=.ok (.string (strOfNums L)) w:=by
 cases L with
 | nil=>
  rw[run_convert_bytes_string w 103 9 5 a ([]:List Int).length c underlying103 underlying5 underlying9]
  cases a with
  | none=>simp[Conv.bytesToString,strOfNums];rfl
  | some x=>exact(run_bytesToString w x 0 c [] (by simp[loadCells];rfl)).trans (by simp[strOfNums];rfl)
 | cons y L=>
  obtain⟨b,d,rfl,i⟩:=h (by simp);exact run_convert_bytes_arg w 103 5 underlying103 underlying5 b d _ c _ rfl i 9 underlying9
theorem KI(A:List Int)(k m:Nat)(x:Int)(d:A.length=k):(A++List.replicate (m+1) 0).set k x=(A++[x])++List.replicate m 0:=by
 subst d
 grind
def Je (L:List Int)(off:Nat)(M:List Int):List Int:=L.take off++(M++L.drop (off+M.length))
theorem Tryz.AoR:(prog.info? 5).map (·.size)=G 1:=by kernel_rfl
theorem Own.whole(h:Own w B (C (G ⟨g,0,E⟩) N N) L):w.heap[g]?=G (.cells (L.map (Value.int .u8)).toArray 5 (0,0))/\B<=g/\N<=maxLen:=by
 have r:=h.len
 rcases h.2 with⟨d,_⟩ | ⟨q,i,cur,d,j,hg,_,p,m,ht⟩
 ·simp at d
 ·simp only[Aq,Bl,BI,BJ]at d;obtain⟨rfl,_,rfl⟩:=d;refine⟨?_,j,p⟩;rw[hg,<-ht,Aw (by simp;omega)]
theorem X9(hg:w.heap[g]?=G (.cells (L.map (Value.int .u8)).toArray 5 (0,0)))(d:B<=g)(h:L.length=N)(i:N<=maxLen):Own w B (C (G ⟨g,0,E⟩) N N) L:=by
 subst h;exact⟨by simp,.inr ⟨g,_,_,rfl,d,hg,Ac _,i,by simp,Aw (by simp)⟩⟩
theorem QW(m:Own w B (C (G ⟨g,0,E⟩) N N) L)(ab:Rd .u8 w ad M)(ty:TypeId)(z:Option Addr)(d h p q n:Nat)(i:n=min M.length d)
 (aa:0<n->z=G ⟨g,q,E⟩) (ac:q+n<=N):
 ∃w',(Builtin.copy_ #[103,103] ty #[C z d h, C ad M.length p]).run prog w=.ok (goInt n) w'/\
  Own w' B (C (G ⟨g,0,E⟩) N N) (Je L q (M.take n))/\w.grownBy w' (G g):=by
 obtain⟨hg,hB,hm⟩:=m.whole;have hl:=m.len
 by_cases F:n=0
 ·refine⟨w,?_,?_,⟨rfl,rfl,rfl,Ac _,fun _ _ _=>rfl⟩⟩
  ·rw[F];exact run_copy_none (P:=prog) w 103 103 ty 5 z ad d h M.length p underlying103 Tryz.AoR (i.symm.trans F)
  ·rw[F]
   simpa [Je]using m
 ·obtain rfl:=aa (by omega);have hM:M≠[]:=by rintro rfl;simp at i;omega
  obtain⟨b,o,rfl,hc⟩:=ab hM;have hn:((M.take n).map (Value.int .u8)).length=n:=by simp;omega
  have r:=run_copy_row (P:=prog) w 103 103 ty 5 g q d h ⟨b,o,E⟩ M.length p _ 5 ((M.take n).map (Value.int .u8)) underlying103 Tryz.AoR hg (hn.trans i) ?_ ?_ ?_
  ·rw[hn]at r;refine⟨_,r,?_,⟨rfl,rfl,rfl,by simp,fun k _ hk=>Cl w g k _ (fun e=>hk (by simp[e]))⟩⟩;refine X9 ?_ hB ?_ hm
   ·refine(Cn w g _ _ 5 _ hg).trans ?_;have s:(M.take n).length=n:=by simp;omega
    simp[Je,s]
   ·simp[Je];omega
  ·intro j u hj;have ae:j<n:=by
    grind
   have e1:(⟨b,o,E⟩:Addr).add j=⟨b,o+j,E⟩:=by unfold Addr.add;split<;>simp_all
   grind
  ·rw[hn];simp;omega
  ·intro u hu;obtain⟨y,_,rfl⟩:=Bb.1 hu;rfl
theorem M4{a:Act}(m:H)(i:Own w B (C (G ⟨g,0,E⟩) N N) L)(q:Rd .u8 w ad M)
 (p:o.guard=E) (d s:Operand) (P:o.op=.call {callee:=.builtin .copy,args:=#[d,s],argTypes:=#[103,103]}) (dp:Option Addr) (dLen dCap sCap off n:Nat) (hmin:n=min M.length dLen) (hd:a.eval d= C dp dLen dCap) (hs:a.eval s= C ad M.length sCap)
 (hdp:0<n->dp=G ⟨g,off,E⟩) (hfit:off+n<=N) (hbel:Below B m w)
 (h:∀w',Own w' B (C (G ⟨g,0,E⟩) N N) (Je L off (M.take n))->Below B m w'->w.heap.size<=w'.heap.size->wpList prog ops Q rest (a.put o.dst (goInt n)) w'):
 wpList prog ops Q (o::rest) a w:=by
 obtain⟨w',j,u,r⟩:=QW i q o.type dp dLen dCap sCap off n hmin hdp hfit;refine CM p fun K z=>?_
 unfold Oper.wp;simp[execOp,P,resolve,invoke,builtin,hd,hs,j,Result.andThen];have hB:=i.block;exact z _ _ (h w' u (hbel.grown r (by omega) (by intro k F;simp at F;omega)) r.size)
def ArrAt(k:IntKind)(T:TypeId)(w:H)(g:Nat)(L:List Int):Prop:=w.heap[g]?=G (.cells (L.map (Value.int k)).toArray T (0,0))
theorem ArrAt.cell(h:ArrAt k T w g L){j:Nat}(d:j<L.length):w.cell? ⟨g,j,E⟩=G (.int k (L.getD j 0)):=by
 rw[Al w g j _ T (0,0) h];simp[List.getD,d]
theorem ArrAt.free(h:ArrAt k T w g L)(j:Nat):w.frozen? ⟨g,j,E⟩=false:=Bz w g j _ T h
theorem ArrAt.set(h:ArrAt k T w g L)(j:Nat)(x:Int):ArrAt k T (w.setCell ⟨g,j,E⟩ (.int k x)) g (L.set j x):=by
 unfold ArrAt;rw[BK w g j _ T _ h,Di];simp
theorem ArrAt.other(h:ArrAt k T w g L)(p:Addr)(v:Value)(d:g≠p.block):ArrAt k T (w.setCell p v) g L:=by
 unfold ArrAt;rw[Co w p g v d];exact h
theorem ArrAt.below(h:ArrAt k T w g L)(d:Below B w w')(hg:g<B):ArrAt k T w' g L:=(d.block g hg).trans h
theorem ArrAt.lt(h:ArrAt k T w g L):g<w.heap.size:=by grind [ArrAt]
theorem ArrAt.alloc(h:ArrAt k T w g L)(o:Obj):ArrAt k T (w.alloc o) g L:=(Bc w o g h.lt).trans h
theorem ArrAt.rd(h:ArrAt k T w g (A++x++Z)){o:Nat}(d:o=A.length):Rd k w (G ⟨g,o,E⟩) x:=by
 subst d;intro _;refine⟨g,A.length,rfl,fun j i=>?_⟩;rw[h.cell (by simp;omega)]
 grind
theorem Ql(k:IntKind)(T:TypeId)(w:H)(L:List Int):ArrAt k T (w.alloc (.cells (L.map (Value.int k)).toArray T)) w.heap.size L:=Am w _
theorem Own.arr(h:Own w B (C (G ⟨g,0,E⟩) N N) L):ArrAt .u8 5 w g L/\B<=g/\N<=maxLen:=by
 have r:=h.len
 rcases h.2 with⟨d,_⟩ | ⟨q,i,cur,d,j,hg,_,p,m,ht⟩
 ·simp at d
 ·simp only[Aq,Bl,BI,BJ]at d;obtain⟨rfl,_,rfl⟩:=d;refine⟨?_,j,p⟩;unfold ArrAt;rw[hg,<-ht,Aw (by simp;omega)]
theorem PX(hg:ArrAt .u8 5 w g L)(d:B<=g)(h:L.length=N)(i:N<=maxLen):Own w B (C (G ⟨g,0,E⟩) N N) L:=by
 subst h;exact⟨by simp,.inr ⟨g,_,_,rfl,d,hg,Ac _,i,by simp,Aw (by simp)⟩⟩
structure Kept(S:List Nat)(w w':H):Prop where
 os:w'.os=w.os
 tape:w'.tape=w.tape
 output:w'.output=w.output
 size:w.heap.size<=w'.heap.size
 block:∀k,k<w.heap.size->k∉S->w'.heap[k]?=w.heap[k]?
theorem Kept.refl(S:List Nat)(w:H):Kept S w w:=⟨rfl,rfl,rfl,Ac _,fun _ _ _=>rfl⟩
theorem Kept.trans{S:List Nat}{a b c:H}(h:Kept S a b)(k:Kept S b c):Kept S a c:=
 ⟨k.os.trans h.os,k.tape.trans h.tape,k.output.trans h.output,Ak h.size k.size,fun i hi d=>(k.block i (AI hi h.size) d).trans (h.block i hi d)⟩
theorem Kept.Fn{d:List Nat}(h:Kept S a b)(m:∀x∈S,x∈d):Kept d a b:=⟨h.os,h.tape,h.output,h.size,fun i hi j=>h.block i hi (fun e=>j (m i e))⟩
theorem Kept.drew(h:Kept S a w):Kept S a w.drew:=⟨h.os,h.tape,h.output,h.size,h.block⟩
theorem Kept.drewN(h:Kept S a w)(n:Nat):Kept S a (w.drewN n):=⟨h.os,h.tape,h.output,h.size,h.block⟩
theorem Kept.setCell{S:List Nat}{a w:H}(h:Kept S a w){p:Addr}(i:p.block∈S)(u:Value):Kept S a (w.setCell p u):=
 h.trans ⟨rfl,rfl,rfl,by simp[World.setCell],fun k _ d=>BA _ _ _ _ (fun e=>d (e▸i))⟩
theorem Kept.alloc(h:Kept S a w)(o:Obj):Kept S a (w.alloc o):=h.trans ⟨rfl,rfl,rfl,by simp,fun k d _=>Bc _ _ _ d⟩
theorem Kept.E5(h:Below a.heap.size a b):Kept S a b:=⟨h.os,h.tape,h.output,h.size,fun k d _=>h.block k d⟩
theorem Kept.below(h:Kept S a b)(i:B<=a.heap.size)(d:∀x∈S,B<=x):Below B a b:=⟨h.os,h.tape,h.output,h.size,fun k j=>h.block k (by omega) (fun e=>by have:=d k e;omega)⟩
theorem Kept.rd(h:Kept S a b)(q:Rd k a ad zs)(r:∀g o,ad=G ⟨g,o,E⟩->g∉S):Rd k b ad zs:=by
 intro i;obtain⟨g,o,rfl,m⟩:=q i;refine⟨g,o,rfl,fun j p=>?_⟩;have d:=Aj a _ (m j p);rw[<-m j p];have:=h.block g d (r g o rfl);simp only[World.cell?,this]
theorem ArrAt.kept(h:ArrAt k T w g L)(d:Kept S w w')(hg:g∉S):ArrAt k T w' g L:=(d.block g h.lt hg).trans h
def AllBits(c:List Int):Prop:=∀x∈c,0<=x/\x<=1
def nxt (s x:Int):Int:=x*32+s / 2
def AnE (s x:Int):Int:=(x+s / 32 % 2+s / 16 % 2+s / 8 % 2+s % 2) % 2
def AnF (s x:Int):Int:=(x+s / 16 % 2+s / 8 % 2+s / 2 % 2+s % 2) % 2
def AnG (s x:Int):Int:=(x+s / 32 % 2+s / 16 % 2+s / 4 % 2+s % 2) % 2
def sgn (c y:Int):Int:=if c=1 then -y else y
def gain (soft:List Int)(i:Nat)(s x:Int):Int:=sgn (AnE s x) (soft.getD (3*i) 0)+sgn (AnF s x) (soft.getD (3*i+1) 0)+sgn (AnG s x) (soft.getD (3*i+2) 0)
def sc (soft:List Int):Nat->Int->List Int->Int
 | _,_,[]=>0
 | i,s,x::c=>gain soft i s x+sc soft (i+1) (nxt s x) c
def ends:Int->List Int->Int
 | s,[]=>s
 | s,x::c=>ends (nxt s x) c
def ahead:List Int->List Int->Bool
 | x::a,y::b=>if x=y then ahead a b else decide (x<y)
 | _,_=>false
structure Best(F:List Int->Int)(n:Nat)(d:List Int):Prop where
 len:d.length=n
 bits:AllBits d
 most:∀o,o.length=n->AllBits o->F o<F d\/(F o=F d/\ahead o d=false)
def MA:List Int:=[0,0,0,0,0,0]
def top (soft:List Int):Nat->Nat->Int->Int
 | 0,i,s=>sc soft i s MA
 | r+1,i,s=>max (gain soft i s 0+top soft r (i+1) (nxt s 0)) (gain soft i s 1+top soft r (i+1) (nxt s 1))
def way (soft:List Int):Nat->Nat->Int->List Int
 | 0,_,_=>[]
 | r+1,i,s=>if gain soft i s 0+top soft r (i+1) (nxt s 0)<gain soft i s 1+top soft r (i+1) (nxt s 1) then 1::way soft r (i+1) (nxt s 1) else 0::way soft r (i+1) (nxt s 0)
theorem YA(soft:List Int):∀(r i:Nat) (s:Int),sc soft i s (way soft r i s++MA)=top soft r i s:=by
 intro r
 induction r with
 | zero=>intro i s;rfl
 | succ r ih=>
  intro i s;rw[way,top]
  by_cases h:gain soft i s 0+top soft r (i+1) (nxt s 0)<gain soft i s 1+top soft r (i+1) (nxt s 1)
  ·rw[Ab h]
   show gain soft i s 1+sc soft (i+1) (nxt s 1) (way soft r (i+1) (nxt s 1)++MA)=_;rw[ih];omega
  ·rw[Aa h]
   show gain soft i s 0+sc soft (i+1) (nxt s 0) (way soft r (i+1) (nxt s 0)++MA)=_;rw[ih];omega
theorem Rg(soft:List Int):∀(r i:Nat) (s:Int),Best (fun o=>sc soft i s (o++MA)) r (way soft r i s)
 | 0,i,s=>⟨rfl,by intro x d;simp[way]at d,fun o q _=>by
  have:o=[]:=Cp q;subst this
  exact .inr ⟨rfl,rfl⟩⟩
 | r+1,i,s=>by
  have b0:=Rg soft r (i+1) (nxt s 0);have b1:=Rg soft r (i+1) (nxt s 1);have F:=YA soft r (i+1) (nxt s 0);have t1:=YA soft r (i+1) (nxt s 1);have P:=YA soft (r+1) i s;refine⟨?_,?_,fun o q m=>?_⟩
  ·unfold way;split
   ·simp[b1.len]
   ·simp[b0.len]
  ·unfold way;split
   ·intro x d
    rcases Ar.1 d with rfl | d
    ·omega
    ·exact b1.bits x d
   ·intro x d
    rcases Ar.1 d with rfl | d
    ·omega
    ·exact b0.bits x d
  ·cases o with
   | nil=>simp at q
   | cons x o=>
    have d:=m x (by simp);have p:o.length=r:=by simpa using q
    have j:AllBits o:=fun y hy=>m y (by simp[hy])
    show gain soft i s x+sc soft (i+1) (nxt s x) (o++MA)<sc soft i s (way soft (r+1) i s++MA)\/(gain soft i s x+sc soft (i+1) (nxt s x) (o++MA)=sc soft i s (way soft (r+1) i s++MA)/\ahead (x::o) (way soft (r+1) i s)=false);rw[P];unfold top way
    rcases (show x=0\/x=1 by omega)with rfl | rfl
    ·rcases b0.most o p j with h | ⟨h,u⟩
     ·rw[F]at h
      left;omega
     ·rw[F]at h
      split
      ·left;omega
      ·rename_i z
       right;refine⟨by omega,?_⟩;simp[ahead,u]
    ·rcases b1.most o p j with h | ⟨h,u⟩
     ·rw[t1]at h
      left;omega
     ·rw[t1]at h
      split
      ·right;refine⟨by omega,?_⟩;simp[ahead,u]
      ·rename_i z
       by_cases he:gain soft i s 1+top soft r (i+1) (nxt s 1)=gain soft i s 0+top soft r (i+1) (nxt s 0)
       ·right;refine⟨by omega,?_⟩;simp[ahead]
       ·left;omega
def MD (x y:List Int):List Int:=List.zipWith (fun a b=>(a+b) % 2) x y
def GE:Nat->List Int->List Int
 | 0,b=>b
 | m+1,b=>MD (GE m (b.take (2 ^ m))) (GE m (b.drop (2 ^ m)))++GE m (b.drop (2 ^ m))
theorem YP(h:x.length=y.length):(MD x y).length=y.length:=by simp[MD,h]
theorem Afh(x y:List Int):AllBits (MD x y):=fun z d=>by
 unfold MD at d;obtain⟨i,hi,rfl⟩:=A5 d;rw[List.getElem_zipWith];omega
theorem YO{a b c d:List Int}(h:a.length=c.length):MD (a++b) (c++d)=MD a c++MD b d:=List.zipWith_append h
theorem JM:∀(m:Nat) (b:List Int),b.length=2 ^ m->(GE m b).length=2 ^ m:=by intro a;induction a<;>grind [GE,YP]
theorem M0:∀(m:Nat) (b:List Int),AllBits b->AllBits (GE m b):=by intro a;induction a<;>grind [AllBits,GE,Afh]
def Np (n:Int):Bool:=decide (n=1\/n=2\/n=4\/n=8\/n=16\/n=32\/n=64\/n=128\/n=256\/n=512)
def J2 (n:Int):Int:=if Np n then 0 else 1
theorem AnH{n:Int}(h:Np n=true):∃m:Nat,m<=9/\n=((2 ^ m:Nat):Int):=by
 unfold Np at h;simp only[Bq]at h
 rcases h with h | h | h | h | h | h | h | h | h | h
 ·exact⟨0,by omega,h⟩
 ·exact⟨1,by omega,h⟩
 ·exact⟨2,by omega,h⟩
 ·exact⟨3,by omega,h⟩
 ·exact⟨4,by omega,h⟩
 ·exact⟨5,by omega,h⟩
 ·exact⟨6,by omega,h⟩
 ·exact⟨7,by omega,h⟩
 ·exact⟨8,by omega,h⟩
 ·exact⟨9,by omega,h⟩
theorem Anx{m:Nat}(h:m<=9):Np ((2 ^ m:Nat):Int)=true:=by
 have:m=0\/m=1\/m=2\/m=3\/m=4\/m=5\/m=6\/m=7\/m=8\/m=9:=by omega
 rcases this with rfl | rfl | rfl | rfl | rfl | rfl | rfl | rfl | rfl | rfl<;>rfl
theorem Ail:∀k:Fin 513,1<=k.val->(bits BinOp.and IntKind.i64 (k.val:Int) ((k.val:Int)-1) !=0)=!Np (k.val:Int):=by decide+kernel
theorem Ak7(n:Int)(d:1<=n)(h:n<=512):(bits BinOp.and IntKind.i64 n (n-1) !=0)=!Np n:=by
 have:=Ail ⟨n.toNat,by omega⟩ (by show 1<=n.toNat;omega)
 grind
theorem Abn(n:Int)(w:H)(m: -9223372036854775808<=n/\n<=9223372036854775807):
 Calls prog 276 #[I J n] w fun e w'=>e=.returned (I J (J2 n))/\w=w':=by
 by_cases h:n<1
 ·have e:J2 n=1:=by unfold J2 Np;rw[Aa];simp;omega
  rw[e];go_enter func276,ntmps276;go_wp2;go_ret;exact⟨rfl,rfl⟩
 ·by_cases j:512<n
  ·have e:J2 n=1:=by unfold J2 Np;rw[Aa];simp;omega
   rw[e];have i:decide (n<1)=false:=Ae h;go_enter func276,ntmps276;go_wp2;go_ret;exact⟨rfl,rfl⟩
  ·have i:decide (n<1)=false:=Ae h;have d:=hid (Ak7 n (by omega) (by omega));go_enter func276,ntmps276;go_wp2
   ·go_ret;refine⟨Fs ?_,rfl⟩;have e:=d.out.symm.trans ‹(bits BinOp.and IntKind.i64 n (n-1) !=0)=_›;unfold J2
    grind
   ·go_ret;refine⟨Fs ?_,rfl⟩;have e:=d.out.symm.trans ‹(bits BinOp.and IntKind.i64 n (n-1) !=0)=_›;unfold J2
    grind
theorem AllBits.at(h:AllBits D)(k:Nat):0<=D.getD k 0/\D.getD k 0<=1:=by
 by_cases d:k<D.length
 ·have e:D.getD k 0=D[k]:=by simp[List.getD,d]
  rw[e];exact h _ (A4 d)
 grind
theorem AllBits.bits(h:AllBits D):Bits D:=h.at
theorem AllBits.bytes(h:AllBits D):Bytes D:=fun x d=>by have:=h x d;omega
theorem AmF{a x:Int}(i:0<=a/\a<=1)(j:0<=x/\x<=1):bits BinOp.xor IntKind.u8 a x=(a+x) % 2:=by
 have d:a=0\/a=1:=by omega
 have h:x=0\/x=1:=by omega
 rcases d with rfl | rfl<;>rcases h with rfl | rfl<;>decide+kernel
def NI (x y:List Int)(k:Nat):List Int:=MD (x.take k) (y.take k)++x.drop k
theorem Ajp(x y:List Int):NI x y 0=x:=by simp[NI,MD]
theorem AlL(h:x.length=y.length):NI x y x.length=MD x y:=by grind [NI,MD]
theorem Ac7(h:x.length=y.length)(k:Nat):(NI x y k).length=x.length:=by grind [NI,MD]
theorem Anu(h:x.length=y.length){k:Nat}(d:k<x.length):(NI x y k).getD k 0=x.getD k 0:=by grind [NI,MD]
theorem AlM(h:x.length=y.length){k:Nat}(i:k<x.length):(NI x y k).set k ((x.getD k 0+y.getD k 0) % 2)=NI x y (k+1):=by
 have j:(MD (x.take k) (y.take k)).length=k:=by simp[MD];omega
 have d:k<y.length:=by omega
 unfold NI;rw[Cq _ _ (by omega),j,Bm,CY i,En,Bu i,Bu d,YO (by simp;omega),Bg];simp[MD,List.getD,i,d]
theorem AdC{o k:Nat}(h:A.length=o)(d:k<x.length):(A++x++Z).getD (o+k) 0=x.getD k 0:=by grind
theorem Amc{o k:Nat}(h:A.length=o)(d:k<x.length)(v:Int):(A++x++Z).set (o+k) v=A++x.set k v++Z:=by grind
theorem ZQ(A x y Z:List Int)(g o n c h:Nat)(w:H)(P:ArrAt .u8 5 w g (A++(x++y)++Z))(hA:A.length=o)(hx:x.length=h)(hy:y.length=h)(hn:n=h+h)(h0:1<=h)(hb:n<=512)(hc:n<=c)
 (bx:AllBits x) (bY:AllBits y):
 Calls prog 279 #[C (G ⟨g,o,E⟩) n c] w fun e w'=>e=.returned (.tuple #[])/\ArrAt .u8 5 w' g (A++(MD x y++y)++Z)/\Kept [g] w w':=by
 have hq:(n:Int).tdiv 2=(h:Int):=by grind
 have af:h<=n:=by omega
 have ag:¬c=h:=by omega
 have F:=hid hA;have i:=hid hx;have HY:=hid hy;have HN:=hid hn;have m:=hid (hx.trans hy.symm);clear hA hx hy hn;go_enter func279,ntmps279;go_wp2
 go_loopw [12] (fun q wr=>∃k:Nat,k<=h/\q= I J k/\ArrAt .u8 5 wr g (A++(NI x y k++y)++Z)/\Kept [g] w wr) (fun q _=>h-(intOf q).toNat)
 case atStart=>exact⟨0,Af _,rfl,by rw[Ajp];exact P,Kept.refl _ _⟩
 case round=>
  obtain⟨k,hk,rfl,z,d⟩:=hrel;have j:=hid (Ac7 m.out k)
  by_cases s:k<h
  ·have ac:k<n-h:=by have:=HN.out;omega
   have ad:k<n:=by omega
   have cx:wr.cell? ⟨g,o+k,E⟩=G (I .u8 (x.getD k 0)):=by
    rw[z.cell (by simp[j.out,F.out,i.out];omega),AdC F.out (by rw[Ai,j.out,i.out];omega)];rw[<-Anu m.out (k:=k) (by rw[i.out];exact s)];unfold List.getD;rw[BB (by rw[j.out,i.out];exact s)]
   have cy:wr.cell? ⟨g,o+h+k,E⟩=G (I .u8 (y.getD k 0)):=by
    rw[BZ,z.cell (by simp[j.out,F.out,i.out,HY.out];omega),AdC F.out (by rw[Ai,j.out,i.out,HY.out];omega)];unfold List.getD;rw[BL (by rw[j.out,i.out];omega),j.out,i.out,CZ]
   have hf:=z.free (o+k);have aa:=bx.at k;have ab:=bY.at k;have u:=z.set (o+k) ((x.getD k 0+y.getD k 0) % 2);rw[Amc F.out (by rw[Ai,j.out,i.out];omega),DL _ _ (by rw[j.out,i.out];exact s),AlM m.out (by rw[i.out];exact s)]at u;have r:=d.setCell (p:=⟨g,o+k,E⟩) (by simp) (I .u8 ((x.getD k 0+y.getD k 0) % 2));obtain⟨p, ep⟩ := E7 (x.getD k 0);obtain⟨q, eq⟩ := E7 (y.getD k 0);rw[<-ep]at cx aa;rw[<-eq]at cy ab;rw[<-ep,<-eq]at u r;have ah:=AmF aa ab;clear ep eq z d;go_wp2
   go_roundw
   case rel=>grind
   case measure=>simp[intOf];omega
  ·obtain rfl:k=h:=by omega
   have ae:¬k<n-k:=by have:=HN.out;omega
   go_wp2
   go_end0;refine⟨rfl,?_,d⟩;rw[<-AlL m.out,i.out];exact z
theorem Yx:∀(m:Nat) (A x Z:List Int) (g o n c:Nat) (w:H),ArrAt .u8 5 w g (A++x++Z)->A.length=o->x.length=n->n=2 ^ m->n<=512->n<=c->AllBits x->
 Calls prog 260 #[C (G ⟨g,o,E⟩) n c] w fun e w'=>e=.returned (.tuple #[])/\ArrAt .u8 5 w' g (A++GE m x++Z)/\Kept [g] w w'
 | 0,A,x,Z,g,o,n,c,w,harr,hA,hx,hn,hb,hc,bx=>by
  obtain rfl:n=1:=hn;have HX:=hid hx;clear hx;go_enter func260,ntmps260;go_wp2;refine Ah (Cd rfl _ _ _) rfl ?_;exact⟨rfl,harr,Kept.refl _ _⟩
 | m+1,A,x,Z,g,o,n,c,w,harr,hA,hx,hn,hb,hc,bx=>by
  obtain⟨h, d⟩ := E7 (2 ^ m);have h0:1<=h:=by rw[d];exact Dj
  have j:n=h+h:=by rw[hn,d,Dk];omega
  have l1:(x.take h).length=h:=by rw[Ay];omega
  have l2:(x.drop h).length=h:=by rw[AJ];omega
  have b1:AllBits (x.take h):=fun y hy=>bx y (Cr hy)
  have b2:AllBits (x.drop h):=fun y hy=>bx y (BQ hy)
  have hT:GE (m+1) x=MD (GE m (x.take h)) (GE m (x.drop h))++GE m (x.drop h):=by rw[GE,d]
  have t1:=JM m (x.take h) (l1.trans d);have t2:=JM m (x.drop h) (l2.trans d);rw[<-d]at t1 t2;have c1:=M0 m _ b1;have c2:=M0 m _ b2;have p:x=x.take h++x.drop h:=(Cs h x).symm;rw[p]at harr;rw[hT];have q:=fun w' i=>Yx m A (x.take h) (x.drop h++Z) g o h c w' i hA l1 d (by omega) (by omega) b1
  have r:=fun w' i=>Yx m (A++GE m (x.take h)) (x.drop h) Z g (o+h) h (c-h) w' i (by rw[Ai,hA,t1]) l2 d (by omega) (by omega) b2
  generalize x.take h=x1 at*;generalize x.drop h=u at*;generalize GE m x1=z at*;generalize GE m u=y2 at*;have hj:=fun w' i=>ZQ A z y2 Z g o n c h w' i hA t1 t2 j h0 hb hc c1 c2
  have hq:(n:Int).tdiv 2=(h:Int):=by grind
  have ag:h<=n:=by omega
  have af:h<=c:=by omega
  have ai:¬c=h:=by omega
  have ah:((n:Int)==1)=false:=by simp;omega
  have F:=hid (show n-h=h by omega);clear hn j hx d p hT l1 l2 t1 t2 hA;have e1:A++(x1++u)++Z=A++x1++(u++Z):=by simp
  have e2:A++z++(u++Z)=A++z++u++Z:=by simp
  have e3:A++z++y2++Z=A++(z++y2)++Z:=by simp
  rw[e1]at harr;rw[e2]at q;rw[e3]at r;clear e1 e2 e3;have s:True:=trivial;go_enter func260,ntmps260
  go_wp2_with(first
   | (go_at_call 260;have _t:=s;refine(q _ harr).mono ?_;rintro e w1 ⟨rfl,ac,P⟩;clear s)
   | (go_at_call 260;rw[F.out];refine(r _ ac).mono ?_;rintro e w2 ⟨rfl,ad,aa⟩)
   | (go_at_call 279;refine(hj _ ad).mono ?_;rintro e w3 ⟨rfl,ae,ab⟩))
  go_end0;exact⟨rfl,ae,(P.trans aa).trans ab⟩
def Lk (xs ys:List Int)(k:Nat):List Int:=(List.range k).map fun i=>(xs.getD i 0+ys.getD i 0) % 2
theorem GZ(xs d:List Int)(k:Nat):(Lk xs d k).length=k:=by simp[Lk]
theorem Tryz.Wa:(prog.info? 3).map (fun i=>(i.zero,i.size,i.bytes))=G (G (I J 0),1,8):=by kernel_rfl
def OwnI (w:H)(B:Nat)(v:Value)(L:List Int):Prop:=w.ownsRow B 3 1 v L.length (L.map (Value.int J))
theorem OwnI.nil(w:H)(B:Nat):OwnI w B (C E 0 0) []:=Bj _ _ _ _
theorem OwnI.Amk{x:Int}(h:w.ownsRow B 3 1 v (L.length+1) (L.map (Value.int J)++[I J x])):OwnI w B v (L++[x]):=by
 unfold OwnI
 grind
theorem Aar(h:OwnI w B v L):∀k,v.ownBlock=G k->B<=k:=fun k d=>(h.lt k d).1
theorem YE{a:Act}(B:Nat)(i:H)(y:Int)(d:OwnI w0 B v L)(j:o.guard=E)(s x:Operand)
 (P:o.op=.call {callee:=.builtin .append,args:=#[s,x],argTypes:=#[74,74]}) (hs:a.eval s=v)
 (hx:a.eval x= C (G ⟨w0.heap.size,0,E⟩) 1 1) (hlen:L.length<17592186044416) (hbel:Below B i w0) (hB:B<=w0.heap.size)
 (h:∀v' w',OwnI w' B v' (L++[y])->Below B i w'->wpList prog ops Q rest (a.put o.dst v') w'):wpList prog ops Q (o::rest) a (w0.alloc (.cells #[I J y] 3)):=by
 obtain⟨i0,hi,m,p,q⟩:=As Tryz.Wa;refine CJ _ j s x 74 P B 3 i0 (I J 0) 1 8 underlying74 hi m p q rfl (by decide) v _ _ hs (A6 d _) ⟨w0.heap.size,0,E⟩ 1 1 [I J y] hx rfl (DK _ _ _) ?_ ?_ ?_ ?_ ?_
 ·intro u r;simp at r;subst r;rfl
 ·unfold maxLen;omega
 ·omega
 ·simp;omega
 ·intro v' w' z F _;exact h v' w' (OwnI.Amk z) ((hbel.alloc hB _).grown F (by simp;omega) (Aar d))
theorem Rj{a:Act}(B:Nat)(d:H)(y:Int)(i:OwnI w0 B v L)(j:o.guard=E)(s x:Operand)
 (m:o.op=.call {callee:=.builtin .append,args:=#[s,x],argTypes:=#[74,74]}) (hs:a.eval s=v)
 (hx:a.eval x= C (G ⟨w0.heap.size,0,E⟩) 1 1) (hlen:L.length<8796093022208) (hbel:Below B d w0) (hB:B<=w0.heap.size)
 (h:∀v' w',OwnI w' B v' (L++[y])->Below B d w'->wpList prog ops Q rest (a.put o.dst v') w'):wpList prog ops Q (o::rest) a (w0.alloc (.cells #[I J y] 3)):=
 YE B d y i j s x m hs hx (Nat.lt_trans hlen (by decide)) hbel hB h
theorem OwnI.rd{a:Option Addr}(h:OwnI w B (C a n c) L):Rd J w a L:=Rd.own h
theorem OwnI.FC(h:OwnI w B v L):∃a c,v= C a L.length c/\L.length<=c/\c<=maxLen:=by
 rcases h.2 with⟨rfl,m⟩ | ⟨g,d,cur,rfl,_,_,i,j,_⟩
 ·grind
 ·exact⟨_,d,rfl,i,j⟩
theorem FZ{a:Act}(B:Nat)(i:H)(N:Nat)(m:o.guard=E)(l c:Operand)
 (ho:o.op=Op.makeSlice 74 l c) (x y:Int) (hl:a.eval l= I J x) (P:a.eval c= I J y) (hx:x=(N:Int)) (hy:y=(N:Int)) (hN:N<=8796093022208) (d:Below B i w) (F:B<=w.heap.size)
 (h:∀w',OwnI w' B (C (G ⟨w.heap.size,0,E⟩) N N) (List.replicate N 0)->Below B i w'->w.heap.size<w'.heap.size->Below w.heap.size w w'->wpList prog ops Q rest (a.put o.dst (C (G ⟨w.heap.size,0,E⟩) N N)) w'):
 wpList prog ops Q (o::rest) a w:=by
 obtain⟨i0,hi,r,s,u⟩:=As Tryz.Wa;refine CK w m l c 74 ho B 3 i0 (I J 0) 1 underlying74 hi r s J J x y N hl P hx hy (by rw[u];omega) (by unfold maxLen;omega) F fun w' j z=>?_
 have e:(madeCells (Value.cells (I J 0)) (N*1)).toList=List.replicate N (I J 0):=by
  rw[By];exact CL _ _
 rw[e]at j;have q:=(j.lt w.heap.size rfl).2;refine h w' ?_ (d.grown z F (by intro k p;cases p)) q ((Ad _ _).grown z (Ac _) (by intro k p;cases p));unfold OwnI;rw[A7,Dh];exact j
theorem OwnI.below(h:OwnI w B v L)(s:Below w.heap.size w w'):OwnI w' B v L:=by
 refine⟨h.1,?_⟩
 rcases h.2 with j | ⟨g,d,cur,m,p,q,r⟩
 ·exact .inl j
 ·have i:g<w.heap.size:=by
   grind
  exact .inr ⟨g,d,cur,m,p,(s.block g i).trans q,r⟩
theorem OwnI.mono(h:OwnI w B v L)(q:B'<=B):OwnI w B' v L:=by
 refine⟨h.1,?_⟩
 rcases h.2 with i | ⟨g,d,cur,j,p,m⟩
 ·exact .inl i
 ·exact .inr ⟨g,d,cur,j,by omega,m⟩
theorem OwnI.len(h:OwnI w B (C (G ⟨g,0,E⟩) N c) L):L.length=N:=by
 rcases h.2 with⟨d,_⟩ | ⟨j,i,cur,d,_⟩
 ·simp at d
 grind
theorem OwnI.block(h:OwnI w B (C (G ⟨g,0,E⟩) N c) L):B<=g/\g<w.heap.size:=h.lt g rfl
theorem OwnI.arr(h:OwnI w B (C (G ⟨g,0,E⟩) N N) L):ArrAt J 3 w g L/\B<=g/\N<=maxLen:=by
 have r:=h.len
 rcases h.2 with⟨d,_⟩ | ⟨q,i,cur,d,j,hg,_,p,m,ht⟩
 ·simp at d
 ·simp only[Aq,Bl,BI,BJ]at d;obtain⟨rfl,_,rfl⟩:=d;refine⟨?_,j,p⟩;unfold ArrAt;rw[hg,<-ht,Aw (by simp;omega)]
theorem Aas(hg:ArrAt J 3 w g L)(d:B<=g)(h:L.length=N)(i:N<=maxLen):OwnI w B (C (G ⟨g,0,E⟩) N N) L:=by
 subst h;exact⟨by simp,.inr ⟨g,_,_,rfl,d,hg,Ac _,i,by simp,Aw (by simp)⟩⟩
def Fy (l:List Int):Bool:=l.all fun x=>decide (-100000<=x/\x<=100000)
def AbU (l:List Int)(k:Nat):Prop:=∀j,j<k-> -100000<=l.getD j 0/\l.getD j 0<=100000
theorem Aku(h:AbU l l.length):Fy l=true:=by
 unfold Fy;rw[AM];intro x i;obtain⟨k,d,rfl⟩:=A5 i;have:=h k d
 grind
theorem O8(h:Fy l=true)(k:Nat): -100000<=l.getD k 0/\l.getD k 0<=100000:=by
 unfold Fy at h;rw[AM]at h
 by_cases d:k<l.length
 ·have:=h _ (A4 d)
  grind
 grind
theorem Abt{k:Nat}(h:l.getD k 0 < -100000\/100000<l.getD k 0):Fy l=false:=by
 cases d:Fy l with
 | false=>rfl
 | true=>have:=O8 d k;omega
def WY (a:Int):Int:=if a<0 then -a else a
def fI (a b:Int):Int:=if (a<0/\0<=b)\/(0<=a/\b<0) then -(min (WY a) (WY b)) else min (WY a) (WY b)
def gI (x a b:Int):Int:=if x=1 then b-a else b+a
def fL (a b:List Int):List Int:=List.zipWith fI a b
def gL:List Int->List Int->List Int->List Int
 | x::xs,a::l,b::r=>gI x a b::gL xs l r
 | _,_,_=>[]
def Ki:Nat->List Int->List Bool->List Int
 | 0,l,o=>[if o.getD 0 false && decide (l.getD 0 0<0) then 1 else 0]
 | m+1,l,o=>
  let u:=Ki m (fL (l.take (2 ^ m)) (l.drop (2 ^ m))) (o.take (2 ^ m))
  u++Ki m (gL (GE m u) (l.take (2 ^ m)) (l.drop (2 ^ m))) (o.drop (2 ^ m))
theorem N7:∀(m:Nat) (l:List Int) (o:List Bool),(Ki m l o).length=2 ^ m:=by intro a;induction a<;>grind [Ki]
theorem OP:∀(m:Nat) (l:List Int) (o:List Bool),AllBits (Ki m l o):=by intro a;induction a<;>grind [AllBits,Ki]
end Go.Proofs.YtbjgfoiikhbonahGreatDoor
