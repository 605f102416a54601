/- What is proved here: what the methods of the positions do to memory: add, link, chain, either, repeat. -/
import Derived.WalkSpells
import Derived.WalkLawsBesides
import Derived.Test.YtbjdkbcfpmeneaaGreatRows
import Derived.Handy
import Derived.Deep.RegionHeld3
import Derived.BigQuiet
import Derived.Lib.Bytealg
import Derived.Deep.AppendLies
import Derived.Deep.RegionLaw
open ByteArray renaming mk->u7
open Go renaming Calls->aI,TypeId->cL,Value->aq,World->ay,bodyPost_ret->cF,heap_alloc_new->jS,info_parts->iw,maxLen->eB,results->eG,run_underlying->At,undef->eT,wpList_append_lies->Gb
open Go.Calls renaming quiet_of->US
open Go.Instr renaming index->Vj
open Go.IntKind renaming bits->qa,signed->qc,u64->El,u8->MR,wrap->tA
open Go.Lib renaming indexByte->oL
open Go.Proofs.Tryz renaming prog->aB,results120->G6,results123->Nj,underlying63->Nn,underlying98->No
open Go.RowKit renaming Below->dA,intOf->aG
open Go.RowKit.Below renaming refl->kQ
open Go.Value renaming int->EV,oneCell'->dS,ownBlock->aK,slice->uB
open Go.World renaming heap_drewN->yx,news_of_block->gN,ownsRow_lit->adE
open List renaming getElem?_cons_succ->mV,getElem?_cons_zero->j7,getElem?_toArray->rY,length->ae,length_append->cx
open Nat renaming eq_of_testBit_eq->Ex,le_refl->aH,le_trans->j8,lt_or_ge->eK,mod_lt->Bd,ne_of_lt->bY,one_shiftLeft->qM,pow_lt_pow_right->J2,testBit_div_two_pow->VA,testBit_mod_two_pow->QD,two_pow_pos->GV
open Option.some renaming injEq->aV
namespace Go.Proofs.YtbjdkbcfpmeneaaGreat
set_option linter.unusedVariables false
set_option linter.unusedSimpArgs false
set_option maxRecDepth 100000
set_option maxHeartbeats 16000000
open Go.RowKit
section
variable{b:Nat}{c:Prop}
def ax(p:Prop):Prop:=p
theorem ax.o{p:Prop}(h:ax p):p:=h
theorem aA{h:Decidable c}(hc:c){α:Sort _}{t e:α}:ite c t e=t:=if_pos hc
theorem az{h:Decidable c}(hc:¬c){α:Sort _}{t e:α}:ite c t e=e:=if_neg hc
def wd(s i:Nat):Int:=((s / 2 ^ (64*i) % 2 ^ 64:Nat):Int)
abbrev cG(s:Nat):aq:=.agg #[.int .u64 (wd s 0),.int .u64 (wd s 1),.int .u64 (wd s 2),.int .u64 (wd s 3)]
abbrev dQ(e:Bool)(f l:Nat):aq:=.agg #[.bool e,.int .u64 (wd f 0),.int .u64 (wd f 1),.int .u64 (wd f 2),.int .u64 (wd f 3),.int .u64 (wd l 0),.int .u64 (wd l 1),.int .u64 (wd l 2),.int .u64 (wd l 3)]
theorem ao1(s i:Nat):0<=wd s i:=by unfold wd;omega
theorem xV(i:Nat):wd 0 i=0:=by unfold wd;simp
theorem ahq(s t i:Nat):bits .or .u64 (wd s i) (wd t i)=wd (s ||| t) i:=by
 unfold wd;rw[u64_or_nat _ _ (by have:=Bd (s / 2 ^ (64*i)) (y:=2 ^ 64) (by decide);omega) (by have:=Bd (t / 2 ^ (64*i)) (y:=2 ^ 64) (by decide);omega)];congr 1;apply Ex;intro j;simp only[Nat.testBit_or,QD,VA];by_cases h:j<64<;>simp[h]
theorem aoZ(s t i:Nat):bits .and .u64 (wd s i) (wd t i)=wd (s &&& t) i:=by
 unfold wd;rw[u64_and_nat _ _ (by have:=Bd (s / 2 ^ (64*i)) (y:=2 ^ 64) (by decide);omega) (by have:=Bd (t / 2 ^ (64*i)) (y:=2 ^ 64) (by decide);omega)];congr 1;apply Ex;intro j;simp only[Nat.testBit_and,QD,VA];by_cases h:j<64<;>simp[h]
theorem ao0(s n:Nat):(bits .and .u64 (wd s (n / 64) / 2 ^ (n % 64)) 1 == 1)=s.testBit n:=by
 have e:wd s (n / 64) / 2 ^ (n % 64)=((s / 2 ^ (64*(n / 64)) % 2 ^ 64 / 2 ^ (n % 64):Nat):Int):=by unfold wd;simp
 rw[e,show(1:Int)=((1:Nat):Int) from rfl,u64_and_nat _ _ ?_ (by decide)]
 .rw[Nat.and_one_is_mod];have hb:(s / 2 ^ (64*(n / 64)) % 2 ^ 64 / 2 ^ (n % 64) % 2=1)↔s.testBit n=true:=by
   have:s.testBit n=(s / 2 ^ (64*(n / 64)) % 2 ^ 64).testBit (n % 64):=by
    rw[QD,VA];have:n % 64<64:=Bd _ (by decide);simp[this];congr 1;omega
   rw[this,Nat.testBit_eq_decide_div_mod_eq];simp
  rw[Bool.eq_iff_iff,beq_iff_eq,<-hb];omega
 .have h1:=Bd (s / 2 ^ (64*(n / 64))) (y:=2 ^ 64) (by decide);have h2:=Nat.div_le_self (s / 2 ^ (64*(n / 64)) % 2 ^ 64) (2 ^ (n % 64));omega
theorem aF{w:ay}{c:Array aq}{e:cL}(h:w.heap[b]?=some (.cells c e (0,0)))(i:Nat):w.cell? ⟨b,i,none⟩=c[i]?:=by
 simp[World.cell?,h]
theorem cM{w:ay}{c:Array aq}{e:cL}(h:w.heap[b]?=some (.cells c e (0,0)))(i:Nat):w.frozen? ⟨b,i,none⟩=false:=by
 simp[World.frozen?,h]
theorem aE{w:ay}{o:Obj}(h:w.heap[b]?=some o):b<w.heap.size:=by
 rcases eK b w.heap.size with aN|sE
 .exact aN
 .rw[Array.getElem?_eq_none sE]at h;cases h
def Mm(i:Nat)(v:aq):Obj->Obj
 |.cells c e f=>.cells (c.setIfInBounds i v) e f
 |o=>o
theorem eD(i:Nat)(v:aq)(c:Array aq)(e:cL)(f:Nat×Nat):Mm i v (.cells c e f)=.cells (c.setIfInBounds i v) e f:=rfl
theorem aC(w:ay)(o:Obj)(k:Nat):(w.alloc o).heap[k]?=if k=w.heap.size then some o else w.heap[k]?:=by
 show(w.heap.push o)[k]?=_;rw[Array.getElem?_push]
theorem aQ(w:ay)(b i:Nat)(v:aq)(k:Nat):(w.setCell ⟨b,i,none⟩ v).heap[k]?=if k=b then(w.heap[k]?).map (Mm i v) else w.heap[k]?:=by
 simp only[World.setCell,Array.getElem?_modify];by_cases h:b=k
 .subst h;simp only[if_true];cases hk:w.heap[b]? with
  |none=>simp
  |some o=>cases o<;>simp[Mm]
 .rw[if_neg h,if_neg (fun e=>h e.symm)]
theorem eO(w:ay)(k:Nat):w.drew.heap[k]?=w.heap[k]?:=rfl
theorem aM(w:ay)(o:Obj):(w.alloc o).heap.size=w.heap.size+1:=by
 show(w.heap.push o).size=_;simp
theorem iA(w:ay)(a:Addr)(v:aq):(w.setCell a v).heap.size=w.heap.size:=by simp[World.setCell]
theorem jo(w:ay):w.drew.heap.size=w.heap.size:=rfl
def kZ(s:Nat):Nat:=2 ^ 256-(s % 2 ^ 256+1)
def dY(a:Nat):Nat->Nat
 |0=>0
 | k+1=>if a<=k then dY a k ||| (1 <<< k) else dY a k
def gt(s:ByteArray)(i:Nat):Nat:=(s.data[i]?.getD 0).toNat
theorem kj(s:ByteArray)(i:Nat):gt s i<256:=UInt8.toNat_lt _
structure PR(α:Type) where
 err:Int
 pl:Int
 j:Nat
 v:α
def de{α:Type}(s:ByteArray)(e pl:Int)(v:α):PR α:=⟨e,pl,s.size,v⟩
def good{α:Type}(j:Nat)(v:α):PR α:=⟨0,0,j,v⟩
def bI(s:ByteArray)(i:Nat):PR Nat :=
 if gt s i=0 then de s 4 s.size 0
 else if gt s i=92 then(if gt s (i+1)=0 then de s 4 s.size 0 else good (i+2) (gt s (i+1)))
 else if gt s i=91\/gt s i=93\/gt s i=94\/gt s i=45 then de s 5 i 0
 else good (i+1) (gt s i)
def dz(s:ByteArray)(i:Nat):PR Nat :=
 let a:=bI s i
 if a.err≠0 then a
 else if gt s a.j=45 then
  let b:=bI s (a.j+1)
  if b.err≠0 then b else if b.v<a.v then de s 6 i 0 else good b.j (dY a.v (b.v+1))
 else good a.j (dY a.v (a.v+1))
def gg(s:ByteArray):Nat->Nat->Nat->PR Nat
 |0,_,_=>de s 99 0 0
 |n+1,acc,i =>
  let a:=dz s i
  if a.err≠0 then a
  else if gt s a.j=0 then de s 4 s.size 0
  else if gt s a.j=93 then good (a.j+1) (acc ||| a.v)
  else gg s n (acc ||| a.v) a.j
def gG(s:ByteArray)(i:Nat):PR Nat :=
 if gt s i=94 then
  let a:=gg s 20 0 (i+1)
  if a.err≠0 then a else good a.j (kZ a.v)
 else gg s 20 0 i
end
theorem akI(a b c d n x:Int)(w:ay)(h0:0<=n)(h1:n<=255)(hg:[EV El a,EV El b,EV El c,EV El d][(n / 64).toNat]?=some (.int .u64 x)):aI aB 51 #[.agg #[.int .u64 a,.int .u64 b,.int .u64 c,.int .u64 d],.int .u8 n] w fun e w'=>e=.returned (.bool (bits .and .u64 (x / 2 ^ (n % 64).toNat) 1 == 1))/\dA w.heap.size w w':=by
 go_enter Tryz.func51,Tryz.ntmps51;go_wp2;go_ret;exact⟨rfl,(kQ _ _).alloc (aH _) _⟩
theorem WQ(s n:Nat)(w:ay)(hn:n<256):aI aB 51 #[cG s,.int .u8 n] w fun e w'=>e=.returned (.bool (s.testBit n))/\dA w.heap.size w w':=by
 have e:((n:Int) / 64).toNat=n / 64:=(by omega);have e2:((n:Int) % 64).toNat=n % 64:=(by omega);refine(akI _ _ _ _ n (wd s (n / 64)) w (by omega) (by omega) ?_).mono ?_
 .rw[e];have:n / 64=0\/n / 64=1\/n / 64=2\/n / 64=3:=(by omega);rcases this with h|h|h|h<;>rw[h]<;>rfl
 .rintro _ w' ⟨rfl,h⟩;rw[e2,ao0];exact⟨rfl,h⟩
theorem UJ(n k:Nat)(hk:k<4)(hq:n / 64=k)(i:Nat)(_hi:i<4):wd (1 <<< n) i=if i=k then((2 ^ (n % 64):Nat):Int) else 0:=by
 unfold wd;rw[qM];have hn:n=64*k+n % 64:=(by omega);have hm:n % 64<64:=Bd _ (by decide);generalize n % 64=m at *;subst hn;split
 .subst_vars
  congr 1;rw[Nat.pow_add,Nat.mul_comm,Nat.mul_div_cancel _ (GV _),Nat.mod_eq_of_lt (J2 (by decide) hm)]
 .rename_i h;rcases Nat.lt_or_gt_of_ne h with h|h
  .have:2 ^ (64*k+m)=2 ^ (64*i)*(2 ^ 64*2 ^ (64*k+m-64*i-64)):=by
    rw[<-Nat.pow_add,<-Nat.pow_add];congr 1;omega
   rw[this,Nat.mul_div_cancel_left _ (GV _),Nat.mul_mod_right];rfl
  .have:2 ^ (64*k+m)<2 ^ (64*i):=J2 (by decide) (by omega);rw[Nat.div_eq_of_lt this];rfl
theorem L0(n:Nat)(w:ay)(hn:n<256):aI aB 53 #[.int .u8 n] w fun e w'=>e=.returned (cG (1 <<< n))/\dA w.heap.size w w':=by
 have h0:(0:Int)<=n:=(by omega);have h1:(n:Int)<=255:=(by omega);have hw:El.wrap (2 ^ ((n:Int) % 64).toNat)=((2 ^ (n % 64):Nat):Int):=by
  have e2:((n:Int) % 64).toNat=n % 64:=(by omega);have:(2:Nat) ^ (n % 64)<2 ^ 64:=J2 (by decide) (Bd _ (by decide));rw[e2];simp only[tA,qa,qc];have e3:(2:Int) ^ (n % 64)=((2 ^ (n % 64):Nat):Int):=(by simp);rw[e3];generalize (2:Nat) ^ (n % 64)=z at *;simp;omega
 have hq:n / 64=0\/n / 64=1\/n / 64=2\/n / 64=3:=(by omega);rcases hq with hq|hq|hq|hq
 all_goals
  have hz:((n:Int) / 64)=((n / 64:Nat):Int):=by omega
  rw[hq]at hz;have e0:=UJ n _ (by decide) hq 0 (by decide);have e1:=UJ n _ (by decide) hq 1 (by decide);have e2:=UJ n _ (by decide) hq 2 (by decide);have e3:=UJ n _ (by decide) hq 3 (by decide);simp at e0 e1 e2 e3;have E:ax (wd (1 <<< n) 0=_/\wd (1 <<< n) 1=_/\wd (1 <<< n) 2=_/\wd (1 <<< n) 3=_):=⟨e0,e1,e2,e3⟩;clear e0 e1 e2 e3 hq;go_enter Tryz.func53,Tryz.ntmps53;go_wp2;refine cF (v:=cG (1 <<< n)) ?_ rfl ⟨rfl,((kQ _ _).alloc (aH _) _).alloc (by simp) _⟩;simp[eG,Tryz.results53,go_sem,E.o.1,E.o.2.1,E.o.2.2.1,E.o.2.2.2]
theorem afr(x0 x1 x2 x3:aq)(w:ay):(Vj 65 (.agg #[x0,x1,x2,x3]) (.int .i64 0)).run aB w=.ok x0 w:=by kernel_rfl
theorem afs(x0 x1 x2 x3:aq)(w:ay):(Vj 65 (.agg #[x0,x1,x2,x3]) (.int .i64 1)).run aB w=.ok x1 w:=by kernel_rfl
theorem aft(x0 x1 x2 x3:aq)(w:ay):(Vj 65 (.agg #[x0,x1,x2,x3]) (.int .i64 2)).run aB w=.ok x2 w:=by kernel_rfl
theorem afu(x0 x1 x2 x3:aq)(w:ay):(Vj 65 (.agg #[x0,x1,x2,x3]) (.int .i64 3)).run aB w=.ok x3 w:=by kernel_rfl
attribute [local go_sem] afr afs aft afu ahq
theorem CP(g n cap:Nat)(ss:List Nat)(w:ay)(hl:(ae ss)=n)(apB:n<=1000)(hc:∀j<n,∀i<4,w.cell? ⟨g,j*4+i,none⟩=some (.int .u64 (wd (ss.getD j 0) i)))(hg:g<w.heap.size):aI aB 52 #[.slice (some ⟨g,0,none⟩) n cap] w fun e w'=>e=.returned (cG (ss.foldl (· ||| ·) 0))/\dA w.heap.size w w':=by
 have sF:g≠w.heap.size:=(by omega);go_enter Tryz.func52,Tryz.ntmps52;go_wp2;go_loopw [10] (fun i w'=>∃k:Nat,k<=n/\i=.int .i64 k/\w'.heap[w.heap.size]?=some (.cells #[.int .u64 0,.int .u64 0,.int .u64 0,.int .u64 0] 65 (0,0))
   /\ w'.heap[w.heap.size+1]?=some (.cells #[.int .u64 (wd ((ss.take k).foldl (· ||| ·) 0) 0),.int .u64 (wd ((ss.take k).foldl (· ||| ·) 0) 1),.int .u64 (wd ((ss.take k).foldl (· ||| ·) 0) 2),.int .u64 (wd ((ss.take k).foldl (· ||| ·) 0) 3)] 65 (0,0))/\dA w.heap.size w w')
  (fun i _=>n-(aG i).toNat)
 case atStart =>
  refine⟨0,by omega,rfl,?_,?_,((kQ _ _).alloc (aH _) _).alloc (by simp) _⟩
  .simp only[aC,aM];simp
  .simp only[aC,aM];simp[xV]
 case round =>
  obtain⟨k,hk,rfl,mw,dL,hB⟩:=hrel;have DN:=aE mw;have Fs:=aE dL;by_cases aN:k<n
  .have c0:=hc k aN 0 (by omega);have c1:=hc k aN 1 (by omega);have c2:=hc k aN 2 (by omega);have c3:=hc k aN 3 (by omega);rw[<-hB.cell (by exact hg)]at c0 c1 c2 c3;have hU:(ss.take (k+1)).foldl (· ||| ·) 0=(ss.take k).foldl (· ||| ·) 0 ||| ss.getD k 0:=by
    rw[List.take_succ_eq_append_getElem (by omega),List.foldl_append];simp[List.getD_eq_getElem?_getD,List.getElem?_eq_getElem (show k<ae ss by omega)]
   have HU:ax _:=hU;clear hU;generalize (ss.take k).foldl (· ||| ·) 0=U at *;generalize ss.getD k 0=V at *;have d0:=aF dL 0;have d1:=aF dL 1;have d2:=aF dL 2;have d3:=aF dL 3;have f0:=cM dL 0;have f1:=cM dL 1;have f2:=cM dL 2;have f3:=cM dL 3;simp only[rY,j7,mV]at d0 d1 d2 d3;have UZ:ax _:=mw;have nU:ax _:=dL;clear mw dL hc hl;simp only[Nat.add_zero]at c0;go_wp2;(go_rounds 5);refine⟨⟨k+1,by omega,by go_num,?_,?_,?_⟩,by simp[aG];omega⟩
   .simp only[aC,aQ,iA,UZ.o];simp[bY DN]
   .rw[HU.o];simp only[aC,aQ,iA,nU.o];simp[bY Fs,eD]
   .exact((((hB.setCell (by simp) _).setCell (by simp) _).setCell (by simp) _).setCell (by simp) _).alloc (by simp;omega) _
  .have SM:k=n:=(by omega);subst SM;rw[List.take_of_length_le (by omega)]at dL;generalize hU:ss.foldl (· ||| ·) 0=U at dL;have HU:ax _:=hU;clear hU;have d0:=aF dL 0;have d1:=aF dL 1;have d2:=aF dL 2;have d3:=aF dL 3;have e0:=aF mw 0;have e1:=aF mw 1;have e2:=aF mw 2;have e3:=aF mw 3;have f0:=cM mw 0;have f1:=cM mw 1;have f2:=cM mw 2;have f3:=cM mw 3;simp only[rY,j7,mV]at d0 d1 d2 d3 e0 e1 e2 e3;have UZ:ax _:=mw;clear mw dL hc hl;go_wp2;refine cF (v:=cG U) ?_ rfl ⟨by rw[HU.o],(((hB.setCell (by simp) _).setCell (by simp) _).setCell (by simp) _).setCell (by simp) _⟩;simp[eG,Tryz.results52,go_sem,e0,e1,e2,e3]
attribute [local go_sem] afr afs aft afu
theorem Rx(s i:Nat):(kZ s).testBit i=(decide (i<256) && !s.testBit i):=by
 unfold kZ;rw[Nat.testBit_two_pow_sub_succ (Bd _ (GV _)),QD];by_cases h:i<256<;>simp[h]
theorem Y6(s i:Nat)(hi:i<4):bits .xor .u64 El.max (wd s i)=wd (kZ s) i:=by
 have e:El.max=((2 ^ 64-1:Nat):Int):=(by decide);unfold wd;rw[e,u64_xor_nat _ _ (by decide) (by have:=Bd (s / 2 ^ (64*i)) (y:=2 ^ 64) (by decide);omega)];congr 1;apply Ex;intro j;rw[Nat.testBit_xor,Nat.testBit_two_pow_sub_one,QD,QD,VA,VA,Rx];by_cases h:j<64
 .have:64*i+j<256:=(by omega);simp[h];omega
 .simp[h]
theorem Yh(s:Nat)(w:ay):aI aB 121 #[cG s] w fun e w'=>e=.returned (cG (kZ s))/\dA w.heap.size w w':=by
 have xz:El.signed=false:=rfl;go_enter Tryz.func121,Tryz.ntmps121;go_wp2;go_rounds 5
 refine cF (v:=cG (kZ s)) ?_ rfl ⟨rfl,((kQ _ _).alloc (aH _) _).alloc (by simp) _⟩;simp[eG,Tryz.results121,go_sem,Y6 s 0 (by decide),Y6 s 1 (by decide),Y6 s 2 (by decide),Y6 s 3 (by decide)]
theorem aaZ(s t:Nat)(w:ay):aI aB 37 #[cG s,cG t] w fun e w'=>e=.returned (cG (s &&& t))/\dA w.heap.size w w':=by
 go_enter Tryz.func37,Tryz.ntmps37;go_wp2;go_rounds 5
 refine cF (v:=cG (s &&& t)) ?_ rfl ⟨rfl,(((kQ _ _).alloc (aH _) _).alloc (by simp) _).alloc (by simp[aM];omega) _⟩;simp[eG,Tryz.results37,go_sem,aoZ]
theorem anW(x y:Nat)(w:ay)(hx:x<2 ^ 256)(hy:y<2 ^ 256):(Op.equalIn 10000 65 (cG x) (cG y)).run aB w=.ok (x == y) w:=by
 obtain⟨i,hi⟩:=info_of_underlying Nn;rw[show(10000:Nat)=9999+1 from rfl,run_equalIn_array w _ _ _ Tryz.underlying65 hi];have hc:aB.cellsOf 63=1:=(by kernel_rfl);have p0:∀(a b c d:aq) (w:ay),(part 63 #[a,b,c,d] 0).run aB w=.ok a w:=fun a b c d w=>by simp[part,isAgg,At Nn]
 have p1:∀(a b c d:aq) (w:ay),(part 63 #[a,b,c,d] 1).run aB w=.ok b w:=fun a b c d w=>by simp[part,isAgg,At Nn]
 have p2:∀(a b c d:aq) (w:ay),(part 63 #[a,b,c,d] 2).run aB w=.ok c w:=fun a b c d w=>by simp[part,isAgg,At Nn]
 have p3:∀(a b c d:aq) (w:ay),(part 63 #[a,b,c,d] 3).run aB w=.ok d w:=fun a b c d w=>by simp[part,isAgg,At Nn]
 have q:∀(a b:Int) (w:ay),(Op.equalIn 9999 63 (.int .u64 a) (.int .u64 b)).run aB w=.ok (a == b) w:=fun a b w=>run_equalIn_int w 9998 _ _ _ a b Nn
 rw[hc,show List.range 4=[0,1,2,3] from rfl];have key:x=y↔wd x 0=wd y 0/\wd x 1=wd y 1/\wd x 2=wd y 2/\wd x 3=wd y 3:=by
  constructor
  .rintro rfl;exact⟨rfl,rfl,rfl,rfl⟩
  .unfold wd;simp only[Nat.mul_zero,Nat.pow_zero,Nat.div_one,Nat.mul_one,Nat.reduceMul,Nat.reducePow]at *;omega
 by_cases h0:wd x 0=wd y 0
 .by_cases h1:wd x 1=wd y 1
  .by_cases h2:wd x 2=wd y 2
   .by_cases h3:wd x 3=wd y 3
    .rw[show(x == y)=true from beq_iff_eq.2 (key.2 ⟨h0,h1,h2,h3⟩)];simp[Op.eqItems,p0,p1,p2,p3,q,h0,h1,h2,h3]
    .rw[show(x == y)=false from beq_eq_false_iff_ne.2 (fun e=>h3 (key.1 e).2.2.2)];simp[Op.eqItems,p0,p1,p2,p3,q,h0,h1,h2,h3]
   .rw[show(x == y)=false from beq_eq_false_iff_ne.2 (fun e=>h2 (key.1 e).2.2.1)];simp[Op.eqItems,p0,p1,p2,p3,q,h0,h1,h2]
  .rw[show(x == y)=false from beq_eq_false_iff_ne.2 (fun e=>h1 (key.1 e).2.1)];simp[Op.eqItems,p0,p1,p2,p3,q,h0,h1]
 .rw[show(x == y)=false from beq_eq_false_iff_ne.2 (fun e=>h0 (key.1 e).1)];simp[Op.eqItems,p0,p1,p2,p3,q,h0]
theorem agR(x:Nat)(w:ay)(hx:x<2 ^ 256):(Op.equalIn 10000 65 (cG x) (.agg #[.int .u64 0,.int .u64 0,.int .u64 0,.int .u64 0])).run aB w=.ok (x == 0) w:=by
 have h:=anW x 0 w hx (by decide);simpa only [cG,xV]using h
theorem afX(s t:Nat)(w:ay)(hs:s<2 ^ 256):aI aB 40 #[cG s,cG t] w fun e w'=>e=.returned (.bool (s &&& t != 0))/\dA w.heap.size w w':=by
 have aN:s &&& t<2 ^ 256:=Nat.lt_of_le_of_lt Nat.and_le_left hs;have q:=fun w=>agR (s &&& t) w aN
 clear hs aN;go_enter Tryz.func40,Tryz.ntmps40;go_wp2_with (go_at_call 37;refine(aaZ s t _).mono ?_;rintro _ w2 ⟨rfl,h2⟩)
 go_ret;exact⟨rfl,(((kQ _ _).alloc (aH _) _).alloc (by simp) _).trans (h2.mono (by simp[aM];omega))⟩
theorem UC(a:Nat):∀k,k<=a->dY a k=0
 |0,_=>rfl
 |k+1,h=>by rw[dY,az (by omega)];exact UC a k (by omega)
theorem apa(k:Nat):El.wrap (2 ^ (k % 64))=((2 ^ (k % 64):Nat):Int):=by
 have:(2:Nat) ^ (k % 64)<2 ^ 64:=J2 (by decide) (Bd _ (by decide));simp only[tA,qa,qc];have e3:(2:Int) ^ (k % 64)=((2 ^ (k % 64):Nat):Int):=(by simp);rw[e3];generalize (2:Nat) ^ (k % 64)=z at *;simp;omega
theorem Y7(s k i:Nat)(hi:i<4)(hk:k<256):wd (s ||| 1 <<< k) i=if i=k / 64 then bits .or .u64 (wd s i) (El.wrap (2 ^ (k % 64))) else wd s i:=by
 rw[<-ahq,UJ k (k / 64) (by omega) rfl i hi];split
 .rw[apa]
 .unfold wd;rw[show(0:Int)=((0:Nat):Int) from rfl,u64_or_nat _ _ (by have:=Bd (s / 2 ^ (64*i)) (y:=2 ^ 64) (by decide);omega) (by decide),Nat.or_zero]
theorem Mp(a b:Nat)(w:ay)(ha:a<256)(hb:b<256):aI aB 125 #[.int .u8 a,.int .u8 b] w fun e w'=>e=.returned (cG (dY a (b+1)))/\dA w.heap.size w w':=by
 have ha0:(a:Int)<=255:=(by omega);have mw:(b:Int)<=255:=(by omega);go_enter Tryz.func125,Tryz.ntmps125;go_wp2;go_loopw [6] (fun i w'=>∃k:Nat,a<=k/\k<=256/\(k<=b+1\/k=a)/\i=.int .i64 k/\w'.heap[w.heap.size]?=some (.cells #[.int .u64 0,.int .u64 0,.int .u64 0,.int .u64 0] 65 (0,0))
   /\ w'.heap[w.heap.size+1]?=some (.cells #[.int .u64 (wd (dY a k) 0),.int .u64 (wd (dY a k) 1),.int .u64 (wd (dY a k) 2),.int .u64 (wd (dY a k) 3)] 65 (0,0))/\dA w.heap.size w w')
  (fun i _=>256-(aG i).toNat)
 case atStart =>
  refine⟨a,by omega,by omega,.inr rfl,rfl,?_,?_,((kQ _ _).alloc (aH _) _).alloc (by simp) _⟩
  .simp only[aC,aM];simp
  .simp only[aC,aM,UC a a (aH _)];simp[xV]
 case round =>
  obtain⟨k,hak,hk,hkb,rfl,mw,dL,hB⟩:=hrel;have DN:=aE mw;have Fs:=aE dL;by_cases aN:k<=b
  .have d0:=aF dL 0;have d1:=aF dL 1;have d2:=aF dL 2;have d3:=aF dL 3;have f0:=cM dL 0;have f1:=cM dL 1;have f2:=cM dL 2;have f3:=cM dL 3;simp only[rY,j7,mV]at d0 d1 d2 d3;have UZ:ax _:=mw;have nU:ax _:=dL;clear mw dL;have hq:k / 64=0\/k / 64=1\/k / 64=2\/k / 64=3:=(by omega);have i0:=Y7 (dY a k) k 0 (by decide) (by omega);have i1:=Y7 (dY a k) k 1 (by decide) (by omega);have i2:=Y7 (dY a k) k 2 (by decide) (by omega);have i3:=Y7 (dY a k) k 3 (by decide) (by omega);(have HS:ax (dY a (k+1)=dY a k ||| 1 <<< k):=by show dY a (k+1)=_;rw[dY,aA hak]);rcases hq with hq|hq|hq|hq
   all_goals
    (have hz:((k:Int) / 64)=((k / 64:Nat):Int):=by omega);rw[hq]at hz;simp only[hq]at i0 i1 i2 i3;have I:ax (_/\_/\_/\_):=⟨i0,i1,i2,i3⟩;clear i0 i1 i2 i3 hq;go_wp2;go_region
    all_goals go_wp2
    refine⟨⟨k+1,by omega,by omega,.inl (by omega),by go_num,?_,?_,(hB.setCell (by simp) _).drew⟩,by simp[aG];omega⟩
    .simp only[eO,aQ,UZ.o];simp
    .rw[HS.o,I.o.1,I.o.2.1,I.o.2.2.1,I.o.2.2.2];simp only[eO,aQ,nU.o];simp[eD]
  .have aeY:dY a k=dY a (b+1):=by
    rcases hkb with h|h
    .rw[show k=b+1 from by omega]
    .subst h;rw[UC k k (aH _),UC k (b+1) (by omega)]
   rw[aeY]at dL;clear aeY;generalize hU:dY a (b+1)=U at dL;have HU:ax _:=hU;clear hU;have d0:=aF dL 0;have d1:=aF dL 1;have d2:=aF dL 2;have d3:=aF dL 3;have e0:=aF mw 0;have e1:=aF mw 1;have e2:=aF mw 2;have e3:=aF mw 3;have f0:=cM mw 0;have f1:=cM mw 1;have f2:=cM mw 2;have f3:=cM mw 3;simp only[rY,j7,mV]at d0 d1 d2 d3 e0 e1 e2 e3;clear mw dL;go_wp2;refine cF (v:=cG U) ?_ rfl ⟨by rw[HU.o],(((hB.setCell (by simp) _).setCell (by simp) _).setCell (by simp) _).setCell (by simp) _⟩;simp[eG,Tryz.results125,go_sem,e0,e1,e2,e3]
section
variable{xs:List Nat}
abbrev dF(s:ByteArray)(i:Nat)(e pl:Int)(p:Nat):Obj:=.cells #[.string s,.int .i64 i,.pointer (some ⟨p,0,none⟩),.int .i64 e,.int .i64 pl] 122 (0,0)
structure Kp(xs:List Nat)(w w':ay):Prop where
 os:w'.os=w.os
 tape:w'.tape=w.tape
 output:w'.output=w.output
 size:w.heap.size<=w'.heap.size
 block:∀k,k<w.heap.size->k∉xs->w'.heap[k]?=w.heap[k]?
theorem Kp.refl(xs:List Nat)(w:ay):Kp xs w w:=⟨rfl,rfl,rfl,aH _,fun _ _ _=>rfl⟩
theorem Kp.drew{w w1:ay}(h:Kp xs w w1):Kp xs w w1.drew:=⟨h.os,h.tape,h.output,h.size,h.block⟩
theorem Kp.drewN{w w1:ay}(h:Kp xs w w1)(n:Nat):Kp xs w (w1.drewN n):=⟨h.os,h.tape,h.output,h.size,h.block⟩
theorem Kp.kL{w w1:ay}{n:Nat}(h:Kp xs (w.drewN n) w1):Kp xs w w1:=⟨h.os,h.tape,h.output,h.size,h.block⟩
theorem Kp.alloc{w w1:ay}(h:Kp xs w w1)(o:Obj):Kp xs w (w1.alloc o) :=
 ⟨h.os,h.tape,h.output,by rw[aM];have:=h.size;omega,fun k hk hx=>by rw[aC,az (by have:=h.size;omega)];exact h.block k hk hx⟩
theorem Kp.set{w w1:ay}(h:Kp xs w w1){b:Nat}(hb:b∈xs\/w.heap.size<=b)(i:Nat)(v:aq):Kp xs w (w1.setCell ⟨b,i,none⟩ v) :=
 ⟨h.os,h.tape,h.output,by rw[iA];exact h.size,fun k hk hx=>by
  rw[aQ,az (fun e=>by subst e;rcases hb with hb|hb;exact hx hb;omega)];exact h.block k hk hx⟩
theorem Kp.trans{ys:List Nat}{w w1 w2:ay}(h:Kp xs w w1)(h2:Kp ys w1 w2)(hy:∀y∈ys,y∈xs\/w.heap.size<=y):Kp xs w w2 :=
 ⟨h2.os.trans h.os,h2.tape.trans h.tape,h2.output.trans h.output,j8 h.size h2.size,fun k hk hx=>by
  rw[h2.block k (by have:=h.size;omega) (fun e=>by rcases hy k e with e|e;exact hx e;omega)];exact h.block k hk hx⟩
theorem Kp.below{w w1 w2:ay}(h:Kp xs w w1)(h2:dA w1.heap.size w1 w2):Kp xs w w2 :=
 ⟨h2.os.trans h.os,h2.tape.trans h.tape,h2.output.trans h.output,j8 h.size h2.size,fun k hk hx=>by
  rw[h2.block k (by have:=h.size;omega)];exact h.block k hk hx⟩
theorem Kp.toBelow{w w1:ay}(h:Kp [] w w1):dA w.heap.size w w1:=⟨h.os,h.tape,h.output,h.size,fun k hk=>h.block k hk (by simp)⟩
theorem Kp.keep{w w1:ay}(h:Kp xs w w1){b:Nat}{o:Obj}(hb:w.heap[b]?=some o)(hx:b∉xs):w1.heap[b]?=some o:=by
 rw[h.block b (aE hb) hx];exact hb
theorem bV{w w1:ay}(h:dA w.heap.size w w1){b:Nat}{o:Obj}(hb:w.heap[b]?=some o):w1.heap[b]?=some o:=by
 rw[h.block b (aE hb)];exact hb
theorem Kp.nu{w w1:ay}(h:Kp xs w w1){b:Nat}(hb:b∈xs\/w.heap.size<=b)(v0 v1 v2 v3:aq):Kp xs w ((((w1.setCell ⟨b,0,none⟩ v0).setCell ⟨b,1,none⟩ v1).setCell ⟨b,2,none⟩ v2).setCell ⟨b,3,none⟩ v3):=(((h.set hb _ _).set hb _ _).set hb _ _).set hb _ _
theorem dB{w:ay}{b:Nat}{x0 x1 x2 x3:aq}{e:cL}(h:w.heap[b]?=some (.cells #[x0,x1,x2,x3] e (0,0))):w.cell? ⟨b,0,none⟩=some x0/\w.cell? ⟨b,1,none⟩=some x1/\w.cell? ⟨b,2,none⟩=some x2/\w.cell? ⟨b,3,none⟩=some x3/\w.frozen? ⟨b,0,none⟩=false/\w.frozen? ⟨b,1,none⟩=false/\w.frozen? ⟨b,2,none⟩=false/\w.frozen? ⟨b,3,none⟩=false :=
 ⟨by rw[aF h];rfl,by rw[aF h];rfl,by rw[aF h];rfl,by rw[aF h];rfl,cM h _,cM h _,cM h _,cM h _⟩
abbrev dg:Obj:=.cells #[.int .u64 0,.int .u64 0,.int .u64 0,.int .u64 0] 65 (0,0)
theorem aej(s:ByteArray)(i p r:Nat)(e pl:Int)(w:ay)(h:w.heap[r]?=some (dF s i e pl p)):aI aB 48 #[.pointer (some ⟨r,0,none⟩)] w fun x w'=>x=.returned (.bool (i == s.size))/\∃n,w'=w.drewN n:=by
 have c0:=aF h 0;have c1:=aF h 1;simp only[rY,j7,mV]at c0 c1;clear h;go_enter Tryz.func48,Tryz.ntmps48;go_wp2;go_quiet (fail)
 go_wp2;go_ret;refine⟨?_,_,rfl⟩;have:((i:Int) == (s.size:Int))=(i == s.size):=by rw[Bool.eq_iff_iff];simp only[beq_iff_eq];omega
 simp[this]
theorem yB(s:ByteArray)(i p r:Nat)(e pl:Int)(w:ay)(h:w.heap[r]?=some (dF s i e pl p))(hi:i<s.size):aI aB 48 #[.pointer (some ⟨r,0,none⟩)] w fun x w'=>x=.returned (.bool false)/\∃n,w'=w.drewN n:=by
 refine(aej s i p r e pl w h).mono ?_;rintro _ w' ⟨rfl,h2⟩;rw[show(i == s.size)=false from by simp;omega];exact⟨rfl,h2⟩
theorem yC(s:ByteArray)(p r:Nat)(e pl:Int)(w:ay)(h:w.heap[r]?=some (dF s s.size e pl p)):aI aB 48 #[.pointer (some ⟨r,0,none⟩)] w fun x w'=>x=.returned (.bool true)/\∃n,w'=w.drewN n:=by
 refine(aej s s.size p r e pl w h).mono ?_;rintro _ w' ⟨rfl,h2⟩;rw[show(s.size == s.size)=true from by simp];exact⟨rfl,h2⟩
theorem NA(s:ByteArray)(i p r:Nat)(pl er q:Int)(w:ay)(h:w.heap[r]?=some (dF s i 0 pl p)):aI aB 49 #[.pointer (some ⟨r,0,none⟩),.int .i64 er,.int .i64 q] w fun x w'=>x=.returned (.tuple #[])/\w'.heap[r]?=some (dF s s.size er q p)/\Kp [r] w w':=by
 have c0:=aF h 0;have c1:=aF h 1;have c3:=aF h 3;have c4:=aF h 4;have f1:=cM h 1;have f3:=cM h 3;have f4:=cM h 4;simp only[rY,j7,mV]at c0 c1 c3 c4;have H:ax _:=h;clear h;go_enter Tryz.func49,Tryz.ntmps49;go_wp2;go_end0;refine⟨rfl,?_,(((Kp.refl _ _).set (by simp) _ _).set (by simp) _ _).set (by simp) _ _⟩;simp only[aQ,H.o];simp[eD]
theorem aek(s:ByteArray)(i p r:Nat)(e pl er q:Int)(w:ay)(h:w.heap[r]?=some (dF s i e pl p))(he:e≠0):aI aB 49 #[.pointer (some ⟨r,0,none⟩),.int .i64 er,.int .i64 q] w fun x w'=>x=.returned (.tuple #[])/\w'.heap[r]?=some (dF s s.size e pl p)/\Kp [r] w w':=by
 have c0:=aF h 0;have c1:=aF h 1;have c3:=aF h 3;have f1:=cM h 1;simp only[rY,j7,mV]at c0 c1 c3;have H:ax _:=h;clear h;have hb:(e == 0)=false:=by simp[he]
 go_enter Tryz.func49,Tryz.ntmps49;go_wp2;go_end0;refine⟨rfl,?_,(Kp.refl _ _).set (by simp) _ _⟩;simp only[aQ,H.o];simp[eD]
theorem Dz(s:ByteArray)(i:Nat)(hi:i<s.size):gt s i=s[i].toNat:=by
 unfold gt;have:i<s.data.size:=hi;simp[Array.getElem?_eq_getElem this];rfl
theorem xK(s:ByteArray)(i p r:Nat)(e pl:Int)(w:ay)(h:w.heap[r]?=some (dF s i e pl p))(hi:i<s.size)(hs:s.size<=16):aI aB 116 #[.pointer (some ⟨r,0,none⟩)] w fun x w'=>x=.returned (.int .u8 (gt s i))/\w'.heap[r]?=some (dF s (i+1) e pl p)/\Kp [r] w w':=by
 have c0:=aF h 0;have c1:=aF h 1;have f1:=cM h 1;simp only[rY,j7,mV]at c0 c1;have H:ax _:=h;have hi':(i:Int)<s.size:=(by omega);have hg:=Dz s i hi;have HG:ax _:=hg;clear h hg;go_enter Tryz.func116,Tryz.ntmps116;go_wp2_with fail;refine(yB s i p r e pl _ (by exact H.o) hi).mono ?_;rintro _ w1 ⟨rfl,n,rfl⟩;go_wp2;go_quiet (fail)
 go_wp2;go_ret;refine⟨?_,?_,((Kp.refl _ _).drewN _).set (by simp) _ _⟩
 .rw[HG.o];rfl
 .simp only[aQ,yx,H.o];simp[eD]
theorem abZ(s:ByteArray)(p r:Nat)(pl:Int)(w:ay)(h:w.heap[r]?=some (dF s s.size 0 pl p)):aI aB 116 #[.pointer (some ⟨r,0,none⟩)] w fun x w'=>x=.returned (.int .u8 0)/\w'.heap[r]?=some (dF s s.size 4 s.size p)/\Kp [r] w w':=by
 have c0:=aF h 0;simp only[rY,j7]at c0;have H:ax _:=h;clear h;go_enter Tryz.func116,Tryz.ntmps116;go_wp2_with fail;refine(yC s p r 0 pl _ (by exact H.o)).mono ?_;rintro _ w1 ⟨rfl,n,rfl⟩;go_wp2_with fail;refine(NA s s.size p r pl 4 s.size _ (by exact H.o)).mono ?_;rintro _ w1 ⟨rfl,h1,h2⟩;go_wp2;go_ret;exact⟨rfl,h1,h2.kL⟩
theorem anZ(t:ByteArray)(c:Int)(w:ay):(callFunc 122 #[.string t,.int .u8 c]).run aB w=.ok (.value (.int .i64 (oL t.data.toList c.toNat.toUInt8))) w:=by
 rw[run_callFunc_extern (e:=Extern.BytealgIndexByte.indexByte) Tryz.func122 (by kernel_rfl) (by kernel_rfl) (by kernel_rfl) (by kernel_rfl),Lib.run_indexByteString];rfl
theorem alm(t:ByteArray)(c:Int)(w:ay):aI aB 112 #[.string t,.int .u8 c] w fun x w'=>x=.returned (.int .i64 (oL t.data.toList c.toNat.toUInt8))/\w'=w:=by
 have hr:=fun w=>anZ t c w
 go_enter Tryz.func112,Tryz.ntmps112;go_wp2;go_ret;exact⟨rfl,rfl⟩
theorem YS(s:ByteArray)(i p r:Nat)(e pl b:Int)(w:ay)(h:w.heap[r]?=some (dF s i e pl p))(hi:i<s.size)(hs:s.size<=16)(hb:(gt s i:Int)=b):aI aB 75 #[.pointer (some ⟨r,0,none⟩),.int .u8 b] w fun x w'=>x=.returned (.bool true)/\w'.heap[r]?=some (dF s (i+1) e pl p)/\Kp [r] w w':=by
 have c0:=aF h 0;have c1:=aF h 1;have f1:=cM h 1;simp only[rY,j7,mV]at c0 c1;have H:ax _:=h;have hi':(i:Int)<s.size:=(by omega);have hq:((s[i].toNat:Int) != b)=false:=by rw[Dz s i hi]at hb;simp[hb]
 clear h hb;go_enter Tryz.func75,Tryz.ntmps75;go_wp2;go_quiet ((go_at_call 48;exact US (yB s i p r e pl _ (by exact H.o) hi)))
 go_wp2;go_ret;refine⟨rfl,?_,((Kp.refl _ _).drewN _).set (by simp) _ _⟩;simp only[aQ,yx,H.o];simp[eD]
theorem acD(s:ByteArray)(i p r:Nat)(e pl b:Int)(w:ay)(h:w.heap[r]?=some (dF s i e pl p))(hi:i<s.size)(_hs:s.size<=16)(hb:(gt s i:Int)≠b):aI aB 75 #[.pointer (some ⟨r,0,none⟩),.int .u8 b] w fun x w'=>x=.returned (.bool false)/\∃n,w'=w.drewN n:=by
 have c0:=aF h 0;have c1:=aF h 1;simp only[rY,j7,mV]at c0 c1;have H:ax _:=h;have hi':(i:Int)<s.size:=(by omega);have hq:((s[i].toNat:Int) != b)=true:=by rw[Dz s i hi]at hb;simp[hb]
 clear h hb;go_enter Tryz.func75,Tryz.ntmps75;go_wp2;go_quiet ((go_at_call 48;exact US (yB s i p r e pl _ (by exact H.o) hi)))
 go_wp2;go_ret;exact⟨rfl,_,rfl⟩
theorem CO(s:ByteArray)(p r:Nat)(e pl b:Int)(w:ay)(h:w.heap[r]?=some (dF s s.size e pl p)):aI aB 75 #[.pointer (some ⟨r,0,none⟩),.int .u8 b] w fun x w'=>x=.returned (.bool false)/\∃n,w'=w.drewN n:=by
 have H:ax _:=h;clear h;go_enter Tryz.func75,Tryz.ntmps75;go_wp2;go_quiet ((go_at_call 48;exact US (yC s p r e pl _ (by exact H.o))))
 go_wp2;go_ret;exact⟨rfl,_,rfl⟩
theorem YF(s:ByteArray)(i p r:Nat)(e pl b:Int)(w:ay)(h:w.heap[r]?=some (dF s i e pl p))(hi:i<s.size)(hs:s.size<=16)(hb:(gt s i:Int)=b):aI aB 118 #[.pointer (some ⟨r,0,none⟩),.int .u8 b] w fun x w'=>x=.returned (.tuple #[])/\w'.heap[r]?=some (dF s (i+1) e pl p)/\Kp [r] w w':=by
 have H:ax _:=h;have HB:ax _:=hb;clear h hb;go_enter Tryz.func118,Tryz.ntmps118;go_wp2_with fail;refine(YS s i p r e pl b _ (by exact H.o) hi hs HB.o).mono ?_;rintro _ w1 ⟨rfl,h1,h2⟩;have H1:ax _:=h1;clear h1;go_wp2;go_end0;exact⟨rfl,H1.o,h2⟩
theorem YE(s:ByteArray)(p r:Nat)(pl b:Int)(w:ay)(h:w.heap[r]?=some (dF s s.size 0 pl p)):aI aB 118 #[.pointer (some ⟨r,0,none⟩),.int .u8 b] w fun x w'=>x=.returned (.tuple #[])/\w'.heap[r]?=some (dF s s.size 4 s.size p)/\Kp [r] w w':=by
 have c0:=aF h 0;simp only[rY,j7]at c0;have H:ax _:=h;clear h;go_enter Tryz.func118,Tryz.ntmps118;go_wp2_with fail;refine(CO s p r 0 pl b _ (by exact H.o)).mono ?_;rintro _ w1 ⟨rfl,n,rfl⟩;go_wp2_with fail;refine(NA s s.size p r pl 4 s.size _ (by exact H.o)).mono ?_;rintro _ w1 ⟨rfl,h1,h2⟩;have H1:ax _:=h1;clear h1;go_wp2;go_end0;exact⟨rfl,H1.o,h2.kL⟩
theorem YD(s:ByteArray)(p r:Nat)(e pl b:Int)(w:ay)(h:w.heap[r]?=some (dF s s.size e pl p))(he:e≠0):aI aB 118 #[.pointer (some ⟨r,0,none⟩),.int .u8 b] w fun x w'=>x=.returned (.tuple #[])/\w'.heap[r]?=some (dF s s.size e pl p)/\Kp [r] w w':=by
 have c0:=aF h 0;simp only[rY,j7]at c0;have H:ax _:=h;have HE:ax _:=he;clear h he;go_enter Tryz.func118,Tryz.ntmps118;go_wp2_with fail;refine(CO s p r e pl b _ (by exact H.o)).mono ?_;rintro _ w1 ⟨rfl,n,rfl⟩;go_wp2_with fail;refine(aek s s.size p r e pl 4 s.size _ (by exact H.o) HE.o).mono ?_;rintro _ w1 ⟨rfl,h1,h2⟩;have H1:ax _:=h1;clear h1;go_wp2;go_end0;exact⟨rfl,H1.o,h2.kL⟩
theorem Av(s t:ByteArray)(i p r:Nat)(e pl:Int)(b:Bool)(w:ay)(h:w.heap[r]?=some (dF s i e pl p))(hi:i<s.size)(_hs:s.size<=16)(hb:decide (0<=oL t.data.toList (gt s i).toUInt8)=b):aI aB 100 #[.pointer (some ⟨r,0,none⟩),.string t] w fun x w'=>x=.returned (.bool b)/\∃n,w'=w.drewN n:=by
 have c0:=aF h 0;have c1:=aF h 1;simp only[rY,j7,mV]at c0 c1;have H:ax _:=h;have hi':(i:Int)<s.size:=(by omega);have hg:=Dz s i hi;rw[hg]at hb;have hq:∀w,aI aB 112 #[.string t,.int .u8 s[i].toNat] w fun x w'=>x=.returned (.int .i64 (oL t.data.toList (s[i].toNat).toUInt8))/\w'=w:=fun w=>alm t s[i].toNat w
 generalize oL t.data.toList (s[i].toNat).toUInt8=z at hb hq;have HQ:ax _:=hq;clear h hg hq;go_enter Tryz.func100,Tryz.ntmps100;go_wp2;go_quiet ((first|(go_at_call 48;exact US (yB s i p r e pl _ (by exact H.o) hi))|(go_at_call 112;exact Calls.quiet_of_same (HQ.o _))))
 go_wp2;go_ret;exact⟨rfl,_,rfl⟩
theorem agW(s t:ByteArray)(p r:Nat)(e pl:Int)(w:ay)(h:w.heap[r]?=some (dF s s.size e pl p)):aI aB 100 #[.pointer (some ⟨r,0,none⟩),.string t] w fun x w'=>x=.returned (.bool false)/\∃n,w'=w.drewN n:=by
 have H:ax _:=h;clear h;go_enter Tryz.func100,Tryz.ntmps100;go_wp2;go_quiet ((go_at_call 48;exact US (yC s p r e pl _ (by exact H.o))))
 go_wp2;go_ret;exact⟨rfl,_,rfl⟩
end
def Nz(s:ByteArray):Prop:=∀j,gt s j=0↔s.size<=j
theorem An(s:ByteArray)(i:Nat)(hz:Nz s):((bI s i).err=0/\(bI s i).pl=0/\i<(bI s i).j/\(bI s i).j<=s.size/\(bI s i).v<256)\/((bI s i).err≠0/\(bI s i).j=s.size/\(bI s i).v=0):=by
 have h0:=hz i;have h1:=hz (i+1);have l0:=kj s i;have l1:=kj s (i+1);unfold bI;split
 .right;simp[de]
 .split
  .split
   .right;simp[de]
   .left;simp[good];omega
  .split
   .right;simp[de]
   .left;simp[good];omega
theorem ab5(s:ByteArray)(i p r:Nat)(w:ay)(h:w.heap[r]?=some (dF s i 0 0 p))(hz:Nz s)(hi:i<=s.size)(hs:s.size<=16):aI aB 124 #[.pointer (some ⟨r,0,none⟩)] w fun x w'=>x=.returned (.int .u8 (bI s i).v)/\w'.heap[r]?=some (dF s (bI s i).j (bI s i).err (bI s i).pl p)/\Kp [r] w w':=by
 have c1:=aF h 1;simp only[rY,j7,mV]at c1;have H:ax _:=h;clear h;by_cases h0:gt s i=0
 .have e:i=s.size:=by have:=(hz i).1 h0;omega
  subst e;have HR:ax (bI s s.size=de s 4 s.size 0):=by show bI s s.size=_;rw[bI,aA h0]
  clear hz h0;go_enter Tryz.func124,Tryz.ntmps124;go_wp2_with fail;refine(abZ s p r 0 _ (by exact H.o)).mono ?_;rintro _ w1 ⟨rfl,h1,h2⟩;have H1:ax _:=h1;clear h1;go_wp2;go_ret;rw[HR.o];exact⟨rfl,H1.o,h2⟩
 .have aN:i<s.size:=by have:=(hz i).2;omega
  by_cases hq:gt s i=92
  ·(have hq':((gt s i:Int) == 92)=true:=by simp[hq]);by_cases h1:gt s (i+1)=0
   ·(have e:i+1=s.size:=by have:=(hz (i+1)).1 h1;omega);(have HR:ax (bI s i=de s 4 s.size 0):=by show bI s i=_;rw[bI,az h0,aA hq,aA h1]);have HE:ax _:=e;clear hz h0 h1 e hq;go_enter Tryz.func124,Tryz.ntmps124;go_wp2_with fail;refine(xK s i p r 0 0 _ (by exact H.o) aN hs).mono ?_;rintro _ w1 ⟨rfl,h1,h2⟩;rw[HE.o]at h1;have H1:ax _:=h1;clear h1;go_wp2_with fail;refine(abZ s p r 0 _ (by exact H1.o)).mono ?_;rintro _ w2 ⟨rfl,h3,h4⟩;have H3:ax _:=h3;clear h3;go_wp2;go_ret;rw[HR.o];exact⟨rfl,H3.o,h2.trans h4 (by simp)⟩
   ·(have ak1:i+1<s.size:=by have:=(hz (i+1)).2;omega);(have HR:ax (bI s i=good (i+2) (gt s (i+1))):=by show bI s i=_;rw[bI,az h0,aA hq,az h1]);clear hz h0 h1 hq;go_enter Tryz.func124,Tryz.ntmps124;go_wp2_with fail;refine(xK s i p r 0 0 _ (by exact H.o) aN hs).mono ?_;rintro _ w1 ⟨rfl,h1,h2⟩;have H1:ax _:=h1;clear h1;go_wp2_with fail;refine(xK s (i+1) p r 0 0 _ (by exact H1.o) ak1 hs).mono ?_;rintro _ w2 ⟨rfl,h3,h4⟩;have H3:ax _:=h3;clear h3;go_wp2;go_ret;rw[HR.o];exact⟨rfl,H3.o,h2.trans h4 (by simp)⟩
  .by_cases hb:gt s i=91\/gt s i=93\/gt s i=94\/gt s i=45
   ·(have HR:ax (bI s i=de s 5 i 0):=by show bI s i=_;rw[bI,az h0,az hq,aA hb]);(have hq':((gt s i:Int) == 92)=false:=by simp;omega);clear hz h0;go_enter Tryz.func124,Tryz.ntmps124;go_wp2_with fail;refine(xK s i p r 0 0 _ (by exact H.o) aN hs).mono ?_;rintro _ w1 ⟨rfl,h1,h2⟩;have H1:ax _:=h1;clear h1;generalize gt s i=c at *;rcases hb with rfl|rfl|rfl|rfl
    all_goals
     go_wp2_with fail;refine(NA s (i+1) p r 0 5 i _ (by exact H1.o)).mono ?_;rintro _ w2 ⟨rfl,h3,h4⟩;have H3:ax _:=h3;clear h3;go_wp2;go_ret;rw[HR.o];exact⟨rfl,H3.o,h2.trans h4 (by simp)⟩
   ·(have HR:ax (bI s i=good (i+1) (gt s i)):=by show bI s i=_;rw[bI,az h0,az hq,az hb]);(have q1:((gt s i:Int) == 92)=false:=by simp;omega);(have q2:((gt s i:Int) == 91)=false:=by simp;omega);(have q3:((gt s i:Int) == 93)=false:=by simp;omega);(have q4:((gt s i:Int) == 94)=false:=by simp;omega);(have q5:((gt s i:Int) == 45)=false:=by simp;omega);clear hz h0 hq hb;go_enter Tryz.func124,Tryz.ntmps124;go_wp2_with fail;refine(xK s i p r 0 0 _ (by exact H.o) aN hs).mono ?_;rintro _ w1 ⟨rfl,h1,h2⟩;have H1:ax _:=h1;clear h1;go_wp2;go_ret;rw[HR.o];exact⟨rfl,H1.o,h2⟩
theorem ag3(a:Nat):∀k,dY a k<2 ^ k
 |0=>by simp[dY]
 |k+1=>by
  have ih:=ag3 a k
  rw[dY]
  split
  .rw[qM]
   exact Nat.or_lt_two_pow (by rw[Nat.pow_succ];omega) (J2 (by decide) (by omega))
  .rw[Nat.pow_succ];omega
theorem F6(a k:Nat)(h:k<=256):dY a k<2 ^ 256:=Nat.lt_of_lt_of_le (ag3 a k) (Nat.pow_le_pow_right (by decide) h)
theorem FV{fn:Func}{t b:Nat}{tmps:Array aq}{w:ay}{x0 x1 x2 x3:aq}{e:cL}(hf:fn.results=#[.cell t 65])(ht:tmps.getD t eT=.pointer (some ⟨b,0,none⟩))(hw:w.heap[b]?=some (.cells #[x0,x1,x2,x3] e (0,0))):(eG fn tmps).run aB w=.ok (.agg #[x0,x1,x2,x3]) w:=by
 obtain⟨d0,d1,d2,d3,_⟩:=dB hw;have ht':tmps[t]?.getD eT=.pointer (some ⟨b,0,none⟩):=by rw[<-ht];simp
 simp only[eG,hf];simp[ht',go_sem,d0,d1,d2,d3]
def GB(s:ByteArray)(i p r:Nat)(w:ay)(x:Ending)(w':ay):Prop :=
 (∃v,v<2 ^ 256/\x=.returned (cG v)/\((dz s i).err=0->v=(dz s i).v))/\w'.heap[r]?=some (dF s (dz s i).j (dz s i).err (dz s i).pl p)/\Kp [r] w w'
theorem Ou(s:ByteArray)(i p r:Nat)(w:ay)(h:w.heap[r]?=some (dF s i 0 0 p))(hz:Nz s)(hi:i<=s.size)(hs:s.size<=16):aI aB 123 #[.pointer (some ⟨r,0,none⟩)] w (GB s i p r w):=by
 have hr:=aE h;have gF:r≠w.heap.size:=(by omega);have c1:=aF h 1;simp only[rY,j7,mV]at c1;have h':(w.alloc dg).heap[r]?=some (dF s i 0 0 p):=by rw[aC,az gF];exact h
 have hq:(w.alloc dg).heap[w.heap.size]?=some dg:=(by rw[aC,aA rfl]);have HQ:ax _:=hq;have H:ax _:=h';have hA:=An s i hz;clear h h' hq;have jQ:w.heap.size ∉ [r]:=by simp;omega
 rcases hA with hA|hA
 .have hI:dz s i=(if gt s (bI s i).j=45 then
    (if (bI s ((bI s i).j+1)).err≠0 then bI s ((bI s i).j+1) else if (bI s ((bI s i).j+1)).v<(bI s i).v then de s 6 i 0 else good (bI s ((bI s i).j+1)).j (dY (bI s i).v ((bI s ((bI s i).j+1)).v+1)))
    else good (bI s i).j (dY (bI s i).v ((bI s i).v+1))):=by
   simp only[dz];rw[az (by simp[hA.1])]
  have HI:ax _:=hI;have HA:ax _:=hA;clear hA hI;go_enter Tryz.func123,Tryz.ntmps123;go_wp2_with fail;refine(ab5 s i p r _ (by exact H.o) hz hi hs).mono ?_;rintro _ w1 ⟨rfl,h1,h2⟩;generalize bI s i=A at *;obtain⟨e1,e2,e3,e4,e5⟩:=HA.o;rw[e1,e2]at h1;have H1:ax _:=h1;clear h1 e1 e2;by_cases kK:gt s A.j=0
  ·(have hj:A.j=s.size:=by have:=(hz A.j).1 kK;omega);(have HR:ax (dz s i=good A.j (dY A.v (A.v+1))):=by show dz s i=_;rw[HI.o,az (by omega)]);have HJ:ax _:=hj;clear hj;go_wp2_with fail;refine(CO s p r 0 0 45 _ (by rw[<-HJ.o];exact H1.o)).mono ?_;rintro _ w2 ⟨rfl,n,rfl⟩;go_wp2_with fail;refine(Mp A.v A.v _ e5 e5).mono ?_;rintro _ w3 ⟨rfl,h3⟩;have q0:w3.heap[w.heap.size]?=some dg:=bV h3 (by exact h2.keep HQ.o jQ);obtain⟨d0,d1,d2,d3,f0,f1,f2,f3⟩:=dB q0;have hk:w3.heap[r]?=some (dF s A.j 0 0 p):=bV h3 (by exact H1.o);have HK:ax _:=hk;clear q0 hk;go_wp2;refine cF (v:=cG (dY A.v (A.v+1))) (by simp[eG,Nj,go_sem,d0,d1,d2,d3]) rfl ?_;rw[GB,HR.o];refine⟨⟨_,F6 _ _ (by omega),rfl,fun _=>rfl⟩,?_,(((((Kp.refl [r] w).alloc dg).trans h2 (by simp)).drewN n).below h3).nu (.inr (aH _)) _ _ _ _⟩;simp only[aQ,az gF];exact HK.o
  ·(have aN:A.j<s.size:=by have:=(hz A.j).2;omega);by_cases hg:gt s A.j=45
   ·(have hg':(gt s A.j:Int)=45:=by omega);have HG:ax _:=hg';have hI:=HI.o;rw[aA hg]at hI;have hB:=An s (A.j+1) hz;have U3:ax _:=hI;clear hg hg' kK hI HI;go_wp2_with fail;refine(YS s A.j p r 0 0 45 _ (by exact H1.o) aN hs HG.o).mono ?_;rintro _ w2 ⟨rfl,h3,h4⟩;have H3:ax _:=h3;clear h3;go_wp2_with fail;refine(ab5 s (A.j+1) p r _ (by exact H3.o) hz aN hs).mono ?_;rintro _ w3 ⟨rfl,h5,h6⟩;generalize bI s (A.j+1)=B at *;rcases hB with hB|hB
    .obtain⟨b1,b2,b3,b4,b5⟩:=hB;rw[b1,b2]at h5;have hI:=U3.o;rw[az (by simp[b1])]at hI;have H5:ax _:=h5;clear h5 b1 b2 U3 HA;by_cases hc:B.v<A.v
     .rw[aA hc]at hI;have HR:ax _:=hI;clear hI;go_wp2_with fail;refine(NA s B.j p r 0 6 i _ (by exact H5.o)).mono ?_;rintro _ w4 ⟨rfl,h7,h8⟩;have H7:ax _:=h7;clear h7;go_wp2_with fail;refine(Mp A.v B.v _ e5 b5).mono ?_;rintro _ w9 ⟨rfl,h9⟩;have q0:w9.heap[w.heap.size]?=some dg:=bV h9 (by exact h8.keep (h6.keep (h4.keep (h2.keep HQ.o jQ) jQ) jQ) jQ);obtain⟨d0,d1,d2,d3,f0,f1,f2,f3⟩:=dB q0;have hk:w9.heap[r]?=some (dF s s.size 6 i p):=bV h9 (by exact H7.o);have HK:ax _:=hk;clear q0 hk;go_wp2;refine cF (v:=cG (dY A.v (B.v+1))) (by simp[eG,Nj,go_sem,d0,d1,d2,d3]) rfl ?_;rw[GB,HR.o];refine⟨⟨_,F6 _ _ (by omega),rfl,fun hh=>absurd hh (by simp[de])⟩,?_,(((((((Kp.refl [r] w).alloc dg).trans h2 (by simp)).trans h4 (by simp)).trans h6 (by simp)).trans h8 (by simp)).below h9).nu (.inr (aH _)) _ _ _ _⟩;simp only[aQ,az gF];exact HK.o
     .rw[az hc]at hI;have HR:ax _:=hI;clear hI;go_wp2_with fail;refine(Mp A.v B.v _ e5 b5).mono ?_;rintro _ w9 ⟨rfl,h9⟩;have q0:w9.heap[w.heap.size]?=some dg:=bV h9 (by exact h6.keep (h4.keep (h2.keep HQ.o jQ) jQ) jQ);obtain⟨d0,d1,d2,d3,f0,f1,f2,f3⟩:=dB q0;have hk:w9.heap[r]?=some (dF s B.j 0 0 p):=bV h9 (by exact H5.o);have HK:ax _:=hk;clear q0 hk;go_wp2;refine cF (v:=cG (dY A.v (B.v+1))) (by simp[eG,Nj,go_sem,d0,d1,d2,d3]) rfl ?_;rw[GB,HR.o];refine⟨⟨_,F6 _ _ (by omega),rfl,fun _=>rfl⟩,?_,((((((Kp.refl [r] w).alloc dg).trans h2 (by simp)).trans h4 (by simp)).trans h6 (by simp)).below h9).nu (.inr (aH _)) _ _ _ _⟩;simp only[aQ,az gF];exact HK.o
    .obtain⟨b1,b2,b3⟩:=hB;rw[b2]at h5;have hI:=U3.o;rw[aA b1]at hI;have HR:ax (dz s i=B):=hI;have H5:ax _:=h5;have nU:ax _:=b1;have mG:ax _:=b2;rw[b3];clear h5 b1 b2 U3 HA hI b3;by_cases hc:0<A.v
     .go_wp2_with fail;refine(aek s s.size p r B.err B.pl 6 i _ (by exact H5.o) nU.o).mono ?_;rintro _ w4 ⟨rfl,h7,h8⟩;have H7:ax _:=h7;clear h7;go_wp2_with fail;refine(Mp A.v 0 _ e5 (by decide)).mono ?_;rintro _ w9 ⟨rfl,h9⟩;have q0:w9.heap[w.heap.size]?=some dg:=bV h9 (by exact h8.keep (h6.keep (h4.keep (h2.keep HQ.o jQ) jQ) jQ) jQ);obtain⟨d0,d1,d2,d3,f0,f1,f2,f3⟩:=dB q0;have hk:w9.heap[r]?=some (dF s s.size B.err B.pl p):=bV h9 (by exact H7.o);have HK:ax _:=hk;clear q0 hk;go_wp2;refine cF (v:=cG (dY A.v 1)) (by simp[eG,Nj,go_sem,d0,d1,d2,d3]) rfl ?_;rw[GB,HR.o];refine⟨⟨_,F6 _ _ (by omega),rfl,fun hh=>absurd hh nU.o⟩,?_,(((((((Kp.refl [r] w).alloc dg).trans h2 (by simp)).trans h4 (by simp)).trans h6 (by simp)).trans h8 (by simp)).below h9).nu (.inr (aH _)) _ _ _ _⟩;simp only[aQ,az gF];rw[mG.o];exact HK.o
     .go_wp2_with fail;refine(Mp A.v 0 _ e5 (by decide)).mono ?_;rintro _ w9 ⟨rfl,h9⟩;have q0:w9.heap[w.heap.size]?=some dg:=bV h9 (by exact h6.keep (h4.keep (h2.keep HQ.o jQ) jQ) jQ);obtain⟨d0,d1,d2,d3,f0,f1,f2,f3⟩:=dB q0;have hk:w9.heap[r]?=some (dF s s.size B.err B.pl p):=bV h9 (by exact H5.o);have HK:ax _:=hk;clear q0 hk;go_wp2;refine cF (v:=cG (dY A.v 1)) (by simp[eG,Nj,go_sem,d0,d1,d2,d3]) rfl ?_;rw[GB,HR.o];refine⟨⟨_,F6 _ _ (by omega),rfl,fun hh=>absurd hh nU.o⟩,?_,((((((Kp.refl [r] w).alloc dg).trans h2 (by simp)).trans h4 (by simp)).trans h6 (by simp)).below h9).nu (.inr (aH _)) _ _ _ _⟩;simp only[aQ,az gF];rw[mG.o];exact HK.o
   ·(have HR:ax (dz s i=good A.j (dY A.v (A.v+1))):=by show dz s i=_;rw[HI.o,az hg]);have hg':(gt s A.j:Int)≠45:=(by omega);have HG:ax _:=hg';clear hg hg' kK;go_wp2_with fail;refine(acD s A.j p r 0 0 45 _ (by exact H1.o) aN hs HG.o).mono ?_;rintro _ w2 ⟨rfl,n,rfl⟩;go_wp2_with fail;refine(Mp A.v A.v _ e5 e5).mono ?_;rintro _ w3 ⟨rfl,h3⟩;have q0:w3.heap[w.heap.size]?=some dg:=bV h3 (by exact h2.keep HQ.o jQ);obtain⟨d0,d1,d2,d3,f0,f1,f2,f3⟩:=dB q0;have hk:w3.heap[r]?=some (dF s A.j 0 0 p):=bV h3 (by exact H1.o);have HK:ax _:=hk;clear q0 hk;go_wp2;refine cF (v:=cG (dY A.v (A.v+1))) (by simp[eG,Nj,go_sem,d0,d1,d2,d3]) rfl ?_;rw[GB,HR.o];refine⟨⟨_,F6 _ _ (by omega),rfl,fun _=>rfl⟩,?_,(((((Kp.refl [r] w).alloc dg).trans h2 (by simp)).drewN n).below h3).nu (.inr (aH _)) _ _ _ _⟩;simp only[aQ,az gF];exact HK.o
 .have HR:ax (dz s i=bI s i):=by show dz s i=_;simp only[dz];rw[aA hA.1]
  have HA:ax _:=hA;clear hA;go_enter Tryz.func123,Tryz.ntmps123;go_wp2_with fail;refine(ab5 s i p r _ (by exact H.o) hz hi hs).mono ?_;rintro _ w1 ⟨rfl,h1,h2⟩;generalize bI s i=A at *;obtain⟨e1,e2,e3⟩:=HA.o;rw[e2]at h1;rw[e3];have H1:ax _:=h1;have HE:ax _:=e1;clear h1 e1 e2 e3;go_wp2_with fail;refine(CO s p r A.err A.pl 45 _ (by exact H1.o)).mono ?_;rintro _ w2 ⟨rfl,n,rfl⟩;go_wp2_with fail;refine(Mp 0 0 _ (by decide) (by decide)).mono ?_;rintro _ w3 ⟨rfl,h3⟩;have q0:w3.heap[w.heap.size]?=some dg:=bV h3 (by exact h2.keep HQ.o jQ);obtain⟨d0,d1,d2,d3,f0,f1,f2,f3⟩:=dB q0;have hk:w3.heap[r]?=some (dF s s.size A.err A.pl p):=bV h3 (by exact H1.o);have HK:ax _:=hk;clear q0 hk;go_wp2;refine cF (v:=cG (dY 0 1)) (by simp[eG,Nj,go_sem,d0,d1,d2,d3]) rfl ?_;rw[GB,HR.o];refine⟨⟨_,F6 _ _ (by omega),rfl,fun hh=>absurd hh HE.o⟩,?_,(((((Kp.refl [r] w).alloc dg).trans h2 (by simp)).drewN n).below h3).nu (.inr (aH _)) _ _ _ _⟩;simp only[aQ,az gF];rw[HA.o.2.1];exact HK.o
section
variable{base e size n:Nat}
theorem L9(s:ByteArray)(i:Nat)(hz:Nz s):((dz s i).err=0/\(dz s i).pl=0/\i<(dz s i).j/\(dz s i).j<=s.size/\(dz s i).v<2 ^ 256)\/((dz s i).err≠0/\(dz s i).j=s.size):=by
 have hA:=An s i hz;have hB:=An s ((bI s i).j+1) hz;simp only[dz];generalize bI s i=A at *;generalize bI s (A.j+1)=B at *;rcases hA with⟨a1,a2,a3,a4,a5⟩|⟨a1,a2,a3⟩
 .rw[az (by simp[a1])];split
  .rcases hB with⟨b1,b2,b3,b4,b5⟩|⟨b1,b2,b3⟩
   .rw[az (by simp[b1])];split
    .right;simp[de]
    .left;exact⟨rfl,rfl,by simp only[good];omega,b4,F6 _ _ (by omega)⟩
   .rw[aA b1];right;exact⟨b1,b2⟩
  .left;exact⟨rfl,rfl,a3,a4,F6 _ _ (by omega)⟩
 .rw[aA a1];right;exact⟨a1,a2⟩
def jx(s:ByteArray)(n acc j:Nat):PR Nat :=
 if gt s j=0 then de s 4 s.size 0 else if gt s j=93 then good (j+1) acc else gg s n acc j
theorem CE(s:ByteArray)(n acc i:Nat):gg s (n+1) acc i=if (dz s i).err≠0 then dz s i else jx s n (acc ||| (dz s i).v) (dz s i).j:=rfl
def iZ(ss:List Nat):List aq:=ss.flatMap fun s=>[.int .u64 (wd s 0),.int .u64 (wd s 1),.int .u64 (wd s 2),.int .u64 (wd s 3)]
theorem RO(a b:List Nat):iZ (a++b)=iZ a++iZ b:=by simp[iZ]
theorem BH(ss:List Nat)(j:Nat)(hj:j<ae ss)(i:Nat)(hi:i<4):(iZ ss)[j*4+i]?=some (.int .u64 (wd (ss.getD j 0) i)):=by
 induction ss generalizing j with
 |nil=>simp at hj
 |cons a l ih =>
  have e:iZ (a::l)=[.int .u64 (wd a 0),.int .u64 (wd a 1),.int .u64 (wd a 2),.int .u64 (wd a 3)]++iZ l:=(by simp[iZ]);rw[e];cases j with
  |zero =>
   have:i=0\/i=1\/i=2\/i=3:=(by omega);rcases this with rfl|rfl|rfl|rfl<;>rfl
  |succ j =>
   rw[List.getElem?_append_right (by simp;omega)];have:=ih j (by simpa using hj);simp only[List.length_cons,List.length_nil,List.getD_cons_succ];rw[<-this];congr 1;omega
theorem aJ{w w':ay}{v:aq}{xs:List aq}{ys:List Nat}(h:w.ownsRow base e size v n xs)(hk:Kp ys w w')(cP:∀g,v.ownBlock=some g->g∉ys):w'.ownsRow base e size v n xs:=by
 refine⟨h.1,?_⟩;rcases h.2 with h2|⟨g,cap,cur,hv,hb,hg,rest⟩
 .exact .inl h2
 .exact .inr ⟨g,cap,cur,hv,hb,hk.keep hg (cP g (by rw[hv];rfl)),rest⟩
theorem Al{w:ay}{v:aq}{xs:List aq}(h:w.ownsRow base e size v n xs)(k:Nat):(w.drewN k).ownsRow base e size v n xs:=h
def lI(ss:List Nat):Nat:=ss.foldl (· ||| ·) 0
theorem ab7(ss:List Nat)(v:Nat):lI (ss ++ [v])=lI ss ||| v:=by simp[lI]
theorem Oo:(aB.info? 65).map (fun i=>(i.zero,i.size,i.bytes))=some (some (.agg #[.int .u64 0,.int .u64 0,.int .u64 0,.int .u64 0]),4,32):=by kernel_rfl
theorem Kp.grown{xs:List Nat}{w w1 w2:ay}(h:Kp xs w w1){row:Option Nat}(hg:w1.grownBy w2 row)(hr:∀k,row=some k->k∈xs\/w.heap.size<=k):Kp xs w w2 :=
 ⟨hg.os.trans h.os,hg.tape.trans h.tape,hg.output.trans h.output,j8 h.size hg.size,fun k hk hx=>by
  rw[hg.block k (by have:=h.size;omega) (fun e=>by rcases hr k e.symm with e|e;exact hx e;omega)];exact h.block k hk hx⟩
theorem fY{w w1:ay}{row:Option Nat}(hg:w.grownBy w1 row){b:Nat}{o:Obj}(hb:w.heap[b]?=some o)(cP:row≠some b):w1.heap[b]?=some o:=by
 rw[hg.block b (aE hb) (fun e=>cP e.symm)];exact hb
def VS(R:PR Nat)(s:ByteArray)(p r:Nat)(w:ay)(x:Ending)(w':ay):Prop :=
 (∃v,x=.returned (cG v)/\(R.err=0->v=R.v))/\w'.heap[r]?=some (dF s R.j R.err R.pl p)/\Kp [r] w w'
theorem aoi(s:ByteArray)(i p r:Nat)(w:ay)(h:w.heap[r]?=some (dF s i 0 0 p))(hz:Nz s)(hi:i<s.size)(hs:s.size<=16)(hg:gt s i≠94):aI aB 120 #[.pointer (some ⟨r,0,none⟩)] w (VS (gg s 20 0 i) s p r w):=by
 have hr:=aE h;have gF:r≠w.heap.size:=(by omega);have h':(w.alloc dg).heap[r]?=some (dF s i 0 0 p):=by rw[aC,az gF];exact h
 have hq:(w.alloc dg).heap[w.heap.size]?=some dg:=(by rw[aC,aA rfl]);have HQ:ax _:=hq;have H:ax _:=h';have jQ:w.heap.size ∉ [r]:=by simp;omega
 have hg':(gt s i:Int)≠94:=(by omega);have HG:ax _:=hg';have hI:i<=s.size:=(by omega);clear h h' hq hg hg';go_enter Tryz.func120,Tryz.ntmps120;go_wp2_with fail;refine(acD s i p r 0 0 94 _ (by exact H.o) hi hs HG.o).mono ?_;rintro _ w2 ⟨rfl,n0,hw⟩;have Qb:ax (w2.heap[w.heap.size]?=some dg):=by subst hw;exact HQ.o
 have H2:ax (w2.heap[r]?=some (dF s i 0 0 p)):=by subst hw;exact H.o
 have Ef:Kp [r] w w2:=by subst hw;exact((Kp.refl _ _).alloc _).drewN n0
 clear hw;go_wp2_with fail;refine(Ou s i p r _ (by exact H2.o) hz hI hs).mono ?_;rintro _ w1 ⟨⟨v,hv,rfl,Iu⟩,h1,h2⟩;have q1:=h2.keep Qb.o jQ;have k1:=Ef.trans h2 (by simp);have vS:w.heap.size<w1.heap.size:=aE q1;have sH:=aE h1;have hR:=CE s 19 0 i;have shape:=L9 s i hz;generalize gg s 20 0 i=RR at *;have jC:ax _:=hR;have H1:ax _:=h1;have HV:ax _:=Iu;have Q1:ax _:=q1;have SH:ax _:=shape;clear h1 Iu hR q1 shape;go_wp2_with fail;go_loopw [4] (fun it w'=>∃(k cap g:Nat) (ss:List Nat),it=.slice (some ⟨g,0,none⟩) k cap/\(ae ss)=k/\k<=17/\w'.ownsRow (w.heap.size+1) 65 4 (.slice (some ⟨g,0,none⟩) k cap) k (iZ ss)/\w'.heap[w.heap.size]?=some dg/\Kp [r] w w' /\
   ((∃j n,k<=j/\j<=s.size/\s.size-j<n/\w'.heap[r]?=some (dF s j 0 0 p)/\RR=jx s n (lI ss) j)\/(RR.err≠0/\RR.j=s.size/\w'.heap[r]?=some (dF s s.size RR.err RR.pl p))))
  (fun _ w'=>s.size-(aG ((w'.cell? ⟨r,1,none⟩).getD eT)).toNat)
 case atStart =>
  refine⟨1,1,w1.heap.size,[v],rfl,rfl,by omega,?_,?_,k1.alloc _,?_⟩
  .exact adE w1 #[.int .u64 (wd v 0),.int .u64 (wd v 1),.int .u64 (wd v 2),.int .u64 (wd v 3)] 1 vS (by decide) rfl
  .rw[aC,az (bY vS)];exact Q1.o
  .rw[aC,az (bY sH)];rcases SH.o with⟨a1,a2,a3,a4,a5⟩|⟨a1,a2⟩
   .left;have hR:=jC.o;rw[az (by simp[a1]),<-HV.o a1]at hR;refine⟨(dz s i).j,19,by omega,a4,by omega,?_,hR⟩;rw[H1.o,a1,a2]
   .right;have hR:=jC.o;rw[aA a1]at hR;rw[hR];exact⟨a1,a2,by rw[H1.o,a2]⟩
 case round =>
  obtain⟨k,cap,g,ss,rfl,hk,ae3,own,qr,kr,eM⟩:=hrel;have QR:ax _:=qr;have OWN:ax _:=own;have sF:g≠r:=by
   rintro rfl;have:=own.lt g rfl;omega
  clear own qr;rcases eM with⟨j,n,hkj,hj,hn,rd,nH⟩|⟨e1,e2,rd⟩
  .have RD:ax _:=rd;have wH:ax _:=nH;clear rd nH;by_cases kK:gt s j=0
   ·(have lY:j=s.size:=by have:=(hz j).1 kK;omega);subst lY;(have HE:ax (RR=de s 4 s.size 0):=by show RR=_;rw[wH.o,jx,aA kK]);clear kK;go_wp2_with fail;refine(yC s p r 0 0 _ (by exact RD.o)).mono ?_;rintro _ w3 ⟨rfl,n3,rfl⟩;go_wp2_with fail;refine(YE s p r 0 93 _ (by exact RD.o)).mono ?_;rintro _ w5 ⟨rfl,h5,gY⟩;have eE:=aJ (Al OWN.o n3) (ys:=[r]) gY (by intro g' e;cases e;simp[sF]);have tj:ax _:=gY.keep (by exact QR.o) jQ;have oK:=(kr.drewN n3).trans gY (by simp);have H5:ax _:=h5;clear h5;have m6:∀j<k,∀i<4,w5.cell? ⟨g,j*4+i,none⟩=some (.int .u64 (wd (ss.getD j 0) i)):=fun j hj i hi=>by
     rw[eE.cellAt (j*4+i) (by omega)];exact BH ss j (by omega) i hi
    have tP:g<w5.heap.size:=(eE.lt g rfl).2;have HC:ax _:=m6;clear m6;go_wp2_with fail;refine(CP g k cap ss _ hk (by omega) (by exact HC.o) tP).mono ?_;rintro _ w6 ⟨rfl,h6⟩;have q6:w6.heap[w.heap.size]?=some dg:=bV h6 tj.o;have r6:=bV h6 H5.o;have k6:=oK.below h6;have tQ:w.heap.size<w6.heap.size:=aE q6;have oS:r<w6.heap.size:=aE r6;have R6:ax _:=r6;have Q6:ax _:=q6;obtain⟨d0,d1,d2,d3,f0,f1,f2,f3⟩:=dB q6;clear q6 r6 h6 HC;go_wp2;refine cF (v:=cG (lI ss)) (FV (b:=w.heap.size) (e:=65) G6 rfl (by simp only[aC,aQ,iA,az (bY tQ),Q6.o];simp[eD,lI])) rfl ?_;refine⟨⟨_,rfl,fun hh=>absurd hh (by rw[HE.o];simp[de])⟩,?_,?_⟩
    .simp only[aC,aQ,az gF,iA,az (bY oS)];rw[HE.o];exact R6.o
    .exact(k6.nu (.inr (aH _)) _ _ _ _).alloc _
   ·(have aN:j<s.size:=by have:=(hz j).2;omega);by_cases tO:gt s j=93
    ·(have HE:ax (RR=good (j+1) (lI ss)):=by show RR=_;rw[wH.o,jx,az kK,aA tO]);(have jU:decide (0<=oL (u7 #[93]).data.toList (gt s j).toUInt8)=true:=by rw[tO];decide);(have hg':(gt s j:Int)=93:=by omega);have HS:ax _:=jU;have PU:ax _:=hg';clear kK tO jU hg';go_wp2_with fail;refine(yB s j p r 0 0 _ (by exact RD.o) aN).mono ?_;rintro _ w3 ⟨rfl,n3,rfl⟩;go_wp2_with fail;refine(Av s _ j p r 0 0 true _ (by exact RD.o) aN hs HS.o).mono ?_;rintro _ w4 ⟨rfl,n4,rfl⟩;go_wp2_with fail;refine(YF s j p r 0 0 93 _ (by exact RD.o) aN hs PU.o).mono ?_;rintro _ w5 ⟨rfl,h5,gY⟩;have eE:=aJ (Al OWN.o (n3+n4)) (ys:=[r]) gY (by intro g' e;cases e;simp[sF]);have tj:ax _:=gY.keep (by exact QR.o) jQ;have oK:=(kr.drewN (n3+n4)).trans gY (by simp);have H5:ax _:=h5;clear h5;have m6:∀j<k,∀i<4,w5.cell? ⟨g,j*4+i,none⟩=some (.int .u64 (wd (ss.getD j 0) i)):=fun j hj i hi=>by
      rw[eE.cellAt (j*4+i) (by omega)];exact BH ss j (by omega) i hi
     have tP:g<w5.heap.size:=(eE.lt g rfl).2;have HC:ax _:=m6;clear m6;go_wp2_with fail;refine(CP g k cap ss _ hk (by omega) (by exact HC.o) tP).mono ?_;rintro _ w6 ⟨rfl,h6⟩;have q6:w6.heap[w.heap.size]?=some dg:=bV h6 tj.o;have r6:=bV h6 H5.o;have k6:=oK.below h6;have tQ:w.heap.size<w6.heap.size:=aE q6;have oS:r<w6.heap.size:=aE r6;have R6:ax _:=r6;have Q6:ax _:=q6;obtain⟨d0,d1,d2,d3,f0,f1,f2,f3⟩:=dB q6;clear q6 r6 h6 HC;go_wp2;refine cF (v:=cG (lI ss)) (FV (b:=w.heap.size) (e:=65) G6 rfl (by simp only[aC,aQ,iA,az (bY tQ),Q6.o];simp[eD,lI])) rfl ?_;refine⟨⟨_,rfl,fun _=>by rw[HE.o];rfl⟩,?_,?_⟩
     .simp only[aC,aQ,az gF,iA,az (bY oS)];rw[HE.o];exact R6.o
     .exact(k6.nu (.inr (aH _)) _ _ _ _).alloc _
    .have jU:decide (0<=oL (u7 #[93]).data.toList (gt s j).toUInt8)=false:=by
      have:(93:UInt8)≠(gt s j).toUInt8:=by
       intro e;have e2:=congrArg UInt8.toNat e;have:=kj s j;simp at e2;omega
      simp[oL,this]
     (obtain⟨m,rfl⟩:∃m,n=m+1:=⟨n-1,by omega⟩);have Ca:RR=gg s (m+1) (lI ss) j:=(by rw[wH.o,jx,az kK,az tO]);rw[CE]at Ca;have shape:=L9 s j hz;have HS:ax _:=jU;have Gx:ax _:=Ca;have G1:ax _:=shape;clear kK tO jU Ca shape wH;go_wp2_with fail;refine(yB s j p r 0 0 _ (by exact RD.o) aN).mono ?_;rintro _ w3 ⟨rfl,n3,rfl⟩;go_wp2_with fail;refine(Av s _ j p r 0 0 false _ (by exact RD.o) aN hs HS.o).mono ?_;rintro _ w4 ⟨rfl,n4,rfl⟩;go_wp2_with fail;refine(Ou s j p r _ (by exact RD.o) hz hj hs).mono ?_;rintro _ w5 ⟨⟨u,hu,rfl,It⟩,h5,gY⟩;have eE:=aJ (Al OWN.o (n3+n4)) (ys:=[r]) gY (by intro g' e;cases e;simp[sF]);have q5:=gY.keep (b:=w.heap.size) (by exact QR.o) jQ;have oK:=(kr.drewN (n3+n4)).trans gY (by simp);have c1:=aF RD.o 1;have SU:=aE q5;have oS:=aE h5;have H5:ax _:=h5;have Q5:ax _:=q5;have HU:ax _:=It;clear h5 q5 It;obtain⟨i0,cS,dc,dm,cW⟩:=iw Oo;(go_wp2_with (at_builtin;refine Gb _ rfl _ _ _ rfl (w.heap.size+1) 65 i0 _ 4 32 No cS dc dm cW rfl (by omega) (.slice (some ⟨g,0,none⟩) k cap) k (iZ ss) rfl (eE.alloc _) ⟨w5.heap.size,0,none⟩ 1 1 (iZ [u]) rfl rfl (gN (cs:=(iZ [u]).toArray) (t:=65) (fr:=(0,0)) (jS w5 _)) (by simp[iZ,dS]) (by omega) (by unfold eB;omega) (by omega) (by simp;omega) (w5.heap.size+1) (by simp) ?_;intro g2 xd w6 I2 xj yy XV));have r6:w6.heap[r]?=some (dF s (dz s j).j (dz s j).err (dz s j).pl p):=fY xj (by rw[aC,az (bY oS)];exact H5.o) (by simp[aK];exact sF);have ko:w.heap.size+1<=g/\g<w5.heap.size:=eE.lt g rfl;have c6:=aF r6 1;refine⟨⟨k+1,xd,g2,ss ++ [u],rfl,by simp[hk],by omega,?_,?_,?_,?_⟩,?_⟩
     .rw[RO];exact I2
     .exact fY xj (by rw[aC,az (bY SU)];exact Q5.o) (by simp[aK];omega)
     .exact(oK.alloc _).grown xj (by intro x e;have e':g=x:=(by simpa [aK]using e);right;omega)
     .rw[r6];rcases G1.o with⟨a1,a2,a3,a4,a5⟩|⟨a1,a2⟩
      .left;have hR:=Gx.o;rw[az (by simp[a1]),<-HU.o a1,<-ab7]at hR;exact⟨(dz s j).j,m,by omega,a4,by omega,by rw[a1,a2],hR⟩
      .right;have hR:=Gx.o;rw[aA a1]at hR;rw[hR];exact⟨a1,a2,by rw[a2]⟩
     .rw[c1,c6];rcases G1.o with⟨a1,a2,a3,a4,a5⟩|⟨a1,a2⟩<;>simp[aG]<;>omega
  .have RD:ax _:=rd;have C8:ax _:=e1;have PT:ax _:=e2;clear rd e1 e2;go_wp2_with fail;refine(yC s p r RR.err RR.pl _ (by exact RD.o)).mono ?_;rintro _ w3 ⟨rfl,n3,rfl⟩;go_wp2_with fail;refine(YD s p r RR.err RR.pl 93 _ (by exact RD.o) C8.o).mono ?_;rintro _ w5 ⟨rfl,h5,gY⟩;have eE:=aJ (Al OWN.o n3) (ys:=[r]) gY (by intro g' e;cases e;simp[sF]);have tj:ax _:=gY.keep (by exact QR.o) jQ;have oK:=(kr.drewN n3).trans gY (by simp);have H5:ax _:=h5;clear h5;have m6:∀j<k,∀i<4,w5.cell? ⟨g,j*4+i,none⟩=some (.int .u64 (wd (ss.getD j 0) i)):=fun j hj i hi=>by
    rw[eE.cellAt (j*4+i) (by omega)];exact BH ss j (by omega) i hi
   have tP:g<w5.heap.size:=(eE.lt g rfl).2;have HC:ax _:=m6;clear m6;go_wp2_with fail;refine(CP g k cap ss _ hk (by omega) (by exact HC.o) tP).mono ?_;rintro _ w6 ⟨rfl,h6⟩;have q6:w6.heap[w.heap.size]?=some dg:=bV h6 tj.o;have r6:=bV h6 H5.o;have k6:=oK.below h6;have tQ:w.heap.size<w6.heap.size:=aE q6;have oS:r<w6.heap.size:=aE r6;have R6:ax _:=r6;have Q6:ax _:=q6;obtain⟨d0,d1,d2,d3,f0,f1,f2,f3⟩:=dB q6;clear q6 r6 h6 HC;go_wp2;refine cF (v:=cG (lI ss)) (FV (b:=w.heap.size) (e:=65) G6 rfl (by simp only[aC,aQ,iA,az (bY tQ),Q6.o];simp[eD,lI])) rfl ?_;refine⟨⟨_,rfl,fun hh=>absurd hh C8.o⟩,?_,?_⟩
   .simp only[aC,aQ,az gF,iA,az (bY oS)];rw[PT.o];exact R6.o
   .exact(k6.nu (.inr (aH _)) _ _ _ _).alloc _
end
theorem aoe(s:ByteArray)(i p r:Nat)(w:ay)(h:w.heap[r]?=some (dF s i 0 0 p))(hz:Nz s)(hi:i=s.size)(hs:s.size<=16):aI aB 120 #[.pointer (some ⟨r,0,none⟩)] w (VS (gg s 20 0 i) s p r w):=by
 have hr:=aE h;have gF:r≠w.heap.size:=(by omega);have h':(w.alloc dg).heap[r]?=some (dF s i 0 0 p):=by rw[aC,az gF];exact h
 have hq:(w.alloc dg).heap[w.heap.size]?=some dg:=(by rw[aC,aA rfl]);have HQ:ax _:=hq;have H:ax _:=h';have jQ:w.heap.size ∉ [r]:=by simp;omega
 have HIE:ax _:=hi;have hI:i<=s.size:=(by omega);clear h h' hq hi;go_enter Tryz.func120,Tryz.ntmps120;go_wp2_with fail;refine(CO s p r 0 0 94 _ (by rw[<-HIE.o];exact H.o)).mono ?_;rintro _ w2 ⟨rfl,n0,hw⟩;have Qb:ax (w2.heap[w.heap.size]?=some dg):=by subst hw;exact HQ.o
 have H2:ax (w2.heap[r]?=some (dF s i 0 0 p)):=by subst hw;exact H.o
 have Ef:Kp [r] w w2:=by subst hw;exact((Kp.refl _ _).alloc _).drewN n0
 clear hw;go_wp2_with fail;refine(Ou s i p r _ (by exact H2.o) hz hI hs).mono ?_;rintro _ w1 ⟨⟨v,hv,rfl,Iu⟩,h1,h2⟩;have q1:=h2.keep Qb.o jQ;have k1:=Ef.trans h2 (by simp);have vS:w.heap.size<w1.heap.size:=aE q1;have sH:=aE h1;have hR:=CE s 19 0 i;have shape:=L9 s i hz;generalize gg s 20 0 i=RR at *;have jC:ax _:=hR;have H1:ax _:=h1;have HV:ax _:=Iu;have Q1:ax _:=q1;have SH:ax _:=shape;clear h1 Iu hR q1 shape;go_wp2_with fail;go_loopw [4] (fun it w'=>∃(k cap g:Nat) (ss:List Nat),it=.slice (some ⟨g,0,none⟩) k cap/\(ae ss)=k/\k<=17/\w'.ownsRow (w.heap.size+1) 65 4 (.slice (some ⟨g,0,none⟩) k cap) k (iZ ss)/\w'.heap[w.heap.size]?=some dg/\Kp [r] w w' /\
   ((∃j n,k<=j/\j<=s.size/\s.size-j<n/\w'.heap[r]?=some (dF s j 0 0 p)/\RR=jx s n (lI ss) j)\/(RR.err≠0/\RR.j=s.size/\w'.heap[r]?=some (dF s s.size RR.err RR.pl p))))
  (fun _ w'=>s.size-(aG ((w'.cell? ⟨r,1,none⟩).getD eT)).toNat)
 case atStart =>
  refine⟨1,1,w1.heap.size,[v],rfl,rfl,by omega,?_,?_,k1.alloc _,?_⟩
  .exact adE w1 #[.int .u64 (wd v 0),.int .u64 (wd v 1),.int .u64 (wd v 2),.int .u64 (wd v 3)] 1 vS (by decide) rfl
  .rw[aC,az (bY vS)];exact Q1.o
  .rw[aC,az (bY sH)];rcases SH.o with⟨a1,a2,a3,a4,a5⟩|⟨a1,a2⟩
   .left;have hR:=jC.o;rw[az (by simp[a1]),<-HV.o a1]at hR;refine⟨(dz s i).j,19,by omega,a4,by omega,?_,hR⟩;rw[H1.o,a1,a2]
   .right;have hR:=jC.o;rw[aA a1]at hR;rw[hR];exact⟨a1,a2,by rw[H1.o,a2]⟩
 case round =>
  obtain⟨k,cap,g,ss,rfl,hk,ae3,own,qr,kr,eM⟩:=hrel;have QR:ax _:=qr;have OWN:ax _:=own;have sF:g≠r:=by
   rintro rfl;have:=own.lt g rfl;omega
  clear own qr;rcases eM with⟨j,n,hkj,hj,hn,rd,nH⟩|⟨e1,e2,rd⟩
  .have RD:ax _:=rd;have wH:ax _:=nH;clear rd nH;by_cases kK:gt s j=0
   ·(have lY:j=s.size:=by have:=(hz j).1 kK;omega);subst lY;(have HE:ax (RR=de s 4 s.size 0):=by show RR=_;rw[wH.o,jx,aA kK]);clear kK;go_wp2_with fail;refine(yC s p r 0 0 _ (by exact RD.o)).mono ?_;rintro _ w3 ⟨rfl,n3,rfl⟩;go_wp2_with fail;refine(YE s p r 0 93 _ (by exact RD.o)).mono ?_;rintro _ w5 ⟨rfl,h5,gY⟩;have eE:=aJ (Al OWN.o n3) (ys:=[r]) gY (by intro g' e;cases e;simp[sF]);have tj:ax _:=gY.keep (by exact QR.o) jQ;have oK:=(kr.drewN n3).trans gY (by simp);have H5:ax _:=h5;clear h5;have m6:∀j<k,∀i<4,w5.cell? ⟨g,j*4+i,none⟩=some (.int .u64 (wd (ss.getD j 0) i)):=fun j hj i hi=>by
     rw[eE.cellAt (j*4+i) (by omega)];exact BH ss j (by omega) i hi
    have tP:g<w5.heap.size:=(eE.lt g rfl).2;have HC:ax _:=m6;clear m6;go_wp2_with fail;refine(CP g k cap ss _ hk (by omega) (by exact HC.o) tP).mono ?_;rintro _ w6 ⟨rfl,h6⟩;have q6:w6.heap[w.heap.size]?=some dg:=bV h6 tj.o;have r6:=bV h6 H5.o;have k6:=oK.below h6;have tQ:w.heap.size<w6.heap.size:=aE q6;have oS:r<w6.heap.size:=aE r6;have R6:ax _:=r6;have Q6:ax _:=q6;obtain⟨d0,d1,d2,d3,f0,f1,f2,f3⟩:=dB q6;clear q6 r6 h6 HC;go_wp2;refine cF (v:=cG (lI ss)) (FV (b:=w.heap.size) (e:=65) G6 rfl (by simp only[aC,aQ,iA,az (bY tQ),Q6.o];simp[eD,lI])) rfl ?_;refine⟨⟨_,rfl,fun hh=>absurd hh (by rw[HE.o];simp[de])⟩,?_,?_⟩
    .simp only[aC,aQ,az gF,iA,az (bY oS)];rw[HE.o];exact R6.o
    .exact(k6.nu (.inr (aH _)) _ _ _ _).alloc _
   ·(have aN:j<s.size:=by have:=(hz j).2;omega);by_cases tO:gt s j=93
    ·(have HE:ax (RR=good (j+1) (lI ss)):=by show RR=_;rw[wH.o,jx,az kK,aA tO]);(have jU:decide (0<=oL (u7 #[93]).data.toList (gt s j).toUInt8)=true:=by rw[tO];decide);(have hg':(gt s j:Int)=93:=by omega);have HS:ax _:=jU;have PU:ax _:=hg';clear kK tO jU hg';go_wp2_with fail;refine(yB s j p r 0 0 _ (by exact RD.o) aN).mono ?_;rintro _ w3 ⟨rfl,n3,rfl⟩;go_wp2_with fail;refine(Av s _ j p r 0 0 true _ (by exact RD.o) aN hs HS.o).mono ?_;rintro _ w4 ⟨rfl,n4,rfl⟩;go_wp2_with fail;refine(YF s j p r 0 0 93 _ (by exact RD.o) aN hs PU.o).mono ?_;rintro _ w5 ⟨rfl,h5,gY⟩;have eE:=aJ (Al OWN.o (n3+n4)) (ys:=[r]) gY (by intro g' e;cases e;simp[sF]);have tj:ax _:=gY.keep (by exact QR.o) jQ;have oK:=(kr.drewN (n3+n4)).trans gY (by simp);have H5:ax _:=h5;clear h5;have m6:∀j<k,∀i<4,w5.cell? ⟨g,j*4+i,none⟩=some (.int .u64 (wd (ss.getD j 0) i)):=fun j hj i hi=>by
      rw[eE.cellAt (j*4+i) (by omega)];exact BH ss j (by omega) i hi
     have tP:g<w5.heap.size:=(eE.lt g rfl).2;have HC:ax _:=m6;clear m6;go_wp2_with fail;refine(CP g k cap ss _ hk (by omega) (by exact HC.o) tP).mono ?_;rintro _ w6 ⟨rfl,h6⟩;have q6:w6.heap[w.heap.size]?=some dg:=bV h6 tj.o;have r6:=bV h6 H5.o;have k6:=oK.below h6;have tQ:w.heap.size<w6.heap.size:=aE q6;have oS:r<w6.heap.size:=aE r6;have R6:ax _:=r6;have Q6:ax _:=q6;obtain⟨d0,d1,d2,d3,f0,f1,f2,f3⟩:=dB q6;clear q6 r6 h6 HC;go_wp2;refine cF (v:=cG (lI ss)) (FV (b:=w.heap.size) (e:=65) G6 rfl (by simp only[aC,aQ,iA,az (bY tQ),Q6.o];simp[eD,lI])) rfl ?_;refine⟨⟨_,rfl,fun _=>by rw[HE.o];rfl⟩,?_,?_⟩
     .simp only[aC,aQ,az gF,iA,az (bY oS)];rw[HE.o];exact R6.o
     .exact(k6.nu (.inr (aH _)) _ _ _ _).alloc _
    .have jU:decide (0<=oL (u7 #[93]).data.toList (gt s j).toUInt8)=false:=by
      have:(93:UInt8)≠(gt s j).toUInt8:=by
       intro e;have e2:=congrArg UInt8.toNat e;have:=kj s j;simp at e2;omega
      simp[oL,this]
     (obtain⟨m,rfl⟩:∃m,n=m+1:=⟨n-1,by omega⟩);have Ca:RR=gg s (m+1) (lI ss) j:=(by rw[wH.o,jx,az kK,az tO]);rw[CE]at Ca;have shape:=L9 s j hz;have HS:ax _:=jU;have Gx:ax _:=Ca;have G1:ax _:=shape;clear kK tO jU Ca shape wH;go_wp2_with fail;refine(yB s j p r 0 0 _ (by exact RD.o) aN).mono ?_;rintro _ w3 ⟨rfl,n3,rfl⟩;go_wp2_with fail;refine(Av s _ j p r 0 0 false _ (by exact RD.o) aN hs HS.o).mono ?_;rintro _ w4 ⟨rfl,n4,rfl⟩;go_wp2_with fail;refine(Ou s j p r _ (by exact RD.o) hz hj hs).mono ?_;rintro _ w5 ⟨⟨u,hu,rfl,It⟩,h5,gY⟩;have eE:=aJ (Al OWN.o (n3+n4)) (ys:=[r]) gY (by intro g' e;cases e;simp[sF]);have q5:=gY.keep (b:=w.heap.size) (by exact QR.o) jQ;have oK:=(kr.drewN (n3+n4)).trans gY (by simp);have c1:=aF RD.o 1;have SU:=aE q5;have oS:=aE h5;have H5:ax _:=h5;have Q5:ax _:=q5;have HU:ax _:=It;clear h5 q5 It;obtain⟨i0,cS,dc,dm,cW⟩:=iw Oo;(go_wp2_with (at_builtin;refine Gb _ rfl _ _ _ rfl (w.heap.size+1) 65 i0 _ 4 32 No cS dc dm cW rfl (by omega) (.slice (some ⟨g,0,none⟩) k cap) k (iZ ss) rfl (eE.alloc _) ⟨w5.heap.size,0,none⟩ 1 1 (iZ [u]) rfl rfl (gN (cs:=(iZ [u]).toArray) (t:=65) (fr:=(0,0)) (jS w5 _)) (by simp[iZ,dS]) (by omega) (by unfold eB;omega) (by omega) (by simp;omega) (w5.heap.size+1) (by simp) ?_;intro g2 xd w6 I2 xj yy XV));have r6:w6.heap[r]?=some (dF s (dz s j).j (dz s j).err (dz s j).pl p):=fY xj (by rw[aC,az (bY oS)];exact H5.o) (by simp[aK];exact sF);have ko:w.heap.size+1<=g/\g<w5.heap.size:=eE.lt g rfl;have c6:=aF r6 1;refine⟨⟨k+1,xd,g2,ss ++ [u],rfl,by simp[hk],by omega,?_,?_,?_,?_⟩,?_⟩
     .rw[RO];exact I2
     .exact fY xj (by rw[aC,az (bY SU)];exact Q5.o) (by simp[aK];omega)
     .exact(oK.alloc _).grown xj (by intro x e;have e':g=x:=(by simpa [aK]using e);right;omega)
     .rw[r6];rcases G1.o with⟨a1,a2,a3,a4,a5⟩|⟨a1,a2⟩
      .left;have hR:=Gx.o;rw[az (by simp[a1]),<-HU.o a1,<-ab7]at hR;exact⟨(dz s j).j,m,by omega,a4,by omega,by rw[a1,a2],hR⟩
      .right;have hR:=Gx.o;rw[aA a1]at hR;rw[hR];exact⟨a1,a2,by rw[a2]⟩
     .rw[c1,c6];rcases G1.o with⟨a1,a2,a3,a4,a5⟩|⟨a1,a2⟩<;>simp[aG]<;>omega
  .have RD:ax _:=rd;have C8:ax _:=e1;have PT:ax _:=e2;clear rd e1 e2;go_wp2_with fail;refine(yC s p r RR.err RR.pl _ (by exact RD.o)).mono ?_;rintro _ w3 ⟨rfl,n3,rfl⟩;go_wp2_with fail;refine(YD s p r RR.err RR.pl 93 _ (by exact RD.o) C8.o).mono ?_;rintro _ w5 ⟨rfl,h5,gY⟩;have eE:=aJ (Al OWN.o n3) (ys:=[r]) gY (by intro g' e;cases e;simp[sF]);have tj:ax _:=gY.keep (by exact QR.o) jQ;have oK:=(kr.drewN n3).trans gY (by simp);have H5:ax _:=h5;clear h5;have m6:∀j<k,∀i<4,w5.cell? ⟨g,j*4+i,none⟩=some (.int .u64 (wd (ss.getD j 0) i)):=fun j hj i hi=>by
    rw[eE.cellAt (j*4+i) (by omega)];exact BH ss j (by omega) i hi
   have tP:g<w5.heap.size:=(eE.lt g rfl).2;have HC:ax _:=m6;clear m6;go_wp2_with fail;refine(CP g k cap ss _ hk (by omega) (by exact HC.o) tP).mono ?_;rintro _ w6 ⟨rfl,h6⟩;have q6:w6.heap[w.heap.size]?=some dg:=bV h6 tj.o;have r6:=bV h6 H5.o;have k6:=oK.below h6;have tQ:w.heap.size<w6.heap.size:=aE q6;have oS:r<w6.heap.size:=aE r6;have R6:ax _:=r6;have Q6:ax _:=q6;obtain⟨d0,d1,d2,d3,f0,f1,f2,f3⟩:=dB q6;clear q6 r6 h6 HC;go_wp2;refine cF (v:=cG (lI ss)) (FV (b:=w.heap.size) (e:=65) G6 rfl (by simp only[aC,aQ,iA,az (bY tQ),Q6.o];simp[eD,lI])) rfl ?_;refine⟨⟨_,rfl,fun hh=>absurd hh C8.o⟩,?_,?_⟩
   .simp only[aC,aQ,az gF,iA,az (bY oS)];rw[PT.o];exact R6.o
   .exact(k6.nu (.inr (aH _)) _ _ _ _).alloc _
theorem aog(s:ByteArray)(i p r:Nat)(w:ay)(h:w.heap[r]?=some (dF s i 0 0 p))(hz:Nz s)(hi:i<s.size)(hs:s.size<=16)(hg:gt s i=94):aI aB 120 #[.pointer (some ⟨r,0,none⟩)] w (VS (gG s i) s p r w):=by
 have hP:gG s i=(if (gg s 20 0 (i+1)).err≠0 then gg s 20 0 (i+1) else good (gg s 20 0 (i+1)).j (kZ (gg s 20 0 (i+1)).v)):=(by rw[gG,aA hg]);have HP:ax _:=hP;clear hP;generalize gG s i=PP at *;have hr:=aE h;have gF:r≠w.heap.size:=(by omega);have h':(w.alloc dg).heap[r]?=some (dF s i 0 0 p):=by rw[aC,az gF];exact h
 have hq:(w.alloc dg).heap[w.heap.size]?=some dg:=(by rw[aC,aA rfl]);have HQ:ax _:=hq;have H:ax _:=h';have jQ:w.heap.size ∉ [r]:=by simp;omega
 have hg':(gt s i:Int)=94:=by omega
 have HG:ax _:=hg';have hI:i+1<=s.size:=(by omega);clear h h' hq hg hg';go_enter Tryz.func120,Tryz.ntmps120;go_wp2_with fail;refine(YS s i p r 0 0 94 _ (by exact H.o) hi hs HG.o).mono ?_;rintro _ w2 ⟨rfl,oU,iD⟩;have Qb:ax (w2.heap[w.heap.size]?=some dg):=iD.keep HQ.o jQ;have H2:ax (w2.heap[r]?=some (dF s (i+1) 0 0 p)):=oU;have Ef:Kp [r] w w2:=((Kp.refl _ _).alloc _).trans iD (by simp);clear oU iD;go_wp2_with fail;refine(Ou s (i+1) p r _ (by exact H2.o) hz hI hs).mono ?_;rintro _ w1 ⟨⟨v,hv,rfl,Iu⟩,h1,h2⟩;have q1:=h2.keep Qb.o jQ;have k1:=Ef.trans h2 (by simp);have vS:w.heap.size<w1.heap.size:=aE q1;have sH:=aE h1;have hR:=CE s 19 0 (i+1);have shape:=L9 s (i+1) hz;generalize gg s 20 0 (i+1)=RR at *;have jC:ax _:=hR;have H1:ax _:=h1;have HV:ax _:=Iu;have Q1:ax _:=q1;have SH:ax _:=shape;clear h1 Iu hR q1 shape;go_wp2_with fail;go_loopw [4] (fun it w'=>∃(k cap g:Nat) (ss:List Nat),it=.slice (some ⟨g,0,none⟩) k cap/\(ae ss)=k/\k<=17/\w'.ownsRow (w.heap.size+1) 65 4 (.slice (some ⟨g,0,none⟩) k cap) k (iZ ss)/\w'.heap[w.heap.size]?=some dg/\Kp [r] w w' /\
   ((∃j n,k<=j/\j<=s.size/\s.size-j<n/\w'.heap[r]?=some (dF s j 0 0 p)/\RR=jx s n (lI ss) j)\/(RR.err≠0/\RR.j=s.size/\w'.heap[r]?=some (dF s s.size RR.err RR.pl p))))
  (fun _ w'=>s.size-(aG ((w'.cell? ⟨r,1,none⟩).getD eT)).toNat)
 case atStart =>
  refine⟨1,1,w1.heap.size,[v],rfl,rfl,by omega,?_,?_,k1.alloc _,?_⟩
  .exact adE w1 #[.int .u64 (wd v 0),.int .u64 (wd v 1),.int .u64 (wd v 2),.int .u64 (wd v 3)] 1 vS (by decide) rfl
  .rw[aC,az (bY vS)];exact Q1.o
  .rw[aC,az (bY sH)];rcases SH.o with⟨a1,a2,a3,a4,a5⟩|⟨a1,a2⟩
   .left;have hR:=jC.o;rw[az (by simp[a1]),<-HV.o a1]at hR;refine⟨(dz s (i+1)).j,19,by omega,a4,by omega,?_,hR⟩;rw[H1.o,a1,a2]
   .right;have hR:=jC.o;rw[aA a1]at hR;rw[hR];exact⟨a1,a2,by rw[H1.o,a2]⟩
 case round =>
  obtain⟨k,cap,g,ss,rfl,hk,ae3,own,qr,kr,eM⟩:=hrel;have QR:ax _:=qr;have OWN:ax _:=own;have sF:g≠r:=by
   rintro rfl;have:=own.lt g rfl;omega
  clear own qr;rcases eM with⟨j,n,hkj,hj,hn,rd,nH⟩|⟨e1,e2,rd⟩
  .have RD:ax _:=rd;have wH:ax _:=nH;clear rd nH;by_cases kK:gt s j=0
   ·(have lY:j=s.size:=by have:=(hz j).1 kK;omega);subst lY;(have HE:ax (RR=de s 4 s.size 0):=by show RR=_;rw[wH.o,jx,aA kK]);clear kK;go_wp2_with fail;refine(yC s p r 0 0 _ (by exact RD.o)).mono ?_;rintro _ w3 ⟨rfl,n3,rfl⟩;go_wp2_with fail;refine(YE s p r 0 93 _ (by exact RD.o)).mono ?_;rintro _ w5 ⟨rfl,h5,gY⟩;have eE:=aJ (Al OWN.o n3) (ys:=[r]) gY (by intro g' e;cases e;simp[sF]);have tj:ax _:=gY.keep (by exact QR.o) jQ;have oK:=(kr.drewN n3).trans gY (by simp);have H5:ax _:=h5;clear h5;have m6:∀j<k,∀i<4,w5.cell? ⟨g,j*4+i,none⟩=some (.int .u64 (wd (ss.getD j 0) i)):=fun j hj i hi=>by
     rw[eE.cellAt (j*4+i) (by omega)];exact BH ss j (by omega) i hi
    have tP:g<w5.heap.size:=(eE.lt g rfl).2;have HC:ax _:=m6;clear m6;go_wp2_with fail;refine(CP g k cap ss _ hk (by omega) (by exact HC.o) tP).mono ?_;rintro _ w6 ⟨rfl,h6⟩;have q6:w6.heap[w.heap.size]?=some dg:=bV h6 tj.o;have r6:=bV h6 H5.o;have k6:=oK.below h6;have tQ:w.heap.size<w6.heap.size:=aE q6;have oS:r<w6.heap.size:=aE r6;have R6:ax _:=r6;have Q6:ax _:=q6;clear q6 r6 h6 HC;go_wp2_with fail;refine(Yh (ss.foldl (· ||| ·) 0) _).mono ?_;rintro _ w7 ⟨rfl,h7⟩;have q7:w7.heap[w.heap.size]?=some dg:=bV h7 (by rw[aC,az (bY tQ)];exact Q6.o);have r7:=bV h7 (b:=r) (by rw[aC,az (bY oS)];exact R6.o);have k7:=(k6.alloc _).below h7;have R7:ax _:=r7;obtain⟨d0,d1,d2,d3,f0,f1,f2,f3⟩:=dB q7;have Q7:ax _:=q7;clear q7 r7 h7;go_wp2;refine cF (v:=cG (kZ (lI ss))) (FV (b:=w.heap.size) (e:=65) G6 rfl (by simp only[aQ,Q7.o];simp[eD,lI])) rfl ?_;refine⟨⟨_,rfl,fun hh=>absurd hh (by rw[HP.o,aA (by rw[HE.o];simp[de]),HE.o];simp[de])⟩,?_,k7.nu (.inr (aH _)) _ _ _ _⟩;simp only[aQ,az gF];rw[HP.o,aA (by rw[HE.o];simp[de]),HE.o];exact R7.o
   ·(have aN:j<s.size:=by have:=(hz j).2;omega);by_cases tO:gt s j=93
    ·(have HE:ax (RR=good (j+1) (lI ss)):=by show RR=_;rw[wH.o,jx,az kK,aA tO]);(have jU:decide (0<=oL (u7 #[93]).data.toList (gt s j).toUInt8)=true:=by rw[tO];decide);(have hg':(gt s j:Int)=93:=by omega);have HS:ax _:=jU;have PU:ax _:=hg';clear kK tO jU hg';go_wp2_with fail;refine(yB s j p r 0 0 _ (by exact RD.o) aN).mono ?_;rintro _ w3 ⟨rfl,n3,rfl⟩;go_wp2_with fail;refine(Av s _ j p r 0 0 true _ (by exact RD.o) aN hs HS.o).mono ?_;rintro _ w4 ⟨rfl,n4,rfl⟩;go_wp2_with fail;refine(YF s j p r 0 0 93 _ (by exact RD.o) aN hs PU.o).mono ?_;rintro _ w5 ⟨rfl,h5,gY⟩;have eE:=aJ (Al OWN.o (n3+n4)) (ys:=[r]) gY (by intro g' e;cases e;simp[sF]);have tj:ax _:=gY.keep (by exact QR.o) jQ;have oK:=(kr.drewN (n3+n4)).trans gY (by simp);have H5:ax _:=h5;clear h5;have m6:∀j<k,∀i<4,w5.cell? ⟨g,j*4+i,none⟩=some (.int .u64 (wd (ss.getD j 0) i)):=fun j hj i hi=>by
      rw[eE.cellAt (j*4+i) (by omega)];exact BH ss j (by omega) i hi
     have tP:g<w5.heap.size:=(eE.lt g rfl).2;have HC:ax _:=m6;clear m6;go_wp2_with fail;refine(CP g k cap ss _ hk (by omega) (by exact HC.o) tP).mono ?_;rintro _ w6 ⟨rfl,h6⟩;have q6:w6.heap[w.heap.size]?=some dg:=bV h6 tj.o;have r6:=bV h6 H5.o;have k6:=oK.below h6;have tQ:w.heap.size<w6.heap.size:=aE q6;have oS:r<w6.heap.size:=aE r6;have R6:ax _:=r6;have Q6:ax _:=q6;clear q6 r6 h6 HC;go_wp2_with fail;refine(Yh (ss.foldl (· ||| ·) 0) _).mono ?_;rintro _ w7 ⟨rfl,h7⟩;have q7:w7.heap[w.heap.size]?=some dg:=bV h7 (by rw[aC,az (bY tQ)];exact Q6.o);have r7:=bV h7 (b:=r) (by rw[aC,az (bY oS)];exact R6.o);have k7:=(k6.alloc _).below h7;have R7:ax _:=r7;obtain⟨d0,d1,d2,d3,f0,f1,f2,f3⟩:=dB q7;have Q7:ax _:=q7;clear q7 r7 h7;go_wp2;refine cF (v:=cG (kZ (lI ss))) (FV (b:=w.heap.size) (e:=65) G6 rfl (by simp only[aQ,Q7.o];simp[eD,lI])) rfl ?_;refine⟨⟨_,rfl,fun _=>by rw[HP.o,az (by rw[HE.o];simp[good]),HE.o];rfl⟩,?_,k7.nu (.inr (aH _)) _ _ _ _⟩;simp only[aQ,az gF];rw[HP.o,az (by rw[HE.o];simp[good]),HE.o];exact R7.o
    .have jU:decide (0<=oL (u7 #[93]).data.toList (gt s j).toUInt8)=false:=by
      have:(93:UInt8)≠(gt s j).toUInt8:=by
       intro e;have e2:=congrArg UInt8.toNat e;have:=kj s j;simp at e2;omega
      simp[oL,this]
     (obtain⟨m,rfl⟩:∃m,n=m+1:=⟨n-1,by omega⟩);have Ca:RR=gg s (m+1) (lI ss) j:=(by rw[wH.o,jx,az kK,az tO]);rw[CE]at Ca;have shape:=L9 s j hz;have HS:ax _:=jU;have Gx:ax _:=Ca;have G1:ax _:=shape;clear kK tO jU Ca shape wH;go_wp2_with fail;refine(yB s j p r 0 0 _ (by exact RD.o) aN).mono ?_;rintro _ w3 ⟨rfl,n3,rfl⟩;go_wp2_with fail;refine(Av s _ j p r 0 0 false _ (by exact RD.o) aN hs HS.o).mono ?_;rintro _ w4 ⟨rfl,n4,rfl⟩;go_wp2_with fail;refine(Ou s j p r _ (by exact RD.o) hz hj hs).mono ?_;rintro _ w5 ⟨⟨u,hu,rfl,It⟩,h5,gY⟩;have eE:=aJ (Al OWN.o (n3+n4)) (ys:=[r]) gY (by intro g' e;cases e;simp[sF]);have q5:=gY.keep (b:=w.heap.size) (by exact QR.o) jQ;have oK:=(kr.drewN (n3+n4)).trans gY (by simp);have c1:=aF RD.o 1;have SU:=aE q5;have oS:=aE h5;have H5:ax _:=h5;have Q5:ax _:=q5;have HU:ax _:=It;clear h5 q5 It;obtain⟨i0,cS,dc,dm,cW⟩:=iw Oo;(go_wp2_with (at_builtin;refine Gb _ rfl _ _ _ rfl (w.heap.size+1) 65 i0 _ 4 32 No cS dc dm cW rfl (by omega) (.slice (some ⟨g,0,none⟩) k cap) k (iZ ss) rfl (eE.alloc _) ⟨w5.heap.size,0,none⟩ 1 1 (iZ [u]) rfl rfl (gN (cs:=(iZ [u]).toArray) (t:=65) (fr:=(0,0)) (jS w5 _)) (by simp[iZ,dS]) (by omega) (by unfold eB;omega) (by omega) (by simp;omega) (w5.heap.size+1) (by simp) ?_;intro g2 xd w6 I2 xj yy XV));have r6:w6.heap[r]?=some (dF s (dz s j).j (dz s j).err (dz s j).pl p):=fY xj (by rw[aC,az (bY oS)];exact H5.o) (by simp[aK];exact sF);have ko:w.heap.size+1<=g/\g<w5.heap.size:=eE.lt g rfl;have c6:=aF r6 1;refine⟨⟨k+1,xd,g2,ss ++ [u],rfl,by simp[hk],by omega,?_,?_,?_,?_⟩,?_⟩
     .rw[RO];exact I2
     .exact fY xj (by rw[aC,az (bY SU)];exact Q5.o) (by simp[aK];omega)
     .exact(oK.alloc _).grown xj (by intro x e;have e':g=x:=(by simpa [aK]using e);right;omega)
     .rw[r6];rcases G1.o with⟨a1,a2,a3,a4,a5⟩|⟨a1,a2⟩
      .left;have hR:=Gx.o;rw[az (by simp[a1]),<-HU.o a1,<-ab7]at hR;exact⟨(dz s j).j,m,by omega,a4,by omega,by rw[a1,a2],hR⟩
      .right;have hR:=Gx.o;rw[aA a1]at hR;rw[hR];exact⟨a1,a2,by rw[a2]⟩
     .rw[c1,c6];rcases G1.o with⟨a1,a2,a3,a4,a5⟩|⟨a1,a2⟩<;>simp[aG]<;>omega
  .have RD:ax _:=rd;have C8:ax _:=e1;have PT:ax _:=e2;clear rd e1 e2;go_wp2_with fail;refine(yC s p r RR.err RR.pl _ (by exact RD.o)).mono ?_;rintro _ w3 ⟨rfl,n3,rfl⟩;go_wp2_with fail;refine(YD s p r RR.err RR.pl 93 _ (by exact RD.o) C8.o).mono ?_;rintro _ w5 ⟨rfl,h5,gY⟩;have eE:=aJ (Al OWN.o n3) (ys:=[r]) gY (by intro g' e;cases e;simp[sF]);have tj:ax _:=gY.keep (by exact QR.o) jQ;have oK:=(kr.drewN n3).trans gY (by simp);have H5:ax _:=h5;clear h5;have m6:∀j<k,∀i<4,w5.cell? ⟨g,j*4+i,none⟩=some (.int .u64 (wd (ss.getD j 0) i)):=fun j hj i hi=>by
    rw[eE.cellAt (j*4+i) (by omega)];exact BH ss j (by omega) i hi
   have tP:g<w5.heap.size:=(eE.lt g rfl).2;have HC:ax _:=m6;clear m6;go_wp2_with fail;refine(CP g k cap ss _ hk (by omega) (by exact HC.o) tP).mono ?_;rintro _ w6 ⟨rfl,h6⟩;have q6:w6.heap[w.heap.size]?=some dg:=bV h6 tj.o;have r6:=bV h6 H5.o;have k6:=oK.below h6;have tQ:w.heap.size<w6.heap.size:=aE q6;have oS:r<w6.heap.size:=aE r6;have R6:ax _:=r6;have Q6:ax _:=q6;clear q6 r6 h6 HC;go_wp2_with fail;refine(Yh (ss.foldl (· ||| ·) 0) _).mono ?_;rintro _ w7 ⟨rfl,h7⟩;have q7:w7.heap[w.heap.size]?=some dg:=bV h7 (by rw[aC,az (bY tQ)];exact Q6.o);have r7:=bV h7 (b:=r) (by rw[aC,az (bY oS)];exact R6.o);have k7:=(k6.alloc _).below h7;have R7:ax _:=r7;obtain⟨d0,d1,d2,d3,f0,f1,f2,f3⟩:=dB q7;have Q7:ax _:=q7;clear q7 r7 h7;go_wp2;refine cF (v:=cG (kZ (lI ss))) (FV (b:=w.heap.size) (e:=65) G6 rfl (by simp only[aQ,Q7.o];simp[eD,lI])) rfl ?_;refine⟨⟨_,rfl,fun hh=>absurd hh (by rw[HP.o,aA C8.o];exact C8.o)⟩,?_,k7.nu (.inr (aH _)) _ _ _ _⟩;simp only[aQ,az gF];rw[HP.o,aA C8.o,PT.o];exact R7.o
theorem aof(s:ByteArray)(i p r:Nat)(w:ay)(h:w.heap[r]?=some (dF s i 0 0 p))(hz:Nz s)(hi:i<=s.size)(hs:s.size<=16):aI aB 120 #[.pointer (some ⟨r,0,none⟩)] w (VS (gG s i) s p r w):=by
 by_cases hg:gt s i=94
 .have aN:i<s.size:=by have:=(hz i).2;omega
  exact aog s i p r w h hz aN hs hg
 .have e:gG s i=gg s 20 0 i:=(by rw[gG,az hg]);rw[e];rcases eK i s.size with aN|sE
  .exact aoi s i p r w h hz aN hs hg
  .exact aoe s i p r w h hz (by omega) hs
section
variable{p q r s t u v x:Prop}{bs fs xs:List Nat}{b:Nat}
structure dN(w:ay)(p:Nat)(bs fs:List Nat)(vb vf:aq):Prop where
 blk:w.heap[p]?=some (.cells #[vb,vf] 100 (0,0))
 ob:w.ownsRow 0 65 4 vb (ae bs) (iZ bs)
 of:w.ownsRow 0 65 4 vf (ae fs) (iZ fs)
 len:(ae fs)=ae bs
 nb:vb.ownBlock≠some p
 nf:vf.ownBlock≠some p
 ne:∀g,vb.ownBlock=some g->vf.ownBlock≠some g
def foot(p:Nat)(vb vf:aq):List Nat:=p::(vb.ownBlock.toList++vf.ownBlock.toList)
theorem n7{p:Nat}{vb vf:aq}{k:Nat}:k∈foot p vb vf↔k=p\/vb.ownBlock=some k\/vf.ownBlock=some k:=by
 unfold foot;cases vb.ownBlock<;>cases vf.ownBlock<;>simp[eq_comm]
theorem dN.kp{w w':ay}{p:Nat}{vb vf:aq}(h:dN w p bs fs vb vf)(hk:Kp xs w w')(hx:∀k∈xs,k∉foot p vb vf):dN w' p bs fs vb vf :=
 ⟨hk.keep h.blk (fun e=>hx _ e (n7.2 (.inl rfl))),aJ h.ob hk (fun g e hm=>hx g hm (n7.2 (.inr (.inl e)))),aJ h.of hk (fun g e hm=>hx g hm (n7.2 (.inr (.inr e)))),h.len,h.nb,h.nf,h.ne⟩
theorem dN.lt{w:ay}{p:Nat}{vb vf:aq}(h:dN w p bs fs vb vf):∀k∈foot p vb vf,k<w.heap.size:=by
 intro k hk;rcases n7.1 hk with rfl|e|e
 .exact aE h.blk
 .exact(h.ob.lt k e).2
 .exact(h.of.lt k e).2
abbrev cJ:Obj:=.cells #[.bool false,.int .u64 0,.int .u64 0,.int .u64 0,.int .u64 0,.int .u64 0,.int .u64 0,.int .u64 0,.int .u64 0] 67 (0,0)
theorem two{w:ay}{x0 x1:aq}{e:cL}(h:w.heap[b]?=some (.cells #[x0,x1] e (0,0))):w.cell? ⟨b,0,none⟩=some x0/\w.cell? ⟨b,1,none⟩=some x1/\w.frozen? ⟨b,0,none⟩=false/\w.frozen? ⟨b,1,none⟩=false :=
 ⟨by rw[aF h];rfl,by rw[aF h];rfl,cM h _,cM h _⟩
theorem dN.apart{w:ay}{p:Nat}{vb vf:aq}(h:dN w p bs fs vb vf):vf.ownBlock=none\/vf.ownBlock≠vb.ownBlock:=by
 rcases e:vf.ownBlock with _|g
 .exact .inl rfl
 .right;intro e2;exact h.ne g e2.symm e
theorem Kp.mono{ys:List Nat}{w w1:ay}(h:Kp xs w w1)(hx:∀x∈xs,x∈ys):Kp ys w w1:=⟨h.os,h.tape,h.output,h.size,fun k hk hn=>h.block k hk (fun e=>hn (hx k e))⟩
abbrev CD(x0 x1 x2 x3 x4 x5 x6 x7 x8:aq):Obj:=.cells #[x0,x1,x2,x3,x4,x5,x6,x7,x8] 67 (0,0)
theorem gC{w:ay}{x0 x1 x2 x3 x4 x5 x6 x7 x8:aq}(h:w.heap[b]?=some (CD x0 x1 x2 x3 x4 x5 x6 x7 x8)):(w.cell? ⟨b,0,none⟩=some x0/\w.cell? ⟨b,1,none⟩=some x1/\w.cell? ⟨b,2,none⟩=some x2/\w.cell? ⟨b,3,none⟩=some x3/\w.cell? ⟨b,4,none⟩=some x4/\w.cell? ⟨b,5,none⟩=some x5/\w.cell? ⟨b,6,none⟩=some x6/\w.cell? ⟨b,7,none⟩=some x7/\w.cell? ⟨b,8,none⟩=some x8)/\(w.frozen? ⟨b,0,none⟩=false/\w.frozen? ⟨b,1,none⟩=false/\w.frozen? ⟨b,2,none⟩=false/\w.frozen? ⟨b,3,none⟩=false/\w.frozen? ⟨b,4,none⟩=false/\w.frozen? ⟨b,5,none⟩=false/\w.frozen? ⟨b,6,none⟩=false/\w.frozen? ⟨b,7,none⟩=false/\w.frozen? ⟨b,8,none⟩=false) :=
 ⟨⟨by rw[aF h];rfl,by rw[aF h];rfl,by rw[aF h];rfl,by rw[aF h];rfl,by rw[aF h];rfl,by rw[aF h];rfl,by rw[aF h];rfl,by rw[aF h];rfl,by rw[aF h];rfl⟩,
  cM h _,cM h _,cM h _,cM h _,cM h _,cM h _,cM h _,cM h _,cM h _⟩
theorem Kp.mQ{w w1:ay}(h:Kp xs w w1){b:Nat}(hb:b∈xs\/w.heap.size<=b)(v0 v1 v2 v3 v4 v5 v6 v7 v8:aq):Kp xs w (((((((((w1.setCell ⟨b,0,none⟩ v0).setCell ⟨b,1,none⟩ v1).setCell ⟨b,2,none⟩ v2).setCell ⟨b,3,none⟩ v3).setCell ⟨b,4,none⟩ v4).setCell ⟨b,5,none⟩ v5).setCell ⟨b,6,none⟩ v6).setCell ⟨b,7,none⟩ v7).setCell ⟨b,8,none⟩ v8) :=
 ((((((((h.set hb _ _).set hb _ _).set hb _ _).set hb _ _).set hb _ _).set hb _ _).set hb _ _).set hb _ _).set hb _ _
theorem kN{fn:Func}{t:Nat}{tmps:Array aq}{w:ay}{x0 x1 x2 x3 x4 x5 x6 x7 x8:aq}(hf:fn.results=#[.cell t 67])(ht:tmps.getD t eT=.pointer (some ⟨b,0,none⟩))(hw:w.heap[b]?=some (CD x0 x1 x2 x3 x4 x5 x6 x7 x8)):(eG fn tmps).run aB w=.ok (.agg #[x0,x1,x2,x3,x4,x5,x6,x7,x8]) w:=by
 obtain⟨⟨d0,d1,d2,d3,d4,d5,d6,d7,d8⟩,_⟩:=gC hw;have ht':tmps[t]?.getD eT=.pointer (some ⟨b,0,none⟩):=by rw[<-ht];simp
 simp only[eG,hf];simp[ht',go_sem,d0,d1,d2,d3,d4,d5,d6,d7,d8]
theorem akh:iZ [0]=[.int .u64 0,.int .u64 0,.int .u64 0,.int .u64 0]:=by simp[iZ,xV]
theorem cR(hp:p)(hq:q)(hr:r):ax p/\ax q/\ax r:=⟨hp,hq,hr⟩
theorem dH(hp:p)(hq:q)(hr:r)(hs:s):ax p/\ax q/\ax r/\ax s:=⟨hp,hq,hr,hs⟩
theorem jd(hp:p)(hq:q)(hr:r)(hs:s)(ht:t):ax p/\ax q/\ax r/\ax s/\ax t:=⟨hp,hq,hr,hs,ht⟩
theorem DF(hp:p)(hq:q)(hr:r)(hs:s)(ht:t)(hu:u):ax p/\ax q/\ax r/\ax s/\ax t/\ax u:=⟨hp,hq,hr,hs,ht,hu⟩
theorem DG(hp:p)(hq:q)(hr:r)(hs:s)(ht:t)(hu:u)(hv:v):ax p/\ax q/\ax r/\ax s/\ax t/\ax u/\ax v:=⟨hp,hq,hr,hs,ht,hu,hv⟩
theorem KZ(hp:p)(hq:q)(hr:r)(hs:s)(ht:t)(hu:u)(hv:v)(hx:x):ax p/\ax q/\ax r/\ax s/\ax t/\ax u/\ax v/\ax x:=⟨hp,hq,hr,hs,ht,hu,hv,hx⟩
theorem N7{y:Prop}(hp:p)(hq:q)(hr:r)(hs:s)(ht:t)(hu:u)(hv:v)(hx:x)(hy:y):ax p/\ax q/\ax r/\ax s/\ax t/\ax u/\ax v/\ax x/\ax y:=⟨hp,hq,hr,hs,ht,hu,hv,hx,hy⟩
theorem aj(h:p):ax p:=h
theorem dN.alD{w:ay}{p:Nat}{vb vf:aq}(h:dN w p bs fs vb vf)(o:Obj):((w.alloc o).drew).heap[p]?=some (.cells #[vb,vf] 100 (0,0)):=by
 rw[eO,aC,az (bY (aE h.blk))];exact h.blk
theorem Q9(p s:Nat)(bs fs:List Nat)(vb vf:aq)(w:ay)(h:dN w p bs fs vb vf)(hn:(ae bs)<200):aI aB 119 #[.pointer (some ⟨p,0,none⟩),cG s] w fun x w'=>x=.returned (dQ false (1 <<< (ae bs)) (1 <<< (ae bs)))/\∃eg dP,dN w' p (bs ++ [s]) (fs ++ [0]) eg dP/\Kp (foot p vb vf) w w'/\(∀g∈foot p eg dP,g∈foot p vb vf\/w.heap.size<=g):=by
 have hp:=aE h.blk;have Tf:p≠w.heap.size:=(by omega);have abx:p≠w.heap.size+1:=(by omega);have c0:w.cell? ⟨p,0,none⟩=some vb:=by rw[aF h.blk];rfl
 have c1:w.cell? ⟨p,1,none⟩=some vf:=by rw[aF h.blk];rfl
 have f0:=cM h.blk 0;have f1:=cM h.blk 1;have HP:ax _:=h;obtain⟨i0,cS,dc,dm,cW⟩:=iw Oo;have Xj:ax (ae bs<200):=hn;have Fw:∃a cap,vb=.slice a (ae bs) cap:=by
  rcases h.ob.2 with⟨rfl,e⟩|⟨g,cap,cur,rfl,_⟩
  .rw[e];exact⟨_,_,rfl⟩
  .exact⟨_,_,rfl⟩
 obtain⟨ab,zH,rfl⟩:=Fw;have Lp:MR.wrap (ae bs:Int)=ae bs:=by simp[tA,qa,qc];omega
 clear h;go_enter Tryz.func119,Tryz.ntmps119;go_wp2_with fail;refine(L0 (ae bs) _ (by have:=Xj.o;omega)).mono ?_;rintro _ w1 ⟨rfl,h1⟩;have k1:Kp [] w w1:=(((Kp.refl [] w).alloc _).alloc _).below h1;have q1:w1.heap[w.heap.size]?=some (.cells #[.int .u64 (wd s 0),.int .u64 (wd s 1),.int .u64 (wd s 2),.int .u64 (wd s 3)] 65 (0,0)):=bV h1 (by simp only[aC,aM];simp);have z1:w1.heap[w.heap.size+1]?=some cJ:=bV h1 (by simp only[aC,aM];simp);clear h1;go_wp2_with fail;generalize hW:w1.alloc (Obj.cells #[.int .u64 (wd (1 <<< (ae bs)) 0),.int .u64 (wd (1 <<< (ae bs)) 1),.int .u64 (wd (1 <<< (ae bs)) 2),.int .u64 (wd (1 <<< (ae bs)) 3)] 65)=W;have kW:Kp [] w W:=by rw[<-hW];exact k1.alloc _
 have PW:dN W p bs fs (.slice ab (ae bs) zH) vf:=HP.o.kp kW (by simp);have l1:=aE q1;have l2:=aE z1;have qW:W.heap[w.heap.size]?=some (.cells #[.int .u64 (wd s 0),.int .u64 (wd s 1),.int .u64 (wd s 2),.int .u64 (wd s 3)] 65 (0,0)):=by rw[<-hW,aC,az (bY l1)];exact q1
 have zW:W.heap[w.heap.size+1]?=some cJ:=by rw[<-hW,aC,az (bY l2)];exact z1
 have sW:W.heap[w1.heap.size]?=some (.cells #[.int .u64 (wd (1 <<< (ae bs)) 0),.int .u64 (wd (1 <<< (ae bs)) 1),.int .u64 (wd (1 <<< (ae bs)) 2),.int .u64 (wd (1 <<< (ae bs)) 3)] 65 (0,0)):=(by rw[<-hW,aC,aA rfl]);generalize w1.heap.size=S1 at *;clear hW q1 z1 k1 c0 c1 f0 f1;have c0:W.cell? ⟨p,0,none⟩=some (.slice ab (ae bs) zH):=by rw[aF PW.blk];rfl
 have c1:W.cell? ⟨p,1,none⟩=some vf:=by rw[aF PW.blk];rfl
 have f0:=cM PW.blk 0;have f1:=cM PW.blk 1;obtain⟨d0,d1,d2,d3,_⟩:=dB qW;have lS:=aE sW;have lq:=aE qW;have lz:=aE zW;have lp:=aE PW.blk;have PP:ax _:=PW;have QW:ax _:=qW;have ZW:ax _:=zW;have SW:ax _:=sW;have KW:ax _:=kW;have Uk:ax _:=PW.nb;have nbq:ax ((uB ab (ae bs) zH).ownBlock≠some w.heap.size):=fun e=>by have:=HP.o.lt _ (n7.2 (.inr (.inl e)));omega
 have abg:(ae bs)+1<=eB:=by unfold eB;omega
 have DC:(ae bs+1)*32<=140737488355328:=(by omega);have Sz:∀o,(W.alloc o).drew.frozen? ⟨p,0,none⟩=false:=fun o=>by
  have:(W.alloc o).drew.heap[p]?=some (.cells #[uB ab (ae bs) zH,vf] 100 (0,0)):=by rw[eO,aC,az (bY lp)];exact PW.blk
  exact cM this 0
 clear PW qW zW sW kW Lp;go_region_law
  ((refine step_append_lies _ (by rfl) _ _ _ (by rfl) 0 65 i0 _ 4 32 No cS dc dm cW rfl (by omega) (.slice ab (ae bs) zH) (ae bs) (iZ bs) (by rfl) ((PP.o.ob.alloc _).drew) ⟨W.heap.size,0,none⟩ 1 1 (iZ [s]) (by rfl) (by rfl) (gN (cs:=(iZ [s]).toArray) (t:=65) (fr:=(0,0)) (jS W _)) (by simp[iZ,dS]) (by omega) abg DC (by simp) (W.heap.size+1) (by simp) ?_;intro g1 aP w2 cT bj cy iz;have pb:=fY bj (b:=p) (PP.o.alD _) Uk.o;obtain⟨e0,e1,m0,m1⟩:=two pb;have PB:=aj pb;clear pb))
 all_goals
  have kA:Kp [] W ((W.alloc (.cells #[.int .u64 (wd s 0),.int .u64 (wd s 1),.int .u64 (wd s 2),.int .u64 (wd s 3)] 65)).drew):=((Kp.refl [] W).alloc _).drew;have vW:w2.ownsRow 0 65 4 vf (ae fs) (iZ fs):=(aJ PP.o.of kA (by simp)).kept bj PP.o.apart;have k2:Kp (foot p (.slice ab (ae bs) zH) vf) w w2:=by
   refine(((KW.o.mono (by simp)).trans kA (by simp)).grown bj (fun k e=>.inl (n7.2 (.inr (.inl e)))))
  have z2:w2.heap[w.heap.size+1]?=some cJ:=fY bj (kA.keep ZW.o (by simp)) (fun e=>by have:=HP.o.lt _ (n7.2 (.inr (.inl e)));omega);have s2:w2.heap[S1]?=_:=fY bj (kA.keep SW.o (by simp)) (fun e=>by have:=HP.o.lt _ (n7.2 (.inr (.inl e)));omega);have Wy:g1≠p:=by
   rintro rfl;rcases cy with e|e
   .exact Uk.o e
   .omega
  have k3:Kp [p] w2 (w2.setCell ⟨p,0,none⟩ (.slice (some ⟨g1,0,none⟩) (ae bs+1) aP)):=(Kp.refl _ _).set (by simp) _ _;have xM:=aj (aJ vW k3 (by intro g e hm;simp at hm;subst hm;exact PP.o.nf e));have ob3:=aj (aJ cT k3 (by intro g e hm;simp[aK]at e hm;omega));have PX:ax (∀o,((w2.setCell ⟨p,0,none⟩ (.slice (some ⟨g1,0,none⟩) (ae bs+1) aP)).alloc o).heap[p]?=some (.cells #[.slice (some ⟨g1,0,none⟩) (ae bs+1) aP,vf] 100 (0,0))):=fun o=>by
   have:=aE PB.o;rw[aC,iA,az (by omega),aQ,aA rfl,PB.o];rfl
  have ZX:ax (∀o,((w2.setCell ⟨p,0,none⟩ (.slice (some ⟨g1,0,none⟩) (ae bs+1) aP)).alloc o).heap[w.heap.size+1]?=some cJ):=fun o=>by
   have:=aE z2;rw[aC,iA,az (by omega),aQ,az (by omega)];exact z2
  have SX:ax (∀o,((w2.setCell ⟨p,0,none⟩ (.slice (some ⟨g1,0,none⟩) (ae bs+1) aP)).alloc o).heap[S1]?=some (.cells #[.int .u64 (wd (1 <<< (ae bs)) 0),.int .u64 (wd (1 <<< (ae bs)) 1),.int .u64 (wd (1 <<< (ae bs)) 2),.int .u64 (wd (1 <<< (ae bs)) 3)] 65 (0,0))):=fun o=>by
   have:=aE s2;rw[aC,iA,az (by omega),aQ,az (by omega)];exact s2
  have hlf:∀k,vf.ownBlock=some k->k<w.heap.size:=fun k e=>HP.o.lt _ (n7.2 (.inr (.inr e)))
  obtain⟨ZY,Z2,S2,K2⟩:=dH hlf z2 s2 k2;have dD:(ae fs)=ae bs:=HP.o.len;have mh:=aj dD;have yV:=aE z2;have ls2:=aE s2;clear kA vW k2 z2 s2 cT dD hlf c0 c1 d0 d1 d2 d3 f0 f1 e0;go_wp2_with (at_builtin;go_must (refine Gb _ rfl _ _ _ rfl 0 65 i0 _ 4 32 No cS dc dm cW rfl (by omega) vf (ae fs) (iZ fs) rfl (by exact xM.o.alloc _) ⟨w2.heap.size,0,none⟩ 1 1 [.int .u64 0,.int .u64 0,.int .u64 0,.int .u64 0] rfl rfl (gN (cs:=#[.int .u64 0,.int .u64 0,.int .u64 0,.int .u64 0]) (t:=65) (fr:=(0,0)) (by rw[aC,iA,aA rfl])) (by simp[dS]) (by omega) (by have:=mh.o;have:=Xj.o;unfold eB;omega) (by have:=mh.o;have:=Xj.o;omega) (by simp) (w2.heap.size+1) (by simp) ?_);intro g2 xd w3 L4 Sd V4 lt2;have p3:=fY Sd (PX.o _) PP.o.nf;have z3:=fY Sd (ZX.o _) (fun e=>by have:=ZY.o _ e;omega);have s3:=fY Sd (SX.o _) (fun e=>by have:=ZY.o _ e;omega);obtain⟨_,_,_,pf⟩:=two p3;obtain⟨Ut,Uu,_⟩:=two p3;obtain⟨sc0,sc1,sc2,sc3,_⟩:=dB s3;obtain⟨⟨oy,oz,oB,oC,sR,sS,sU,sV,sX⟩,pF,pG,pH,pI,uU,uV,uW,uX,uY⟩:=gC z3;have P3:=aj p3;have Z3:=aj z3;clear p3 z3 s3)
  have hqp:w.heap.size+1≠p:=(by omega);have a1:∀k,aK (.slice ab (ae bs) zH)=some k->k<w.heap.size:=fun k e=>HP.o.lt _ (n7.2 (.inr (.inl e)))
  have a2:∀k,vf.ownBlock=some k->k<w.heap.size:=ZY.o
  have g1q:g1≠w.heap.size+1:=by rcases cy with e|e;(have:=a1 _ e;omega);omega
  have g2p:g2≠p:=by rintro rfl;rcases V4 with e|e;exact PP.o.nf e;omega
  have g2q:g2≠w.heap.size+1:=by rcases V4 with e|e;(have:=a2 _ e;omega);omega
  have g1f:vf.ownBlock≠some g1:=fun e=>by rcases cy with e1|e1;exact HP.o.ne _ e1 e;(have:=a2 _ e;omega)
  have g12:g1≠g2:=by rintro rfl;rcases V4 with e|e;exact g1f e;omega
  have kf:∀x0 x1 x2 x3 x4 x5 x6 x7 x8 v,Kp [p,w.heap.size+1] w3 ((((((((((w3.setCell ⟨p,1,none⟩ v).setCell ⟨w.heap.size+1,0,none⟩ x0).setCell ⟨w.heap.size+1,1,none⟩ x1).setCell ⟨w.heap.size+1,2,none⟩ x2).setCell ⟨w.heap.size+1,3,none⟩ x3).setCell ⟨w.heap.size+1,4,none⟩ x4).setCell ⟨w.heap.size+1,5,none⟩ x5).setCell ⟨w.heap.size+1,6,none⟩ x6).setCell ⟨w.heap.size+1,7,none⟩ x7).setCell ⟨w.heap.size+1,8,none⟩ x8) :=
   fun _ _ _ _ _ _ _ _ _ _=>((Kp.refl _ _).set (by simp) _ _).mQ (by simp) _ _ _ _ _ _ _ _ _
  have ob4:=(ob3.o.alloc (.cells #[.int .u64 0,.int .u64 0,.int .u64 0,.int .u64 0] 65)).kept Sd (.inr (fun e=>g1f e.symm));refine cF (v:=dQ false (1 <<< (ae bs)) (1 <<< (ae bs))) (kN (b:=w.heap.size+1) Tryz.results119 rfl (by simp only[aQ,az hqp,Z3.o];simp[eD])) rfl ⟨rfl,.slice (some ⟨g1,0,none⟩) (ae bs+1) aP,.slice (some ⟨g2,0,none⟩) (ae fs+1) xd,⟨?_,?_,?_,?_,?_,?_,?_⟩,?_,?_⟩
  .simp only[aQ,az (Ne.symm hqp),P3.o];simp[eD]
  .rw[cx,RO];exact aJ ob4 (kf _ _ _ _ _ _ _ _ _ _) (by intro g e;simp only[aK,aV]at e;subst e;simp[Wy,g1q])
  .rw[cx,RO,akh];exact aJ L4 (kf _ _ _ _ _ _ _ _ _ _) (by intro g e;simp only[aK,aV]at e;subst e;simp[g2p,g2q])
  .simp[mh.o]
  .simp only[aK,ne_eq,aV];exact Wy
  .simp only[aK,ne_eq,aV];exact g2p
  .intro g e;simp only[aK,ne_eq,aV]at *;subst e;exact fun e=>g12 e.symm
  .exact((((K2.o.set (.inl (n7.2 (.inl rfl))) _ _).alloc _).grown Sd (fun k e=>.inl (n7.2 (.inr (.inr e))))).set (.inl (n7.2 (.inl rfl))) _ _).mQ (.inr (by omega)) _ _ _ _ _ _ _ _ _
  .intro g hg;rcases n7.1 hg with e|e|e
   .exact .inl (n7.2 (.inl e))
   .simp only[aK,aV]at e;subst e;rcases cy with e|e
    .exact .inl (n7.2 (.inr (.inl e)))
    .right;omega
   .simp only[aK,aV]at e;subst e;rcases V4 with e|e
    .exact .inl (n7.2 (.inr (.inr e)))
    .right;omega
end
end Go.Proofs.YtbjdkbcfpmeneaaGreat
