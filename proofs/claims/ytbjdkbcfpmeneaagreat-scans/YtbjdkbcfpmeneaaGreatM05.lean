/- What is proved here: walk of the document's net gives the positions of every node's pattern, exactly. -/
import Derived.Test.YtbjdkbcfpmeneaaGreatM02
import Derived.Test.YtbjdkbcfpmeneaaGreatM03
import Derived.Deep.Upon
open Go renaming Calls->aI,TypeId->cL,Value->aq,World->ay,bodyPost_ret->cF,info_parts->iw,maxLen->eB,undef->eT,wpList_append_lies->Gb
open Go.IntKind renaming bits->qa,i64->GA,signed->qc,wrap->tA
open Go.Obj.cells renaming injEq->fE
open Go.Proofs.Tryz renaming prog->aB,results98->G7,underlying61->qR
open Go.RowKit renaming intOf->aG
open Go.Value renaming bool->EU,oneCell'->dS,ownBlock->aK
open Go.Value.slice renaming injEq->fy
open Go.World renaming drewN_drewN->adC,heap_drewN->yx,news_of_block->gN,ownsRow_nil->j9
open List renaming append_assoc->mH,eq_nil_of_length_eq_zero->Et,ext_getElem->Qw,ext_getElem?->JW,getD_eq_getElem?_getD->aO,getElem?_append_left->iI,getElem?_append_right->mU,getElem?_eq_getElem->bD,getElem?_eq_none->iY,getElem?_map->kx,getElem?_range->De,getElem?_replicate->ac9,getElem?_set_ne->zo,getElem?_set_self->GH,getElem_map->Vp,getElem_mem->nE,getElem_of_mem->Df,getElem_range->ah9,length->ae,length_append->cx,length_map->mX,length_nil->MX,length_set->mq,length_take->GJ,map_append->uv,map_congr_left->aam,map_cons->GK,map_nil->GL,mem_append->jr,mem_cons->gH,mem_cons_of_mem->vq,mem_cons_self->GN,mem_map->kY,mem_singleton->bQ,nil_append->aap,range->lU,take_add_one->GQ,take_of_length_le->Ba,take_zero->Ew
open Nat renaming add_assoc->Vw,eq_zero_or_pos->M0,le_add_right->adj,le_refl->aH,le_trans->j8,lt_irrefl->Ey,lt_or_ge->eK,lt_succ_self->GS,ne_of_lt->bY,one_shiftLeft->qM,or_assoc->wN,or_zero->zq,strongRecOn->M2,testBit_or->jD,testBit_two_pow->ux,zero_le->bU
open Option renaming getD_some->nV,mem_toList->aat
open Option.some renaming injEq->aV
namespace Go.Proofs.YtbjdkbcfpmeneaaGreat
set_option linter.unusedVariables false
set_option linter.unusedSimpArgs false
set_option maxRecDepth 100000
set_option maxHeartbeats 16000000
open Go.RowKit
section
variable{r:Nat}{s:ByteArray}{i e pl:Int}
abbrev fh(s:ByteArray)(i e pl:Int)(nv:aq)(top:Int):Obj:=.cells #[.string s,.int .i64 i,.int .i64 e,.int .i64 pl,nv,.int .i64 top] 75 (0,0)
theorem dM{w:ay}{b:Nat}{x0 x1 x2 x3 x4 x5:aq}{e:cL}(h:w.heap[b]?=some (.cells #[x0,x1,x2,x3,x4,x5] e (0,0))):w.cell? ⟨b,0,none⟩=some x0/\w.cell? ⟨b,1,none⟩=some x1/\w.cell? ⟨b,2,none⟩=some x2/\w.cell? ⟨b,3,none⟩=some x3/\w.cell? ⟨b,4,none⟩=some x4/\w.cell? ⟨b,5,none⟩=some x5/\w.frozen? ⟨b,0,none⟩=false/\w.frozen? ⟨b,1,none⟩=false/\w.frozen? ⟨b,2,none⟩=false/\w.frozen? ⟨b,3,none⟩=false/\w.frozen? ⟨b,4,none⟩=false/\w.frozen? ⟨b,5,none⟩=false :=
 ⟨by rw[aF h];rfl,by rw[aF h];rfl,by rw[aF h];rfl,by rw[aF h];rfl,by rw[aF h];rfl,by rw[aF h];rfl,cM h _,cM h _,cM h _,cM h _,cM h _,cM h _⟩
theorem D1(s:ByteArray)(i:Int)(r:Nat)(e pl top:Int)(nv:aq)(w:ay)(h:w.heap[r]?=some (fh s i e pl nv top))(he:e≠0):aI aB 22 #[.pointer (some ⟨r,0,none⟩)] w fun x w'=>x=.returned (.int .u8 0)/\∃n,w'=w.drewN n:=by
 obtain⟨c0,c1,c2,_⟩:=dM h;have q:(e != 0)=true:=by simp[he]
 clear h he;go_enter Tryz.func22,Tryz.ntmps22;go_wp2;go_quiet (fail)
 go_wp2;go_ret;exact⟨rfl,_,rfl⟩
theorem anH(s:ByteArray)(i r:Nat)(pl top:Int)(nv:aq)(w:ay)(h:w.heap[r]?=some (fh s i 0 pl nv top))(hi:s.size<=i):aI aB 22 #[.pointer (some ⟨r,0,none⟩)] w fun x w'=>x=.returned (.int .u8 0)/\∃n,w'=w.drewN n:=by
 obtain⟨c0,c1,c2,_⟩:=dM h;have q:decide (s.size<=i)=true:=by simp;omega
 clear h hi;go_enter Tryz.func22,Tryz.ntmps22;go_wp2;go_quiet (fail)
 go_wp2;go_ret;exact⟨rfl,_,rfl⟩
theorem anI(s:ByteArray)(i r:Nat)(pl top:Int)(nv:aq)(w:ay)(h:w.heap[r]?=some (fh s i 0 pl nv top))(hi:i<s.size):aI aB 22 #[.pointer (some ⟨r,0,none⟩)] w fun x w'=>x=.returned (.int .u8 (gt s i))/\∃n,w'=w.drewN n:=by
 obtain⟨c0,c1,c2,_⟩:=dM h;have q:decide (s.size<=i)=false:=by simp;omega
 have hi':(i:Int)<s.size:=(by omega);have HG:ax _:=Dz s i hi;clear h;go_enter Tryz.func22,Tryz.ntmps22;go_wp2;go_quiet (fail)
 go_wp2;go_quiet (fail)
 go_wp2;go_ret;refine⟨?_,_,adC _ _ _⟩;rw[HG.o];rfl
theorem iE(s:ByteArray)(i r:Nat)(pl top:Int)(nv:aq)(w:ay)(h:w.heap[r]?=some (fh s i 0 pl nv top)):aI aB 22 #[.pointer (some ⟨r,0,none⟩)] w fun x w'=>x=.returned (.int .u8 (gt s i))/\∃n,w'=w.drewN n:=by
 rcases eK i s.size with hi|hi
 .exact anI s i r pl top nv w h hi
 .have:gt s i=0:=by
   unfold gt;have:s.data.size<=i:=hi;rw[Array.getElem?_eq_none this];rfl
  rw[this];exact anH s i r pl top nv w h hi
theorem rH(s:ByteArray)(i:Int)(r:Nat)(pl top er q:Int)(nv:aq)(w:ay)(h:w.heap[r]?=some (fh s i 0 pl nv top)):aI aB 23 #[.pointer (some ⟨r,0,none⟩),.int .i64 er,.int .i64 q] w fun x w'=>x=.returned (.tuple #[])/\w'.heap[r]?=some (fh s i er q nv top)/\Kp [r] w w':=by
 obtain⟨c0,c1,c2,c3,c4,c5,f0,f1,f2,f3,f4,f5⟩:=dM h;have H:ax _:=h;clear h;go_enter Tryz.func23,Tryz.ntmps23;go_wp2;go_end0;refine⟨rfl,?_,((Kp.refl _ _).set (by simp) _ _).set (by simp) _ _⟩;simp only[aQ,H.o];simp[eD]
structure ND where
 kind:Nat
 hv:aq
 pv:aq
def DV(n:ND):List aq:=[.int .u8 n.kind,n.hv,n.pv,.int .i64 0]
abbrev ndV(n:ND):aq:=.agg #[.int .u8 n.kind,n.hv,n.pv,.int .i64 0]
def xe(ns:List ND):List aq:=ns.flatMap DV
theorem akb(a b:List ND):xe (a++b)=xe a++xe b:=by simp[xe]
theorem als:(aB.info? 104).map (fun i=>(i.zero,i.size,i.bytes))=some (some (.agg #[.int .u8 0,.slice none 0 0,.slice none 0 0,.int .i64 0]),4,64):=by kernel_rfl
structure eu(w:ay)(s:ByteArray)(i e pl:Int)(r:Nat)(nv:aq)(ns:List ND):Prop where
 rd:w.heap[r]?=some (fh s i e pl nv 0)
 own:w.ownsRow 0 104 4 nv (ae ns) (xe ns)
 ne:nv.ownBlock≠some r
def fe(r:Nat)(nv:aq):List Nat:=r::nv.ownBlock.toList
theorem xO{nv:aq}{k:Nat}:k∈fe r nv↔k=r\/nv.ownBlock=some k:=by
 unfold fe;cases nv.ownBlock<;>simp[eq_comm]
theorem eu.lt{w:ay}{nv:aq}{ns:List ND}(h:eu w s i e pl r nv ns):∀k∈fe r nv,k<w.heap.size:=by
 intro k hk;rcases xO.1 hk with rfl|e
 .exact aE h.rd
 .exact(h.own.lt k e).2
theorem eu.kp{w w':ay}{nv:aq}{ns:List ND}{xs:List Nat}(h:eu w s i e pl r nv ns)(hk:Kp xs w w')(hx:∀k∈xs,k∉fe r nv):eu w' s i e pl r nv ns :=
 ⟨hk.keep h.rd (fun e=>hx _ e (xO.2 (.inl rfl))),aJ h.own hk (fun g e hm=>hx g hm (xO.2 (.inr e))),h.ne⟩
theorem ace(s:ByteArray)(i e pl:Int)(r:Nat)(nv:aq)(ns:List ND)(nd:ND)(w:ay)(h:eu w s i e pl r nv ns)(hn:(ae ns)<1000)(h1:nd.hv.oneCell'=true)(h2:nd.pv.oneCell'=true):aI aB 36 #[.pointer (some ⟨r,0,none⟩),ndV nd] w fun x w'=>x=.returned (.int .i64 (ae ns))/\∃cY,eu w' s i e pl r cY (ns ++ [nd])/\Kp (fe r nv) w w'/\(∀g∈fe r cY,g∈fe r nv\/w.heap.size<=g):=by
 have hr:=aE h.rd;have HS:=aj h;obtain⟨i0,cS,dc,dm,cW⟩:=iw als;have Xj:ax (ae ns<1000):=hn;have H1:=aj h1;have H2:=aj h2;have Fw:∃a cap,nv=.slice a (ae ns) cap:=by
  rcases h.own.2 with⟨rfl,e⟩|⟨g,cap,cur,rfl,_⟩
  .rw[e];exact⟨_,_,rfl⟩
  .exact⟨_,_,rfl⟩
 obtain⟨ab,zH,rfl⟩:=Fw;obtain⟨nk,nh,np⟩:=nd;clear h h1 h2;go_enter Tryz.func36,Tryz.ntmps36;go_upto_region 1 with fail;have kW:Kp [] w (w.alloc (.cells #[.int .u8 nk,nh,np,.int .i64 0] 104)):=(Kp.refl _ _).alloc _;have bB:(w.alloc (.cells #[.int .u8 nk,nh,np,.int .i64 0] 104)).heap[w.heap.size]?=some (.cells #[.int .u8 nk,nh,np,.int .i64 0] 104 (0,0)):=(by rw[aC,aA rfl]);generalize w.alloc (.cells #[.int .u8 nk,nh,np,.int .i64 0] 104)=W at *;have SW:=HS.o.kp kW (by simp);have iV:r≠w.heap.size:=bY hr;obtain⟨_,_,_,_,c4,_,_,_,_,_,f4,_⟩:=dM SW.rd;obtain⟨d0,d1,d2,d3,_⟩:=dB bB;have lB:=aE bB;have lr:=aE SW.rd;have PP:=aj SW;have KW:=aj kW;have Uk:ax _:=SW.ne;have abg:(ae ns)+1<=eB:=by unfold eB;omega
 have DC:(ae ns+1)*64<=140737488355328:=(by omega);have RDA:ax (∀o,(W.alloc o).drew.heap[r]?=some (fh s i e pl (.slice ab (ae ns) zH) 0)):=fun o=>by
  rw[eO,aC,az (bY lr)];exact PP.o.rd
 have DI:∀k,aK (.slice ab (ae ns) zH)=some k->k<w.heap.size:=fun k ek=>HS.o.lt _ (xO.2 (.inr ek))
 have ZT:=aj DI;clear SW kW bB DI;go_region_law
  ((refine step_append_lies _ (by rfl) _ _ _ (by rfl) 0 104 i0 _ 4 64 Tryz.underlying71 cS dc dm cW rfl (by omega) (.slice ab (ae ns) zH) (ae ns) (xe ns) (by rfl) ((PP.o.own.alloc _).drew) ⟨W.heap.size,0,none⟩ 1 1 (DV ⟨nk,nh,np⟩) (by rfl) (by rfl) (gN (cs:=(DV ⟨nk,nh,np⟩).toArray) (t:=104) (fr:=(0,0)) (heap_alloc_new W _)) (by intro u hu;simp only[DV,gH,List.mem_nil_iff,or_false]at hu;rcases hu with rfl|rfl|rfl|rfl;(first|rfl);exact H1.o;exact H2.o;rfl) (by omega) abg DC (by simp) (W.heap.size+1) (by simp) ?_;intro g1 aP w2 cT bj cy iz;have pb:=fY bj (b:=r) (RDA.o _) Uk.o;obtain⟨_,_,_,_,e4,_,_,_,_,_,m4,_⟩:=dM pb;have PB:=aj pb;clear pb))
 all_goals
  have kA:∀o,Kp [] W ((W.alloc o).drew):=fun o=>((Kp.refl [] W).alloc o).drew
  have k2:Kp (fe r (.slice ab (ae ns) zH)) w w2:=((KW.o.mono (by simp)).trans (kA _) (by simp)).grown bj (fun k e=>.inl (xO.2 (.inr e)));have Wy:g1≠r:=by
   rintro rfl;rcases cy with e|e
   .exact Uk.o e
   .omega
  have k3:Kp [r] w2 (w2.setCell ⟨r,4,none⟩ (.slice (some ⟨g1,0,none⟩) (ae ns+1) aP)):=(Kp.refl _ _).set (by simp) _ _;have ob3:=aj (aJ cT k3 (by intro g e hm;simp[aK]at e hm;omega));have K2:=aj k2;have AT:=aj cy;have dD:GA.wrap (ae ns+1-1)=ae ns:=by
   simp[tA,qa,qc];omega
  clear kA k2 k3 cT cy c4 d0 d1 d2 d3 f4 bj;go_wp2;go_ret;refine⟨by go_num,.slice (some ⟨g1,0,none⟩) (ae ns+1) aP,⟨?_,?_,?_⟩,?_,?_⟩
  .simp only[aQ,PB.o];simp[eD]
  .rw[cx,akb];exact ob3.o
  .simp only[aK,ne_eq,aV];exact Wy
  .exact K2.o.set (.inl (xO.2 (.inl rfl))) _ _
  .intro g hg;rcases xO.1 hg with e|e
   .exact .inl (xO.2 (.inl e))
   .simp only[aK,aV]at e;subst e;rcases AT.o with e|e
    .exact .inl (xO.2 (.inr e))
    .right;have:=KW.o.size;omega
end
section
variable{b:Nat}{l:List Bool}
abbrev aW(l:List Bool):Obj:=.cells (l.map EU).toArray 4 (0,0)
theorem gz{w:ay}(h:w.heap[b]?=some (aW l))(i:Nat)(hi:i<ae l):w.cell? ⟨b,i,none⟩=some (.bool (l.getD i false)):=by
 rw[aF h];simp[bD hi]
theorem kJ{w:ay}(h:w.heap[b]?=some (aW l))(i:Nat):w.frozen? ⟨b,i,none⟩=false:=cM h i
theorem nF{w:ay}(h:w.heap[b]?=some (aW l))(i:Nat)(v:Bool):(w.setCell ⟨b,i,none⟩ (.bool v)).heap[b]?=some (aW (l.set i v)):=by
 rw[aQ,aA rfl,h];simp[Mm,List.map_set]
def fl(n:Nat):List Bool:=List.replicate n false
theorem yE(n:Nat):(fl n).length=n:=List.length_replicate
theorem aa8(n i:Nat):(fl n).getD i false=false:=by
 unfold fl;rw[aO,ac9];split<;>rfl
theorem aln:(aB.info? 4).map (fun i=>(i.zero,i.size,i.bytes))=some (some (.bool false),1,1):=by kernel_rfl
theorem yZ(n:Nat)(hn:n<=1000000)(w:ay):(Instr.makeSlice 80 (.int .i64 (n:Int)) (.int .i64 (n:Int))).run aB w=.ok (.slice (some ⟨w.heap.size,0,none⟩) n n) (w.alloc (aW (fl n))):=by
 rw[run_make_row' 80 4 (.bool false) 1 Tryz.underlying80 aln rfl .i64 .i64 n (by omega) (by omega) w];congr 3;rw[<-Array.toArray_toList (xs:=madeCells #[EU false] n),toList_madeCells_one,fl,List.map_replicate]
theorem Yt(w:ay):(Instr.makeSlice 80 (.int .i64 256) (.int .i64 256)).run aB w=.ok (.slice (some ⟨w.heap.size,0,none⟩) 256 256) (w.alloc (aW (fl 256))):=yZ 256 (by decide) w
def js(s:Nat):List Bool:=(lU 256).map fun i=>s.testBit i
theorem kC(s:Nat):(js s).length=256:=by simp[js]
theorem V8(s i:Nat)(hi:i<256):(js s).getD i false=s.testBit i:=by
 simp[js,De hi]
theorem aaL:js 0=fl 256:=by
 apply Qw
 .rw[kC,yE]
 .intro i h1 h2;simp only[js,fl,Vp,List.getElem_replicate,Nat.zero_testBit]
theorem E2(s c:Nat)(_hc:c<256):(js s).set c true=js (s ||| 1 <<< c):=by
 apply Qw
 .simp[js]
 .intro i h1 h2;rw[List.getElem_set];simp only[js,Vp,ah9,jD,qM,ux];by_cases h:c=i<;>simp[h]
theorem acr(c:Nat)(w:ay)(hc:c<256):aI aB 78 #[.int .u8 c] w fun e w'=>e=.returned (.slice (some ⟨w.heap.size,0,none⟩) 256 256)/\w'.heap[w.heap.size]?=some (aW (js (1 <<< c)))/\Kp [] w w':=by
 have hm:=Yt;have hc':(c:Int)<256:=(by omega);have hw:GA.wrap (c:Int)=c:=by simp[tA,qa,qc];omega
 go_enter Tryz.func78,Tryz.ntmps78;go_upto_region 2 with fail;have k1:Kp [] w (w.alloc (aW (fl 256))):=(Kp.refl _ _).alloc _;have b1:(w.alloc (aW (fl 256))).heap[w.heap.size]?=some (aW (fl 256)):=(by rw[aC,aA rfl]);generalize w.alloc (aW (fl 256))=W at *;have c1:=gz b1 c (by rw[yE];exact hc);have f1:=kJ b1 c;have B1:=aj b1;have K1:=aj k1;clear b1 k1 hm;go_wp2;go_ret;refine⟨rfl,?_,K1.o.set (.inr (aH _)) _ _⟩;rw[nF B1.o c true,<-aaL,E2 0 c hc,Nat.zero_or]
def aij(R:PR Nat)(s:ByteArray)(r:Nat)(nv:aq)(w:ay)(x:Ending)(w':ay):Prop :=
 ∃(v:Nat) (i':Int),x=.returned (.int .u8 v)/\v<256/\w'.heap[r]?=some (fh s i' R.err R.pl nv 0)/\Kp [r] w w'/\(R.err=0->v=R.v/\i'=R.j)
theorem uc{w:ay}{r:Nat}{s:ByteArray}{i j e pl top:Int}{nv:aq}(h:w.heap[r]?=some (fh s i e pl nv top)):(w.setCell ⟨r,1,none⟩ (.int .i64 j)).heap[r]?=some (fh s j e pl nv top):=by
 rw[aQ,aA rfl,h];simp[eD]
theorem nO(i:Nat)(hi:i<=1000):GA.wrap ((i:Int)+1)=((i+1:Nat):Int):=by simp[tA,qa,qc];omega
theorem I8(s:ByteArray)(i r:Nat)(nv:aq)(w:ay)(h:w.heap[r]?=some (fh s i 0 0 nv 0))(hi:i<=s.size)(hs:s.size<=16):aI aB 103 #[.pointer (some ⟨r,0,none⟩)] w (aij (bI s i) s r nv w):=by
 have H:=aj h;obtain⟨c0,c1,c2,c3,c4,c5,f0,f1,f2,f3,f4,f5⟩:=dM h;have hR:ax (bI s i=if gt s i=0 then de s 4 s.size 0 else if gt s i=92 then(if gt s (i+1)=0 then de s 4 s.size 0 else good (i+2) (gt s (i+1))) else if gt s i=91\/gt s i=93\/gt s i=94\/gt s i=45 then de s 5 i 0 else good (i+1) (gt s i)):=rfl;generalize bI s i=R at *;have oU:=nO i (by omega);have iD:=nO (i+1) (by omega);have jI:=kj s i;have yK:=kj s (i+1);clear h;go_enter Tryz.func103,Tryz.ntmps103;go_wp2_with fail;refine(iE s i r 0 0 nv _ (by exact H.o)).mono ?_;rintro _ w1 ⟨rfl,n1,rfl⟩;by_cases g0:gt s i=0
 .have cN:R=de s 4 s.size 0:=(by rw[hR.o,aA g0]);have fT:=aj cN;rw[g0];clear cN hR g0;go_wp2_with fail;refine(rH s i r 0 0 4 s.size nv _ (by exact H.o)).mono ?_;rintro _ w2 ⟨rfl,h2,k2⟩;obtain⟨d0,d1,d2,d3,d4,d5,e0,e1,e2,e3,e4,e5⟩:=dM h2;have H2:=aj h2;have K2:=aj k2;clear h2 k2;go_wp2;go_ret;exact⟨0,i+1,rfl,by omega,by rw[fT.o];exact uc H2.o,K2.o.kL.set (.inl (by simp)) _ _,fun e=>absurd e (by rw[fT.o];simp[de])⟩
 .have q0:((gt s i:Int) == 0)=false:=by simp;omega
  by_cases g1:gt s i=92
  .rw[g1];by_cases g2:gt s (i+1)=0
   ·(have fT:ax (R=de s 4 s.size 0):=by show _=_;rw[hR.o,az g0,aA g1,aA g2]);have H1:ax (((w.drewN n1).setCell ⟨r,1,none⟩ (.int .i64 (i+1:Nat))).heap[r]?=some (fh s (i+1) 0 0 nv 0)):=uc (by exact H.o);have K1:ax (Kp [r] w ((w.drewN n1).setCell ⟨r,1,none⟩ (.int .i64 (i+1:Nat)))):=((Kp.refl _ _).drewN n1).set (.inl (by simp)) _ _;clear hR g0 q0;go_wp2_with fail;refine(iE s (i+1) r 0 0 nv _ (by exact H1.o)).mono ?_;rw[g2];rintro _ w2 ⟨rfl,n2,rfl⟩;clear g2;go_wp2_with fail;refine(rH s (i+1) r 0 0 4 s.size nv _ (by exact H1.o)).mono ?_;rintro _ w2 ⟨rfl,h2,k2⟩;obtain⟨d0,d1,d2,d3,d4,d5,e0,e1,e2,e3,e4,e5⟩:=dM h2;have H2:=aj h2;have K2:=aj k2;clear h2 k2;go_wp2;go_ret;exact⟨0,i+1+1,rfl,by omega,by rw[fT.o];exact uc H2.o,(K1.o.trans K2.o.kL (by simp)).set (.inl (by simp)) _ _,fun e=>absurd e (by rw[fT.o];simp[de])⟩
   ·(have fT:ax (R=good (i+2) (gt s (i+1))):=by show _=_;rw[hR.o,az g0,aA g1,az g2]);(have q2:((gt s (i+1):Int) == 0)=false:=by simp;omega);have H1:ax (((w.drewN n1).setCell ⟨r,1,none⟩ (.int .i64 (i+1:Nat))).heap[r]?=some (fh s (i+1) 0 0 nv 0)):=uc (by exact H.o);have K1:ax (Kp [r] w ((w.drewN n1).setCell ⟨r,1,none⟩ (.int .i64 (i+1:Nat)))):=((Kp.refl _ _).drewN n1).set (.inl (by simp)) _ _;clear hR g0 g2 q0;go_wp2_with fail;refine(iE s (i+1) r 0 0 nv _ (by exact H1.o)).mono ?_;rintro _ w2 ⟨rfl,n2,rfl⟩;go_wp2;go_ret;exact⟨gt s (i+1),i+1+1,rfl,yK,by rw[fT.o];exact uc (by exact H1.o),(K1.o.drewN n2).set (.inl (by simp)) _ _,fun _=>by rw[fT.o];exact⟨rfl,rfl⟩⟩
  ·(have q1:((gt s i:Int) == 92)=false:=by simp;omega);by_cases g2:gt s i=91\/gt s i=93\/gt s i=94\/gt s i=45
   ·(have fT:ax (R=de s 5 i 0):=by show _=_;rw[hR.o,az g0,az g1,aA g2]);clear hR g0 g1;rcases g2 with g2|g2|g2|g2
    all_goals
     rw[g2];clear g2 q0 q1 jI;go_wp2_with fail;refine(rH s i r 0 0 5 i nv _ (by exact H.o)).mono ?_;rintro _ w2 ⟨rfl,h2,k2⟩;obtain⟨d0,d1,d2,d3,d4,d5,e0,e1,e2,e3,e4,e5⟩:=dM h2;have H2:=aj h2;have K2:=aj k2;clear h2 k2;go_wp2;go_ret;exact⟨_,i+1,rfl,by decide,by rw[fT.o];exact uc H2.o,K2.o.kL.set (.inl (by simp)) _ _,fun e=>absurd e (by rw[fT.o];simp[de])⟩
   ·(have fT:ax (R=good (i+1) (gt s i)):=by show _=_;rw[hR.o,az g0,az g1,az g2]);(have q2:((gt s i:Int) == 91)=false:=by simp;omega);(have q3:((gt s i:Int) == 93)=false:=by simp;omega);(have q4:((gt s i:Int) == 94)=false:=by simp;omega);(have q5:((gt s i:Int) == 45)=false:=by simp;omega);clear hR g0 g1 g2;go_wp2;go_ret;exact⟨gt s i,i+1,rfl,jI,by rw[fT.o];exact uc (by exact H.o),((Kp.refl _ _).drewN n1).set (.inl (by simp)) _ _,fun _=>by rw[fT.o];exact⟨rfl,rfl⟩⟩
end
section
variable{r k B:Nat}{ns:List ND}{s:ByteArray}{i e pl:Int}{nd:ND}{xs:List Nat}
abbrev AN:=aD×Nat×Nat
def cK:AN:=(.aX,0,0)
def dy(ps:List Nat):List aq:=ps.map fun(p:Nat)=>.int .i64 (p:Int)
def mJ(Ls:List AN):aD:=Ls.foldl (fun a x=>aD.cat a x.1) aD.aX
def xb:List AN->aD
 |[]=>.aX
 |L::Ls=>Ls.foldl (fun a x=>aD.alt a x.1) L.1
theorem aaR(Ls:List AN)(L:AN):mJ (Ls ++ [L])=aD.cat (mJ Ls) L.1:=by simp[mJ]
theorem aaK(Ls:List AN)(L:AN)(h:Ls≠[]):xb (Ls ++ [L])=aD.alt (xb Ls) L.1:=by
 cases Ls with
 |nil=>exact absurd rfl h
 |cons M Ms=>simp[xb]
def tI:Nat->List AN->Nat->Prop
 |lo,[],hi=>lo=hi
 |lo,x::M,hi=>x.2.1=lo/\tI x.2.2 M hi
theorem ad5:∀(M:List AN) (lo mid hi:Nat) (x:AN),tI lo M mid->x.2.1=mid->x.2.2=hi->tI lo (M ++ [x]) hi:=by
 intro M;induction M with
 |nil=>intro lo mid hi x h h1 h2;exact⟨h1.trans h.symm,h2⟩
 |cons y M ih=>intro lo mid hi x h h1 h2;exact⟨h.1,ih _ _ _ _ h.2 h1 h2⟩
def qD(k:Nat)(L:aD):aD:=if k=42 then aD.star L else if k=43 then aD.plus L else aD.opt L
def Be(w:ay)(nd:ND)(k:Nat)(Ls:List AN)(L:AN):Prop :=
 (nd.kind=98/\nd.pv=.slice none 0 0/\∃b s,nd.hv=.slice (some ⟨b,0,none⟩) 256 256/\w.heap[b]?=some (aW (js s))/\L=(aD.set s,k,k+1)) \/
 (nd.hv=.slice none 0 0/\∃ps:List Nat,w.ownsRow 0 3 1 nd.pv (ae ps) (dy ps)/\(∀p∈ps,p<k) /\
  ((tI L.2.1 (ps.map fun p=>Ls.getD p cK) k/\L.2.2=k+1)/\((nd.kind=99/\L.1=mJ (ps.map fun p=>Ls.getD p cK))\/(nd.kind=97/\L.1=xb (ps.map fun p=>Ls.getD p cK)/\ps≠[]) \/
   (∃p,ps=[p]/\(nd.kind=42\/nd.kind=43\/nd.kind=63)/\L.1=qD nd.kind (Ls.getD p cK).1))))
structure gu(w:ay)(ns:List ND)(Ls:List AN):Prop where
 len:(ae Ls)=ae ns
 ok:∀k nd,ns[k]?=some nd->Be w nd k Ls (Ls.getD k cK)
def kV(w:ay)(xs:List Nat):Prop:=∀b∈xs,∀c e f,w.heap[b]?=some (.cells c e f)->e≠4/\e≠3
theorem eu.far{w:ay}{nv:aq}(h:eu w s i e pl r nv ns):kV w (fe r nv):=by
 intro b hb c t f hc;rcases xO.1 hb with rfl|hb
 .rw[h.rd]at hc;simp only[aV,fE]at hc;rw[<-hc.2.1];decide
 .rcases h.own.2 with⟨rfl,_⟩|⟨g,cap,cur,rfl,_,hg,_⟩
  .simp[aK]at hb
  .simp only[aK,aV]at hb;subst hb;rw[hg]at hc;simp only[aV,fE]at hc;rw[<-hc.2.1];decide
theorem kV.nil(w:ay):kV w []:=fun _ h=>by cases h
theorem Be.keep{w w':ay}{Ls:List AN}{L:AN}(h:Be w nd k Ls L)(hk:Kp xs w w')(hx:kV w xs):Be w' nd k Ls L:=by
 rcases h with⟨h1,h0,b,s,h2,h3,h4⟩|⟨h0,ps,h1,h2⟩
 .exact .inl ⟨h1,h0,b,s,h2,hk.keep h3 (fun hm=>(hx b hm _ _ _ h3).1 rfl),h4⟩
 .refine .inr ⟨h0,ps,aJ h1 hk (fun g hg hm=>?_),h2⟩;rcases h1.2 with⟨e,_⟩|⟨g',cap,cur,e,_,hc,_⟩
  .rw[e]at hg;simp[aK]at hg
  .rw[e]at hg;simp only[aK,aV]at hg;subst hg;exact(hx _ hm _ _ _ hc).2 rfl
theorem gu.keep{w w':ay}{Ls:List AN}(h:gu w ns Ls)(hk:Kp xs w w')(hx:kV w xs):gu w' ns Ls :=
 ⟨h.len,fun k nd hk'=>(h.ok k nd hk').keep hk hx⟩
theorem Be.more{w:ay}{Ls Lm:List AN}{L:AN}(h:Be w nd k Ls L)(hl:k<=ae Ls):Be w nd k (Ls++Lm) L:=by
 have key:∀p,p<k->(Ls++Lm).getD p cK=Ls.getD p cK:=fun p hp=>by
  rw[aO,aO,iI (by omega)]
 rcases h with h|⟨h0,ps,h1,h2,h3⟩
 .exact .inl h
 .refine .inr ⟨h0,ps,h1,h2,?_⟩;have km:(ps.map fun p=>(Ls++Lm).getD p cK)=ps.map fun p=>Ls.getD p cK:=aam fun p hp=>key p (h2 p hp)
  rw[km];refine⟨h3.1,?_⟩;rcases h3.2 with h3|h3|⟨p,h3,h4⟩
  .exact .inl h3
  .exact .inr (.inl h3)
  .exact .inr (.inr ⟨p,h3,by rw[key p (h2 p (by rw[h3];simp))];exact h4⟩)
theorem gu.snoc{w:ay}{Ls:List AN}{L:AN}(h:gu w ns Ls)(hn:Be w nd (ae ns) Ls L):gu w (ns ++ [nd]) (Ls ++ [L]):=by
 refine⟨by simp[h.len],fun k DU hk=>?_⟩;rcases eK k (ae ns) with aN|sE
 .rw[iI aN]at hk;rw[show(Ls ++ [L]).getD k cK=Ls.getD k cK from by rw[aO,aO,iI (by rw[h.len];exact aN)]];exact(h.ok k DU hk).more (by rw[h.len];omega)
 .rw[mU sE]at hk;have Xb:k-(ae ns)=0:=by
   rcases M0 (k-(ae ns))with e|e
   .exact e
   .rw[iY (by simp;omega)]at hk;cases hk
  rw[Xb]at hk;simp only[List.getElem?_cons_zero,aV]at hk;subst hk;have jt:k=ae ns:=(by omega);subst jt;rw[show(Ls ++ [L]).getD (ae ns) cK=L from by rw[aO,mU (by rw[h.len];exact aH _),h.len];simp];exact hn.more (by rw[h.len];exact aH _)
def ny(B:Nat)(more:List ND):Prop:=∀nd∈more,∀g,nd.pv.ownBlock=some g->B<=g
theorem ny.bytes(B b:Nat):ny B [⟨98,.slice (some ⟨b,0,none⟩) 256 256,.slice none 0 0⟩]:=by
 intro nd hn g hg;simp only[bQ]at hn;subst hn;simp[aK]at hg
theorem ny.mono{C:Nat}{more:List ND}(h:ny B more)(hc:C<=B):ny C more:=fun nd hn g hg=>j8 hc (h nd hn g hg)
theorem ny.append{a b:List ND}(h:ny B a)(k:ny B b):ny B (a++b):=fun nd hn=>by
 rcases jr.1 hn with e|e
 .exact h nd e
 .exact k nd e
def wR(R:PR aD)(extra:Nat)(s:ByteArray)(i r:Nat)(nv:aq)(ns:List ND)(Ls:List AN)(w:ay)(x:Ending)(w':ay):Prop :=
 ∃(k:Nat) (iv:Int) (cY:aq) (ns':List ND),x=.returned (.int .i64 k)/\eu w' s iv R.err R.pl r cY ns'/\Kp (fe r nv) w w'/\(∀g∈fe r cY,g∈fe r nv\/w.heap.size<=g) /\
  (ae ns')<=ae ns+2*(R.j-i)+extra /\
  (R.err=0->iv=R.j/\∃Lm more,ns'=ns++more/\ny w.heap.size more/\gu w' ns' (Ls++Lm)/\k<ae ns'/\(Ls++Lm).getD k cK=(R.v,ae ns,ae ns'))
theorem Me(r:Nat)(nv:aq):r∈fe r nv:=xO.2 (.inl rfl)
theorem eu.ou{w:ay}{nv:aq}(h:eu w s i e pl r nv ns)(j:Int):eu (w.setCell ⟨r,1,none⟩ (.int .i64 j)) s j e pl r nv ns :=
 ⟨uc h.rd,aJ h.own ((Kp.refl [r] w).set (.inl (by simp)) _ _) (fun g hg hm=>by simp at hm;subst hm;exact h.ne hg),h.ne⟩
theorem gu.ou{w:ay}{nv:aq}{ns':List ND}{Ls:List AN}(t:gu w ns' Ls)(h:eu w s i e pl r nv ns)(j:Int):gu (w.setCell ⟨r,1,none⟩ (.int .i64 j)) ns' Ls :=
 t.keep ((Kp.refl [r] w).set (.inl (by simp)) _ _) (fun b hb=>h.far b (by simp at hb;subst hb;exact Me _ _))
theorem eu.kr{w w':ay}{i' e' Uv:Int}{nv:aq}(h:eu w s i e pl r nv ns)(hk:Kp [r] w w')(hr:w'.heap[r]?=some (fh s i' e' Uv nv 0)):eu w' s i' e' Uv r nv ns :=
 ⟨hr,aJ h.own hk (fun g hg hm=>by simp at hm;subst hm;exact h.ne hg),h.ne⟩
theorem eu.NH{w:ay}{nv:aq}(h:eu w s i e pl r nv ns):kV w [r]:=fun b hb=>h.far b (by simp at hb;subst hb;exact Me _ _)
theorem Kp.IV{w w':ay}{nv:aq}(h:Kp [r] w w'):Kp (fe r nv) w w':=h.mono (by intro x hx;simp at hx;subst hx;exact Me _ _)
theorem Kp.ofN{w w':ay}{nv:aq}(h:Kp [] w w'):Kp (fe r nv) w w':=h.mono (by simp)
theorem Uw(s:ByteArray)(i e pl:Int)(r:Nat)(nv:aq)(ns:List ND)(Ls:List AN)(b:Nat)(l:List Bool)(w:ay)(h:eu w s i e pl r nv ns)(hn:(ae ns)<1000)(_hl:w.heap[b]?=some (aW l)):aI aB 36 #[.pointer (some ⟨r,0,none⟩),.agg #[.int .u8 98,.slice (some ⟨b,0,none⟩) 256 256,.slice none 0 0,.int .i64 0]] w fun x w'=>x=.returned (.int .i64 (ae ns))/\∃cY,eu w' s i e pl r cY (ns ++ [⟨98,.slice (some ⟨b,0,none⟩) 256 256,.slice none 0 0⟩])/\Kp (fe r nv) w w'/\(∀g∈fe r cY,g∈fe r nv\/w.heap.size<=g)/\(∀q,l=js q->gu w ns Ls->gu w' (ns ++ [⟨98,.slice (some ⟨b,0,none⟩) 256 256,.slice none 0 0⟩]) (Ls ++ [(aD.set q,ae ns,ae ns+1)])):=by
 refine(ace s i e pl r nv ns ⟨98,.slice (some ⟨b,0,none⟩) 256 256,.slice none 0 0⟩ w h hn rfl rfl).mono ?_;rintro _ w' ⟨rfl,cY,h1,h2,h3⟩;refine⟨rfl,cY,h1,h2,h3,fun q hq t=>?_⟩;refine(t.snoc (.inl ⟨rfl,rfl,b,q,rfl,?_,rfl⟩)).keep h2 h.far;rw[<-hq];exact _hl
theorem Fc(Ls:List AN)(L:AN)(n:Nat)(h:(ae Ls)=n):(Ls ++ [L]).getD n cK=L:=by
 subst h;simp
end
section
variable{xs:List Nat}{ns:List ND}
def oh:cC:=fun _=>False
def Ko(Ls:List cC):cC:=Ls.foldl FE Oy
def Bk:List cC->cC
 |[]=>oh
 |L::Ls=>Ls.foldl Lu L
theorem ajl(Ls:List cC)(L:cC):Ko (Ls ++ [L])=FE (Ko Ls) L:=by simp[Ko]
def ach(k:Nat)(L:cC):cC:=if k=42 then TO L else if k=43 then Lv L else Oz L
def VC(w:ay)(nd:ND)(k:Nat)(Ls:List cC)(L:cC):Prop :=
 (nd.kind=98/\nd.pv=.slice none 0 0/\∃b s,nd.hv=.slice (some ⟨b,0,none⟩) 256 256/\w.heap[b]?=some (aW (js s))/\L=Lw s) \/
 (nd.hv=.slice none 0 0/\∃ps:List Nat,w.ownsRow 0 3 1 nd.pv (ae ps) (dy ps)/\(∀p∈ps,p<k) /\
  ((nd.kind=99/\L=Ko (ps.map fun p=>Ls.getD p oh))\/(nd.kind=97/\L=Bk (ps.map fun p=>Ls.getD p oh)) \/
   (∃p,ps=[p]/\(nd.kind=42\/nd.kind=43\/nd.kind=63)/\L=ach nd.kind (Ls.getD p oh))))
structure Ni(w:ay)(ns:List ND)(Ls:List cC):Prop where
 len:(ae Ls)=ae ns
 ok:∀k nd,ns[k]?=some nd->VC w nd k Ls (Ls.getD k oh)
theorem VC.keep{w w':ay}{nd:ND}{k:Nat}{Ls:List cC}{L:cC}(h:VC w nd k Ls L)(hk:Kp xs w w')(hx:kV w xs):VC w' nd k Ls L:=by
 rcases h with⟨h1,h0,b,s,h2,h3,h4⟩|⟨h0,ps,h1,h2⟩
 .exact .inl ⟨h1,h0,b,s,h2,hk.keep h3 (fun hm=>(hx b hm _ _ _ h3).1 rfl),h4⟩
 .refine .inr ⟨h0,ps,aJ h1 hk (fun g hg hm=>?_),h2⟩;rcases h1.2 with⟨e,_⟩|⟨g',cap,cur,e,_,hc,_⟩
  .rw[e]at hg;simp[aK]at hg
  .rw[e]at hg;simp only[aK,aV]at hg;subst hg;exact(hx _ hm _ _ _ hc).2 rfl
theorem Ni.keep{w w':ay}{Ls:List cC}(h:Ni w ns Ls)(hk:Kp xs w w')(hx:kV w xs):Ni w' ns Ls :=
 ⟨h.len,fun k nd hk'=>(h.ok k nd hk').keep hk hx⟩
def Bm(x:AN):cC:=x.1.fV
theorem R1(As:List AN)(p:Nat)(h:p<ae As):(As.map Bm).getD p oh=(As.getD p cK).1.fV:=by
 rw[aO,aO,kx,bD h];rfl
theorem ajk(As:List AN):(mJ As).fV=Ko (As.map Bm):=by
 have key:∀(As:List AN) (a:aD),(As.foldl (fun a x=>aD.cat a x.1) a).fV=(As.map Bm).foldl FE a.fV:=by
  intro As;induction As with
  |nil=>intro a;rfl
  |cons b As ih=>intro a;exact ih (.cat a b.1)
 exact key As .aX
theorem aiI(As:List AN)(h:As≠[]):(xb As).fV=Bk (As.map Bm):=by
 have key:∀(As:List AN) (a:aD),(As.foldl (fun a x=>aD.alt a x.1) a).fV=(As.map Bm).foldl Lu a.fV:=by
  intro As;induction As with
  |nil=>intro a;rfl
  |cons b As ih=>intro a;exact ih (.alt a b.1)
 cases As with
 |nil=>exact absurd rfl h
 |cons a As=>exact key As a.1
theorem ant(k:Nat)(a:aD):(qD k a).fV=ach k a.fV:=by
 unfold qD ach;by_cases h:k=42
 .rw[aA h,aA h];rfl
 .rw[az h,az h];by_cases h2:k=43
  .rw[aA h2,aA h2];rfl
  .rw[az h2,az h2];rfl
theorem gu.fV{w:ay}{As:List AN}(h:gu w ns As):Ni w ns (As.map Bm):=by
 refine⟨by rw[mX];exact h.len,fun k nd hk=>?_⟩;have aN:k<ae ns:=by
  rcases eK k (ae ns) with a|a
  .exact a
  .rw[iY a]at hk;cases hk
 rw[R1 As k (by rw[h.len];exact aN)];rcases h.ok k nd hk with⟨h1,h0,b,s,h2,h3,h4⟩|⟨h0,ps,h1,h2,h3⟩
 .exact .inl ⟨h1,h0,b,s,h2,h3,by rw[h4];rfl⟩
 .have hl:=h.len;have km:(ps.map fun p=>(As.map Bm).getD p oh)=(ps.map fun p=>As.getD p cK).map Bm:=by
   rw[List.map_map];exact aam fun p hp=>R1 As p (by have:=h2 p hp;omega)
  refine .inr ⟨h0,ps,h1,h2,?_⟩;rcases h3.2 with⟨q,h3⟩|⟨q,h3,h4⟩|⟨p,h3,h4,h5⟩
  .exact .inl ⟨q,by rw[km,<-ajk,h3]⟩
  .refine .inr (.inl ⟨q,?_⟩);rw[km,<-aiI _ (by simpa using h4),h3]
  .exact .inr (.inr ⟨p,h3,h4,by rw[h5,ant,R1 As p (by have:=h2 p (by rw[h3];simp);omega)]⟩)
end
section
variable{ps xs:List Nat}{ns:List ND}{kd T r k base n g:Nat}{s:ByteArray}{i e pl:Int}{Ls Lm:List AN}{nd:ND}
abbrev yX(kd:Nat)(pv:aq):Obj:=.cells #[.int .u8 kd,.slice none 0 0,pv,.int .i64 0] 104 (0,0)
structure Lo(kd T:Nat)(pv:aq)(ps:List Nat)(r:Nat)(nv cY:aq)(w w':ay):Prop where
 nd:w'.heap[T]?=some (yX kd pv)
 own:w'.ownsRow w.heap.size 3 1 pv (ae ps) (dy ps)
 kp:Kp (fe r nv) w w'
 fr:∀g∈fe r cY,g∈fe r nv\/w.heap.size<=g
 tn:T∉fe r cY
 ge:w.heap.size<=T
theorem Aj{w:ay}{v:aq}{xs:List aq}(h:w.ownsRow base 3 1 v n xs)(hg:v.ownBlock=some g):∃c,w.heap[g]?=some (.cells c 3 (0,0))/\base<=g:=by
 rcases h.2 with⟨rfl,_⟩|⟨g',cap,cur,rfl,hb,hc,_⟩
 .simp[aK]at hg
 .simp only[aK,aV]at hg;subst hg;exact⟨cur,hc,hb⟩
theorem kV.int{w:ay}(h:kV w xs){g:Nat}{c:Array aq}{f:Nat×Nat}(hg:w.heap[g]?=some (.cells c 3 f)):g∉xs:=fun hm=>(h g hm _ _ _ hg).2 rfl
theorem Lo.start(kd r:Nat)(nv:aq)(w:ay)(h:∀g∈fe r nv,g<w.heap.size):Lo kd w.heap.size (.slice none 0 0) [] r nv nv w (w.alloc (yX kd (.slice none 0 0))) :=
 ⟨by rw[aC,aA rfl],⟨rfl,.inl ⟨rfl,rfl⟩⟩,(Kp.refl _ _).alloc _,fun g hg=>.inl hg,fun hm=>by have:=h _ hm;omega,aH _⟩
theorem Lo.step{pv:aq}{nv cY agj:aq}{w w' w'':ay}(h:Lo kd T pv ps r nv cY w w')(hs:eu w' s i e pl r cY ns)(hk:Kp (fe r cY) w' w'')(hf:∀g∈fe r agj,g∈fe r cY\/w'.heap.size<=g):Lo kd T pv ps r nv agj w w'':=by
 refine⟨hk.keep h.nd h.tn,aJ h.own hk (fun g hg=>?_),h.kp.trans hk h.fr,fun g hg=>?_,fun hm=>?_,h.ge⟩
 .obtain⟨c,hc,_⟩:=Aj h.own hg;exact hs.far.int hc
 .rcases hf g hg with e|e
  .exact h.fr g e
  .exact .inr (by have:=h.kp.size;omega)
 .rcases hf T hm with e|e
  .exact h.tn e
  .have:=aE h.nd;omega
theorem Lo.drewN{pv:aq}{nv cY:aq}{w w':ay}(h:Lo kd T pv ps r nv cY w w')(n:Nat):Lo kd T pv ps r nv cY w (w'.drewN n) :=
 ⟨h.nd,h.own,h.kp.drewN n,h.fr,h.tn,h.ge⟩
theorem Lo.kr{pv:aq}{nv cY:aq}{w w' w'':ay}(h:Lo kd T pv ps r nv cY w w')(hs:eu w' s i e pl r cY ns)(hk:Kp [r] w' w''):Lo kd T pv ps r nv cY w w'' :=
 h.step hs hk.IV (fun g hg=>.inl hg)
theorem Lo.k0{pv:aq}{nv cY:aq}{w w' w'':ay}(h:Lo kd T pv ps r nv cY w w')(hs:eu w' s i e pl r cY ns)(hk:Kp [] w' w''):Lo kd T pv ps r nv cY w w'' :=
 h.step hs hk.ofN (fun g hg=>.inl hg)
def NP(pv:aq)(ns:List ND):Prop:=∀nd∈ns,∀g,nd.pv.ownBlock=some g->pv.ownBlock≠some g
theorem NP.nil(n c:Nat)(ns:List ND):NP (.slice none n c) ns:=fun _ _ _ _ h=>by simp[aK]at h
theorem NP.more{pv:aq}{more:List ND}(h:NP pv ns){B:Nat}(hf:ny B more)(hb:∀g,pv.ownBlock=some g->g<B):NP pv (ns++more):=fun nd hn g hg e=>by
 rcases jr.1 hn with hn|hn
 .exact h nd hn g hg e
 .have:=hf nd hn g hg;have:=hb g e;omega
theorem Lo.FQ{pv:aq}{nv cY:aq}{w w':ay}(h:Lo kd T pv ps r nv cY w w'):∀g,pv.ownBlock=some g->g<w'.heap.size:=fun g hg=>by
 obtain⟨c,hc,_⟩:=Aj h.own hg
 exact aE hc
theorem Be.alC{w w':ay}{L:AN}(h:Be w nd k Ls L)(hk:Kp xs w w')(hb:∀b l,w.heap[b]?=some (aW l)->b∉xs)(hp:∀g c,nd.pv.ownBlock=some g->w.heap[g]?=some (.cells c 3 (0,0))->g∉xs):Be w' nd k Ls L:=by
 rcases h with⟨h1,h0,b,s,h2,h3,h4⟩|⟨h0,ps,h1,h2⟩
 .exact .inl ⟨h1,h0,b,s,h2,hk.keep h3 (hb _ _ h3),h4⟩
 .refine .inr ⟨h0,ps,aJ h1 hk (fun g hg=>?_),h2⟩;obtain⟨c,hc,_⟩:=Aj h1 hg;exact hp g c hg hc
theorem amf(h:ns[k]?=some nd):nd∈ns:=List.mem_of_getElem? h
theorem Lo.app{pv:aq}{nv cY:aq}{w w' w9:ay}{cap:Nat}(h:Lo kd T pv ps r nv cY w w')(hs:eu w' s i e pl r cY ns)(jM:w9.ownsRow w.heap.size 3 1 (.slice (some ⟨g,0,none⟩) (ae ps+1) cap) (ae ps+1) (dy ps ++ [.int .i64 k]))(gr:(w'.alloc (.cells #[.int .i64 k] 3)).grownBy w9 pv.ownBlock)(KO:pv.ownBlock=some g\/g=w'.heap.size+1):Lo kd T (.slice (some ⟨g,0,none⟩) (ae ps+1) cap) (ps ++ [k]) r nv cY w (w9.setCell ⟨T,2,none⟩ (.slice (some ⟨g,0,none⟩) (ae ps+1) cap))/\eu (w9.setCell ⟨T,2,none⟩ (.slice (some ⟨g,0,none⟩) (ae ps+1) cap)) s i e pl r cY ns/\(∀Lc,gu w' ns Lc->NP pv ns->gu (w9.setCell ⟨T,2,none⟩ (.slice (some ⟨g,0,none⟩) (ae ps+1) cap)) ns Lc)/\(NP pv ns->(∀nd∈ns,∀x,nd.pv.ownBlock=some x->x<w'.heap.size)->NP (.slice (some ⟨g,0,none⟩) (ae ps+1) cap) ns):=by
 have hT:=aE h.nd;have k9:Kp pv.ownBlock.toList w' w9:=((Kp.refl _ w').alloc _).grown gr (fun k hk=>.inl (by rw[hk];simp));have jJ:∀x∈pv.ownBlock.toList,∃c,w'.heap[x]?=some (.cells c 3 (0,0)):=fun x hx=>by
  rw[aat]at hx;obtain⟨c,hc,_⟩:=Aj h.own hx;exact⟨c,hc⟩
 have hTp:T∉pv.ownBlock.toList:=fun hm=>by
  obtain⟨c,hc⟩:=jJ T hm;rw[h.nd]at hc;simp only[aV,fE]at hc;exact absurd hc.2.1 (by decide)
 have yW:w9.heap[T]?=some (yX kd pv):=k9.keep h.nd hTp;have gT:g≠T:=by
  rintro rfl;rcases KO with e|e
  .exact hTp (by rw[e];simp)
  .omega
 have kW:Kp (T::pv.ownBlock.toList) w' (w9.setCell ⟨T,2,none⟩ (.slice (some ⟨g,0,none⟩) (ae ps+1) cap)):=(k9.mono (fun x hx=>vq _ hx)).set (.inl (by simp)) _ _;have hfo:∀x∈T::pv.ownBlock.toList,x∉fe r cY:=fun x hx hm=>by
  rcases gH.1 hx with rfl|hx
  .exact h.tn hm
  .obtain⟨c,hc⟩:=jJ x hx;exact hs.far.int hc hm
 refine⟨⟨?_,?_,?_,h.fr,h.tn,h.ge⟩,hs.kp kW hfo,fun Lc t np=>⟨t.len,fun q nd hq=>(t.ok q nd hq).alC kW (fun b l hb hm=>?_) (fun x c hx hc hm=>?_)⟩,fun np aN nd hn x hx e=>?_⟩
 .rw[aQ,aA rfl,yW];simp[eD]
 .have:dy (ps ++ [k])=dy ps ++ [.int .i64 k]:=(by simp[dy]);rw[this,cx];exact aJ jM ((Kp.refl [T] w9).set (.inl (by simp)) _ _) (fun x hx hm=>by simp[aK]at hx hm;omega)
 .refine h.kp.trans kW (fun y hy=>?_);rcases gH.1 hy with rfl|hy
  .exact .inr h.ge
  .rw[aat]at hy;obtain⟨c,_,hb⟩:=Aj h.own hy;exact .inr hb
 .rcases gH.1 hm with rfl|hm
  .rw[h.nd]at hb;simp only[aV,fE]at hb;exact absurd hb.2.1 (by decide)
  .obtain⟨c,hc⟩:=jJ b hm;rw[hb]at hc;simp only[aV,fE]at hc;exact absurd hc.2.1 (by decide)
 .rcases gH.1 hm with rfl|hm
  .rw[h.nd]at hc;simp only[aV,fE]at hc;exact absurd hc.2.1 (by decide)
  .rw[aat]at hm;exact np nd (amf hq) x hx hm
 .simp only[aK,aV]at e;subst e;rcases KO with e|e
  .exact np nd hn _ hx e
  .have:=aN nd hn _ hx;omega
theorem gu.plt{w:ay}(t:gu w ns Ls):∀nd∈ns,∀x,nd.pv.ownBlock=some x->x<w.heap.size:=fun nd hn x hx=>by
 obtain⟨k,hk⟩:=List.getElem?_of_mem hn
 rcases t.ok k nd hk with⟨_,h0,_⟩|⟨_,ps,h1,_⟩
 .rw[h0]at hx;simp[aK]at hx
 .obtain⟨c,hc,_⟩:=Aj h1 hx
  exact aE hc
theorem amQ{w:ay}{v:aq}{xs:List aq}(h:w.ownsRow base 3 1 v n xs):w.ownsRow 0 3 1 v n xs:=by
 refine⟨h.1,?_⟩;rcases h.2 with a|⟨g,cap,cur,a,_,b⟩
 .exact .inl a
 .exact .inr ⟨g,cap,cur,a,bU _,b⟩
theorem Mb(s:ByteArray)(i e pl:Int)(r:Nat)(nv:aq)(ns:List ND)(kd:Nat)(pv:aq)(ps:List Nat)(w:ay)(h:eu w s i e pl r nv ns)(hn:(ae ns)<1000){base:Nat}(own:w.ownsRow base 3 1 pv (ae ps) (dy ps)):aI aB 36 #[.pointer (some ⟨r,0,none⟩),.agg #[.int .u8 kd,.slice none 0 0,pv,.int .i64 0]] w fun x w'=>x=.returned (.int .i64 (ae ns))/\∃cY,eu w' s i e pl r cY (ns ++ [⟨kd,.slice none 0 0,pv⟩])/\Kp (fe r nv) w w'/\(∀g∈fe r cY,g∈fe r nv\/w.heap.size<=g)/\(∀Lc L,gu w ns Lc->(∀p∈ps,p<ae ns)->((tI L.2.1 (ps.map fun p=>Lc.getD p cK) (ae ns)/\L.2.2=ae ns+1)/\((kd=99/\L.1=mJ (ps.map fun p=>Lc.getD p cK))\/(kd=97/\L.1=xb (ps.map fun p=>Lc.getD p cK)/\ps≠[])\/(∃p,ps=[p]/\(kd=42\/kd=43\/kd=63)/\L.1=qD kd (Lc.getD p cK).1)))->gu w' (ns ++ [⟨kd,.slice none 0 0,pv⟩]) (Lc ++ [L]))/\(∀B,(∀g,pv.ownBlock=some g->B<=g)->ny B [⟨kd,.slice none 0 0,pv⟩]):=by
 have h1:pv.oneCell'=true:=by
  rcases own.2 with⟨rfl,_⟩|⟨g,cap,cur,rfl,_⟩<;>rfl
 refine(ace s i e pl r nv ns ⟨kd,.slice none 0 0,pv⟩ w h hn rfl h1).mono ?_;rintro _ w' ⟨rfl,cY,a1,a2,a3⟩;refine⟨rfl,cY,a1,a2,a3,fun Lc L t hp hk=>(t.snoc (.inr ⟨rfl,ps,amQ own,hp,hk⟩)).keep a2 h.far,fun B hB nd hn g hg=>?_⟩;simp only[bQ]at hn;subst hn;exact hB g hg
theorem ab6{w:ay}{b:Nat}(h:w.heap[b]?=some (.cells #[.int .i64 k] 3 (0,0))):w.ownsRow 0 3 1 (.slice (some ⟨b,0,none⟩) 1 1) [k].length (dy [k]) :=
 ⟨rfl,.inr ⟨b,1,_,rfl,bU _,h,by simp,by decide,rfl,rfl⟩⟩
theorem abH:(aB.info? 3).map (fun i=>(i.zero,i.size,i.bytes))=some (some (.int .i64 0),1,8):=by kernel_rfl
theorem am4(h:k<ae Ls):(Ls++Lm).getD k cK=Ls.getD k cK:=by
 rw[aO,aO,iI h]
theorem Ug(h:∀p∈ps,p<ae Ls):(ps.map fun p=>(Ls++Lm).getD p cK)=ps.map fun p=>Ls.getD p cK:=aam fun p hp=>am4 (h p hp)
end
section
variable{s:ByteArray}{r:Nat}
theorem Jb(a:Nat):∀k,k<=a->dY a k=0:=UC a
theorem Jc(a k:Nat)(h:a<=k):dY a (k+1)=dY a k ||| (1 <<< k):=by rw[dY,aA h]
def ads(RR:PR Nat)(s:ByteArray)(r:Nat)(nv:aq)(b:Nat)(w:ay)(f:aq)(w':ay):Prop :=
 ∃l:List Bool,ae l=256/\w'.heap[b]?=some (aW l)/\Kp [r] w w' /\
  ((∃(f0:Bool) (j n acc:Nat),f=.bool f0/\l=js acc/\w'.heap[r]?=some (fh s j 0 0 nv 0)/\j<=s.size/\s.size-j<n/\(f0=true->RR=gg s n acc j)/\(f0=false->RR=jx s n acc j/\gt s j≠0)) \/
   (∃iv:Int,f=.bool false/\RR.err≠0/\w'.heap[r]?=some (fh s iv RR.err RR.pl nv 0)))
def CH(s:ByteArray)(r:Nat)(w':ay):Nat :=
 if aG ((w'.cell? ⟨r,2,none⟩).getD eT)=0 then s.size+1-(aG ((w'.cell? ⟨r,1,none⟩).getD eT)).toNat else 0
theorem CJ{w:ay}{j:Nat}{nv:aq}(h:w.heap[r]?=some (fh s j 0 0 nv 0)):CH s r w=s.size+1-j:=by
 obtain⟨_,c1,c2,_⟩:=dM h;simp[CH,c1,c2,aG]
theorem nw{w:ay}{i e pl:Int}{nv:aq}(h:w.heap[r]?=some (fh s i e pl nv 0))(he:e≠0):CH s r w=0:=by
 obtain⟨_,_,c2,_⟩:=dM h;simp[CH,c2,aG,he]
def aax(R:PR Nat)(s:ByteArray)(r:Nat)(nv:aq)(w:ay)(x:Ending)(w':ay):Prop :=
 x=.returned (.slice (some ⟨w.heap.size,0,none⟩) 256 256)/\∃(iv:Int) (l:List Bool),ae l=256/\w'.heap[w.heap.size]?=some (aW l)/\w'.heap[r]?=some (fh s iv R.err R.pl nv 0)/\Kp [r] w w'/\(R.err=0->iv=R.j/\l=js R.v)
theorem ai9(s:Nat):(js s).map (fun b=>!b)=js (kZ s):=by
 apply Qw
 .simp only[mX,kC]
 .intro i h1 h2;have hi:i<256:=by rw[kC]at h2;exact h2
  simp only[js,Vp,ah9,Rx,hi,decide_true,Bool.true_and]
def vV(l:List Bool):Nat->List Bool
 |0=>l
 |k+1=>(vV l k).set k (!(l.getD k false))
theorem Fy(l:List Bool):∀k,(vV l k).length=ae l
 |0=>rfl
 |k+1=>by rw[vV,mq];exact Fy l k
theorem abK(l:List Bool):∀k q,k<=ae l->q<ae l->(vV l k).getD q false=if q<k then !(l.getD q false) else l.getD q false:=by
 intro k;induction k with
 |zero=>intro q _ _;simp[vV]
 |succ k ih =>
  intro q hk hq;have hl:=Fy l k;rw[vV];by_cases h:q=k
  .subst h;rw[aO,GH (by omega),nV,aA (by omega)]
  .rw[aO,zo (fun e=>h e.symm),<-aO,ih q (by omega) hq];by_cases h2:q<k
   .rw[aA h2,aA (by omega)]
   .rw[az h2,az (by omega)]
theorem alB(l:List Bool):vV l (ae l)=l.map (fun b=>!b):=by
 apply Qw
 .rw[Fy,mX]
 .intro i h1 h2;rw[Fy]at h1;have:=abK l (ae l) i (aH _) h1;rw[aA h1,aO,bD (by rw[Fy];exact h1),nV,aO,bD h1,nV]at this;rw[Vp];exact this
theorem anS(s:ByteArray)(i r:Nat)(nv:aq)(w:ay)(h:w.heap[r]?=some (fh s i 0 0 nv 0))(hz:Nz s)(hi:i<=s.size)(hs:s.size<=16)(hg:gt s i≠94):aI aB 77 #[.pointer (some ⟨r,0,none⟩)] w (aax (gG s i) s r nv w):=by
 have H:=aj h;have hr:=aE h;have iV:w.heap.size≠r:=(by omega);have hm:=Yt;have hq:ax (gG s i=gg s 20 0 i):=by show _=_;rw[gG,az hg]
 have q94:((gt s i:Int) == 94)=false:=by simp;omega
 generalize gG s i=RS at *;generalize hQ:gg s 20 0 i=RR at *;have HQ:=aj hQ;clear h hQ;go_enter Tryz.func77,Tryz.ntmps77;go_upto_region 2 with fail;have kW:Kp [r] w (w.alloc (aW (fl 256))):=(Kp.refl _ _).alloc _;have bW:(w.alloc (aW (fl 256))).heap[w.heap.size]?=some (aW (fl 256)):=(by rw[aC,aA rfl]);have hW:(w.alloc (aW (fl 256))).heap[r]?=some (fh s i 0 0 nv 0):=by rw[aC,az (bY hr)];exact H.o
 generalize w.alloc (aW (fl 256))=W at *;obtain⟨KW,BW,HW⟩:=cR kW bW hW;obtain⟨wq0,wq1,wq2,wq3,wq4,wq5,_,acO,_⟩:=dM hW;clear kW bW hW hm;go_wp2_with fail;refine(iE s i r 0 0 nv _ (by exact HW.o)).mono ?_;rintro _ w1 ⟨rfl,n1,rfl⟩;go_wp2_with fail;clear wq0 wq1 wq2 wq3 wq4 wq5 acO;go_loopw [5] (fun f w'=>ads RR s r nv w.heap.size w f w') (fun _ w'=>CH s r w')
 case atStart =>
  exact⟨fl 256,yE _,BW.o,KW.o.drewN n1,.inl ⟨true,i,20,0,rfl,aaL.symm,HW.o,hi,by omega,fun _=>HQ.o.symm,fun e=>by cases e⟩⟩
 case round =>
  obtain⟨l,hl,bb,kk,⟨f0,j,n,acc,rfl,zP,rd,hj,hn,t1,t2⟩|⟨iv,rfl,he,rd⟩⟩:=hrel
  ·(obtain⟨m,rfl⟩:∃m,n=m+1:=⟨n-1,by omega⟩);have MU:ax (CH s r wr=s.size+1-j):=CJ rd;cases f0
   .obtain⟨tR,tg⟩:=t2 rfl;have pP:=aj rd;obtain⟨fH,fI,fJ,fK,fL,fM,_,fN,fO,fP,_,_⟩:=dM rd;have Pm:=aj bb;have Qp:=aj kk;clear rd bb kk t1 t2;go_wp2_with fail;refine(iE s j r 0 0 nv _ (by exact pP.o)).mono ?_;rintro _ w1 ⟨rfl,n0,rfl⟩;by_cases BV:gt s j=93
    .rw[BV];have cN:RR=good (j+1) acc:=(by rw[tR,jx,az tg,aA BV]);have fT:=aj cN;have DP:=nO j (by omega);clear BV tR tg cN;go_wp2;go_ret;refine⟨rfl,((j+1:Nat):Int),l,hl,?_,?_,(Qp.o.drewN n0).set (.inl (by simp)) _ _,fun _=>?_⟩
     .rw[aQ,az iV];exact Pm.o
     .rw[hq.o,fT.o];exact uc (j:=(j+1:Nat)) (by exact pP.o)
     .rw[hq.o,fT.o];exact⟨rfl,zP⟩
    ·(have akp:((gt s j:Int) != 93)=true:=by simp;omega);have kI:ax (RR=if (dz s j).err≠0 then dz s j else jx s m (acc ||| (dz s j).v) (dz s j).j):=by
      show _=_;rw[tR,jx,az tg,az BV,CE]
     have RD:ax ((wr.drewN n0).heap[r]?=some (fh s j 0 0 nv 0)):=pP.o;have BB:ax ((wr.drewN n0).heap[w.heap.size]?=some (aW l)):=Pm.o;have KK:ax (Kp [r] w (wr.drewN n0)):=Qp.o.drewN n0;clear fH fI fJ fK fL fM fN fO fP;clear BV tR tg;obtain⟨fH,fI,fJ,fK,fL,fM,_,fN,fO,fP,_,_⟩:=dM RD.o;go_wp2_with fail;refine(I8 s j r nv _ (by exact RD.o) hj hs).mono ?_;rintro _ w2 ⟨v,i2,rfl,hv,h2,k2,iW⟩;have sh:=An s j hz;have K2:ax (Kp [r] w w2):=KK.o.trans k2 (by simp);have B2:=aj (k2.keep BB.o (by simp[iV]));(have B7:dz s j=if (bI s j).err≠0 then bI s j else if gt s (bI s j).j=45 then(if (bI s (((bI s j).j)+1)).err≠0 then bI s ((bI s j).j+1) else if (bI s ((bI s j).j+1)).v<(bI s j).v then de s 6 j 0 else good (bI s ((bI s j).j+1)).j (dY (bI s j).v ((bI s ((bI s j).j+1)).v+1))) else good (bI s j).j (dY (bI s j).v ((bI s j).v+1)):=rfl);generalize bI s j=A at *;have HIT:=aj B7;clear fH fI fJ fK fL fM fN fO fP;clear B7 k2 BB KK;rcases sh with⟨a1,a2,a3,a4,a5⟩|⟨a1,a2,a3⟩
     .obtain⟨e1,e2⟩:=iW a1;subst e1;rw[a1,a2,e2]at h2;have H2:=aj h2;obtain⟨fH,fI,fJ,fK,fL,fM,_,fN,fO,fP,_,_⟩:=dM h2;clear h2 iW e2;go_wp2_with fail;refine(iE s A.j r 0 0 nv _ (by exact H2.o)).mono ?_;rintro _ w3 ⟨rfl,n3,rfl⟩;by_cases oQ:gt s A.j=45
      .rw[oQ];(have KG:A.j+1<=s.size:=by have:=hz A.j;omega);have Iv:=nO A.j (by omega);have H3:ax (((w2.drewN n3).setCell ⟨r,1,none⟩ (.int .i64 (A.j+1:Nat))).heap[r]?=some (fh s (A.j+1:Nat) 0 0 nv 0)):=uc (by exact H2.o);have K3:ax (Kp [r] w ((w2.drewN n3).setCell ⟨r,1,none⟩ (.int .i64 (A.j+1:Nat)))):=(K2.o.drewN n3).set (.inl (by simp)) _ _;(have B3:ax (((w2.drewN n3).setCell ⟨r,1,none⟩ (.int .i64 (A.j+1:Nat))).heap[w.heap.size]?=some (aW l)):=by show _=_;rw[aQ,az iV];exact B2.o);have HG:=aj oQ;clear oQ;go_wp2_with fail;refine(I8 s (A.j+1) r nv _ (by exact H3.o) KG hs).mono ?_;rintro _ w4 ⟨v4,i4,rfl,Ol,h4,k4,vX⟩;have Mo:=An s (A.j+1) hz;have KK:ax (Kp [r] w w4):=K3.o.trans k4 (by simp);have BB:=aj (k4.keep (by exact B3.o) (by simp[iV]));generalize bI s (A.j+1)=B at *;clear fH fI fJ fK fL fM fN fO fP;clear k4 K3 B3 H3;rcases Mo with⟨b1,b2,b3,b4,b5⟩|⟨b1,b2,b3⟩
       .obtain⟨e1,e2⟩:=vX b1;subst e1;rw[b1,b2,e2]at h4;have H4:=aj h4;obtain⟨fH,fI,fJ,fK,fL,fM,_,fN,fO,fP,_,_⟩:=dM h4;clear h4 vX e2;by_cases aN:B.v<A.v
        .have gU:(B.v:Int)<A.v:=(by omega);have hI:dz s j=de s 6 j 0:=(by rw[HIT.o,az (by simp[a1]),aA HG.o,az (by simp[b1]),aA aN]);have cN:RR=de s 6 j 0:=(by rw[kI.o,hI,aA (by simp[de])]);clear hI;(have RE:ax (RR.err=6):=by show _=_;rw[cN];rfl);(have RP:ax (RR.pl=j):=by show _=_;rw[cN];rfl);(have HE:ax ((6:Int)≠0):=by show _≠_;decide);clear cN aN;go_wp2_with fail;refine(rH s B.j r 0 0 6 j nv _ (by exact H4.o)).mono ?_;rintro _ w5 ⟨rfl,h5,k5⟩;have HH:=aj h5;have JS:ax (Kp [r] w w5):=KK.o.trans k5 (by simp);have Jk:=aj (k5.keep BB.o (by simp[iV]));clear KK BB;have KK:=JS;have BB:=Jk;clear fH fI fJ fK fL fM fN fO fP;obtain⟨fH,fI,fJ,fK,fL,fM,_,fN,fO,fP,_,_⟩:=dM HH.o;have mM:¬((A.v:Int)<=B.v):=(by omega);clear h5 k5 gU;go_wp2_with fail;(go_rounds 1);refine⟨⟨l,hl,BB.o,KK.o,.inr ⟨_,rfl,by rw[RE.o];exact HE.o,by rw[RE.o,RP.o];exact HH.o⟩⟩,?_⟩;rw[MU.o,nw HH.o HE.o];omega
        .have hPv:A.v<=B.v:=(by omega);have oJ:ax (RR=jx s m (acc ||| dY A.v (B.v+1)) B.j):=by
          have hI:dz s j=good B.j (dY A.v (B.v+1)):=(by rw[HIT.o,az (by simp[a1]),aA HG.o,az (by simp[b1]),az aN]);show _=_;rw[kI.o,hI,az (by simp[good])];rfl
         have gU:¬((B.v:Int)<A.v):=(by omega);have KI:j<B.j:=(by omega);have vL:B.j<=s.size:=b4;have HH:=H4;have hhi:B.v<256:=b5;rw[zP]at BB;clear aN kI HIT;generalize B.j=P at *;generalize lu:A.v=lo at *;generalize abm:B.v=hi at *;go_wp2_with fail;go_loopw [9] (fun c w'=>∃k:Nat,lo<=k/\k<=hi+1/\c=.int .i64 k/\w'.heap[w.heap.size]?=some (aW (js (acc ||| dY lo k)))/\w'.heap[r]?=some (fh s P 0 0 nv 0)/\Kp [r] w w') (fun c _=>hi+1-(aG c).toNat)
         case atStart =>
          refine⟨lo,aH _,by omega,by go_num,?_,HH.o,KK.o⟩;rw[Jb lo lo (aH _),zq];exact BB.o
         case round =>
          clear fH fI fJ fK fL fM fN fO fP;obtain⟨k,jt,jk,rfl,bk,rk,kk⟩:=hrel;obtain⟨fH,fI,fJ,fK,fL,fM,_,fN,fO,fP,_,_⟩:=dM rk;obtain⟨RK,BK,fF⟩:=cR rk bk kk;clear rk kk;by_cases iu:k<=hi
          .have ck:=gz bk k (by rw[kC];omega);have fk:=kJ bk k;have mM:(k:Int)<=hi:=(by omega);have Ld:(k:Int)<256:=(by omega);clear bk;go_wp2;refine⟨⟨k+1,by omega,by omega,by go_num,?_,?_,fF.o.set (.inr (aH _)) _ _⟩,by simp[aG];omega⟩
           .rw[nF BK.o k true,E2 _ k (by omega),Jc lo k jt,wN]
           .rw[aQ,az (Ne.symm iV)];exact RK.o
          .have l8:k=hi+1:=(by omega);have ve:=aj l8;have mM:¬((k:Int)<=hi):=(by omega);clear bk l8;go_wp2_with fail;refine(iE s P r 0 0 nv _ (by exact RK.o)).mono ?_;rintro _ w5 ⟨rfl,n5,rfl⟩;by_cases gP:gt s P=0
           .rw[gP];have GP:=aj gP;clear gP;go_wp2_with fail;refine(rH s P r 0 0 4 s.size nv _ (by exact RK.o)).mono ?_;rintro _ w6 ⟨rfl,h6,k6⟩;have H6:=aj h6;have K6:ax (Kp [r] w w6):=(fF.o.drewN n5).trans k6 (by simp);have B6:=aj (k6.keep (by exact BK.o) (by simp[iV]));have cN:RR=de s 4 s.size 0:=(by rw[oJ.o,jx,aA GP.o]);have fT:=aj cN;clear h6 k6 cN;go_wp2;refine⟨⟨_,kC _,B6.o,K6.o,.inr ⟨_,rfl,by rw[fT.o];simp[de],by rw[fT.o];exact H6.o⟩⟩,?_⟩;rw[MU.o,nw H6.o (by decide)];omega
           ·(have Kz:((gt s P:Int) == 0)=false:=by simp;omega);have GP:=aj gP;clear gP;go_wp2;refine⟨⟨_,kC _,BK.o,fF.o.drewN n5,.inl ⟨false,P,m,_,rfl,rfl,RK.o,vL,by omega,(fun e=>by cases e),fun _=>⟨by rw[oJ.o,ve.o],GP.o⟩⟩⟩,?_⟩;rw[MU.o,CJ (by exact RK.o)];omega
       .have hI:dz s j=B:=(by rw[HIT.o,az (by simp[a1]),aA HG.o,aA b1]);have cN:RR=B:=(by rw[kI.o,hI,aA b1]);clear hI;(have RE:ax (RR.err=B.err):=by show _=_;rw[cN]);(have RP:ax (RR.pl=B.pl):=by show _=_;rw[cN]);have HE:=aj b1;have HH:=aj h4;obtain⟨fH,fI,fJ,fK,fL,fM,_,fN,fO,fP,_,_⟩:=dM h4;(have DB:(B.err == 0)=false:=by simp[b1]);clear cN h4 vX b1;by_cases iu:A.v<=v4
        .have mM:(A.v:Int)<=v4:=(by omega);clear iu;go_wp2_with fail;(go_rounds 1);refine⟨⟨l,hl,BB.o,KK.o,.inr ⟨_,rfl,by rw[RE.o];exact HE.o,by rw[RE.o,RP.o];exact HH.o⟩⟩,?_⟩;rw[MU.o,nw HH.o HE.o];omega
        .have mM:¬((A.v:Int)<=v4):=(by omega);clear iu;go_wp2_with fail;(go_rounds 1);refine⟨⟨l,hl,BB.o,KK.o,.inr ⟨_,rfl,by rw[RE.o];exact HE.o,by rw[RE.o,RP.o];exact HH.o⟩⟩,?_⟩;rw[MU.o,nw HH.o HE.o];omega
      ·(have abc:((gt s A.j:Int) == 45)=false:=by simp;omega);have oJ:ax (RR=jx s m (acc ||| dY A.v (A.v+1)) A.j):=by
        have hI:dz s j=good A.j (dY A.v (A.v+1)):=(by rw[HIT.o,az (by simp[a1]),az oQ]);show _=_;rw[kI.o,hI,az (by simp[good])];rfl
       have KI:j<A.j:=a3;have vL:A.j<=s.size:=a4;have HH:ax ((w2.drewN n3).heap[r]?=some (fh s A.j 0 0 nv 0)):=H2.o;have KK:ax (Kp [r] w (w2.drewN n3)):=K2.o.drewN n3;(have BB:ax ((w2.drewN n3).heap[w.heap.size]?=some (aW (js acc))):=by show _=_;rw[<-zP];exact B2.o);generalize lu:A.v=lo at *;have hi:Nat:=lo;clear hi oQ kI HIT;generalize A.j=P at *;go_wp2_with fail;go_loopw [9] (fun c w'=>∃k:Nat,lo<=k/\k<=lo+1/\c=.int .i64 k/\w'.heap[w.heap.size]?=some (aW (js (acc ||| dY lo k)))/\w'.heap[r]?=some (fh s P 0 0 nv 0)/\Kp [r] w w') (fun c _=>lo+1-(aG c).toNat)
       case atStart =>
        refine⟨lo,aH _,by omega,by go_num,?_,HH.o,KK.o⟩;rw[Jb lo lo (aH _),zq];exact BB.o
       case round =>
        clear fH fI fJ fK fL fM fN fO fP;obtain⟨k,jt,jk,rfl,bk,rk,kk⟩:=hrel;obtain⟨fH,fI,fJ,fK,fL,fM,_,fN,fO,fP,_,_⟩:=dM rk;obtain⟨RK,BK,fF⟩:=cR rk bk kk;clear rk kk;by_cases iu:k<=lo
        .have ck:=gz bk k (by rw[kC];omega);have fk:=kJ bk k;have mM:(k:Int)<=lo:=(by omega);have Ld:(k:Int)<256:=(by omega);clear bk;go_wp2;refine⟨⟨k+1,by omega,by omega,by go_num,?_,?_,fF.o.set (.inr (aH _)) _ _⟩,by simp[aG];omega⟩
         .rw[nF BK.o k true,E2 _ k (by omega),Jc lo k jt,wN]
         .rw[aQ,az (Ne.symm iV)];exact RK.o
        .have l8:k=lo+1:=(by omega);have ve:=aj l8;have mM:¬((k:Int)<=lo):=(by omega);clear bk l8;go_wp2_with fail;refine(iE s P r 0 0 nv _ (by exact RK.o)).mono ?_;rintro _ w5 ⟨rfl,n5,rfl⟩;by_cases gP:gt s P=0
         .rw[gP];have GP:=aj gP;clear gP;go_wp2_with fail;refine(rH s P r 0 0 4 s.size nv _ (by exact RK.o)).mono ?_;rintro _ w6 ⟨rfl,h6,k6⟩;have H6:=aj h6;have K6:ax (Kp [r] w w6):=(fF.o.drewN n5).trans k6 (by simp);have B6:=aj (k6.keep (by exact BK.o) (by simp[iV]));have cN:RR=de s 4 s.size 0:=(by rw[oJ.o,jx,aA GP.o]);have fT:=aj cN;clear h6 k6 cN;go_wp2;refine⟨⟨_,kC _,B6.o,K6.o,.inr ⟨_,rfl,by rw[fT.o];simp[de],by rw[fT.o];exact H6.o⟩⟩,?_⟩;rw[MU.o,nw H6.o (by decide)];omega
         ·(have Kz:((gt s P:Int) == 0)=false:=by simp;omega);have GP:=aj gP;clear gP;go_wp2;refine⟨⟨_,kC _,BK.o,fF.o.drewN n5,.inl ⟨false,P,m,_,rfl,rfl,RK.o,vL,by omega,(fun e=>by cases e),fun _=>⟨by rw[oJ.o,ve.o],GP.o⟩⟩⟩,?_⟩;rw[MU.o,CJ (by exact RK.o)];omega
     .have hI:dz s j=A:=(by rw[HIT.o,aA a1]);have cN:RR=A:=(by rw[kI.o,hI,aA a1]);clear hI;(have RE:ax (RR.err=A.err):=by show _=_;rw[cN]);(have RP:ax (RR.pl=A.pl):=by show _=_;rw[cN]);have HE:=aj a1;have H2:=aj h2;obtain⟨fH,fI,fJ,fK,fL,fM,_,fN,fO,fP,_,_⟩:=dM h2;(have Sp:(A.err == 0)=false:=by simp[a1]);clear cN h2 iW;go_wp2_with fail;refine(D1 s i2 r A.err A.pl 0 nv _ (by exact H2.o) HE.o).mono ?_;rintro _ w3 ⟨rfl,n3,rfl⟩;have HH:ax ((w2.drewN n3).heap[r]?=some (fh s i2 A.err A.pl nv 0)):=H2.o;have KK:ax (Kp [r] w (w2.drewN n3)):=K2.o.drewN n3;have BB:ax ((w2.drewN n3).heap[w.heap.size]?=some (aW l)):=B2.o;clear a1;go_wp2_with fail;(go_rounds 1);refine⟨⟨l,hl,BB.o,KK.o,.inr ⟨_,rfl,by rw[RE.o];exact HE.o,by rw[RE.o,RP.o];exact HH.o⟩⟩,?_⟩;rw[MU.o,nw HH.o HE.o];omega
   .have tR:=t1 rfl;have kI:ax (RR=if (dz s j).err≠0 then dz s j else jx s m (acc ||| (dz s j).v) (dz s j).j):=by
     show _=_;rw[tR,CE]
    obtain⟨RD,BB,KK⟩:=cR rd bb kk;clear rd bb kk t1 t2 tR;obtain⟨fH,fI,fJ,fK,fL,fM,_,fN,fO,fP,_,_⟩:=dM RD.o;go_wp2_with fail;refine(I8 s j r nv _ (by exact RD.o) hj hs).mono ?_;rintro _ w2 ⟨v,i2,rfl,hv,h2,k2,iW⟩;have sh:=An s j hz;have K2:ax (Kp [r] w w2):=KK.o.trans k2 (by simp);have B2:=aj (k2.keep BB.o (by simp[iV]));(have B7:dz s j=if (bI s j).err≠0 then bI s j else if gt s (bI s j).j=45 then(if (bI s (((bI s j).j)+1)).err≠0 then bI s ((bI s j).j+1) else if (bI s ((bI s j).j+1)).v<(bI s j).v then de s 6 j 0 else good (bI s ((bI s j).j+1)).j (dY (bI s j).v ((bI s ((bI s j).j+1)).v+1))) else good (bI s j).j (dY (bI s j).v ((bI s j).v+1)):=rfl);generalize bI s j=A at *;have HIT:=aj B7;clear fH fI fJ fK fL fM fN fO fP;clear B7 k2 BB KK;rcases sh with⟨a1,a2,a3,a4,a5⟩|⟨a1,a2,a3⟩
    .obtain⟨e1,e2⟩:=iW a1;subst e1;rw[a1,a2,e2]at h2;have H2:=aj h2;obtain⟨fH,fI,fJ,fK,fL,fM,_,fN,fO,fP,_,_⟩:=dM h2;clear h2 iW e2;go_wp2_with fail;refine(iE s A.j r 0 0 nv _ (by exact H2.o)).mono ?_;rintro _ w3 ⟨rfl,n3,rfl⟩;by_cases oQ:gt s A.j=45
     .rw[oQ];(have KG:A.j+1<=s.size:=by have:=hz A.j;omega);have Iv:=nO A.j (by omega);have H3:ax (((w2.drewN n3).setCell ⟨r,1,none⟩ (.int .i64 (A.j+1:Nat))).heap[r]?=some (fh s (A.j+1:Nat) 0 0 nv 0)):=uc (by exact H2.o);have K3:ax (Kp [r] w ((w2.drewN n3).setCell ⟨r,1,none⟩ (.int .i64 (A.j+1:Nat)))):=(K2.o.drewN n3).set (.inl (by simp)) _ _;(have B3:ax (((w2.drewN n3).setCell ⟨r,1,none⟩ (.int .i64 (A.j+1:Nat))).heap[w.heap.size]?=some (aW l)):=by show _=_;rw[aQ,az iV];exact B2.o);have HG:=aj oQ;clear oQ;go_wp2_with fail;refine(I8 s (A.j+1) r nv _ (by exact H3.o) KG hs).mono ?_;rintro _ w4 ⟨v4,i4,rfl,Ol,h4,k4,vX⟩;have Mo:=An s (A.j+1) hz;have KK:ax (Kp [r] w w4):=K3.o.trans k4 (by simp);have BB:=aj (k4.keep (by exact B3.o) (by simp[iV]));generalize bI s (A.j+1)=B at *;clear fH fI fJ fK fL fM fN fO fP;clear k4 K3 B3 H3;rcases Mo with⟨b1,b2,b3,b4,b5⟩|⟨b1,b2,b3⟩
      .obtain⟨e1,e2⟩:=vX b1;subst e1;rw[b1,b2,e2]at h4;have H4:=aj h4;obtain⟨fH,fI,fJ,fK,fL,fM,_,fN,fO,fP,_,_⟩:=dM h4;clear h4 vX e2;by_cases aN:B.v<A.v
       .have gU:(B.v:Int)<A.v:=(by omega);have hI:dz s j=de s 6 j 0:=(by rw[HIT.o,az (by simp[a1]),aA HG.o,az (by simp[b1]),aA aN]);have cN:RR=de s 6 j 0:=(by rw[kI.o,hI,aA (by simp[de])]);clear hI;(have RE:ax (RR.err=6):=by show _=_;rw[cN];rfl);(have RP:ax (RR.pl=j):=by show _=_;rw[cN];rfl);(have HE:ax ((6:Int)≠0):=by show _≠_;decide);clear cN aN;go_wp2_with fail;refine(rH s B.j r 0 0 6 j nv _ (by exact H4.o)).mono ?_;rintro _ w5 ⟨rfl,h5,k5⟩;have HH:=aj h5;have JS:ax (Kp [r] w w5):=KK.o.trans k5 (by simp);have Jk:=aj (k5.keep BB.o (by simp[iV]));clear KK BB;have KK:=JS;have BB:=Jk;clear fH fI fJ fK fL fM fN fO fP;obtain⟨fH,fI,fJ,fK,fL,fM,_,fN,fO,fP,_,_⟩:=dM HH.o;have mM:¬((A.v:Int)<=B.v):=(by omega);clear h5 k5 gU;go_wp2_with fail;(go_rounds 1);refine⟨⟨l,hl,BB.o,KK.o,.inr ⟨_,rfl,by rw[RE.o];exact HE.o,by rw[RE.o,RP.o];exact HH.o⟩⟩,?_⟩;rw[MU.o,nw HH.o HE.o];omega
       .have hPv:A.v<=B.v:=(by omega);have oJ:ax (RR=jx s m (acc ||| dY A.v (B.v+1)) B.j):=by
         have hI:dz s j=good B.j (dY A.v (B.v+1)):=(by rw[HIT.o,az (by simp[a1]),aA HG.o,az (by simp[b1]),az aN]);show _=_;rw[kI.o,hI,az (by simp[good])];rfl
        have gU:¬((B.v:Int)<A.v):=(by omega);have KI:j<B.j:=(by omega);have vL:B.j<=s.size:=b4;have HH:=H4;have hhi:B.v<256:=b5;rw[zP]at BB;clear aN kI HIT;generalize B.j=P at *;generalize lu:A.v=lo at *;generalize abm:B.v=hi at *;go_wp2_with fail;go_loopw [9] (fun c w'=>∃k:Nat,lo<=k/\k<=hi+1/\c=.int .i64 k/\w'.heap[w.heap.size]?=some (aW (js (acc ||| dY lo k)))/\w'.heap[r]?=some (fh s P 0 0 nv 0)/\Kp [r] w w') (fun c _=>hi+1-(aG c).toNat)
        case atStart =>
         refine⟨lo,aH _,by omega,by go_num,?_,HH.o,KK.o⟩;rw[Jb lo lo (aH _),zq];exact BB.o
        case round =>
         clear fH fI fJ fK fL fM fN fO fP;obtain⟨k,jt,jk,rfl,bk,rk,kk⟩:=hrel;obtain⟨fH,fI,fJ,fK,fL,fM,_,fN,fO,fP,_,_⟩:=dM rk;obtain⟨RK,BK,fF⟩:=cR rk bk kk;clear rk kk;by_cases iu:k<=hi
         .have ck:=gz bk k (by rw[kC];omega);have fk:=kJ bk k;have mM:(k:Int)<=hi:=(by omega);have Ld:(k:Int)<256:=(by omega);clear bk;go_wp2;refine⟨⟨k+1,by omega,by omega,by go_num,?_,?_,fF.o.set (.inr (aH _)) _ _⟩,by simp[aG];omega⟩
          .rw[nF BK.o k true,E2 _ k (by omega),Jc lo k jt,wN]
          .rw[aQ,az (Ne.symm iV)];exact RK.o
         .have l8:k=hi+1:=(by omega);have ve:=aj l8;have mM:¬((k:Int)<=hi):=(by omega);clear bk l8;go_wp2_with fail;refine(iE s P r 0 0 nv _ (by exact RK.o)).mono ?_;rintro _ w5 ⟨rfl,n5,rfl⟩;by_cases gP:gt s P=0
          .rw[gP];have GP:=aj gP;clear gP;go_wp2_with fail;refine(rH s P r 0 0 4 s.size nv _ (by exact RK.o)).mono ?_;rintro _ w6 ⟨rfl,h6,k6⟩;have H6:=aj h6;have K6:ax (Kp [r] w w6):=(fF.o.drewN n5).trans k6 (by simp);have B6:=aj (k6.keep (by exact BK.o) (by simp[iV]));have cN:RR=de s 4 s.size 0:=(by rw[oJ.o,jx,aA GP.o]);have fT:=aj cN;clear h6 k6 cN;go_wp2;refine⟨⟨_,kC _,B6.o,K6.o,.inr ⟨_,rfl,by rw[fT.o];simp[de],by rw[fT.o];exact H6.o⟩⟩,?_⟩;rw[MU.o,nw H6.o (by decide)];omega
          ·(have Kz:((gt s P:Int) == 0)=false:=by simp;omega);have GP:=aj gP;clear gP;go_wp2;refine⟨⟨_,kC _,BK.o,fF.o.drewN n5,.inl ⟨false,P,m,_,rfl,rfl,RK.o,vL,by omega,(fun e=>by cases e),fun _=>⟨by rw[oJ.o,ve.o],GP.o⟩⟩⟩,?_⟩;rw[MU.o,CJ (by exact RK.o)];omega
      .have hI:dz s j=B:=(by rw[HIT.o,az (by simp[a1]),aA HG.o,aA b1]);have cN:RR=B:=(by rw[kI.o,hI,aA b1]);clear hI;(have RE:ax (RR.err=B.err):=by show _=_;rw[cN]);(have RP:ax (RR.pl=B.pl):=by show _=_;rw[cN]);have HE:=aj b1;have HH:=aj h4;obtain⟨fH,fI,fJ,fK,fL,fM,_,fN,fO,fP,_,_⟩:=dM h4;(have DB:(B.err == 0)=false:=by simp[b1]);clear cN h4 vX b1;by_cases iu:A.v<=v4
       .have mM:(A.v:Int)<=v4:=(by omega);clear iu;go_wp2_with fail;(go_rounds 1);refine⟨⟨l,hl,BB.o,KK.o,.inr ⟨_,rfl,by rw[RE.o];exact HE.o,by rw[RE.o,RP.o];exact HH.o⟩⟩,?_⟩;rw[MU.o,nw HH.o HE.o];omega
       .have mM:¬((A.v:Int)<=v4):=(by omega);clear iu;go_wp2_with fail;(go_rounds 1);refine⟨⟨l,hl,BB.o,KK.o,.inr ⟨_,rfl,by rw[RE.o];exact HE.o,by rw[RE.o,RP.o];exact HH.o⟩⟩,?_⟩;rw[MU.o,nw HH.o HE.o];omega
     ·(have abc:((gt s A.j:Int) == 45)=false:=by simp;omega);have oJ:ax (RR=jx s m (acc ||| dY A.v (A.v+1)) A.j):=by
       have hI:dz s j=good A.j (dY A.v (A.v+1)):=(by rw[HIT.o,az (by simp[a1]),az oQ]);show _=_;rw[kI.o,hI,az (by simp[good])];rfl
      have KI:j<A.j:=a3;have vL:A.j<=s.size:=a4;have HH:ax ((w2.drewN n3).heap[r]?=some (fh s A.j 0 0 nv 0)):=H2.o;have KK:ax (Kp [r] w (w2.drewN n3)):=K2.o.drewN n3;(have BB:ax ((w2.drewN n3).heap[w.heap.size]?=some (aW (js acc))):=by show _=_;rw[<-zP];exact B2.o);generalize lu:A.v=lo at *;have hi:Nat:=lo;clear hi oQ kI HIT;generalize A.j=P at *;go_wp2_with fail;go_loopw [9] (fun c w'=>∃k:Nat,lo<=k/\k<=lo+1/\c=.int .i64 k/\w'.heap[w.heap.size]?=some (aW (js (acc ||| dY lo k)))/\w'.heap[r]?=some (fh s P 0 0 nv 0)/\Kp [r] w w') (fun c _=>lo+1-(aG c).toNat)
      case atStart =>
       refine⟨lo,aH _,by omega,by go_num,?_,HH.o,KK.o⟩;rw[Jb lo lo (aH _),zq];exact BB.o
      case round =>
       clear fH fI fJ fK fL fM fN fO fP;obtain⟨k,jt,jk,rfl,bk,rk,kk⟩:=hrel;obtain⟨fH,fI,fJ,fK,fL,fM,_,fN,fO,fP,_,_⟩:=dM rk;obtain⟨RK,BK,fF⟩:=cR rk bk kk;clear rk kk;by_cases iu:k<=lo
       .have ck:=gz bk k (by rw[kC];omega);have fk:=kJ bk k;have mM:(k:Int)<=lo:=(by omega);have Ld:(k:Int)<256:=(by omega);clear bk;go_wp2;refine⟨⟨k+1,by omega,by omega,by go_num,?_,?_,fF.o.set (.inr (aH _)) _ _⟩,by simp[aG];omega⟩
        .rw[nF BK.o k true,E2 _ k (by omega),Jc lo k jt,wN]
        .rw[aQ,az (Ne.symm iV)];exact RK.o
       .have l8:k=lo+1:=(by omega);have ve:=aj l8;have mM:¬((k:Int)<=lo):=(by omega);clear bk l8;go_wp2_with fail;refine(iE s P r 0 0 nv _ (by exact RK.o)).mono ?_;rintro _ w5 ⟨rfl,n5,rfl⟩;by_cases gP:gt s P=0
        .rw[gP];have GP:=aj gP;clear gP;go_wp2_with fail;refine(rH s P r 0 0 4 s.size nv _ (by exact RK.o)).mono ?_;rintro _ w6 ⟨rfl,h6,k6⟩;have H6:=aj h6;have K6:ax (Kp [r] w w6):=(fF.o.drewN n5).trans k6 (by simp);have B6:=aj (k6.keep (by exact BK.o) (by simp[iV]));have cN:RR=de s 4 s.size 0:=(by rw[oJ.o,jx,aA GP.o]);have fT:=aj cN;clear h6 k6 cN;go_wp2;refine⟨⟨_,kC _,B6.o,K6.o,.inr ⟨_,rfl,by rw[fT.o];simp[de],by rw[fT.o];exact H6.o⟩⟩,?_⟩;rw[MU.o,nw H6.o (by decide)];omega
        ·(have Kz:((gt s P:Int) == 0)=false:=by simp;omega);have GP:=aj gP;clear gP;go_wp2;refine⟨⟨_,kC _,BK.o,fF.o.drewN n5,.inl ⟨false,P,m,_,rfl,rfl,RK.o,vL,by omega,(fun e=>by cases e),fun _=>⟨by rw[oJ.o,ve.o],GP.o⟩⟩⟩,?_⟩;rw[MU.o,CJ (by exact RK.o)];omega
    .have hI:dz s j=A:=(by rw[HIT.o,aA a1]);have cN:RR=A:=(by rw[kI.o,hI,aA a1]);clear hI;(have RE:ax (RR.err=A.err):=by show _=_;rw[cN]);(have RP:ax (RR.pl=A.pl):=by show _=_;rw[cN]);have HE:=aj a1;have H2:=aj h2;obtain⟨fH,fI,fJ,fK,fL,fM,_,fN,fO,fP,_,_⟩:=dM h2;(have Sp:(A.err == 0)=false:=by simp[a1]);clear cN h2 iW;go_wp2_with fail;refine(D1 s i2 r A.err A.pl 0 nv _ (by exact H2.o) HE.o).mono ?_;rintro _ w3 ⟨rfl,n3,rfl⟩;have HH:ax ((w2.drewN n3).heap[r]?=some (fh s i2 A.err A.pl nv 0)):=H2.o;have KK:ax (Kp [r] w (w2.drewN n3)):=K2.o.drewN n3;have BB:ax ((w2.drewN n3).heap[w.heap.size]?=some (aW l)):=B2.o;clear a1;go_wp2_with fail;(go_rounds 1);refine⟨⟨l,hl,BB.o,KK.o,.inr ⟨_,rfl,by rw[RE.o];exact HE.o,by rw[RE.o,RP.o];exact HH.o⟩⟩,?_⟩;rw[MU.o,nw HH.o HE.o];omega
  .have H1:=aj rd;have HE:=aj he;obtain⟨fH,fI,fJ,fK,fL,fM,_,fN,fO,fP,_,_⟩:=dM rd;(have Sp:(RR.err == 0)=false:=by simp[he]);have BB:=aj bb;have KK:=aj kk;clear rd he bb kk;go_wp2;go_ret;rw[hq.o];exact⟨rfl,_,l,hl,by rw[aQ,az iV];exact BB.o,uc H1.o,KK.o.set (.inl (by simp)) _ _,fun e=>absurd e HE.o⟩
end
section
variable{s:ByteArray}{r j:Nat}
def ahG(R:PR aD)(s:ByteArray)(n i r T:Nat)(nv:aq)(ns:List ND)(Ls:List AN)(w w':ay):Prop :=
 ∃(pv:aq) (ps:List Nat) (cY:aq) (ns':List ND),Lo 99 T pv ps r nv cY w w'/\(ae ps)<=17 /\
  ((∃(L:aD) (j m:Nat) (Lm:List AN) (more:List ND),eu w' s j 0 0 r cY ns'/\ns'=ns++more/\ny w.heap.size more/\gu w' ns' (Ls++Lm)/\NP pv ns'/\i<=j/\j<=s.size/\2*(s.size-j)+2<=m/\m<=n/\R=pp s m 1 L j /\
    (∀p∈ps,p<ae ns')/\(L=mJ (ps.map fun p=>(Ls++Lm).getD p cK)/\tI (ae ns) (ps.map fun p=>(Ls++Lm).getD p cK) (ae ns'))/\(ae ns')<=ae ns+2*(j-i)/\(ae ps)<=j-i) \/
   (∃iv:Int,eu w' s iv R.err R.pl r cY ns'/\R.err≠0/\R.j=s.size/\(ae ns')<=ae ns+2*(s.size-i)))
def aio(st:Nat)(Rr:PR aD)(M:List AN)(s:ByteArray)(r T j1 N1:Nat)(pv:aq)(ps:List Nat)(nv:aq)(ns:List ND)(Ls:List AN)(w:ay)(kv:aq)(w':ay):Prop :=
 ∃(k j2 q:Nat) (L2:aD) (cY:aq) (ns':List ND) (Lm:List AN) (more:List ND),kv=.int .i64 k/\Lo 99 T pv ps r nv cY w w'/\eu w' s j2 0 0 r cY ns'/\ns'=ns++more/\ny w.heap.size more/\gu w' ns' (Ls++Lm)/\NP pv ns' /\
  j1<=j2/\j2<=s.size/\s.size-j2<q/\Rr=iQ s q L2 j2/\k<ae ns'/\(Ls++Lm).getD k cK=(L2,st,ae ns')/\(ae ns')<=N1+(j2-j1)/\(∀p∈ps,p<ae ns')/\(ps.map fun p=>(Ls++Lm).getD p cK)=M
def Md(s:ByteArray)(r:Nat)(w':ay):Nat:=s.size-(aG ((w'.cell? ⟨r,1,none⟩).getD eT)).toNat
theorem Yp{w:ay}{e pl top:Int}{nv:aq}(h:w.heap[r]?=some (fh s j e pl nv top)):Md s r w=s.size-j:=by
 obtain⟨_,c1,_⟩:=dM h;simp[Md,c1,aG]
theorem YB{w:ay}{nv:aq}{ns:List ND}(h:eu w s j 0 0 r nv ns):CH s r w=s.size+1-j:=CJ h.rd
theorem amW(s:ByteArray)(q:Nat)(L:aD)(j:Nat)(kd:Nat)(hk:kd=42\/kd=43\/kd=63)(hg:gt s j=kd):iQ s (q+1) L j=iQ s q (qD kd L) (j+1):=by
 rw[iQ,hg];rcases hk with rfl|rfl|rfl<;>simp[qD]
theorem amU(s:ByteArray)(q:Nat)(L:aD)(j:Nat)(h1:gt s j≠42)(h2:gt s j≠43)(h3:gt s j≠63):iQ s (q+1) L j=good j L:=by
 rw[iQ,az h1,az h2,az h3]
theorem ano(s:ByteArray)(n i r:Nat)(nv:aq)(ns:List ND)(Ls:List AN)(w:ay)(R:PR aD)(hR:R=pp s n 1 aD.aX i)(h:eu w s i 0 0 r nv ns)(t:gu w ns Ls)(hz:Nz s)(hs:s.size<=16)(hi:i<=s.size)(hf:2*(s.size-i)+2<=n)(hn:(ae ns)+2*(s.size-i)<=800)(aeK:∀m,m<n->∀(j:Nat) (cY:aq) (ns':List ND) (Bc:List AN) (w':ay),j<s.size->2*(s.size-j)+1<=m->gt s j≠124->gt s j≠41->i<=j->ae ns'<=ae ns+2*(j-i)->eu w' s j 0 0 r cY ns'->gu w' ns' Bc->aI aB 50 #[.pointer (some ⟨r,0,none⟩)] w' (wR (pp s m 2 aD.aX j) 0 s j r cY ns' Bc w')):aI aB 35 #[.pointer (some ⟨r,0,none⟩)] w (wR R 1 s i r nv ns Ls w):=by
 obtain⟨HS,HT,HR,ZI,HF⟩:=jd h t hR aeK hf;have hr:=aE h.rd;obtain⟨i0,cS,dc,dm,cW⟩:=iw abH;clear h t hR aeK hf;go_enter Tryz.func35,Tryz.ntmps35;go_upto_region 2 with fail;have LW:=aj (Lo.start 99 r nv w HS.o.lt);have SW:=aj (HS.o.kp ((Kp.refl [] w).alloc (yX 99 (.slice none 0 0))) (by simp));have TW:=aj (HT.o.keep ((Kp.refl [] w).alloc (yX 99 (.slice none 0 0))) (kV.nil _));generalize w.alloc (yX 99 (.slice none 0 0))=W at *;generalize WN:w.heap.size=T at *;have HTT:=aj WN;clear WN;go_wp2_with fail;go_loopw [] (fun w'=>ahG R s n i r T nv ns Ls w w') (fun w'=>CH s r w')
 case atStart =>
  refine⟨_,[],nv,ns,LW.o,by simp,.inl ⟨aD.aX,i,n,[],[],SW.o,by simp,(fun _ h=>by cases h),by simpa using TW.o,NP.nil _ _ _,aH _,hi,HF.o,aH _,HR.o,(fun _ h=>by cases h),⟨rfl,rfl⟩,by omega,by simp⟩⟩
 case round =>
  obtain⟨pv,ps,cY,ns',lo,je,⟨L,j,m,Lm,more,st,DJ,oR,tr,np,vN,hj,hm,hmn,hR,fA,hL,dD,hpj⟩|⟨iv,st,he,hRj,dD⟩⟩:=hrel
  ·(obtain⟨m,rfl⟩:∃m',m=m'+1:=⟨m-1,by omega⟩);have MU:=aj (YB st);obtain⟨LO,ST,TR,NPH,JD,AR,JF,HL,Qe⟩:=N7 lo st tr np DJ oR fA hL hR;clear lo st tr np DJ oR fA hL hR;go_wp2_with fail;refine(iE s j r 0 0 cY _ (by exact ST.o.rd)).mono ?_;rintro _ w1 ⟨rfl,n1,rfl⟩;have j6:ax (Lo 99 T pv ps r nv cY w (wr.drewN n1)):=LO.o.drewN n1;have oN:ax (eu (wr.drewN n1) s j 0 0 r cY ns'):=ST.o.kp ((Kp.refl [] wr).drewN n1) (by simp);have EM:ax (gu (wr.drewN n1) ns' (Ls++Lm)):=TR.o.keep ((Kp.refl [] wr).drewN n1) (kV.nil _);generalize wr.drewN n1=W1 at *;by_cases Iq:gt s j=0\/gt s j=124\/gt s j=41
   ·(have cN:ax (R=good j L):=by show _=_;rw[Qe.o,OV,aA Iq]);(have hx:∃g,gt s j=g/\(g=0\/g=124\/g=41):=⟨_,rfl,Iq⟩);obtain⟨IL,IM,FJ,IN,_⟩:=dB j6.o.nd;clear Iq;obtain⟨g,hg,hx⟩:=hx;rw[hg];clear hg;rcases hx with rfl|rfl|rfl
    all_goals
     go_wp2_with fail;refine(Mb s j 0 0 r cY ns' 99 pv ps _ (by exact oN.o) (by omega) (by exact j6.o.own)).mono ?_;rintro _ w2 ⟨rfl,jw,s2,k2,gw,t2,f2⟩;have S2:=aj s2;have K2:ax (Kp (fe r nv) w w2):=j6.o.kp.trans k2 j6.o.fr;(have F2:ax (∀g∈fe r jw,g∈fe r nv\/w.heap.size<=g):=fun g hg=>by rcases gw g hg with e|e;exact j6.o.fr g e;exact .inr (by have:=j6.o.kp.size;omega));have T2:=aj (t2 (Ls++Lm) (L,ae ns,ae ns'+1) EM.o JF.o ⟨⟨HL.o.2,rfl⟩,.inl ⟨rfl,HL.o.1⟩⟩);have FF:ax (ny w.heap.size (more ++ [⟨99,.slice none 0 0,pv⟩])):=AR.o.append (f2 _ (fun g hg=>(Aj j6.o.own hg).choose_spec.2));clear s2 k2 gw t2 f2;go_wp2;go_ret;rw[cN.o];exact⟨(ae ns'),_,jw,_,rfl,S2.o,K2.o,F2.o,by simp[good];omega,fun _=>⟨rfl,Lm ++ [(L,ae ns,ae ns'+1)],more ++ [⟨99,.slice none 0 0,pv⟩],by rw[JD.o,mH],FF.o,by rw[<-mH];exact T2.o,by simp,by rw[<-mH,cx];exact Fc _ _ _ EM.o.len⟩⟩
   ·(have hnz:gt s j≠0:=fun e=>Iq (.inl e));(have Ck:gt s j≠124:=fun e=>Iq (.inr (.inl e)));(have Fl:gt s j≠41:=fun e=>Iq (.inr (.inr e)));(have lY:j<s.size:=by have:=hz j;omega);(have q0:((gt s j:Int) == 0)=false:=by simp;omega);(have q1:((gt s j:Int) == 124)=false:=by simp;omega);(have q2:((gt s j:Int) == 41)=false:=by simp;omega);(have JL:ax (R=if (pp s m 2 aD.aX j).err≠0 then pp s m 2 aD.aX j else pp s m 1 (aD.cat L (iQ s 20 (pp s m 2 aD.aX j).v (pp s m 2 aD.aX j).j).v) (iQ s 20 (pp s m 2 aD.aX j).v (pp s m 2 aD.aX j).j).j):=by show _=_;rw[Qe.o,OV,az Iq]);have hA:=(Ao s hz m).2.2 aD.aX j lY;have iU:=ZI.o m (by omega) j cY ns' (Ls++Lm) W1 lY (by omega) Ck Fl vN dD oN.o EM.o;generalize pp s m 2 aD.aX j=A at *;have zh:=aj iU;have Nd:=aj hA;clear Iq iU hA hnz Ck Fl;go_wp2_with fail;refine zh.o.mono ?_;rintro _ w2 ⟨k,mA,jw,mD,rfl,s2,k2,gw,xG,iW⟩;have GG:=aj (j6.o.step oN.o k2 gw);have qP:=aj s2;have o6:=aj iW;have FQ:=aj j6.o.FQ;clear s2 k2 gw iW zh;rcases Nd.o with⟨a1,a2,a3,a4,a5⟩|⟨a1,a2⟩
    .obtain⟨yL,JX,xJ,DK,Ij,Je,jk,xA⟩:=o6.o a1;have aaE:=qP.o;rw[a1,a2,yL]at aaE;have wT:=aj aaE;(have NP2:ax (NP pv mD):=by show NP pv mD;rw[DK];exact NPH.o.more Ij FQ.o);have jN:ax (ny w.heap.size (more++xJ)):=AR.o.append (Ij.mono j6.o.kp.size);(have MO2:ax (mD=ns++(more++xJ)):=by show _=_;rw[DK,JD.o,mH]);obtain⟨zx,Ef,HV2⟩:=cR Je jk xA;have a4':=a4 trivial;(have DH:(ae ns')<=ae mD:=by rw[DK,cx];omega);(have PL2:ax (∀p∈ps,p<ae mD):=fun p hp=>by have:=JF.o p hp;omega);have MP2:ax ((ps.map fun p=>(Ls++Lm++JX).getD p cK)=ps.map fun p=>(Ls++Lm).getD p cK):=Ug (fun p hp=>by rw[EM.o.len];exact JF.o p hp);have RSH:=aj (Uq s hz 20 A.v A.j a5);(have ah1:ax (R=pp s m 1 (aD.cat L (iQ s 20 A.v A.j).v) (iQ s 20 A.v A.j).j):=by show _=_;rw[JL.o,az (by simp[a1])]);generalize hRr:iQ s 20 A.v A.j=Rr at *;have jC:=aj hRr;generalize hM:(ps.map fun p=>(Ls++Lm).getD p cK)=M at *;have HM:=aj hM;clear aaE DK Ij Je jk xA hRr hM JL o6 yL;go_wp2_with fail;go_loopw [5] (fun kv w'=>aio (ae ns') Rr M s r T A.j (ae mD) pv ps nv ns Ls w kv w') (fun _ w'=>Md s r w')
     case atStart =>
      refine⟨k,A.j,20,A.v,jw,mD,Lm++JX,more++xJ,rfl,GG.o,wT.o,MO2.o,jN.o,by rw[<-mH];exact zx.o,NP2.o,aH _,a5,by omega,jC.o.symm,Ef.o,by rw[<-mH];exact HV2.o,by omega,PL2.o,by rw[<-mH];exact MP2.o⟩
     case round =>
      obtain⟨k4,j2,q,L2,oq,oo,Bb,LJ,rfl,lo4,st4,ae8,aeZ,tr4,np4,hj4,hj5,hq,afl,N9,Ol,apT,afi,ae9⟩:=hrel;(obtain⟨q,rfl⟩:∃q',q=q'+1:=⟨q-1,by omega⟩);obtain⟨Dc,qQ,Vu,Jx,zy,QA,RR4,U7,ye⟩:=N7 lo4 st4 ae8 aeZ tr4 np4 afl N9 Ol;have J7:=aj afi;have Qz:=aj ae9;have MU4:ax (Md s r wr=s.size-j2):=Yp st4.rd;have aqi:=nO j2 (by omega);clear lo4 st4 ae8 aeZ tr4 np4 afl N9 Ol afi ae9;by_cases Oh:gt s j2=42\/gt s j2=43\/gt s j2=63
      ·(have hx:∃g,gt s j2=g/\(g=42\/g=43\/g=63):=⟨_,rfl,Oh⟩);(have hj6:j2<s.size:=by have:=hz j2;omega);obtain⟨kd,mL,hx⟩:=hx;(have RR5:ax (Rr=iQ s q (qD kd L2) (j2+1)):=by show _=_;rw[RR4.o,amW s q L2 j2 kd hx mL]);have Gr:=aj mL;have HX:=aj hx;clear Oh mL;rcases hx with rfl|rfl|rfl
       .have xp:gt s j2=42:=Gr.o;go_wp2_with fail;refine(iE s j2 r 0 0 oq _ (by exact qQ.o.rd)).mono ?_;rw[xp];rintro _ wz0 ⟨rfl,nz0,rfl⟩;go_wp2_with fail;refine(iE s j2 r 0 0 oq _ (by exact qQ.o.rd)).mono ?_;rw[xp];rintro _ wz1 ⟨rfl,nz1,rfl⟩;(have kX:∀N,Kp [] wr ((wr.drewN N).alloc (.cells #[.int .i64 k4] 3)):=fun N=>((Kp.refl [] wr).drewN N).alloc _);(have iB:ax (∀N,Lo 99 T pv ps r nv oq w ((wr.drewN N).alloc (.cells #[.int .i64 k4] 3))):=fun N=>Dc.o.k0 qQ.o (kX N));(have tH:ax (∀N,eu ((wr.drewN N).alloc (.cells #[.int .i64 k4] 3)) s j2 0 0 r oq oo):=fun N=>qQ.o.kp (kX N) (by simp));(have G4:ax (∀N,gu ((wr.drewN N).alloc (.cells #[.int .i64 k4] 3)) oo (Ls++Bb)):=fun N=>zy.o.keep (kX N) (kV.nil _));(have BX:ax (∀N,((wr.drewN N).alloc (.cells #[.int .i64 k4] 3)).heap[wr.heap.size]?=some (.cells #[.int .i64 k4] 3 (0,0))):=fun N=>by rw[aC];exact aA rfl);clear xp kX;go_wp2_with fail;refine(Mb s j2 0 0 r oq oo 42 (.slice (some ⟨wr.heap.size,0,none⟩) 1 1) [k4] _ (by exact tH.o _) (by omega) (by exact ab6 (BX.o _))).mono ?_;rintro _ w6 ⟨rfl,Un,s6,k6,Hz,t6,f6⟩;have Qt:=aj ((iB.o _).step (tH.o _) k6 Hz);have wU:=aj s6;have QU:=aj (t6 (Ls++Bb) (qD 42 L2,ae ns',ae oo+1) (G4.o _) (by intro p hp;simp at hp;subst hp;exact U7.o) ⟨⟨by simp only[GK,GL,ye.o];exact⟨rfl,rfl⟩,rfl⟩,.inr (.inr ⟨k4,rfl,by decide,by rw[ye.o]⟩)⟩);have On:w.heap.size<=wr.heap.size:=Dc.o.kp.size;have PE:ax (ny w.heap.size (LJ ++ [⟨42,.slice none 0 0,.slice (some ⟨wr.heap.size,0,none⟩) 1 1⟩])):=Jx.o.append (f6 _ (fun g hg=>by simp[aK]at hg;omega));have QB:ax (NP pv (oo ++ [⟨42,.slice none 0 0,.slice (some ⟨wr.heap.size,0,none⟩) 1 1⟩])):=QA.o.more (B:=wr.heap.size) (f6 _ (fun g hg=>by simp[aK]at hg;omega)) Dc.o.FQ;obtain⟨z0,z1,z2,z3,z4,z5,y0,y1,y2,y3,y4,y5⟩:=dM s6.rd;clear s6 k6 Hz t6 f6;go_wp2;refine⟨⟨(ae oo),j2+1,q,qD 42 L2,Un,_,Bb ++ [(qD 42 L2,ae ns',ae oo+1)],LJ ++ [⟨42,.slice none 0 0,.slice (some ⟨wr.heap.size,0,none⟩) 1 1⟩],rfl,Qt.o.kr wU.o ((Kp.refl [r] w6).set (.inl (by simp)) _ _),wU.o.ou _,by rw[Vu.o,mH],PE.o,by rw[<-mH];exact QU.o.ou wU.o _,QB.o,by omega,by omega,by omega,RR5.o,by simp,by rw[<-mH,cx];exact Fc _ _ _ zy.o.len,by simp;omega,fun p hp=>by have:=J7.o p hp;simp;omega,?_⟩,?_⟩
        .rw[<-mH,Ug (fun p hp=>by rw[zy.o.len];exact J7.o p hp)];exact Qz.o
        .have e6:Md s r (w6.setCell ⟨r,1,none⟩ (.int .i64 ((j2:Int)+1)))=s.size-(j2+1):=Yp (j:=j2+1) (wU.o.ou _).rd;rw[MU4.o,e6];omega
       .have xp:gt s j2=43:=Gr.o;go_wp2_with fail;refine(iE s j2 r 0 0 oq _ (by exact qQ.o.rd)).mono ?_;rw[xp];rintro _ wz0 ⟨rfl,nz0,rfl⟩;go_wp2_with fail;refine(iE s j2 r 0 0 oq _ (by exact qQ.o.rd)).mono ?_;rw[xp];rintro _ wz1 ⟨rfl,nz1,rfl⟩;go_wp2_with fail;refine(iE s j2 r 0 0 oq _ (by exact qQ.o.rd)).mono ?_;rw[xp];rintro _ wz2 ⟨rfl,nz2,rfl⟩;(have kX:∀N,Kp [] wr ((wr.drewN N).alloc (.cells #[.int .i64 k4] 3)):=fun N=>((Kp.refl [] wr).drewN N).alloc _);(have iB:ax (∀N,Lo 99 T pv ps r nv oq w ((wr.drewN N).alloc (.cells #[.int .i64 k4] 3))):=fun N=>Dc.o.k0 qQ.o (kX N));(have tH:ax (∀N,eu ((wr.drewN N).alloc (.cells #[.int .i64 k4] 3)) s j2 0 0 r oq oo):=fun N=>qQ.o.kp (kX N) (by simp));(have G4:ax (∀N,gu ((wr.drewN N).alloc (.cells #[.int .i64 k4] 3)) oo (Ls++Bb)):=fun N=>zy.o.keep (kX N) (kV.nil _));(have BX:ax (∀N,((wr.drewN N).alloc (.cells #[.int .i64 k4] 3)).heap[wr.heap.size]?=some (.cells #[.int .i64 k4] 3 (0,0))):=fun N=>by rw[aC];exact aA rfl);clear xp kX;go_wp2_with fail;refine(Mb s j2 0 0 r oq oo 43 (.slice (some ⟨wr.heap.size,0,none⟩) 1 1) [k4] _ (by exact tH.o _) (by omega) (by exact ab6 (BX.o _))).mono ?_;rintro _ w6 ⟨rfl,Un,s6,k6,Hz,t6,f6⟩;have Qt:=aj ((iB.o _).step (tH.o _) k6 Hz);have wU:=aj s6;have QU:=aj (t6 (Ls++Bb) (qD 43 L2,ae ns',ae oo+1) (G4.o _) (by intro p hp;simp at hp;subst hp;exact U7.o) ⟨⟨by simp only[GK,GL,ye.o];exact⟨rfl,rfl⟩,rfl⟩,.inr (.inr ⟨k4,rfl,by decide,by rw[ye.o]⟩)⟩);have On:w.heap.size<=wr.heap.size:=Dc.o.kp.size;have PE:ax (ny w.heap.size (LJ ++ [⟨43,.slice none 0 0,.slice (some ⟨wr.heap.size,0,none⟩) 1 1⟩])):=Jx.o.append (f6 _ (fun g hg=>by simp[aK]at hg;omega));have QB:ax (NP pv (oo ++ [⟨43,.slice none 0 0,.slice (some ⟨wr.heap.size,0,none⟩) 1 1⟩])):=QA.o.more (B:=wr.heap.size) (f6 _ (fun g hg=>by simp[aK]at hg;omega)) Dc.o.FQ;obtain⟨z0,z1,z2,z3,z4,z5,y0,y1,y2,y3,y4,y5⟩:=dM s6.rd;clear s6 k6 Hz t6 f6;go_wp2;refine⟨⟨(ae oo),j2+1,q,qD 43 L2,Un,_,Bb ++ [(qD 43 L2,ae ns',ae oo+1)],LJ ++ [⟨43,.slice none 0 0,.slice (some ⟨wr.heap.size,0,none⟩) 1 1⟩],rfl,Qt.o.kr wU.o ((Kp.refl [r] w6).set (.inl (by simp)) _ _),wU.o.ou _,by rw[Vu.o,mH],PE.o,by rw[<-mH];exact QU.o.ou wU.o _,QB.o,by omega,by omega,by omega,RR5.o,by simp,by rw[<-mH,cx];exact Fc _ _ _ zy.o.len,by simp;omega,fun p hp=>by have:=J7.o p hp;simp;omega,?_⟩,?_⟩
        .rw[<-mH,Ug (fun p hp=>by rw[zy.o.len];exact J7.o p hp)];exact Qz.o
        .have e6:Md s r (w6.setCell ⟨r,1,none⟩ (.int .i64 ((j2:Int)+1)))=s.size-(j2+1):=Yp (j:=j2+1) (wU.o.ou _).rd;rw[MU4.o,e6];omega
       .have xp:gt s j2=63:=Gr.o;go_wp2_with fail;refine(iE s j2 r 0 0 oq _ (by exact qQ.o.rd)).mono ?_;rw[xp];rintro _ wz0 ⟨rfl,nz0,rfl⟩;go_wp2_with fail;refine(iE s j2 r 0 0 oq _ (by exact qQ.o.rd)).mono ?_;rw[xp];rintro _ wz1 ⟨rfl,nz1,rfl⟩;go_wp2_with fail;refine(iE s j2 r 0 0 oq _ (by exact qQ.o.rd)).mono ?_;rw[xp];rintro _ wz2 ⟨rfl,nz2,rfl⟩;go_wp2_with fail;refine(iE s j2 r 0 0 oq _ (by exact qQ.o.rd)).mono ?_;rw[xp];rintro _ wz3 ⟨rfl,nz3,rfl⟩;(have kX:∀N,Kp [] wr ((wr.drewN N).alloc (.cells #[.int .i64 k4] 3)):=fun N=>((Kp.refl [] wr).drewN N).alloc _);(have iB:ax (∀N,Lo 99 T pv ps r nv oq w ((wr.drewN N).alloc (.cells #[.int .i64 k4] 3))):=fun N=>Dc.o.k0 qQ.o (kX N));(have tH:ax (∀N,eu ((wr.drewN N).alloc (.cells #[.int .i64 k4] 3)) s j2 0 0 r oq oo):=fun N=>qQ.o.kp (kX N) (by simp));(have G4:ax (∀N,gu ((wr.drewN N).alloc (.cells #[.int .i64 k4] 3)) oo (Ls++Bb)):=fun N=>zy.o.keep (kX N) (kV.nil _));(have BX:ax (∀N,((wr.drewN N).alloc (.cells #[.int .i64 k4] 3)).heap[wr.heap.size]?=some (.cells #[.int .i64 k4] 3 (0,0))):=fun N=>by rw[aC];exact aA rfl);clear xp kX;go_wp2_with fail;refine(Mb s j2 0 0 r oq oo 63 (.slice (some ⟨wr.heap.size,0,none⟩) 1 1) [k4] _ (by exact tH.o _) (by omega) (by exact ab6 (BX.o _))).mono ?_;rintro _ w6 ⟨rfl,Un,s6,k6,Hz,t6,f6⟩;have Qt:=aj ((iB.o _).step (tH.o _) k6 Hz);have wU:=aj s6;have QU:=aj (t6 (Ls++Bb) (qD 63 L2,ae ns',ae oo+1) (G4.o _) (by intro p hp;simp at hp;subst hp;exact U7.o) ⟨⟨by simp only[GK,GL,ye.o];exact⟨rfl,rfl⟩,rfl⟩,.inr (.inr ⟨k4,rfl,by decide,by rw[ye.o]⟩)⟩);have On:w.heap.size<=wr.heap.size:=Dc.o.kp.size;have PE:ax (ny w.heap.size (LJ ++ [⟨63,.slice none 0 0,.slice (some ⟨wr.heap.size,0,none⟩) 1 1⟩])):=Jx.o.append (f6 _ (fun g hg=>by simp[aK]at hg;omega));have QB:ax (NP pv (oo ++ [⟨63,.slice none 0 0,.slice (some ⟨wr.heap.size,0,none⟩) 1 1⟩])):=QA.o.more (B:=wr.heap.size) (f6 _ (fun g hg=>by simp[aK]at hg;omega)) Dc.o.FQ;obtain⟨z0,z1,z2,z3,z4,z5,y0,y1,y2,y3,y4,y5⟩:=dM s6.rd;clear s6 k6 Hz t6 f6;go_wp2;refine⟨⟨(ae oo),j2+1,q,qD 63 L2,Un,_,Bb ++ [(qD 63 L2,ae ns',ae oo+1)],LJ ++ [⟨63,.slice none 0 0,.slice (some ⟨wr.heap.size,0,none⟩) 1 1⟩],rfl,Qt.o.kr wU.o ((Kp.refl [r] w6).set (.inl (by simp)) _ _),wU.o.ou _,by rw[Vu.o,mH],PE.o,by rw[<-mH];exact QU.o.ou wU.o _,QB.o,by omega,by omega,by omega,RR5.o,by simp,by rw[<-mH,cx];exact Fc _ _ _ zy.o.len,by simp;omega,fun p hp=>by have:=J7.o p hp;simp;omega,?_⟩,?_⟩
        .rw[<-mH,Ug (fun p hp=>by rw[zy.o.len];exact J7.o p hp)];exact Qz.o
        .have e6:Md s r (w6.setCell ⟨r,1,none⟩ (.int .i64 ((j2:Int)+1)))=s.size-(j2+1):=Yp (j:=j2+1) (wU.o.ou _).rd;rw[MU4.o,e6];omega
      ·(have xC:gt s j2≠42:=fun e=>Oh (.inl e));(have sL:gt s j2≠43:=fun e=>Oh (.inr (.inl e)));(have hx3:gt s j2≠63:=fun e=>Oh (.inr (.inr e)));(have p1:((gt s j2:Int) == 42)=false:=by simp;omega);(have p2:((gt s j2:Int) == 43)=false:=by simp;omega);(have p3:((gt s j2:Int) == 63)=false:=by simp;omega);have hRg:Rr=good j2 L2:=(by rw[RR4.o,amU s q L2 j2 xC sL hx3]);have Ek:=aj hRg;clear Oh xC sL hx3 hRg;go_wp2_with fail;refine(iE s j2 r 0 0 oq _ (by exact qQ.o.rd)).mono ?_;rintro _ wa ⟨rfl,na,rfl⟩;go_wp2_with fail;refine(iE s j2 r 0 0 oq _ (by exact qQ.o.rd)).mono ?_;rintro _ wb ⟨rfl,nb,rfl⟩;go_wp2_with fail;refine(iE s j2 r 0 0 oq _ (by exact qQ.o.rd)).mono ?_;rintro _ wc ⟨rfl,nc,rfl⟩;simp only[adC];generalize na+nb+nc=N;have iB:ax (Lo 99 T pv ps r nv oq w (wr.drewN N)):=Dc.o.drewN N;have kX:Kp [] wr (wr.drewN N):=(Kp.refl [] wr).drewN N;have tH:ax (eu (wr.drewN N) s j2 0 0 r oq oo):=qQ.o.kp kX (by simp);have G4:ax (gu (wr.drewN N) oo (Ls++Bb)):=zy.o.keep kX (kV.nil _);generalize wr.drewN N=WX at *;obtain⟨IL,IM,FJ,IN,_⟩:=dB iB.o.nd;clear kX;(go_wp2_with (at_builtin;go_must (refine Gb _ rfl _ _ _ rfl w.heap.size 3 i0 _ 1 8 qR cS dc dm cW rfl (by omega) pv (ae ps) (dy ps) rfl (by exact iB.o.own.alloc _) ⟨WX.heap.size,0,none⟩ 1 1 [.int .i64 k4] rfl rfl (gN (cs:=#[.int .i64 k4]) (t:=3) (fr:=(0,0)) (by rw[aC,aA rfl])) (by simp[dS]) (by omega) (by unfold eB;omega) (by omega) (by rw[aM];have:=iB.o.kp.size;omega) (WX.heap.size+1) (by simp) ?_);intro g9 oO w9 jM jH at9 rE;have Bn:=iB.o.app tH.o jM jH at9;have yW:w9.heap[T]?=some (yX 99 pv):=fY jH (by rw[aC,az (bY (aE iB.o.nd))];exact iB.o.nd) (fun e=>by obtain⟨c,hc,_⟩:=Aj iB.o.own e;rw[iB.o.nd]at hc;simp only[aV,fE]at hc;exact absurd hc.2.1 (by decide));obtain⟨_,_,Yd,_,_,_,X8,_⟩:=dB yW;have Gf:=aj Bn;clear Bn yW jM jH at9 rE));go_wp2;obtain⟨b1,b2,b3,b4⟩:=Gf.o;have Ra:=b3 _ G4.o QA.o;refine⟨⟨_,ps ++ [k4],oq,oo,b1,by simp;omega,.inl ⟨aD.cat L L2,j2,m,Bb,LJ,b2,Vu.o,Jx.o,Ra,b4 QA.o G4.o.plt,by omega,hj5,by omega,by omega,by rw[ah1.o,Ek.o];rfl,?_,?_,by have:=xG;omega,by simp;omega⟩⟩,?_⟩
       .intro p hp;rcases jr.1 hp with hp|hp
        .exact J7.o p hp
        .simp at hp;subst hp;exact U7.o
       .exact⟨by rw[uv,Qz.o,GK,GL,ye.o,aaR,<-HL.o.1],by rw[uv,Qz.o,GK,GL,ye.o];exact ad5 _ _ _ _ _ HL.o.2 rfl rfl⟩
       .rw[MU.o,YB b2];omega
    .have HE:=aj a1;have Sk:R=A:=(by rw[JL.o,aA a1]);subst Sk;clear a1 JL;go_wp2_with fail;go_loopw [5] (fun kv w'=>kv=.int .i64 k/\w'=w2) (fun _ _=>0)
     case atStart=>exact⟨rfl,rfl⟩
     case round =>
      obtain⟨rfl,rfl⟩:=hrel;go_wp2_with fail;refine(D1 s mA r R.err R.pl 0 jw _ (by exact qP.o.rd) HE.o).mono ?_;rintro _ wa ⟨rfl,na,rfl⟩;go_wp2_with fail;refine(D1 s mA r R.err R.pl 0 jw _ (by exact qP.o.rd) HE.o).mono ?_;rintro _ wb ⟨rfl,nb,rfl⟩;go_wp2_with fail;refine(D1 s mA r R.err R.pl 0 jw _ (by exact qP.o.rd) HE.o).mono ?_;rintro _ wc ⟨rfl,nc,rfl⟩;simp only[adC];generalize na+nb+nc=N;have iB:ax (Lo 99 T pv ps r nv jw w (wr.drewN N)):=GG.o.drewN N;have tH:ax (eu (wr.drewN N) s mA R.err R.pl r jw mD):=qP.o.kp ((Kp.refl [] wr).drewN N) (by simp);generalize wr.drewN N=WX at *;obtain⟨IL,IM,FJ,IN,_⟩:=dB iB.o.nd;(go_wp2_with (at_builtin;go_must (refine Gb _ rfl _ _ _ rfl w.heap.size 3 i0 _ 1 8 qR cS dc dm cW rfl (by omega) pv (ae ps) (dy ps) rfl (by exact iB.o.own.alloc _) ⟨WX.heap.size,0,none⟩ 1 1 [.int .i64 k] rfl rfl (gN (cs:=#[.int .i64 k]) (t:=3) (fr:=(0,0)) (by rw[aC,aA rfl])) (by simp[dS]) (by omega) (by unfold eB;omega) (by omega) (by rw[aM];have:=iB.o.kp.size;omega) (WX.heap.size+1) (by simp) ?_);intro g9 oO w9 jM jH at9 rE;have Bn:=iB.o.app tH.o jM jH at9;have yW:w9.heap[T]?=some (yX 99 pv):=fY jH (by rw[aC,az (bY (aE iB.o.nd))];exact iB.o.nd) (fun e=>by obtain⟨c,hc,_⟩:=Aj iB.o.own e;rw[iB.o.nd]at hc;simp only[aV,fE]at hc;exact absurd hc.2.1 (by decide));obtain⟨_,_,Yd,_,_,_,X8,_⟩:=dB yW;have Gf:=aj Bn;clear Bn yW jM jH at9 rE));go_wp2;obtain⟨b1,b2,_,_⟩:=Gf.o;refine⟨⟨_,ps ++ [k],jw,mD,b1,by simp;omega,.inr ⟨mA,b2,HE.o,a2,by have:=xG;omega⟩⟩,?_⟩;rw[MU.o,nw b2.rd HE.o];omega
  .have LO:=aj lo;have ST:=aj st;have HE:=aj he;clear lo st he;go_wp2_with fail;refine(D1 s iv r R.err R.pl 0 cY _ (by exact ST.o.rd) HE.o).mono ?_;rintro _ w1 ⟨rfl,n1,rfl⟩;have j6:ax (Lo 99 T pv ps r nv cY w (wr.drewN n1)):=LO.o.drewN n1;have oN:ax (eu (wr.drewN n1) s iv R.err R.pl r cY ns'):=ST.o.kp ((Kp.refl [] wr).drewN n1) (by simp);generalize wr.drewN n1=W1 at *;obtain⟨IL,IM,FJ,IN,_⟩:=dB j6.o.nd;go_wp2_with fail;refine(Mb s iv R.err R.pl r cY ns' 99 pv ps _ (by exact oN.o) (by omega) (by exact j6.o.own)).mono ?_;rintro _ w2 ⟨rfl,jw,s2,k2,gw,_,_⟩;have S2:=aj s2;have K2:ax (Kp (fe r nv) w w2):=j6.o.kp.trans k2 j6.o.fr;(have F2:ax (∀g∈fe r jw,g∈fe r nv\/w.heap.size<=g):=fun g hg=>by rcases gw g hg with e|e;exact j6.o.fr g e;exact .inr (by have:=j6.o.kp.size;omega));clear s2 k2 gw;go_wp2;go_ret;exact⟨(ae ns'),_,jw,_,rfl,S2.o,K2.o,F2.o,by simp;omega,fun e=>absurd e HE.o⟩
end
theorem ani(s:ByteArray)(i r:Nat)(nv:aq)(ns:List ND)(Ls:List AN)(w:ay)(h:eu w s i 0 0 r nv ns)(t:gu w ns Ls)(hi:i<s.size)(hs:s.size<=16)(hn:(ae ns)<=900)(h1:gt s i≠40)(h2:gt s i≠91)(h3:gt s i≠46)(h4:gt s i≠92)(h5:gt s i≠42)(h6:gt s i≠43)(h7:gt s i≠63)(h8:gt s i≠93):aI aB 50 #[.pointer (some ⟨r,0,none⟩)] w (wR (good (i+1) (aD.set (1 <<< gt s i))) 0 s i r nv ns Ls w):=by
 have HS:=aj h;have HT:=aj t;have H:=aj h.rd;have hr:=aE h.rd;have oU:=nO i (by omega);have iD:=nO (i+1) (by omega);have jI:=kj s i;have yK:=kj s (i+1);obtain⟨c0,c1,c2,c3,c4,c5,f0,f1,f2,f3,f4,f5⟩:=dM h.rd;have q40:((gt s i:Int) == 40)=false:=by simp;omega
 have q91:((gt s i:Int) == 91)=false:=by simp;omega
 have q46:((gt s i:Int) == 46)=false:=by simp;omega
 have q42:((gt s i:Int) == 42)=false:=by simp;omega
 have q43:((gt s i:Int) == 43)=false:=by simp;omega
 have q63:((gt s i:Int) == 63)=false:=by simp;omega
 have q93:((gt s i:Int) == 93)=false:=by simp;omega
 have q92:((gt s i:Int) == 92)=false:=by simp;omega
 clear h t;go_enter Tryz.func50,Tryz.ntmps50;go_wp2_with fail;refine(iE s i r 0 0 nv _ (by exact H.o)).mono ?_;rintro _ w1 ⟨rfl,n1,rfl⟩;have SA:eu ((w.drewN n1).setCell ⟨r,1,none⟩ (.int .i64 (i+1:Nat))) s (i+1:Nat) 0 0 r nv ns:=eu.ou (HS.o.kp ((Kp.refl [] w).drewN n1) (by simp)) _;have KA:Kp [r] w ((w.drewN n1).setCell ⟨r,1,none⟩ (.int .i64 (i+1:Nat))):=((Kp.refl _ _).drewN n1).set (.inl (by simp)) _ _;have tG:=aj SA;have wJ:=aj KA;clear SA KA;go_wp2_with fail;refine(acr (gt s i) _ jI).mono ?_;rintro _ w2 ⟨rfl,b2,k2⟩;have S2:=aj (tG.o.kp (by exact k2) (by simp));have K2:ax (Kp [r] w w2):=wJ.o.trans (by exact k2) (by simp);simp only[iA,yx]at b2;have B2:=aj b2;clear b2 k2;go_wp2_with fail;refine(Uw s (i+1:Nat) 0 0 r nv ns Ls _ _ _ (by exact S2.o) (by omega) (by exact B2.o)).mono ?_;rintro _ w3 ⟨rfl,cY,s3,k3,gA,t3⟩;have T3:=aj (t3 (1 <<< gt s i) rfl (HT.o.keep K2.o HS.o.NH));have S3:=aj s3;have K3:ax (Kp (fe r nv) w w3):=K2.o.IV.trans k3 (fun y hy=>.inl hy);have F3:ax (∀g∈fe r cY,g∈fe r nv\/w.heap.size<=g):=fun g hg=>by rcases gA g hg with e|e;exact .inl e;exact .inr (by have:=K2.o.size;omega)
 clear s3 k3 gA t3;go_wp2;go_ret;exact⟨(ae ns),_,cY,_,rfl,S3.o,K3.o,F3.o,by simp[good]<;>omega,fun _=>⟨rfl,[(aD.set (1 <<< gt s i),ae ns,ae ns+1)],_,rfl,ny.bytes _ _,T3.o,by simp,by rw[cx];exact Fc Ls _ _ HT.o.len⟩⟩
theorem ank(s:ByteArray)(i r:Nat)(nv:aq)(ns:List ND)(Ls:List AN)(w:ay)(h:eu w s i 0 0 r nv ns)(t:gu w ns Ls)(hi:i<s.size)(hs:s.size<=16)(hn:(ae ns)<=900)(hg:gt s i=92)(hg3:gt s (i+1)≠0):aI aB 50 #[.pointer (some ⟨r,0,none⟩)] w (wR (good (i+2) (aD.set (1 <<< gt s (i+1)))) 0 s i r nv ns Ls w):=by
 have HS:=aj h;have HT:=aj t;have H:=aj h.rd;have hr:=aE h.rd;have oU:=nO i (by omega);have iD:=nO (i+1) (by omega);have jI:=kj s i;have yK:=kj s (i+1);obtain⟨c0,c1,c2,c3,c4,c5,f0,f1,f2,f3,f4,f5⟩:=dM h.rd;have q0:((gt s (i+1):Int) == 0)=false:=by simp;omega
 clear h t;go_enter Tryz.func50,Tryz.ntmps50;go_wp2_with fail;refine(iE s i r 0 0 nv _ (by exact H.o)).mono ?_;rw[hg];rintro _ w1 ⟨rfl,n1,rfl⟩;have SA:eu ((w.drewN n1).setCell ⟨r,1,none⟩ (.int .i64 (i+1:Nat))) s (i+1:Nat) 0 0 r nv ns:=eu.ou (HS.o.kp ((Kp.refl [] w).drewN n1) (by simp)) _;have KA:Kp [r] w ((w.drewN n1).setCell ⟨r,1,none⟩ (.int .i64 (i+1:Nat))):=((Kp.refl _ _).drewN n1).set (.inl (by simp)) _ _;have tG:=aj SA;have wJ:=aj KA;clear SA KA;go_wp2_with fail;refine(iE s (i+1) r 0 0 nv _ (by exact tG.o.rd)).mono ?_;rintro _ wb ⟨rfl,nb,rfl⟩;have SB:eu ((((w.drewN n1).setCell ⟨r,1,none⟩ (.int .i64 (i+1:Nat))).drewN nb).setCell ⟨r,1,none⟩ (.int .i64 (i+1+1:Nat))) s (i+1+1:Nat) 0 0 r nv ns:=eu.ou (tG.o.kp ((Kp.refl [] _).drewN nb) (by simp)) _;have KB:Kp [r] w ((((w.drewN n1).setCell ⟨r,1,none⟩ (.int .i64 (i+1:Nat))).drewN nb).setCell ⟨r,1,none⟩ (.int .i64 (i+1+1:Nat))):=(wJ.o.drewN nb).set (.inl (by simp)) _ _;have SBH:=aj SB;have KBH:=aj KB;clear SB KB hg;go_wp2_with fail;refine(acr (gt s (i+1)) _ yK).mono ?_;rintro _ w2 ⟨rfl,b2,k2⟩;have S2:=aj (SBH.o.kp (by exact k2) (by simp));have K2:ax (Kp [r] w w2):=KBH.o.trans (by exact k2) (by simp);simp only[iA,yx]at b2;have B2:=aj b2;clear b2 k2;go_wp2_with fail;refine(Uw s (i+1+1:Nat) 0 0 r nv ns Ls _ _ _ (by exact S2.o) (by omega) (by exact B2.o)).mono ?_;rintro _ w3 ⟨rfl,cY,s3,k3,gA,t3⟩;have T3:=aj (t3 (1 <<< gt s (i+1)) rfl (HT.o.keep K2.o HS.o.NH));have S3:=aj s3;have K3:ax (Kp (fe r nv) w w3):=K2.o.IV.trans k3 (fun y hy=>.inl hy);have F3:ax (∀g∈fe r cY,g∈fe r nv\/w.heap.size<=g):=fun g hg=>by rcases gA g hg with e|e;exact .inl e;exact .inr (by have:=K2.o.size;omega)
 clear s3 k3 gA t3;go_wp2;go_ret;exact⟨(ae ns),_,cY,_,rfl,S3.o,K3.o,F3.o,by simp[good]<;>omega,fun _=>⟨rfl,[(aD.set (1 <<< gt s (i+1)),ae ns,ae ns+1)],_,rfl,ny.bytes _ _,T3.o,by simp,by rw[cx];exact Fc Ls _ _ HT.o.len⟩⟩
theorem anl(s:ByteArray)(i r:Nat)(nv:aq)(ns:List ND)(Ls:List AN)(w:ay)(h:eu w s i 0 0 r nv ns)(t:gu w ns Ls)(hi:i<s.size)(hs:s.size<=16)(hn:(ae ns)<=900)(hg:gt s i=92)(hg3:gt s (i+1)=0)(acc:aD):aI aB 50 #[.pointer (some ⟨r,0,none⟩)] w (wR (de s 4 s.size acc) 0 s i r nv ns Ls w):=by
 have HS:=aj h;have HT:=aj t;have H:=aj h.rd;have hr:=aE h.rd;have oU:=nO i (by omega);have iD:=nO (i+1) (by omega);have jI:=kj s i;have yK:=kj s (i+1);obtain⟨c0,c1,c2,c3,c4,c5,f0,f1,f2,f3,f4,f5⟩:=dM h.rd;clear h t;go_enter Tryz.func50,Tryz.ntmps50;go_wp2_with fail;refine(iE s i r 0 0 nv _ (by exact H.o)).mono ?_;rw[hg];rintro _ w1 ⟨rfl,n1,rfl⟩;have SA:eu ((w.drewN n1).setCell ⟨r,1,none⟩ (.int .i64 (i+1:Nat))) s (i+1:Nat) 0 0 r nv ns:=eu.ou (HS.o.kp ((Kp.refl [] w).drewN n1) (by simp)) _;have KA:Kp [r] w ((w.drewN n1).setCell ⟨r,1,none⟩ (.int .i64 (i+1:Nat))):=((Kp.refl _ _).drewN n1).set (.inl (by simp)) _ _;have tG:=aj SA;have wJ:=aj KA;clear SA KA;go_wp2_with fail;refine(iE s (i+1) r 0 0 nv _ (by exact tG.o.rd)).mono ?_;rw[hg3];rintro _ wb ⟨rfl,nb,rfl⟩;clear hg hg3;go_wp2_with fail;refine(rH s (i+1:Nat) r 0 0 4 s.size nv _ (by exact tG.o.rd)).mono ?_;rintro _ wc ⟨rfl,hc,kc⟩;have SC:=tG.o.kr (w':=wc) (by exact kc.kL) hc;have KC:Kp [r] w wc:=wJ.o.trans kc.kL (by simp);obtain⟨d0,d1,d2,d3,d4,d5,e0,e1,e2,e3,e4,e5⟩:=dM hc;have SBH:ax (eu (wc.setCell ⟨r,1,none⟩ (.int .i64 (i+1+1:Nat))) s (i+1+1:Nat) 4 s.size r nv ns):=SC.ou _;have KBH:ax (Kp [r] w (wc.setCell ⟨r,1,none⟩ (.int .i64 (i+1+1:Nat)))):=KC.set (.inl (by simp)) _ _;clear SC KC hc kc;go_wp2_with fail;refine(acr 0 _ (by decide)).mono ?_;rintro _ w2 ⟨rfl,b2,k2⟩;have S2:=aj (SBH.o.kp (by exact k2) (by simp));have K2:ax (Kp [r] w w2):=KBH.o.trans (by exact k2) (by simp);simp only[iA,yx]at b2;have B2:=aj b2;clear b2 k2;go_wp2_with fail;refine(Uw s (i+1+1:Nat) 4 s.size r nv ns Ls _ _ _ (by exact S2.o) (by omega) (by exact B2.o)).mono ?_;rintro _ w3 ⟨rfl,cY,s3,k3,gA,t3⟩;have S3:=aj s3;have K3:ax (Kp (fe r nv) w w3):=K2.o.IV.trans k3 (fun y hy=>.inl hy);have F3:ax (∀g∈fe r cY,g∈fe r nv\/w.heap.size<=g):=fun g hg=>by rcases gA g hg with e|e;exact .inl e;exact .inr (by have:=K2.o.size;omega)
 clear s3 k3 gA t3;go_wp2;go_ret;exact⟨(ae ns),_,cY,_,rfl,S3.o,K3.o,F3.o,by simp[de]<;>omega,fun e=>absurd e (by simp[de])⟩
theorem anh(s:ByteArray)(i r:Nat)(nv:aq)(ns:List ND)(Ls:List AN)(w:ay)(h:eu w s i 0 0 r nv ns)(t:gu w ns Ls)(hi:i<s.size)(hs:s.size<=16)(hn:(ae ns)<=900)(hg:gt s i=42\/gt s i=43\/gt s i=63\/gt s i=93)(acc:aD):aI aB 50 #[.pointer (some ⟨r,0,none⟩)] w (wR (de s 5 i acc) 0 s i r nv ns Ls w):=by
 have HS:=aj h;have HT:=aj t;have H:=aj h.rd;have hr:=aE h.rd;have oU:=nO i (by omega);have iD:=nO (i+1) (by omega);have jI:=kj s i;have yK:=kj s (i+1);obtain⟨c0,c1,c2,c3,c4,c5,f0,f1,f2,f3,f4,f5⟩:=dM h.rd;clear h t;go_enter Tryz.func50,Tryz.ntmps50;go_wp2_with fail;refine(iE s i r 0 0 nv _ (by exact H.o)).mono ?_;rintro _ w1 ⟨rfl,n1,rfl⟩;rcases hg with hg|hg|hg|hg
 all_goals
  rw[hg];clear hg jI;go_wp2_with fail;refine(rH s i r 0 0 5 i nv _ (by exact H.o)).mono ?_;rintro _ wc ⟨rfl,hc,kc⟩;have SC:=aj (HS.o.kr (w':=wc) (by exact kc.kL) hc);have K2:ax (Kp [r] w wc):=kc.kL;clear hc kc;go_wp2_with fail;refine(ace s i 5 i r nv ns ⟨99,.slice none 0 0,.slice none 0 0⟩ _ (by exact SC.o) (by omega) rfl rfl).mono ?_;rintro _ w3 ⟨rfl,cY,s3,k3,gA⟩;have S3:=aj s3;have K3:ax (Kp (fe r nv) w w3):=K2.o.IV.trans k3 (fun y hy=>.inl hy);have F3:ax (∀g∈fe r cY,g∈fe r nv\/w.heap.size<=g):=fun g hg=>by rcases gA g hg with e|e;exact .inl e;exact .inr (by have:=K2.o.size;omega)
  clear s3 k3 gA;go_wp2;go_ret;exact⟨(ae ns),_,cY,_,rfl,S3.o,K3.o,F3.o,by simp[de]<;>omega,fun e=>absurd e (by simp[de])⟩
theorem anR(s:ByteArray)(i r:Nat)(nv:aq)(w:ay)(h:w.heap[r]?=some (fh s i 0 0 nv 0))(hz:Nz s)(hi:i<=s.size)(hs:s.size<=16)(hg:gt s i=94):aI aB 77 #[.pointer (some ⟨r,0,none⟩)] w (aax (gG s i) s r nv w):=by
 have H:=aj h;have hr:=aE h;have iV:w.heap.size≠r:=(by omega);have hm:=Yt;have hq:ax (gG s i=if (gg s 20 0 (i+1)).err≠0 then gg s 20 0 (i+1) else good (gg s 20 0 (i+1)).j (kZ (gg s 20 0 (i+1)).v)):=by show _=_;rw[gG,aA hg]
 have Ce:i+1<=s.size:=by have:=hz i;omega
 have oU:=nO i (by omega);generalize gG s i=RS at *;generalize hQ:gg s 20 0 (i+1)=RR at *;have HQ:=aj hQ;clear h hQ;go_enter Tryz.func77,Tryz.ntmps77;go_upto_region 2 with fail;have kW:Kp [r] w (w.alloc (aW (fl 256))):=(Kp.refl _ _).alloc _;have bW:(w.alloc (aW (fl 256))).heap[w.heap.size]?=some (aW (fl 256)):=(by rw[aC,aA rfl]);have hW:(w.alloc (aW (fl 256))).heap[r]?=some (fh s i 0 0 nv 0):=by rw[aC,az (bY hr)];exact H.o
 generalize w.alloc (aW (fl 256))=W at *;obtain⟨KW,BW,HW⟩:=cR kW bW hW;obtain⟨wq0,wq1,wq2,wq3,wq4,wq5,_,acO,_⟩:=dM hW;clear kW bW hW hm;go_wp2_with fail;refine(iE s i r 0 0 nv _ (by exact HW.o)).mono ?_;rw[hg];rintro _ w1 ⟨rfl,n1,rfl⟩;go_wp2_with fail;have B1:ax (((W.drewN n1).setCell ⟨r,1,none⟩ (.int .i64 (i+1:Nat))).heap[w.heap.size]?=some (aW (fl 256))):=by show _=_;rw[aQ,az iV];exact BW.o
 have H1:ax (((W.drewN n1).setCell ⟨r,1,none⟩ (.int .i64 (i+1:Nat))).heap[r]?=some (fh s (i+1:Nat) 0 0 nv 0)):=uc (by exact HW.o);have K1:ax (Kp [r] w ((W.drewN n1).setCell ⟨r,1,none⟩ (.int .i64 (i+1:Nat)))):=(KW.o.drewN n1).set (.inl (by simp)) _ _;clear wq0 wq1 wq2 wq3 wq4 wq5 acO;go_loopw [5] (fun f w'=>ads RR s r nv w.heap.size w f w') (fun _ w'=>CH s r w')
 case atStart =>
  exact⟨fl 256,yE _,B1.o,K1.o,.inl ⟨true,i+1,20,0,rfl,aaL.symm,H1.o,Ce,by omega,fun _=>HQ.o.symm,fun e=>by cases e⟩⟩
 case round =>
  obtain⟨l,hl,bb,kk,⟨f0,j,n,acc,rfl,zP,rd,hj,hn,t1,t2⟩|⟨iv,rfl,he,rd⟩⟩:=hrel
  ·(obtain⟨m,rfl⟩:∃m,n=m+1:=⟨n-1,by omega⟩);have MU:ax (CH s r wr=s.size+1-j):=CJ rd;cases f0
   .obtain⟨tR,tg⟩:=t2 rfl;have pP:=aj rd;obtain⟨fH,fI,fJ,fK,fL,fM,_,fN,fO,fP,_,_⟩:=dM rd;have Pm:=aj bb;have Qp:=aj kk;clear rd bb kk t1 t2;go_wp2_with fail;refine(iE s j r 0 0 nv _ (by exact pP.o)).mono ?_;rintro _ w1 ⟨rfl,n0,rfl⟩;by_cases BV:gt s j=93
    .rw[BV];have cN:RR=good (j+1) acc:=(by rw[tR,jx,az tg,aA BV]);have fT:=aj cN;have DP:=nO j (by omega);clear BV tR tg cN;go_wp2_with fail;go_loopw [10] (fun c w'=>∃k:Nat,k<=256/\c=.int .i64 k/\w'.heap[w.heap.size]?=some (aW (vV l k))/\w'.heap[r]?=some (fh s (j+1:Nat) 0 0 nv 0)/\Kp [r] w w') (fun c _=>256-(aG c).toNat)
     case atStart =>
      exact⟨0,by omega,rfl,by rw[vV];rw[aQ,az iV];exact Pm.o,uc (by exact pP.o),(Qp.o.drewN n0).set (.inl (by simp)) _ _⟩
     case round =>
      obtain⟨k,hk,rfl,bk,rk,kk⟩:=hrel;obtain⟨RK,BK,fF⟩:=cR rk bk kk;have MU0:ax True:=trivial;clear rk kk fH fI fJ fK fL fM fN fO fP;by_cases aN:k<256
      .have ck:=gz bk k (by rw[Fy,hl];exact aN);rw[abK l k k (by omega) (by omega),az (by omega)]at ck;have fk:=kJ bk k;have gU:(k:Int)<256:=(by omega);clear bk;go_wp2;refine⟨⟨k+1,by omega,by go_num,?_,?_,fF.o.set (.inr (aH _)) _ _⟩,by simp[aG];omega⟩
       .rw[nF BK.o k];simp only[vV,aO,zP]
       .rw[aQ,az (Ne.symm iV)];exact RK.o
      .have l8:k=256:=(by omega);subst l8;clear bk aN;go_wp2;go_ret;(have e1:RS=good (j+1) (kZ acc):=by rw[hq.o,fT.o,az (by simp[good])];rfl);refine⟨rfl,((j+1:Nat):Int),vV l 256,by rw[Fy];exact hl,BK.o,by rw[e1];exact RK.o,fF.o,fun _=>?_⟩;rw[e1];refine⟨rfl,?_⟩;have:=alB l;rw[hl]at this;rw[this,zP,ai9];rfl
    ·(have akp:((gt s j:Int) != 93)=true:=by simp;omega);have kI:ax (RR=if (dz s j).err≠0 then dz s j else jx s m (acc ||| (dz s j).v) (dz s j).j):=by
      show _=_;rw[tR,jx,az tg,az BV,CE]
     have RD:ax ((wr.drewN n0).heap[r]?=some (fh s j 0 0 nv 0)):=pP.o;have BB:ax ((wr.drewN n0).heap[w.heap.size]?=some (aW l)):=Pm.o;have KK:ax (Kp [r] w (wr.drewN n0)):=Qp.o.drewN n0;clear fH fI fJ fK fL fM fN fO fP;clear BV tR tg;obtain⟨fH,fI,fJ,fK,fL,fM,_,fN,fO,fP,_,_⟩:=dM RD.o;go_wp2_with fail;refine(I8 s j r nv _ (by exact RD.o) hj hs).mono ?_;rintro _ w2 ⟨v,i2,rfl,hv,h2,k2,iW⟩;have sh:=An s j hz;have K2:ax (Kp [r] w w2):=KK.o.trans k2 (by simp);have B2:=aj (k2.keep BB.o (by simp[iV]));(have B7:dz s j=if (bI s j).err≠0 then bI s j else if gt s (bI s j).j=45 then(if (bI s (((bI s j).j)+1)).err≠0 then bI s ((bI s j).j+1) else if (bI s ((bI s j).j+1)).v<(bI s j).v then de s 6 j 0 else good (bI s ((bI s j).j+1)).j (dY (bI s j).v ((bI s ((bI s j).j+1)).v+1))) else good (bI s j).j (dY (bI s j).v ((bI s j).v+1)):=rfl);generalize bI s j=A at *;have HIT:=aj B7;clear fH fI fJ fK fL fM fN fO fP;clear B7 k2 BB KK;rcases sh with⟨a1,a2,a3,a4,a5⟩|⟨a1,a2,a3⟩
     .obtain⟨e1,e2⟩:=iW a1;subst e1;rw[a1,a2,e2]at h2;have H2:=aj h2;obtain⟨fH,fI,fJ,fK,fL,fM,_,fN,fO,fP,_,_⟩:=dM h2;clear h2 iW e2;go_wp2_with fail;refine(iE s A.j r 0 0 nv _ (by exact H2.o)).mono ?_;rintro _ w3 ⟨rfl,n3,rfl⟩;by_cases oQ:gt s A.j=45
      .rw[oQ];(have KG:A.j+1<=s.size:=by have:=hz A.j;omega);have Iv:=nO A.j (by omega);have H3:ax (((w2.drewN n3).setCell ⟨r,1,none⟩ (.int .i64 (A.j+1:Nat))).heap[r]?=some (fh s (A.j+1:Nat) 0 0 nv 0)):=uc (by exact H2.o);have K3:ax (Kp [r] w ((w2.drewN n3).setCell ⟨r,1,none⟩ (.int .i64 (A.j+1:Nat)))):=(K2.o.drewN n3).set (.inl (by simp)) _ _;(have B3:ax (((w2.drewN n3).setCell ⟨r,1,none⟩ (.int .i64 (A.j+1:Nat))).heap[w.heap.size]?=some (aW l)):=by show _=_;rw[aQ,az iV];exact B2.o);have HG:=aj oQ;clear oQ;go_wp2_with fail;refine(I8 s (A.j+1) r nv _ (by exact H3.o) KG hs).mono ?_;rintro _ w4 ⟨v4,i4,rfl,Ol,h4,k4,vX⟩;have Mo:=An s (A.j+1) hz;have KK:ax (Kp [r] w w4):=K3.o.trans k4 (by simp);have BB:=aj (k4.keep (by exact B3.o) (by simp[iV]));generalize bI s (A.j+1)=B at *;clear fH fI fJ fK fL fM fN fO fP;clear k4 K3 B3 H3;rcases Mo with⟨b1,b2,b3,b4,b5⟩|⟨b1,b2,b3⟩
       .obtain⟨e1,e2⟩:=vX b1;subst e1;rw[b1,b2,e2]at h4;have H4:=aj h4;obtain⟨fH,fI,fJ,fK,fL,fM,_,fN,fO,fP,_,_⟩:=dM h4;clear h4 vX e2;by_cases aN:B.v<A.v
        .have gU:(B.v:Int)<A.v:=(by omega);have hI:dz s j=de s 6 j 0:=(by rw[HIT.o,az (by simp[a1]),aA HG.o,az (by simp[b1]),aA aN]);have cN:RR=de s 6 j 0:=(by rw[kI.o,hI,aA (by simp[de])]);clear hI;(have RE:ax (RR.err=6):=by show _=_;rw[cN];rfl);(have RP:ax (RR.pl=j):=by show _=_;rw[cN];rfl);(have HE:ax ((6:Int)≠0):=by show _≠_;decide);clear cN aN;go_wp2_with fail;refine(rH s B.j r 0 0 6 j nv _ (by exact H4.o)).mono ?_;rintro _ w5 ⟨rfl,h5,k5⟩;have HH:=aj h5;have JS:ax (Kp [r] w w5):=KK.o.trans k5 (by simp);have Jk:=aj (k5.keep BB.o (by simp[iV]));clear KK BB;have KK:=JS;have BB:=Jk;clear fH fI fJ fK fL fM fN fO fP;obtain⟨fH,fI,fJ,fK,fL,fM,_,fN,fO,fP,_,_⟩:=dM HH.o;have mM:¬((A.v:Int)<=B.v):=(by omega);clear h5 k5 gU;go_wp2_with fail;(go_rounds 1);refine⟨⟨l,hl,BB.o,KK.o,.inr ⟨_,rfl,by rw[RE.o];exact HE.o,by rw[RE.o,RP.o];exact HH.o⟩⟩,?_⟩;rw[MU.o,nw HH.o HE.o];omega
        .have hPv:A.v<=B.v:=(by omega);have oJ:ax (RR=jx s m (acc ||| dY A.v (B.v+1)) B.j):=by
          have hI:dz s j=good B.j (dY A.v (B.v+1)):=(by rw[HIT.o,az (by simp[a1]),aA HG.o,az (by simp[b1]),az aN]);show _=_;rw[kI.o,hI,az (by simp[good])];rfl
         have gU:¬((B.v:Int)<A.v):=(by omega);have KI:j<B.j:=(by omega);have vL:B.j<=s.size:=b4;have HH:=H4;have hhi:B.v<256:=b5;rw[zP]at BB;clear aN kI HIT;generalize B.j=P at *;generalize lu:A.v=lo at *;generalize abm:B.v=hi at *;go_wp2_with fail;go_loopw [9] (fun c w'=>∃k:Nat,lo<=k/\k<=hi+1/\c=.int .i64 k/\w'.heap[w.heap.size]?=some (aW (js (acc ||| dY lo k)))/\w'.heap[r]?=some (fh s P 0 0 nv 0)/\Kp [r] w w') (fun c _=>hi+1-(aG c).toNat)
         case atStart =>
          refine⟨lo,aH _,by omega,by go_num,?_,HH.o,KK.o⟩;rw[Jb lo lo (aH _),zq];exact BB.o
         case round =>
          clear fH fI fJ fK fL fM fN fO fP;obtain⟨k,jt,jk,rfl,bk,rk,kk⟩:=hrel;obtain⟨fH,fI,fJ,fK,fL,fM,_,fN,fO,fP,_,_⟩:=dM rk;obtain⟨RK,BK,fF⟩:=cR rk bk kk;clear rk kk;by_cases iu:k<=hi
          .have ck:=gz bk k (by rw[kC];omega);have fk:=kJ bk k;have mM:(k:Int)<=hi:=(by omega);have Ld:(k:Int)<256:=(by omega);clear bk;go_wp2;refine⟨⟨k+1,by omega,by omega,by go_num,?_,?_,fF.o.set (.inr (aH _)) _ _⟩,by simp[aG];omega⟩
           .rw[nF BK.o k true,E2 _ k (by omega),Jc lo k jt,wN]
           .rw[aQ,az (Ne.symm iV)];exact RK.o
          .have l8:k=hi+1:=(by omega);have ve:=aj l8;have mM:¬((k:Int)<=hi):=(by omega);clear bk l8;go_wp2_with fail;refine(iE s P r 0 0 nv _ (by exact RK.o)).mono ?_;rintro _ w5 ⟨rfl,n5,rfl⟩;by_cases gP:gt s P=0
           .rw[gP];have GP:=aj gP;clear gP;go_wp2_with fail;refine(rH s P r 0 0 4 s.size nv _ (by exact RK.o)).mono ?_;rintro _ w6 ⟨rfl,h6,k6⟩;have H6:=aj h6;have K6:ax (Kp [r] w w6):=(fF.o.drewN n5).trans k6 (by simp);have B6:=aj (k6.keep (by exact BK.o) (by simp[iV]));have cN:RR=de s 4 s.size 0:=(by rw[oJ.o,jx,aA GP.o]);have fT:=aj cN;clear h6 k6 cN;go_wp2;refine⟨⟨_,kC _,B6.o,K6.o,.inr ⟨_,rfl,by rw[fT.o];simp[de],by rw[fT.o];exact H6.o⟩⟩,?_⟩;rw[MU.o,nw H6.o (by decide)];omega
           ·(have Kz:((gt s P:Int) == 0)=false:=by simp;omega);have GP:=aj gP;clear gP;go_wp2;refine⟨⟨_,kC _,BK.o,fF.o.drewN n5,.inl ⟨false,P,m,_,rfl,rfl,RK.o,vL,by omega,(fun e=>by cases e),fun _=>⟨by rw[oJ.o,ve.o],GP.o⟩⟩⟩,?_⟩;rw[MU.o,CJ (by exact RK.o)];omega
       .have hI:dz s j=B:=(by rw[HIT.o,az (by simp[a1]),aA HG.o,aA b1]);have cN:RR=B:=(by rw[kI.o,hI,aA b1]);clear hI;(have RE:ax (RR.err=B.err):=by show _=_;rw[cN]);(have RP:ax (RR.pl=B.pl):=by show _=_;rw[cN]);have HE:=aj b1;have HH:=aj h4;obtain⟨fH,fI,fJ,fK,fL,fM,_,fN,fO,fP,_,_⟩:=dM h4;(have DB:(B.err == 0)=false:=by simp[b1]);clear cN h4 vX b1;by_cases iu:A.v<=v4
        .have mM:(A.v:Int)<=v4:=(by omega);clear iu;go_wp2_with fail;(go_rounds 1);refine⟨⟨l,hl,BB.o,KK.o,.inr ⟨_,rfl,by rw[RE.o];exact HE.o,by rw[RE.o,RP.o];exact HH.o⟩⟩,?_⟩;rw[MU.o,nw HH.o HE.o];omega
        .have mM:¬((A.v:Int)<=v4):=(by omega);clear iu;go_wp2_with fail;(go_rounds 1);refine⟨⟨l,hl,BB.o,KK.o,.inr ⟨_,rfl,by rw[RE.o];exact HE.o,by rw[RE.o,RP.o];exact HH.o⟩⟩,?_⟩;rw[MU.o,nw HH.o HE.o];omega
      ·(have abc:((gt s A.j:Int) == 45)=false:=by simp;omega);have oJ:ax (RR=jx s m (acc ||| dY A.v (A.v+1)) A.j):=by
        have hI:dz s j=good A.j (dY A.v (A.v+1)):=(by rw[HIT.o,az (by simp[a1]),az oQ]);show _=_;rw[kI.o,hI,az (by simp[good])];rfl
       have KI:j<A.j:=a3;have vL:A.j<=s.size:=a4;have HH:ax ((w2.drewN n3).heap[r]?=some (fh s A.j 0 0 nv 0)):=H2.o;have KK:ax (Kp [r] w (w2.drewN n3)):=K2.o.drewN n3;(have BB:ax ((w2.drewN n3).heap[w.heap.size]?=some (aW (js acc))):=by show _=_;rw[<-zP];exact B2.o);generalize lu:A.v=lo at *;have hi:Nat:=lo;clear hi oQ kI HIT;generalize A.j=P at *;go_wp2_with fail;go_loopw [9] (fun c w'=>∃k:Nat,lo<=k/\k<=lo+1/\c=.int .i64 k/\w'.heap[w.heap.size]?=some (aW (js (acc ||| dY lo k)))/\w'.heap[r]?=some (fh s P 0 0 nv 0)/\Kp [r] w w') (fun c _=>lo+1-(aG c).toNat)
       case atStart =>
        refine⟨lo,aH _,by omega,by go_num,?_,HH.o,KK.o⟩;rw[Jb lo lo (aH _),zq];exact BB.o
       case round =>
        clear fH fI fJ fK fL fM fN fO fP;obtain⟨k,jt,jk,rfl,bk,rk,kk⟩:=hrel;obtain⟨fH,fI,fJ,fK,fL,fM,_,fN,fO,fP,_,_⟩:=dM rk;obtain⟨RK,BK,fF⟩:=cR rk bk kk;clear rk kk;by_cases iu:k<=lo
        .have ck:=gz bk k (by rw[kC];omega);have fk:=kJ bk k;have mM:(k:Int)<=lo:=(by omega);have Ld:(k:Int)<256:=(by omega);clear bk;go_wp2;refine⟨⟨k+1,by omega,by omega,by go_num,?_,?_,fF.o.set (.inr (aH _)) _ _⟩,by simp[aG];omega⟩
         .rw[nF BK.o k true,E2 _ k (by omega),Jc lo k jt,wN]
         .rw[aQ,az (Ne.symm iV)];exact RK.o
        .have l8:k=lo+1:=(by omega);have ve:=aj l8;have mM:¬((k:Int)<=lo):=(by omega);clear bk l8;go_wp2_with fail;refine(iE s P r 0 0 nv _ (by exact RK.o)).mono ?_;rintro _ w5 ⟨rfl,n5,rfl⟩;by_cases gP:gt s P=0
         .rw[gP];have GP:=aj gP;clear gP;go_wp2_with fail;refine(rH s P r 0 0 4 s.size nv _ (by exact RK.o)).mono ?_;rintro _ w6 ⟨rfl,h6,k6⟩;have H6:=aj h6;have K6:ax (Kp [r] w w6):=(fF.o.drewN n5).trans k6 (by simp);have B6:=aj (k6.keep (by exact BK.o) (by simp[iV]));have cN:RR=de s 4 s.size 0:=(by rw[oJ.o,jx,aA GP.o]);have fT:=aj cN;clear h6 k6 cN;go_wp2;refine⟨⟨_,kC _,B6.o,K6.o,.inr ⟨_,rfl,by rw[fT.o];simp[de],by rw[fT.o];exact H6.o⟩⟩,?_⟩;rw[MU.o,nw H6.o (by decide)];omega
         ·(have Kz:((gt s P:Int) == 0)=false:=by simp;omega);have GP:=aj gP;clear gP;go_wp2;refine⟨⟨_,kC _,BK.o,fF.o.drewN n5,.inl ⟨false,P,m,_,rfl,rfl,RK.o,vL,by omega,(fun e=>by cases e),fun _=>⟨by rw[oJ.o,ve.o],GP.o⟩⟩⟩,?_⟩;rw[MU.o,CJ (by exact RK.o)];omega
     .have hI:dz s j=A:=(by rw[HIT.o,aA a1]);have cN:RR=A:=(by rw[kI.o,hI,aA a1]);clear hI;(have RE:ax (RR.err=A.err):=by show _=_;rw[cN]);(have RP:ax (RR.pl=A.pl):=by show _=_;rw[cN]);have HE:=aj a1;have H2:=aj h2;obtain⟨fH,fI,fJ,fK,fL,fM,_,fN,fO,fP,_,_⟩:=dM h2;(have Sp:(A.err == 0)=false:=by simp[a1]);clear cN h2 iW;go_wp2_with fail;refine(D1 s i2 r A.err A.pl 0 nv _ (by exact H2.o) HE.o).mono ?_;rintro _ w3 ⟨rfl,n3,rfl⟩;have HH:ax ((w2.drewN n3).heap[r]?=some (fh s i2 A.err A.pl nv 0)):=H2.o;have KK:ax (Kp [r] w (w2.drewN n3)):=K2.o.drewN n3;have BB:ax ((w2.drewN n3).heap[w.heap.size]?=some (aW l)):=B2.o;clear a1;go_wp2_with fail;(go_rounds 1);refine⟨⟨l,hl,BB.o,KK.o,.inr ⟨_,rfl,by rw[RE.o];exact HE.o,by rw[RE.o,RP.o];exact HH.o⟩⟩,?_⟩;rw[MU.o,nw HH.o HE.o];omega
   .have tR:=t1 rfl;have kI:ax (RR=if (dz s j).err≠0 then dz s j else jx s m (acc ||| (dz s j).v) (dz s j).j):=by
     show _=_;rw[tR,CE]
    obtain⟨RD,BB,KK⟩:=cR rd bb kk;clear rd bb kk t1 t2 tR;obtain⟨fH,fI,fJ,fK,fL,fM,_,fN,fO,fP,_,_⟩:=dM RD.o;go_wp2_with fail;refine(I8 s j r nv _ (by exact RD.o) hj hs).mono ?_;rintro _ w2 ⟨v,i2,rfl,hv,h2,k2,iW⟩;have sh:=An s j hz;have K2:ax (Kp [r] w w2):=KK.o.trans k2 (by simp);have B2:=aj (k2.keep BB.o (by simp[iV]));(have B7:dz s j=if (bI s j).err≠0 then bI s j else if gt s (bI s j).j=45 then(if (bI s (((bI s j).j)+1)).err≠0 then bI s ((bI s j).j+1) else if (bI s ((bI s j).j+1)).v<(bI s j).v then de s 6 j 0 else good (bI s ((bI s j).j+1)).j (dY (bI s j).v ((bI s ((bI s j).j+1)).v+1))) else good (bI s j).j (dY (bI s j).v ((bI s j).v+1)):=rfl);generalize bI s j=A at *;have HIT:=aj B7;clear fH fI fJ fK fL fM fN fO fP;clear B7 k2 BB KK;rcases sh with⟨a1,a2,a3,a4,a5⟩|⟨a1,a2,a3⟩
    .obtain⟨e1,e2⟩:=iW a1;subst e1;rw[a1,a2,e2]at h2;have H2:=aj h2;obtain⟨fH,fI,fJ,fK,fL,fM,_,fN,fO,fP,_,_⟩:=dM h2;clear h2 iW e2;go_wp2_with fail;refine(iE s A.j r 0 0 nv _ (by exact H2.o)).mono ?_;rintro _ w3 ⟨rfl,n3,rfl⟩;by_cases oQ:gt s A.j=45
     .rw[oQ];(have KG:A.j+1<=s.size:=by have:=hz A.j;omega);have Iv:=nO A.j (by omega);have H3:ax (((w2.drewN n3).setCell ⟨r,1,none⟩ (.int .i64 (A.j+1:Nat))).heap[r]?=some (fh s (A.j+1:Nat) 0 0 nv 0)):=uc (by exact H2.o);have K3:ax (Kp [r] w ((w2.drewN n3).setCell ⟨r,1,none⟩ (.int .i64 (A.j+1:Nat)))):=(K2.o.drewN n3).set (.inl (by simp)) _ _;(have B3:ax (((w2.drewN n3).setCell ⟨r,1,none⟩ (.int .i64 (A.j+1:Nat))).heap[w.heap.size]?=some (aW l)):=by show _=_;rw[aQ,az iV];exact B2.o);have HG:=aj oQ;clear oQ;go_wp2_with fail;refine(I8 s (A.j+1) r nv _ (by exact H3.o) KG hs).mono ?_;rintro _ w4 ⟨v4,i4,rfl,Ol,h4,k4,vX⟩;have Mo:=An s (A.j+1) hz;have KK:ax (Kp [r] w w4):=K3.o.trans k4 (by simp);have BB:=aj (k4.keep (by exact B3.o) (by simp[iV]));generalize bI s (A.j+1)=B at *;clear fH fI fJ fK fL fM fN fO fP;clear k4 K3 B3 H3;rcases Mo with⟨b1,b2,b3,b4,b5⟩|⟨b1,b2,b3⟩
      .obtain⟨e1,e2⟩:=vX b1;subst e1;rw[b1,b2,e2]at h4;have H4:=aj h4;obtain⟨fH,fI,fJ,fK,fL,fM,_,fN,fO,fP,_,_⟩:=dM h4;clear h4 vX e2;by_cases aN:B.v<A.v
       .have gU:(B.v:Int)<A.v:=(by omega);have hI:dz s j=de s 6 j 0:=(by rw[HIT.o,az (by simp[a1]),aA HG.o,az (by simp[b1]),aA aN]);have cN:RR=de s 6 j 0:=(by rw[kI.o,hI,aA (by simp[de])]);clear hI;(have RE:ax (RR.err=6):=by show _=_;rw[cN];rfl);(have RP:ax (RR.pl=j):=by show _=_;rw[cN];rfl);(have HE:ax ((6:Int)≠0):=by show _≠_;decide);clear cN aN;go_wp2_with fail;refine(rH s B.j r 0 0 6 j nv _ (by exact H4.o)).mono ?_;rintro _ w5 ⟨rfl,h5,k5⟩;have HH:=aj h5;have JS:ax (Kp [r] w w5):=KK.o.trans k5 (by simp);have Jk:=aj (k5.keep BB.o (by simp[iV]));clear KK BB;have KK:=JS;have BB:=Jk;clear fH fI fJ fK fL fM fN fO fP;obtain⟨fH,fI,fJ,fK,fL,fM,_,fN,fO,fP,_,_⟩:=dM HH.o;have mM:¬((A.v:Int)<=B.v):=(by omega);clear h5 k5 gU;go_wp2_with fail;(go_rounds 1);refine⟨⟨l,hl,BB.o,KK.o,.inr ⟨_,rfl,by rw[RE.o];exact HE.o,by rw[RE.o,RP.o];exact HH.o⟩⟩,?_⟩;rw[MU.o,nw HH.o HE.o];omega
       .have hPv:A.v<=B.v:=(by omega);have oJ:ax (RR=jx s m (acc ||| dY A.v (B.v+1)) B.j):=by
         have hI:dz s j=good B.j (dY A.v (B.v+1)):=(by rw[HIT.o,az (by simp[a1]),aA HG.o,az (by simp[b1]),az aN]);show _=_;rw[kI.o,hI,az (by simp[good])];rfl
        have gU:¬((B.v:Int)<A.v):=(by omega);have KI:j<B.j:=(by omega);have vL:B.j<=s.size:=b4;have HH:=H4;have hhi:B.v<256:=b5;rw[zP]at BB;clear aN kI HIT;generalize B.j=P at *;generalize lu:A.v=lo at *;generalize abm:B.v=hi at *;go_wp2_with fail;go_loopw [9] (fun c w'=>∃k:Nat,lo<=k/\k<=hi+1/\c=.int .i64 k/\w'.heap[w.heap.size]?=some (aW (js (acc ||| dY lo k)))/\w'.heap[r]?=some (fh s P 0 0 nv 0)/\Kp [r] w w') (fun c _=>hi+1-(aG c).toNat)
        case atStart =>
         refine⟨lo,aH _,by omega,by go_num,?_,HH.o,KK.o⟩;rw[Jb lo lo (aH _),zq];exact BB.o
        case round =>
         clear fH fI fJ fK fL fM fN fO fP;obtain⟨k,jt,jk,rfl,bk,rk,kk⟩:=hrel;obtain⟨fH,fI,fJ,fK,fL,fM,_,fN,fO,fP,_,_⟩:=dM rk;obtain⟨RK,BK,fF⟩:=cR rk bk kk;clear rk kk;by_cases iu:k<=hi
         .have ck:=gz bk k (by rw[kC];omega);have fk:=kJ bk k;have mM:(k:Int)<=hi:=(by omega);have Ld:(k:Int)<256:=(by omega);clear bk;go_wp2;refine⟨⟨k+1,by omega,by omega,by go_num,?_,?_,fF.o.set (.inr (aH _)) _ _⟩,by simp[aG];omega⟩
          .rw[nF BK.o k true,E2 _ k (by omega),Jc lo k jt,wN]
          .rw[aQ,az (Ne.symm iV)];exact RK.o
         .have l8:k=hi+1:=(by omega);have ve:=aj l8;have mM:¬((k:Int)<=hi):=(by omega);clear bk l8;go_wp2_with fail;refine(iE s P r 0 0 nv _ (by exact RK.o)).mono ?_;rintro _ w5 ⟨rfl,n5,rfl⟩;by_cases gP:gt s P=0
          .rw[gP];have GP:=aj gP;clear gP;go_wp2_with fail;refine(rH s P r 0 0 4 s.size nv _ (by exact RK.o)).mono ?_;rintro _ w6 ⟨rfl,h6,k6⟩;have H6:=aj h6;have K6:ax (Kp [r] w w6):=(fF.o.drewN n5).trans k6 (by simp);have B6:=aj (k6.keep (by exact BK.o) (by simp[iV]));have cN:RR=de s 4 s.size 0:=(by rw[oJ.o,jx,aA GP.o]);have fT:=aj cN;clear h6 k6 cN;go_wp2;refine⟨⟨_,kC _,B6.o,K6.o,.inr ⟨_,rfl,by rw[fT.o];simp[de],by rw[fT.o];exact H6.o⟩⟩,?_⟩;rw[MU.o,nw H6.o (by decide)];omega
          ·(have Kz:((gt s P:Int) == 0)=false:=by simp;omega);have GP:=aj gP;clear gP;go_wp2;refine⟨⟨_,kC _,BK.o,fF.o.drewN n5,.inl ⟨false,P,m,_,rfl,rfl,RK.o,vL,by omega,(fun e=>by cases e),fun _=>⟨by rw[oJ.o,ve.o],GP.o⟩⟩⟩,?_⟩;rw[MU.o,CJ (by exact RK.o)];omega
      .have hI:dz s j=B:=(by rw[HIT.o,az (by simp[a1]),aA HG.o,aA b1]);have cN:RR=B:=(by rw[kI.o,hI,aA b1]);clear hI;(have RE:ax (RR.err=B.err):=by show _=_;rw[cN]);(have RP:ax (RR.pl=B.pl):=by show _=_;rw[cN]);have HE:=aj b1;have HH:=aj h4;obtain⟨fH,fI,fJ,fK,fL,fM,_,fN,fO,fP,_,_⟩:=dM h4;(have DB:(B.err == 0)=false:=by simp[b1]);clear cN h4 vX b1;by_cases iu:A.v<=v4
       .have mM:(A.v:Int)<=v4:=(by omega);clear iu;go_wp2_with fail;(go_rounds 1);refine⟨⟨l,hl,BB.o,KK.o,.inr ⟨_,rfl,by rw[RE.o];exact HE.o,by rw[RE.o,RP.o];exact HH.o⟩⟩,?_⟩;rw[MU.o,nw HH.o HE.o];omega
       .have mM:¬((A.v:Int)<=v4):=(by omega);clear iu;go_wp2_with fail;(go_rounds 1);refine⟨⟨l,hl,BB.o,KK.o,.inr ⟨_,rfl,by rw[RE.o];exact HE.o,by rw[RE.o,RP.o];exact HH.o⟩⟩,?_⟩;rw[MU.o,nw HH.o HE.o];omega
     ·(have abc:((gt s A.j:Int) == 45)=false:=by simp;omega);have oJ:ax (RR=jx s m (acc ||| dY A.v (A.v+1)) A.j):=by
       have hI:dz s j=good A.j (dY A.v (A.v+1)):=(by rw[HIT.o,az (by simp[a1]),az oQ]);show _=_;rw[kI.o,hI,az (by simp[good])];rfl
      have KI:j<A.j:=a3;have vL:A.j<=s.size:=a4;have HH:ax ((w2.drewN n3).heap[r]?=some (fh s A.j 0 0 nv 0)):=H2.o;have KK:ax (Kp [r] w (w2.drewN n3)):=K2.o.drewN n3;(have BB:ax ((w2.drewN n3).heap[w.heap.size]?=some (aW (js acc))):=by show _=_;rw[<-zP];exact B2.o);generalize lu:A.v=lo at *;have hi:Nat:=lo;clear hi oQ kI HIT;generalize A.j=P at *;go_wp2_with fail;go_loopw [9] (fun c w'=>∃k:Nat,lo<=k/\k<=lo+1/\c=.int .i64 k/\w'.heap[w.heap.size]?=some (aW (js (acc ||| dY lo k)))/\w'.heap[r]?=some (fh s P 0 0 nv 0)/\Kp [r] w w') (fun c _=>lo+1-(aG c).toNat)
      case atStart =>
       refine⟨lo,aH _,by omega,by go_num,?_,HH.o,KK.o⟩;rw[Jb lo lo (aH _),zq];exact BB.o
      case round =>
       clear fH fI fJ fK fL fM fN fO fP;obtain⟨k,jt,jk,rfl,bk,rk,kk⟩:=hrel;obtain⟨fH,fI,fJ,fK,fL,fM,_,fN,fO,fP,_,_⟩:=dM rk;obtain⟨RK,BK,fF⟩:=cR rk bk kk;clear rk kk;by_cases iu:k<=lo
       .have ck:=gz bk k (by rw[kC];omega);have fk:=kJ bk k;have mM:(k:Int)<=lo:=(by omega);have Ld:(k:Int)<256:=(by omega);clear bk;go_wp2;refine⟨⟨k+1,by omega,by omega,by go_num,?_,?_,fF.o.set (.inr (aH _)) _ _⟩,by simp[aG];omega⟩
        .rw[nF BK.o k true,E2 _ k (by omega),Jc lo k jt,wN]
        .rw[aQ,az (Ne.symm iV)];exact RK.o
       .have l8:k=lo+1:=(by omega);have ve:=aj l8;have mM:¬((k:Int)<=lo):=(by omega);clear bk l8;go_wp2_with fail;refine(iE s P r 0 0 nv _ (by exact RK.o)).mono ?_;rintro _ w5 ⟨rfl,n5,rfl⟩;by_cases gP:gt s P=0
        .rw[gP];have GP:=aj gP;clear gP;go_wp2_with fail;refine(rH s P r 0 0 4 s.size nv _ (by exact RK.o)).mono ?_;rintro _ w6 ⟨rfl,h6,k6⟩;have H6:=aj h6;have K6:ax (Kp [r] w w6):=(fF.o.drewN n5).trans k6 (by simp);have B6:=aj (k6.keep (by exact BK.o) (by simp[iV]));have cN:RR=de s 4 s.size 0:=(by rw[oJ.o,jx,aA GP.o]);have fT:=aj cN;clear h6 k6 cN;go_wp2;refine⟨⟨_,kC _,B6.o,K6.o,.inr ⟨_,rfl,by rw[fT.o];simp[de],by rw[fT.o];exact H6.o⟩⟩,?_⟩;rw[MU.o,nw H6.o (by decide)];omega
        ·(have Kz:((gt s P:Int) == 0)=false:=by simp;omega);have GP:=aj gP;clear gP;go_wp2;refine⟨⟨_,kC _,BK.o,fF.o.drewN n5,.inl ⟨false,P,m,_,rfl,rfl,RK.o,vL,by omega,(fun e=>by cases e),fun _=>⟨by rw[oJ.o,ve.o],GP.o⟩⟩⟩,?_⟩;rw[MU.o,CJ (by exact RK.o)];omega
    .have hI:dz s j=A:=(by rw[HIT.o,aA a1]);have cN:RR=A:=(by rw[kI.o,hI,aA a1]);clear hI;(have RE:ax (RR.err=A.err):=by show _=_;rw[cN]);(have RP:ax (RR.pl=A.pl):=by show _=_;rw[cN]);have HE:=aj a1;have H2:=aj h2;obtain⟨fH,fI,fJ,fK,fL,fM,_,fN,fO,fP,_,_⟩:=dM h2;(have Sp:(A.err == 0)=false:=by simp[a1]);clear cN h2 iW;go_wp2_with fail;refine(D1 s i2 r A.err A.pl 0 nv _ (by exact H2.o) HE.o).mono ?_;rintro _ w3 ⟨rfl,n3,rfl⟩;have HH:ax ((w2.drewN n3).heap[r]?=some (fh s i2 A.err A.pl nv 0)):=H2.o;have KK:ax (Kp [r] w (w2.drewN n3)):=K2.o.drewN n3;have BB:ax ((w2.drewN n3).heap[w.heap.size]?=some (aW l)):=B2.o;clear a1;go_wp2_with fail;(go_rounds 1);refine⟨⟨l,hl,BB.o,KK.o,.inr ⟨_,rfl,by rw[RE.o];exact HE.o,by rw[RE.o,RP.o];exact HH.o⟩⟩,?_⟩;rw[MU.o,nw HH.o HE.o];omega
  .have H1:=aj rd;have HE:=aj he;obtain⟨fH,fI,fJ,fK,fL,fM,_,fN,fO,fP,_,_⟩:=dM rd;(have Sp:(RR.err == 0)=false:=by simp[he]);have BB:=aj bb;have KK:=aj kk;clear rd he bb kk;go_wp2_with fail;go_loopw [10] (fun c w'=>∃k:Nat,k<=256/\c=.int .i64 k/\w'.heap[w.heap.size]?=some (aW (vV l k))/\w'.heap[r]?=some (fh s (wrap64 (iv+1)) RR.err RR.pl nv 0)/\Kp [r] w w') (fun c _=>256-(aG c).toNat)
   case atStart =>
    exact⟨0,by omega,rfl,by rw[vV];rw[aQ,az iV];exact BB.o,uc H1.o,KK.o.set (.inl (by simp)) _ _⟩
   case round =>
    obtain⟨k,hk,rfl,bk,rk,kk⟩:=hrel;obtain⟨RK,BK,fF⟩:=cR rk bk kk;have MU0:ax True:=trivial;clear rk kk fH fI fJ fK fL fM fN fO fP;by_cases aN:k<256
    .have ck:=gz bk k (by rw[Fy,hl];exact aN);rw[abK l k k (by omega) (by omega),az (by omega)]at ck;have fk:=kJ bk k;have gU:(k:Int)<256:=(by omega);clear bk;go_wp2;refine⟨⟨k+1,by omega,by go_num,?_,?_,fF.o.set (.inr (aH _)) _ _⟩,by simp[aG];omega⟩
     .rw[nF BK.o k];simp only[vV,aO,bD (show k<ae l by omega),nV]
     .rw[aQ,az (Ne.symm iV)];exact RK.o
    .have l8:k=256:=(by omega);subst l8;clear bk aN;go_wp2;go_ret;have e1:RS=RR:=(by rw[hq.o,aA HE.o]);exact⟨rfl,_,vV l 256,by rw[Fy];exact hl,BK.o,by rw[e1];exact RK.o,fF.o,fun e=>absurd e (by rw[e1];exact HE.o)⟩
theorem anQ(s:ByteArray)(i r:Nat)(nv:aq)(w:ay)(h:w.heap[r]?=some (fh s i 0 0 nv 0))(hz:Nz s)(hi:i<=s.size)(hs:s.size<=16):aI aB 77 #[.pointer (some ⟨r,0,none⟩)] w (aax (gG s i) s r nv w):=by
 by_cases hg:gt s i=94
 .exact anR s i r nv w h hz hi hs hg
 .exact anS s i r nv w h hz hi hs hg
theorem ann(s:ByteArray)(i r:Nat)(nv:aq)(ns:List ND)(Ls:List AN)(w:ay)(h:eu w s i 0 0 r nv ns)(t:gu w ns Ls)(hi:i<s.size)(hs:s.size<=16)(hn:(ae ns)<=900)(hg:gt s i=91)(hz:Nz s)(acc:aD)(RR:PR aD)(hR:RR=if (gG s (i+1)).err≠0 then⟨(gG s (i+1)).err,(gG s (i+1)).pl,(gG s (i+1)).j,acc⟩ else good (gG s (i+1)).j (aD.set (gG s (i+1)).v)):aI aB 50 #[.pointer (some ⟨r,0,none⟩)] w (wR (RR) 0 s i r nv ns Ls w):=by
 have HS:=aj h;have HT:=aj t;have H:=aj h.rd;have hr:=aE h.rd;have oU:=nO i (by omega);have iD:=nO (i+1) (by omega);have jI:=kj s i;have yK:=kj s (i+1);obtain⟨c0,c1,c2,c3,c4,c5,f0,f1,f2,f3,f4,f5⟩:=dM h.rd;have HR:=aj hR;clear hR;clear h t;go_enter Tryz.func50,Tryz.ntmps50;go_wp2_with fail;refine(iE s i r 0 0 nv _ (by exact H.o)).mono ?_;rw[hg];rintro _ w1 ⟨rfl,n1,rfl⟩;have SA:eu ((w.drewN n1).setCell ⟨r,1,none⟩ (.int .i64 (i+1:Nat))) s (i+1:Nat) 0 0 r nv ns:=eu.ou (HS.o.kp ((Kp.refl [] w).drewN n1) (by simp)) _;have KA:Kp [r] w ((w.drewN n1).setCell ⟨r,1,none⟩ (.int .i64 (i+1:Nat))):=((Kp.refl _ _).drewN n1).set (.inl (by simp)) _ _;have tG:=aj SA;have wJ:=aj KA;clear SA KA;clear hg;go_wp2_with fail;refine(anQ s (i+1) r nv _ (by exact tG.o.rd) hz (by omega) hs).mono ?_;rintro _ w2 ⟨rfl,iv,l,hl,b2,jn,k2,iW⟩;have sh:=Ur s (i+1) hz;generalize gG s (i+1)=R at *;have S2:=aj (tG.o.kr (by exact k2) jn);have K2:ax (Kp [r] w w2):=wJ.o.trans (by exact k2) (by simp);simp only[iA,yx]at b2;obtain⟨B2,o6,SH⟩:=cR b2 iW sh;clear b2 k2 jn iW sh;go_wp2_with fail;refine(Uw s iv R.err R.pl r nv ns Ls _ _ _ (by exact S2.o) (by omega) (by exact B2.o)).mono ?_;rintro _ w3 ⟨rfl,cY,s3,k3,gA,t3⟩;have T3:ax (∀q,l=js q->gu w3 _ (Ls ++ [(aD.set q,ae ns,ae ns+1)])):=fun q hq=>t3 q hq (HT.o.keep K2.o HS.o.NH)
 have S3:=aj s3;have K3:ax (Kp (fe r nv) w w3):=K2.o.IV.trans k3 (fun y hy=>.inl hy);have F3:ax (∀g∈fe r cY,g∈fe r nv\/w.heap.size<=g):=fun g hg=>by rcases gA g hg with e|e;exact .inl e;exact .inr (by have:=K2.o.size;omega)
 clear s3 k3 gA t3;go_wp2;go_ret;rcases SH.o with⟨a1,a2,a3,a4⟩|⟨a1,a2⟩
 .rw[HR.o,az (by simp[a1])];obtain⟨e1,e2⟩:=o6.o a1;have S4:=S3.o;rw[a1,a2,e1]at S4;exact⟨(ae ns),_,cY,_,rfl,S4,K3.o,F3.o,by simp[good]<;>omega,fun _=>⟨rfl,[(aD.set R.v,ae ns,ae ns+1)],_,rfl,ny.bytes _ _,T3.o R.v e2,by simp,by rw[cx];exact Fc Ls _ _ HT.o.len⟩⟩
 .rw[HR.o,aA a1];exact⟨(ae ns),_,cY,_,rfl,S3.o,K3.o,F3.o,by simp<;>omega,fun e=>absurd e a1⟩
def Hv:Nat->List Bool
 |0=>fl 256
 |k+1=>(Hv k).set k (k != 10)
theorem RG:∀k,(Hv k).length=256
 |0=>yE _
 |k+1=>by rw[Hv,mq];exact RG k
theorem ajM:∀k q,k<=256->q<k->(Hv k).getD q false=(q != 10):=by
 intro k;induction k with
 |zero=>intro q _ h;omega
 |succ k ih =>
  intro q hk hq;rw[Hv];by_cases h:q=k
  .subst h;rw[aO,GH (by rw[RG];omega),nV]
  .rw[aO,zo (fun e=>h e.symm),<-aO,ih q (by omega) (by omega)]
theorem ajL:Hv 256=js (kZ (1 <<< 10)):=by
 apply Qw
 .rw[RG,kC]
 .intro i h1 h2;have hi:i<256:=by rw[RG]at h1;exact h1
  have g1:=ajM 256 i (aH _) hi;have g2:=V8 (kZ (1 <<< 10)) i hi;rw[aO,bD h1,nV]at g1;rw[aO,bD h2,nV]at g2;rw[g1,g2,Rx,qM,ux];simp only[hi,decide_true,Bool.true_and];by_cases e:i=10
  .subst e;rfl
  ·(have:(i != 10)=true:=by simp[e]);rw[this];simp;omega
theorem anj(s:ByteArray)(i r:Nat)(nv:aq)(ns:List ND)(Ls:List AN)(w:ay)(h:eu w s i 0 0 r nv ns)(t:gu w ns Ls)(hi:i<s.size)(hs:s.size<=16)(hn:(ae ns)<=900)(hg:gt s i=46):aI aB 50 #[.pointer (some ⟨r,0,none⟩)] w (wR (good (i+1) (aD.set (kZ (1 <<< 10)))) 0 s i r nv ns Ls w):=by
 have HS:=aj h;have HT:=aj t;have H:=aj h.rd;have hr:=aE h.rd;have oU:=nO i (by omega);have iD:=nO (i+1) (by omega);have jI:=kj s i;have yK:=kj s (i+1);obtain⟨c0,c1,c2,c3,c4,c5,f0,f1,f2,f3,f4,f5⟩:=dM h.rd;have hm:=Yt;clear h t;go_enter Tryz.func50,Tryz.ntmps50;go_wp2_with fail;refine(iE s i r 0 0 nv _ (by exact H.o)).mono ?_;rw[hg];rintro _ w1 ⟨rfl,n1,rfl⟩;have SA:eu ((w.drewN n1).setCell ⟨r,1,none⟩ (.int .i64 (i+1:Nat))) s (i+1:Nat) 0 0 r nv ns:=eu.ou (HS.o.kp ((Kp.refl [] w).drewN n1) (by simp)) _;have KA:Kp [r] w ((w.drewN n1).setCell ⟨r,1,none⟩ (.int .i64 (i+1:Nat))):=((Kp.refl _ _).drewN n1).set (.inl (by simp)) _ _;have tG:=aj SA;have wJ:=aj KA;clear SA KA;clear hg;go_upto_region 17 with fail;have bW:(((w.drewN n1).setCell ⟨r,1,none⟩ (.int .i64 (i+1:Nat))).alloc (aW (fl 256))).heap[w.heap.size]?=some (aW (fl 256)):=(by rw[aC,iA,yx,aA rfl]);have SW:=tG.o.kp ((Kp.refl [] _).alloc (aW (fl 256))) (by simp);have KW:Kp [r] w (((w.drewN n1).setCell ⟨r,1,none⟩ (.int .i64 (i+1:Nat))).alloc (aW (fl 256))):=wJ.o.alloc _;obtain⟨BWH,SWH,KWH⟩:=cR bW SW KW;clear bW SW KW tG wJ hm c0 c1 c2 c3 c4 c5 f0 f1 f2 f3 f4 f5;go_wp2_with fail;go_loopw [7] (fun c w'=>∃k:Nat,k<=256/\c=.int .i64 k/\w'.heap[w.heap.size]?=some (aW (Hv k))/\eu w' s (i+1:Nat) 0 0 r nv ns/\Kp [r] w w') (fun c _=>256-(aG c).toNat)
 case atStart=>exact⟨0,by omega,rfl,BWH.o,SWH.o,KWH.o⟩
 case round =>
  obtain⟨k,hk,rfl,bk,sk,kk⟩:=hrel;obtain⟨SK,BK,fF⟩:=cR sk bk kk;clear sk kk;by_cases aN:k<256
  .have ck:=gz bk k (by rw[RG];exact aN);have fk:=kJ bk k;have gU:(k:Int)<256:=(by omega);(have hd:((k:Int) != 10)=(k != 10):=by rw[Bool.eq_iff_iff];simp;omega);clear bk;go_wp2;refine⟨⟨k+1,by omega,by go_num,?_,SK.o.kp ((Kp.refl [w.heap.size] _).set (.inl (by simp)) _ _) (by intro g hg hm;simp at hg;subst hg;have:=HS.o.lt _ hm;omega),fF.o.set (.inr (aH _)) _ _⟩,by simp[aG];omega⟩;rw[nF BK.o k,Hv]
  .have l8:k=256:=(by omega);subst l8;rw[ajL]at bk;have S2:=SK;have K2:=fF;have b2:=bk;have k2:=trivial;have B2:=aj bk;clear aN BK bk;clear b2 k2;go_wp2_with fail;refine(Uw s (i+1:Nat) 0 0 r nv ns Ls _ _ _ (by exact S2.o) (by omega) (by exact B2.o)).mono ?_;rintro _ w3 ⟨rfl,cY,s3,k3,gA,t3⟩;have T3:=aj (t3 (kZ (1 <<< 10)) rfl (HT.o.keep K2.o HS.o.NH));have S3:=aj s3;have K3:ax (Kp (fe r nv) w w3):=K2.o.IV.trans k3 (fun y hy=>.inl hy);(have F3:ax (∀g∈fe r cY,g∈fe r nv\/w.heap.size<=g):=fun g hg=>by rcases gA g hg with e|e;exact .inl e;exact .inr (by have:=K2.o.size;omega));clear s3 k3 gA t3;go_wp2;go_ret;exact⟨(ae ns),_,cY,_,rfl,S3.o,K3.o,F3.o,by simp[good]<;>omega,fun _=>⟨rfl,[(aD.set (kZ (1 <<< 10)),ae ns,ae ns+1)],_,rfl,ny.bytes _ _,T3.o,by simp,by rw[cx];exact Fc Ls _ _ HT.o.len⟩⟩
theorem anm(s:ByteArray)(i r:Nat)(nv:aq)(ns:List ND)(Ls:List AN)(A:PR aD)(acc:aD)(w:ay)(h:eu w s i 0 0 r nv ns)(t:gu w ns Ls)(hi:i<s.size)(hs:s.size<=16)(hg:gt s i=40)(halt:∀w',eu w' s (i+1:Nat) 0 0 r nv ns->gu w' ns Ls->aI aB 21 #[.pointer (some ⟨r,0,none⟩)] w' (wR A 2 s (i+1) r nv ns Ls w'))(qz:(A.err=0/\A.pl=0/\i+1<=A.j/\A.j<=s.size)\/(A.err≠0/\A.j=s.size))(R:PR aD)(hR:R=if A.err≠0 then A else if gt s A.j=0 then de s 4 s.size acc else good (A.j+1) A.v):aI aB 50 #[.pointer (some ⟨r,0,none⟩)] w (wR R 0 s i r nv ns Ls w):=by
 have HR:=aj hR;clear hR;have HS:=aj h;have HT:=aj t;have H:=aj h.rd;have hr:=aE h.rd;have oU:=nO i (by omega);have oI:=aj halt;have SH:=aj qz;obtain⟨c0,c1,c2,c3,c4,c5,f0,f1,f2,f3,f4,f5⟩:=dM h.rd;clear h t halt qz;go_enter Tryz.func50,Tryz.ntmps50;go_wp2_with fail;refine(iE s i r 0 0 nv _ (by exact H.o)).mono ?_;rw[hg];rintro _ w1 ⟨rfl,n1,rfl⟩;have tG:ax (eu ((w.drewN n1).setCell ⟨r,1,none⟩ (.int .i64 (i+1:Nat))) s (i+1:Nat) 0 0 r nv ns):=eu.ou (HS.o.kp ((Kp.refl [] w).drewN n1) (by simp)) _;have wJ:ax (Kp [r] w ((w.drewN n1).setCell ⟨r,1,none⟩ (.int .i64 (i+1:Nat)))):=((Kp.refl _ _).drewN n1).set (.inl (by simp)) _ _;have TAH:ax (gu ((w.drewN n1).setCell ⟨r,1,none⟩ (.int .i64 (i+1:Nat))) ns Ls):=HT.o.keep wJ.o HS.o.NH;clear hg;go_wp2_with fail;refine(oI.o _ (by exact tG.o) (by exact TAH.o)).mono ?_;rintro _ w2 ⟨k,iv,jw,mD,rfl,s2,k2,gw,xG,iW⟩;have K2:ax (Kp (fe r nv) w w2):=wJ.o.IV.trans (by exact k2) (fun y hy=>.inl hy);have jN:ax (∀g∈fe r jw,g∈fe r nv\/w.heap.size<=g):=fun g hg=>by
  rcases gw g hg with e|e
  .exact .inl e
  .right;rw[iA,yx]at e;exact e
 obtain⟨S2,o6,JU⟩:=cR s2 iW xG;obtain⟨d0,d1,d2,d3,d4,d5,e0,e1,e2,e3,e4,e5⟩:=dM s2.rd;clear s2 k2 gw iW xG tG wJ TAH c0 c1 c2 c3 c4 c5 f0 f1 f2 f3 f4 f5;rcases SH.o with⟨a1,a2,a3,a4⟩|⟨a1,a2⟩
 .obtain⟨yL,Lm,more,DJ,oR,tr,hk,hv⟩:=o6.o a1;rw[iA,yx]at oR;have JD:=aj DJ;have AR:=aj oR;have S2':=S2.o;rw[a1,a2,yL]at S2';rw[a1]at d2;rw[yL]at d1;have S3:=aj S2';obtain⟨TR,HK,HV⟩:=cR tr hk hv;have DP:=nO A.j (by omega);clear S2' tr hk hv yL DJ oR;go_wp2_with fail;refine(iE s A.j r 0 0 jw _ (by exact S3.o.rd)).mono ?_;rintro _ w3 ⟨rfl,n3,rfl⟩;by_cases g0:gt s A.j=0
  .rw[g0];(have fT:ax (R=de s 4 s.size acc):=by show _=_;rw[HR.o,az (by simp[a1]),aA g0]);clear g0;go_wp2_with fail;refine(rH s A.j r 0 0 4 s.size jw _ (by exact S3.o.rd)).mono ?_;rintro _ w4 ⟨rfl,h4,k4⟩;have S4:=aj (S3.o.kr (w':=w4) (by exact k4.kL) h4);have K4:ax (Kp (fe r nv) w w4):=K2.o.trans k4.kL (by intro y hy;simp at hy;subst hy;exact .inl (Me _ _));obtain⟨d0,d1,d2,d3,d4,d5,e0,e1,e2,e3,e4,e5⟩:=dM h4;clear h4 k4;go_wp2;go_ret;rw[fT.o];exact⟨k,_,jw,mD,rfl,S4.o.ou _,K4.o.set (.inl (Me _ _)) _ _,jN.o,by have:=JU.o;simp only[de];omega,fun e=>absurd e (by simp[de])⟩
  ·(have fT:ax (R=good (A.j+1) A.v):=by show _=_;rw[HR.o,az (by simp[a1]),az g0]);(have q0:((gt s A.j:Int) == 0)=false:=by simp;omega);clear g0;go_wp2;go_ret;rw[fT.o];exact⟨k,_,jw,mD,rfl,eu.ou (S3.o.kp ((Kp.refl [] w2).drewN n3) (by simp)) (A.j+1:Nat),(K2.o.drewN n3).set (.inl (Me _ _)) _ _,jN.o,by have:=JU.o;simp only[good];omega,fun _=>⟨rfl,Lm,more,JD.o,AR.o,gu.ou (TR.o.keep ((Kp.refl [] w2).drewN n3) (kV.nil _)) (S3.o.kp ((Kp.refl [] w2).drewN n3) (by simp)) _,HK.o,HV.o⟩⟩
 .have fT:ax (R=A):=by show _=_;rw[HR.o,aA a1]
  have q0:(A.err == 0)=false:=by simp[a1]
  have HE:=aj a1;clear a1;go_wp2;go_ret;rw[fT.o];exact⟨k,_,jw,mD,rfl,S2.o.ou _,K2.o.set (.inl (Me _ _)) _ _,jN.o,by have:=JU.o;omega,fun e=>absurd e HE.o⟩
section
variable{ns:List ND}{S:Nat->Nat}{lo hi k mid:Nat}{nd:ND}
def nb(ns:List ND):Nat->Nat
 |0=>0
 |k+1=>nb ns k+(if (ns[k]?.map (fun nd=>nd.kind))=some 98 then 1 else 0)
theorem OJ(ns:List ND):∀k j,k<=j->nb ns k<=nb ns j:=by
 intro k j h;induction j with
 |zero=>rw[show k=0 by omega];exact aH _
 |succ j ih =>
  by_cases e:k=j+1
  .rw[e];exact aH _
  .have:=ih (by omega);show nb ns k<=nb ns j+_;omega
theorem LK(h:ns[k]?=some nd)(hk:nd.kind=98):nb ns (k+1)=nb ns k+1:=by
 show nb ns k+(if (ns[k]?.map (fun nd=>nd.kind))=some 98 then 1 else 0)=_;rw[h,aA (by simp[hk])]
theorem X7(h:ns[k]?=some nd)(hk:nd.kind≠98):nb ns (k+1)=nb ns k:=by
 show nb ns k+(if (ns[k]?.map (fun nd=>nd.kind))=some 98 then 1 else 0)=_;rw[h,az (by simp[hk])];rfl
theorem af6(ns:List ND):∀k,nb ns k<=k:=by
 intro k;induction k with
 |zero=>exact aH _
 |succ k ih =>
  show nb ns k+(if _ then 1 else 0)<=_;split<;>omega
structure me(ns:List ND)(S:Nat->Nat)(a:aD)(lo hi:Nat):Prop where
 le:lo<=hi
 np:nb ns lo+a.np=nb ns hi
 ie:∀q,q<a.np->a.ie q=S (nb ns lo+q)
theorem me.cat{a b:aD}(h:me ns S a lo mid)(k:me ns S b mid hi):me ns S (.cat a b) lo hi:=by
 have h2:=h.np;have k2:=k.np;refine⟨j8 h.le k.le,by show _+(a.np+b.np)=_;omega,fun q hq=>?_⟩;have hq':q<a.np+b.np:=hq;show(if q<a.np then a.ie q else b.ie (q-a.np))=_;by_cases z:q<a.np
 .rw[aA z];exact h.ie q z
 .rw[az z,k.ie (q-a.np) (by omega)];congr 1;omega
theorem me.alt{a b:aD}(h:me ns S a lo mid)(k:me ns S b mid hi):me ns S (.alt a b) lo hi:=by
 have h2:=h.np;have k2:=k.np;refine⟨j8 h.le k.le,by show _+(a.np+b.np)=_;omega,fun q hq=>?_⟩;have hq':q<a.np+b.np:=hq;show(if q<a.np then a.ie q else b.ie (q-a.np))=_;by_cases z:q<a.np
 .rw[aA z];exact h.ie q z
 .rw[az z,k.ie (q-a.np) (by omega)];congr 1;omega
theorem me.up{a:aD}(h:me ns S a lo hi)(hn:nb ns (hi+1)=nb ns hi):me ns S a lo (hi+1) :=
 ⟨Nat.le_succ_of_le h.le,by rw[hn];exact h.np,h.ie⟩
theorem me.xN{a:aD}(h:me ns S a lo hi)(k:Nat):me ns S (qD k a) lo hi:=by
 unfold qD;split
 .exact⟨h.le,h.np,h.ie⟩
 .split
  .exact⟨h.le,h.np,h.ie⟩
  .exact⟨h.le,h.np,h.ie⟩
theorem me.aX(ns:List ND)(S:Nat->Nat)(lo:Nat):me ns S .aX lo lo:=⟨aH _,rfl,fun q hq=>absurd hq (Nat.not_lt_zero _)⟩
theorem aku:∀(M:List AN) (a:aD) (lo mid hi:Nat),me ns S a lo mid->tI mid M hi->(∀x∈M,me ns S x.1 x.2.1 x.2.2)->me ns S (M.foldl (fun a x=>aD.cat a x.1) a) lo hi:=by
 intro M;induction M with
 |nil=>intro a lo mid hi h c _;rw[<-(show mid=hi from c)];exact h
 |cons x M ih =>
  intro a lo mid hi h c g;have gx:=g x GN;rw[c.1]at gx;exact ih (.cat a x.1) lo x.2.2 hi (h.cat gx) c.2 (fun y hy=>g y (vq _ hy))
theorem akt:∀(M:List AN) (a:aD) (lo mid hi:Nat),me ns S a lo mid->tI mid M hi->(∀x∈M,me ns S x.1 x.2.1 x.2.2)->me ns S (M.foldl (fun a x=>aD.alt a x.1) a) lo hi:=by
 intro M;induction M with
 |nil=>intro a lo mid hi h c _;rw[<-(show mid=hi from c)];exact h
 |cons x M ih =>
  intro a lo mid hi h c g;have gx:=g x GN;rw[c.1]at gx;exact ih (.alt a x.1) lo x.2.2 hi (h.alt gx) c.2 (fun y hy=>g y (vq _ hy))
def Ke(ns:List ND)(Ls:List AN)(S:Nat->Nat):Prop:=∀k nd s,ns[k]?=some nd->nd.kind=98->Ls.getD k cK=(.set s,k,k+1)->S (nb ns k)=s
theorem gu.good{w:ay}{Ls:List AN}(h:gu w ns Ls){S:Nat->Nat}(hS:Ke ns Ls S):∀k,k<ae ns->me ns S (Ls.getD k cK).1 (Ls.getD k cK).2.1 (Ls.getD k cK).2.2/\(Ls.getD k cK).2.2=k+1:=by
 intro k;induction k using M2 with
 |ind k ih =>
  intro hk;have eZ:ns[k]?=some ns[k]:=bD hk;rcases h.ok k _ eZ with⟨h1,h0,b,s,h2,h3,h4⟩|⟨h0,ps,h1,h2,⟨h3,h5⟩,h4⟩
  .rw[h4];refine⟨⟨Nat.le_succ k,?_,fun q hq=>?_⟩,rfl⟩
   .exact(LK eZ h1).symm
   .have hq':q<1:=hq;have:q=0:=(by omega);subst this;exact(hS k _ s eZ h1 h4).symm
  .have gp:∀x∈ps.map (fun p=>Ls.getD p cK),me ns S x.1 x.2.1 x.2.2:=fun x hx=>by
    obtain⟨p,hp,rfl⟩:=kY.1 hx;exact(ih p (h2 p hp) (by have:=h2 p hp;omega)).1
   rw[h5];refine⟨?_,rfl⟩;rcases h4 with⟨q,e⟩|⟨q,e,ne⟩|⟨p,e1,q,e⟩
   .rw[e];exact(aku _ .aX _ _ _ (me.aX ns S _) h3 gp).up (X7 eZ (by rw[q];decide))
   .rw[e];cases ps with
    |nil=>exact absurd rfl ne
    |cons p ps =>
     have g0:=gp _ GN;have c0:(Ls.getD p cK).2.1=(Ls.getD k cK).2.1/\tI (Ls.getD p cK).2.2 (ps.map fun p=>Ls.getD p cK) k:=h3;rw[c0.1]at g0;exact(akt _ (Ls.getD p cK).1 _ _ _ g0 c0.2 (fun y hy=>gp y (vq _ hy))).up (X7 eZ (by rw[q];decide))
   .subst e1;have g0:=gp _ GN;have c0:(Ls.getD p cK).2.1=(Ls.getD k cK).2.1/\(Ls.getD p cK).2.2=k:=h3;rw[c0.1,c0.2]at g0;rw[e];exact(g0.xN _).up (X7 eZ (by rcases q with q|q|q<;>rw[q]<;>decide))
end
section
variable{n:Nat}{gs l:List Nat}{F:Nat->Nat}
abbrev qA(v0 v1 v2 v3 v4:aq):Obj:=.cells #[v0,v1,v2,v3,v4] 163 (0,0)
theorem qo{w:ay}{b:Nat}{x0 x1 x2 x3 x4:aq}{e:cL}(h:w.heap[b]?=some (.cells #[x0,x1,x2,x3,x4] e (0,0))):w.cell? ⟨b,0,none⟩=some x0/\w.cell? ⟨b,1,none⟩=some x1/\w.cell? ⟨b,2,none⟩=some x2/\w.cell? ⟨b,3,none⟩=some x3/\w.cell? ⟨b,4,none⟩=some x4/\w.frozen? ⟨b,0,none⟩=false/\w.frozen? ⟨b,1,none⟩=false/\w.frozen? ⟨b,2,none⟩=false/\w.frozen? ⟨b,3,none⟩=false/\w.frozen? ⟨b,4,none⟩=false :=
 ⟨by rw[aF h];rfl,by rw[aF h];rfl,by rw[aF h];rfl,by rw[aF h];rfl,by rw[aF h];rfl,cM h 0,cM h 1,cM h 2,cM h 3,cM h 4⟩
def dK(n s:Nat):List Bool:=(lU n).map fun i=>s.testBit i
theorem jz(n s:Nat):(dK n s).length=n:=by simp[dK]
theorem yz(n s i:Nat)(hi:i<n):(dK n s).getD i false=s.testBit i:=by
 rw[aO,dK,kx,De hi];rfl
theorem Kn(n:Nat):dK n 0=fl n:=by
 apply JW;intro i;rcases eK i n with h|h
 .rw[dK,kx,De h,fl,ac9,aA h];simp
 .rw[iY (by rw[jz];exact h),iY (by rw[yE];exact h)]
theorem Ns(n s c:Nat):(dK n s).set c true=dK n (s ||| 1 <<< c):=by
 apply JW;intro i;rw[List.getElem?_set,jz];rcases eK i n with h|h
 .by_cases e:c=i
  .subst e;rw[aA rfl,aA h,dK,kx,De h];(have:(1 <<< c).testBit c=true:=by rw[qM,ux];simp);simp[jD,this]
  .rw[az e,dK,dK,kx,kx,De h];simp only[Option.map_some,jD,aV];have:(1 <<< c).testBit i=false:=by
    rw[qM,ux];simp[e]
   rw[this,Bool.or_false]
 .rw[iY (by rw[jz];exact h),iY (by rw[jz];exact h)];by_cases e:c=i
  .rw[aA e,az (by omega)]
  .rw[az e]
def eH:List Nat->Nat
 |[]=>0
 | q::l=>1 <<< q ||| eH l
theorem Ax(l:List Nat)(q:Nat):(eH l).testBit q=true↔q∈l:=by
 induction l with
 |nil=>simp[eH]
 |cons a l ih =>
  rw[eH,jD,Bool.or_eq_true,ih,qM,ux,gH];simp[eq_comm]
theorem Aw(a b:List Nat):eH (a++b)=eH a ||| eH b:=by
 induction a with
 |nil=>simp[eH]
 |cons x a ih=>rw[List.cons_append,eH,eH,ih,wN]
theorem Mn(q:Nat):eH [q]=1 <<< q:=by simp[eH]
structure gD(w:ay)(fv:aq)(n:Nat)(gs:List Nat)(F:Nat->Nat):Prop where
 own:w.ownsRow 0 80 1 fv (ae gs) (gs.map fun g=>.slice (some ⟨g,0,none⟩) n n)
 row:∀p,p<ae gs->w.heap[gs.getD p 0]?=some (aW (dK n (F p)))
 nd:gs.Nodup
theorem gD.kp{w w':ay}{fv:aq}{xs:List Nat}(h:gD w fv n gs F)(hk:Kp xs w w')(h1:∀g,fv.ownBlock=some g->g∉xs)(h2:∀g∈gs,g∉xs):gD w' fv n gs F :=
 ⟨aJ h.own hk h1,fun p hp=>hk.keep (h.row p hp) (h2 _ (by rw[aO,bD hp];exact nE hp)),h.nd⟩
theorem Dx{p:Nat}(hp:p<ae l):l.getD p 0∈l:=by
 rw[aO,bD hp];exact nE hp
theorem af7(h:l.Nodup){p q:Nat}(hp:p<ae l)(hq:q<ae l)(e:l.getD p 0=l.getD q 0):p=q:=by
 rw[aO,aO,bD hp,bD hq]at e;simp only[nV]at e;exact(List.getElem_inj h).1 e
def iF(F:Nat->Nat)(p s:Nat):Nat->Nat:=fun q=>if q=p then F q ||| s else F q
theorem aoQ(F:Nat->Nat)(p:Nat):iF F p 0=F:=by funext q;unfold iF;split<;>simp
theorem aoP(F:Nat->Nat)(p s t:Nat):iF (iF F p s) p t=iF F p (s ||| t):=by
 funext q;unfold iF;by_cases h:q=p
 .simp only[aA h,wN]
 .simp only[az h]
theorem alT(F:Nat->Nat)(l:List Nat)(p s:Nat):gW F (eH (l ++ [p])) s=iF (gW F (eH l) s) p s:=by
 funext q;unfold gW iF;rw[Aw,Mn,jD,qM,ux];by_cases h:q=p
 .subst h;by_cases z:(eH l).testBit q=true
  .simp[z,wN]
  .simp[Bool.not_eq_true _ ▸ z]
 .have h':¬p=q:=fun e=>h e.symm
  simp[h,h']
theorem gD.set{w:ay}{fv:aq}(h:gD w fv n gs F){p:Nat}(hp:p<ae gs)(c:Nat):gD (w.setCell ⟨gs.getD p 0,c,none⟩ (.bool true)) fv n gs (iF F p (1 <<< c)):=by
 have hk:Kp [gs.getD p 0] w (w.setCell ⟨gs.getD p 0,c,none⟩ (.bool true)):=(Kp.refl _ w).set (.inl (by simp)) _ _;refine⟨aJ h.own hk (fun g hg hm=>?_),fun q hq=>?_,h.nd⟩
 .simp only[bQ]at hm;subst hm;rcases h.own.2 with⟨e,_⟩|⟨g,cap,cur,e,_,hc,_⟩
  .rw[e]at hg;simp[aK]at hg
  .rw[e]at hg;simp only[aK,aV]at hg;subst hg;rw[h.row p hp]at hc;simp only[aV,fE]at hc;exact absurd hc.2.1 (by decide)
 .by_cases e:q=p
  .subst e;rw[nF (h.row q hq) c true,Ns];simp[iF]
  .rw[hk.keep (h.row q hq) (by simp only[bQ];exact fun z=>e (af7 h.nd hq hp z))];simp[iF,e]
theorem gD.Wh{w:ay}{fv:aq}(h:gD w fv n gs F){p:Nat}(hp:p<ae gs):∃g cap,fv=.slice (some ⟨g,0,none⟩) (ae gs) cap/\w.cell? ⟨g,p,none⟩=some (.slice (some ⟨gs.getD p 0,0,none⟩) n n):=by
 rcases h.own.2 with⟨_,e⟩|⟨g,cap,cur,e,_,hc,_⟩
 .omega
 .subst e;refine⟨g,cap,rfl,?_⟩;have:=h.own.cellAt p (by omega);rw[this,kx,bD hp,aO,bD hp];rfl
theorem jm{w:ay}{v:aq}{xs:List aq}{e:cL}(h:w.ownsRow 0 e 1 v n xs):∃a cap,v=.slice a n cap/\(0<n->∃g,a=some ⟨g,0,none⟩/\v.ownBlock=some g/\∀i,i<n->w.cell? ⟨g,i,none⟩=xs[i]?):=by
 rcases h.2 with⟨e1,e2⟩|⟨g,cap,cur,e1,_,hc,_⟩
 .subst e2;exact⟨none,0,e1,fun h0=>by omega⟩
 .subst e1;exact⟨some ⟨g,0,none⟩,cap,rfl,fun _=>⟨g,rfl,rfl,fun i hi=>h.cellAt i (by omega)⟩⟩
theorem afF(l:List Nat)(i:Nat)(h:i<ae l):(dy l)[i]?=some (.int .i64 (l.getD i 0)):=by
 rw[dy,kx,bD h,aO,bD h];rfl
theorem qB{w:ay}{v:aq}(h:w.ownsRow 0 3 1 v (ae l) (dy l)):∃a cap,v=.slice a (ae l) cap/\∀i,i<ae l->∃g,a=some ⟨g,0,none⟩/\w.cell? ⟨g,i,none⟩=some (.int .i64 (l.getD i 0)):=by
 obtain⟨a,cap,e,h2⟩:=jm h;refine⟨a,cap,e,fun i hi=>?_⟩;obtain⟨g,e2,_,e3⟩:=h2 (by omega);exact⟨g,e2,(e3 i hi).trans (afF l i hi)⟩
theorem Uo{w:ay}{v:aq}{xs:List aq}{e e':cL}(h:w.ownsRow 0 e 1 v n xs)(cP:e≠e'){b:Nat}{c:Array aq}(hb:w.heap[b]?=some (.cells c e' (0,0))):v.ownBlock≠some b:=fun hg=>by
 rcases h.2 with⟨q,_⟩|⟨g,cap,cur,q,_,hc,_⟩
 .rw[q]at hg;simp[aK]at hg
 .rw[q]at hg
  simp only[aK,aV]at hg
  subst hg
  rw[hb]at hc
  simp only[aV,fE]at hc
  exact cP hc.2.1.symm
theorem abM(X n:Nat)(x0 x1 x2 x4 fv va vb:aq)(la bs gs:List Nat)(F:Nat->Nat)(w:ay)(hX:w.heap[X]?=some (qA x0 x1 x2 fv x4))(hF:gD w fv n gs F)(hl:(ae gs)=n)(hn:n<=200)(ha:w.ownsRow 0 3 1 va (ae la) (dy la))(hb:w.ownsRow 0 3 1 vb (ae bs) (dy bs))(pT:(ae la)<=200)(pq:(ae bs)<=200)(hai:∀q∈la,q<n)(hbi:∀q∈bs,q<n):aI aB 111 #[.pointer (some ⟨X,0,none⟩),va,vb] w fun e w'=>e=.returned (.tuple #[])/\gD w' fv n gs (gW F (eH la) (eH bs))/\Kp gs w w':=by
 obtain⟨aa,ca,rfl,eP⟩:=qB ha;obtain⟨ab,cb,rfl,WR⟩:=qB hb;have nX:X∉gs:=fun hm=>by
  obtain⟨p,hp,e⟩:=Df hm;have:=hF.row p hp;rw[aO,bD hp]at this;simp only[nV,e,hX,aV,fE]at this;exact absurd this.2.1 (by decide)
 have nI:∀v l,w.ownsRow 0 3 1 v (ae l) (dy l)->∀g,v.ownBlock=some g->g∉gs:=fun v l h g hg hm=>by
  obtain⟨p,hp,e⟩:=Df hm;have:=hF.row p hp;rw[aO,bD hp]at this;simp only[nV,e]at this;exact Uo h (by decide) this hg
 obtain⟨HA,HB,HX,HF,NI⟩:=jd ha hb hX hF nI;clear hX hF nI eP WR;go_enter Tryz.func111,Tryz.ntmps111;go_wp2_with fail;go_loopw [6] (fun s w'=>∃i:Nat,i<=ae la/\s=.int .i64 i/\gD w' fv n gs (gW F (eH (la.take i)) (eH bs))/\Kp gs w w')
  (fun s _=>ae la-(aG s).toNat)
 case atStart=>exact⟨0,by omega,rfl,by rw[show gW F (eH (la.take 0)) (eH bs)=F from by funext q;simp[gW,eH]];exact HF.o,Kp.refl _ _⟩
 case round =>
  obtain⟨i,hi,rfl,f1,k1⟩:=hrel;have F1:=aj f1;have K1:=aj k1;clear f1 k1;by_cases aN:i<ae la
  .have gU:(i:Int)<ae la:=(by omega);have uI:la.getD i 0∈la:=Dx aN;have hpn:=hai _ uI;generalize hp:la.getD i 0=p at *;have HPE:=aj hp;clear hp;go_wp2_with fail;go_loopw [7] (fun s w'=>∃k:Nat,k<=ae bs/\s=.int .i64 k/\gD w' fv n gs (iF (gW F (eH (la.take i)) (eH bs)) p (eH (bs.take k)))/\Kp gs w w')
    (fun s _=>ae bs-(aG s).toNat)
   case atStart=>exact⟨0,by omega,rfl,by rw[Ew,eH,aoQ];exact F1.o,K1.o⟩
   case round =>
    obtain⟨k,hk,rfl,f2,k2⟩:=hrel;by_cases dI:k<ae bs
    .have j3:(k:Int)<ae bs:=(by omega);have hqm:bs.getD k 0∈bs:=Dx dI;have Fo:=hbi _ hqm;have a2:wr.ownsRow 0 3 1 (.slice aa (ae la) ca) (ae la) (dy la):=aJ HA.o k2 (fun g hg=>NI.o _ _ HA.o g hg);have b2:wr.ownsRow 0 3 1 (.slice ab (ae bs) cb) (ae bs) (dy bs):=aJ HB.o k2 (fun g hg=>NI.o _ _ HB.o g hg);obtain⟨_,_,ea,eP⟩:=qB a2;obtain⟨_,_,eb,WR⟩:=qB b2;obtain⟨ga,lj,Kq⟩:=eP i aN;obtain⟨gb,gb1,ccb⟩:=WR k dI;simp only[fy]at ea eb;rw[HPE.o]at Kq;obtain⟨gf,cf,ef,ccf⟩:=f2.Wh (p:=p) (by omega);obtain⟨d0,d1,d2,d3,d4,_⟩:=qo (k2.keep HX.o nX);have cr:=gz (f2.row p (by omega)) (bs.getD k 0) (by rw[jz];exact Fo);have fr:=kJ (f2.row p (by omega)) (bs.getD k 0);have F3:=aj (f2.set (p:=p) (by omega) (bs.getD k 0));have K3:ax (Kp gs w (wr.setCell ⟨gs.getD p 0,bs.getD k 0,none⟩ (.bool true))):=k2.set (.inl (Dx (by omega))) _ _;have ap2:(p:Int)<ae gs:=(by omega);have Xq:((bs.getD k 0:Nat):Int)<n:=(by omega);have eM:eH (bs.take (k+1))=eH (bs.take k) ||| 1 <<< bs.getD k 0:=by
      rw[GQ,Aw,bD dI,aO,bD dI];simp[Mn]
     have mT:=aj eM;obtain⟨rfl,_⟩:=ea;obtain⟨rfl,_⟩:=eb;subst lj gb1;subst ef;generalize (dK n _).getD (bs.getD k 0) false=ov at cr;generalize bs.getD k 0=q at *;generalize gs.getD p 0=G at *;clear f2 k2 a2 b2 eP WR hqm eM;go_wp2_with fail;go_region
     all_goals
      go_wp2;refine⟨⟨k+1,by omega,by go_num,?_,?_⟩,by simp[aG];omega⟩
      .rw[mT.o,<-aoP];exact F3.o.kp ((Kp.refl [] _).drewN _) (by simp) (by simp)
      .exact K3.o.drewN _
    .have j3:¬(k:Int)<ae bs:=(by omega);have F3:=aj f2;have K3:=aj k2;clear f2 k2;go_wp2;refine⟨⟨i+1,by omega,by go_num,?_,K3.o⟩,by simp[aG];omega⟩;have e1:bs.take k=bs:=Ba (by omega);have e2:la.take (i+1)=la.take i ++ [p]:=by
      rw[GQ,bD aN,<-HPE.o,aO,bD aN];rfl
     rw[e2,alT];have:=F3.o;rw[e1]at this;exact this
  .have gU:¬(i:Int)<ae la:=(by omega);have e1:la.take i=la:=Ba (by omega);have F2:=F1.o;rw[e1]at F2;have HF2:=aj F2;clear F2 e1;go_wp2;go_end0;exact⟨rfl,HF2.o,K1.o⟩
end
section
variable{lo f l f1 l1 i:Nat}{F0 F F1:Nat->Nat}{e e1:Bool}{M:List AN}
structure PG(a:aD)(lo:Nat)(F0 F:Nat->Nat)(e:Bool)(f l:Nat):Prop where
 em:e=a.em
 fi:f=a.fi lo
 la:l=a.la lo
 fo:∀q,F q=if lo<=q/\q<lo+a.np then a.fo lo q else F0 q
theorem aD.Lr(a:aD):∀lo,In lo (lo+a.np) (a.fi lo)/\In lo (lo+a.np) (a.la lo):=by
 induction a with
 |aX=>intro lo;exact⟨In.zero _ _,In.zero _ _⟩
 |set m=>intro lo;exact⟨In.one (aH _) (GS _),In.one (aH _) (GS _)⟩
 |cat a b iha ihb =>
  intro lo;have h1:=iha lo;have h2:=ihb (lo+a.np);have e:lo+aD.np (.cat a b)=lo+a.np+b.np:=by show lo+(a.np+b.np)=_;omega
  rw[e];refine⟨?_,?_⟩
  .show In lo _ (if a.em then a.fi lo ||| b.fi (lo+a.np) else a.fi lo);split
   .exact(h1.1.mono (aH _) (by omega)).or (h2.1.mono (by omega) (aH _))
   .exact h1.1.mono (aH _) (by omega)
  .show In lo _ (if b.em then a.la lo ||| b.la (lo+a.np) else b.la (lo+a.np));split
   .exact(h1.2.mono (aH _) (by omega)).or (h2.2.mono (by omega) (aH _))
   .exact h2.2.mono (by omega) (aH _)
 |alt a b iha ihb =>
  intro lo;have h1:=iha lo;have h2:=ihb (lo+a.np);have e:lo+aD.np (.alt a b)=lo+a.np+b.np:=by show lo+(a.np+b.np)=_;omega
  rw[e];exact⟨(h1.1.mono (aH _) (by omega)).or (h2.1.mono (by omega) (aH _)),(h1.2.mono (aH _) (by omega)).or (h2.2.mono (by omega) (aH _))⟩
 |star a ih=>exact ih
 |plus a ih=>exact ih
 |opt a ih=>exact ih
theorem PG.start(lo:Nat)(F:Nat->Nat):PG .aX lo F F true 0 0:=⟨rfl,rfl,rfl,fun q=>by
 show F q=if lo<=q/\q<lo+0 then _ else _
 rw[az (show ¬(lo<=q/\q<lo+0) by omega)]⟩
theorem PG.cat{a b:aD}(h:PG a lo F0 F e f l)(k:PG b (lo+a.np) F F1 e1 f1 l1):PG (.cat a b) lo F0 (gW F1 l f1) (e && e1) (if e then f ||| f1 else f) (if e1 then l ||| l1 else l1):=by
 refine⟨by rw[h.em,k.em];rfl,by rw[h.em,h.fi,k.fi];rfl,by rw[k.em,h.la,k.la];rfl,fun q=>?_⟩;have iL:=(a.Lr lo).2;show(if l.testBit q then F1 q ||| f1 else F1 q)=if lo<=q/\q<lo+(a.np+b.np) then(if q<lo+a.np then(if (a.la lo).testBit q then a.fo lo q ||| b.fi (lo+a.np) else a.fo lo q) else b.fo (lo+a.np) q) else F0 q
 rw[k.fo q,h.fo q,h.la,k.fi];by_cases z:lo<=q/\q<lo+(a.np+b.np)
 .rw[aA z];by_cases y:q<lo+a.np
  .rw[aA y,az (show ¬(lo+a.np<=q/\q<lo+a.np+b.np) by omega),aA (show lo<=q/\q<lo+a.np by omega)]
  .rw[az y,aA (show lo+a.np<=q/\q<lo+a.np+b.np by omega),IZ iL (.inr (by omega))];rfl
 .rw[az z,az (show ¬(lo+a.np<=q/\q<lo+a.np+b.np) by omega),az (show ¬(lo<=q/\q<lo+a.np) by omega),IZ iL (by omega)];rfl
theorem PG.alt{a b:aD}(h:PG a lo F0 F e f l)(k:PG b (lo+a.np) F F1 e1 f1 l1):PG (.alt a b) lo F0 F1 (e || e1) (f ||| f1) (l ||| l1):=by
 refine⟨by rw[h.em,k.em];rfl,by rw[h.fi,k.fi];rfl,by rw[h.la,k.la];rfl,fun q=>?_⟩;show F1 q=if lo<=q/\q<lo+(a.np+b.np) then(if q<lo+a.np then a.fo lo q else b.fo (lo+a.np) q) else F0 q
 rw[k.fo q,h.fo q];by_cases z:lo<=q/\q<lo+(a.np+b.np)
 .rw[aA z];by_cases y:q<lo+a.np
  .rw[aA y,az (show ¬(lo+a.np<=q/\q<lo+a.np+b.np) by omega),aA (show lo<=q/\q<lo+a.np by omega)]
  .rw[az y,aA (show lo+a.np<=q/\q<lo+a.np+b.np by omega)]
 .rw[az z,az (show ¬(lo+a.np<=q/\q<lo+a.np+b.np) by omega),az (show ¬(lo<=q/\q<lo+a.np) by omega)]
theorem PG.linked{a:aD}(h:PG a lo F0 F e f l)(q:Nat):gW F l f q=if lo<=q/\q<lo+a.np then(if (a.la lo).testBit q then a.fo lo q ||| a.fi lo else a.fo lo q) else F0 q:=by
 have iL:=(a.Lr lo).2;show(if l.testBit q then F q ||| f else F q)=_;rw[h.fo q,h.la,h.fi];by_cases z:lo<=q/\q<lo+a.np
 .rw[aA z,aA z]
 .rw[az z,az z,IZ iL (by omega)];rfl
theorem PG.star{a:aD}(h:PG a lo F0 F e f l):PG (.star a) lo F0 (gW F l f) true f l:=⟨rfl,h.fi,h.la,h.linked⟩
theorem PG.plus{a:aD}(h:PG a lo F0 F e f l):PG (.plus a) lo F0 (gW F l f) e f l:=⟨h.em,h.fi,h.la,h.linked⟩
theorem PG.opt{a:aD}(h:PG a lo F0 F e f l):PG (.opt a) lo F0 F true f l:=⟨rfl,h.fi,h.la,h.fo⟩
theorem PG.set(m lo:Nat)(F:Nat->Nat)(h:F lo=0):PG (.set m) lo F F false (1 <<< lo) (1 <<< lo):=⟨rfl,rfl,rfl,fun q=>by
 by_cases z:lo<=q/\q<lo+1
 .rw[aA (by exact z),show q=lo by omega,h];rfl
 .rw[az (by exact z)]⟩
def Pz(M:List AN)(i lo:Nat)(F0 F:Nat->Nat)(e:Bool)(f l:Nat):Prop:=PG (mJ (M.take i)) lo F0 F e f l
def CW(M:List AN)(i lo:Nat)(F0 F:Nat->Nat)(e:Bool)(f l:Nat):Prop:=if i=0 then e=false/\f=0/\l=0/\F=F0 else PG (xb (M.take i)) lo F0 F e f l
theorem UF(h:i<ae M):M.take (i+1)=M.take i ++ [M.getD i cK]:=by
 rw[GQ,bD h,aO,bD h];rfl
theorem Pz.step(h:Pz M i lo F0 F e f l)(hi:i<ae M)(k:PG (M.getD i cK).1 (lo+(mJ (M.take i)).np) F F1 e1 f1 l1):Pz M (i+1) lo F0 (gW F1 l f1) (e && e1) (if e then f ||| f1 else f) (if e1 then l ||| l1 else l1):=by
 show PG (mJ (M.take (i+1))) _ _ _ _ _ _;rw[UF hi,aaR];exact PG.cat h k
theorem CW.step(h:CW M i lo F0 F e f l)(hi:i<ae M)(k:PG (M.getD i cK).1 (lo+if i=0 then 0 else(xb (M.take i)).np) F F1 e1 f1 l1):CW M (i+1) lo F0 F1 (e || e1) (f ||| f1) (l ||| l1):=by
 unfold CW at h |-
 rw[az (by omega)];by_cases z:i=0
 .subst z;rw[aA rfl]at h k;obtain⟨rfl,rfl,rfl,rfl⟩:=h;rw[UF hi];simp only[Ew,aap,Bool.false_or,Nat.zero_or];exact k
 .rw[az z]at h k;rw[UF hi,aaK _ _ (by intro e;have:=congrArg ae e;rw[GJ,MX]at this;omega)];exact PG.alt h k
theorem zD{ops:Array Oper}{rest:List Oper}{op:Oper}{a:Act}{w:ay}{Q:Exit->Act->ay->Prop}(iK:op.guard=none)(s x:Operand)(ho:op.op=.call { callee:=.builtin .append,args:=#[s,x],argTypes:=#[61,61] })(v u:aq)(xs ys:List Nat)(hs:a.eval s=v)(hx:a.eval x=u)(hv:w.ownsRow 0 3 1 v (ae xs) (dy xs))(hu:w.ownsRow 0 3 1 u (ae ys) (dy ys))(hb:(ae xs)+ae ys<=10000)(h:∀v' w',w'.ownsRow 0 3 1 v' (xs++ys).length (dy (xs++ys))->w.grownBy w' v.ownBlock->(v'.ownBlock=v.ownBlock\/v'.ownBlock=some w.heap.size)->v'.oneCell'=true->wpList aB ops Q rest (a.put op.dst v') w'):wpList aB ops Q (op::rest) a w:=by
 obtain⟨i0,cS,dc,dm,cW⟩:=iw abH;have ak6:∀y∈dy ys,y.oneCell'=true:=fun y hy=>by
  obtain⟨p,_,rfl⟩:=kY.1 hy;rfl
 have hl:(dy ys).length=ae ys:=(by simp[dy]);rcases M0 (ae ys) with h0|h0
 .have:ys=[]:=Et h0;subst this;obtain⟨av,cv,rfl,_⟩:=jm hv;obtain⟨au,cu,rfl,_⟩:=jm hu;have iu:(ae xs)<=cv:=by
   rcases hv.2 with⟨q,q2⟩|⟨g,cap,cur,q,_,_,q2,_⟩
   .simp only[fy]at q;omega
   .simp only[fy]at q;omega
  have Cp:(Builtin.append_ #[61,61] op.type #[.slice av (ae xs) cv,.slice au 0 cu]).run aB w=.ok (.slice av (ae xs) cv) w :=
   run_append_nothing w 61 61 op.type 3 i0 qR cS _ (ae xs) cv iu _ (by cases au with|none=>exact Src.ofNil w qR cu|some ad=>exact Src.ofSlice w qR ad 0 cu [] (by simp) (by simp) (by simp))
  refine wpList_plain iK fun K hK=>?_
  unfold Oper.wp;have hx':a.eval x=.slice au 0 cu:=hx;simp[execOp,ho,resolve,invoke,builtin,hs,hx',Cp,Result.andThen];refine hK _ _ (h _ _ ?_ ⟨rfl,rfl,rfl,aH _,fun _ _ _=>rfl⟩ (.inl rfl) rfl);rw[List.append_nil];exact hv
 .obtain⟨au,cu,rfl,hf⟩:=jm hu;obtain⟨g,rfl,_,hc⟩:=hf h0;refine qU iK s x _ ho 3 i0 _ 1 8 qR cS dc dm cW rfl (by omega) v (ae xs) (dy xs) hs hv ⟨g,0,none⟩ (ae ys) cu (dy ys) hx (by rw[hl];omega) (fun j y hy=>?_) ak6 h0 (by unfold eB;omega) (by omega) _ rfl (fun g' cap' w' q1 q2 q3 q4=>h _ w' ?_ q2 ?_ rfl)
  .have hj:j<ae ys:=by
    rcases eK j (ae ys) with z|z
    .exact z
    .rw[iY (by rw[hl];exact z)]at hy;cases hy
   (have e:(⟨g,0,none⟩:Addr).add j=⟨g,j,none⟩:=by simp[Addr.add];intro e;exact e.symm);rw[e,hc j hj,hy]
  .rw[cx,show dy (xs++ys)=dy xs++dy ys by simp[dy]];exact q1
  .rcases q3 with e|e
   .exact .inl e.symm
   .exact .inr (by rw[e];rfl)
end
section
variable{base n b r B:Nat}{gs:List Nat}{F:Nat->Nat}{ns:List ND}{Ls:List AN}
structure TP(w:ay)(r:Nat)(nv:aq)(ns:List ND)(Ls:List AN)(base:Nat):Prop where
 rd:∃s i e pl top,w.heap[r]?=some (fh s i e pl nv top)
 own:∃c:List aq,w.ownsRow 0 104 4 nv (ae ns) c/\∀k nd,ns[k]?=some nd->c[k*4]?=some (.int .u8 nd.kind)/\c[k*4+1]?=some nd.hv/\c[k*4+2]?=some nd.pv/\∃q:Int,c[k*4+3]?=some (.int .i64 q)/\(nd.kind=98->q=(base+nb ns k:Nat))
 tr:gu w ns Ls
theorem TP.kp{w w':ay}{nv:aq}(h:TP w r nv ns Ls base)(hk:Kp [] w w'):TP w' r nv ns Ls base:=by
 obtain⟨s,i,e,pl,top,h1⟩:=h.rd;obtain⟨c,o,oc⟩:=h.own;exact⟨⟨s,i,e,pl,top,hk.keep h1 (by simp)⟩,⟨c,aJ o hk (by simp),oc⟩,h.tr.keep hk (kV.nil _)⟩
theorem TP.row{w:ay}{nv:aq}(h:TP w r nv ns Ls base){k:Nat}{nd:ND}(hk:ns[k]?=some nd):∃(g cap:Nat) (q4:Int),nv=.slice (some ⟨g,0,none⟩) (ae ns) cap/\g<w.heap.size/\w.cell? ⟨g,k*4,none⟩=some (.int .u8 nd.kind)/\w.cell? ⟨g,k*4+1,none⟩=some nd.hv/\w.cell? ⟨g,k*4+2,none⟩=some nd.pv/\w.cell? ⟨g,k*4+3,none⟩=some (.int .i64 q4)/\(nd.kind=98->q4=(base+nb ns k:Nat)):=by
 have aN:k<ae ns:=by
  rcases eK k (ae ns) with a|a
  .exact a
  .rw[iY a]at hk;cases hk
 obtain⟨cs,own,oc⟩:=h.own;obtain⟨o0,o1,o2,q4,o3,o4⟩:=oc k nd hk;rcases own.2 with⟨_,e⟩|⟨g,cap,cur,e,_,hc,_⟩
 .omega
 .subst e;have c:∀i,i<4->w.cell? ⟨g,k*4+i,none⟩=cs[k*4+i]?:=fun i hi=>own.cellAt (k*4+i) (by omega)
  exact⟨g,cap,q4,rfl,aE hc,(c 0 (by omega)).trans o0,(c 1 (by omega)).trans o1,(c 2 (by omega)).trans o2,(c 3 (by omega)).trans o3,o4⟩
def Nr(a:aD)(lo n:Nat)(gs:List Nat)(fv:aq)(F:Nat->Nat)(w:ay)(x:Ending)(w':ay):Prop :=
 ∃(e:Bool) (ff ll:List Nat) (vf vl:aq) (F':Nat->Nat),x=.returned (.agg #[.bool e,vf,vl])/\PG a lo F F' e (eH ff) (eH ll)/\gD w' fv n gs F'/\Kp gs w w' /\
  w'.ownsRow w.heap.size 3 1 vf (ae ff) (dy ff)/\w'.ownsRow w.heap.size 3 1 vl (ae ll) (dy ll)/\(∀g,vf.ownBlock=some g->vl.ownBlock≠some g)/\(ae ff)<=a.np/\(ae ll)<=a.np
abbrev lN:Obj:=.cells #[.bool false,.slice none 0 0,.slice none 0 0] 199 (0,0)
theorem FU{fn:Func}{t:Nat}{tmps:Array aq}{w:ay}{x0 x1 x2:aq}(hf:fn.results=#[.cell t 199])(ht:tmps.getD t eT=.pointer (some ⟨b,0,none⟩))(hw:w.heap[b]?=some (.cells #[x0,x1,x2] 199 (0,0))):(results fn tmps).run aB w=.ok (.agg #[x0,x1,x2]) w:=by
 have d0:w.cell? ⟨b,0,none⟩=some x0:=by rw[aF hw];rfl
 have d1:w.cell? ⟨b,1,none⟩=some x1:=by rw[aF hw];rfl
 have d2:w.cell? ⟨b,2,none⟩=some x2:=by rw[aF hw];rfl
 have ht':tmps[t]?.getD eT=.pointer (some ⟨b,0,none⟩):=by rw[<-ht];simp
 simp only[results,hf];simp[ht',go_sem,d0,d1,d2]
theorem I9{w:ay}{k:Nat}(h:w.heap[b]?=some (.cells #[.int .i64 k] 3 (0,0)))(hb:B<=b):w.ownsRow B 3 1 (.slice (some ⟨b,0,none⟩) 1 1) [k].length (dy [k]) :=
 ⟨rfl,.inr ⟨b,1,_,rfl,hb,h,by simp,by decide,rfl,rfl⟩⟩
theorem aoU(w0:ay)(X r k n base:Nat)(nv:aq)(ns:List ND)(Ls:List AN)(nd:ND)(m:Nat)(fv:aq)(gs:List Nat)(F:Nat->Nat)(w:ay)(h:TP w r nv ns Ls base)(hk:ns[k]?=some nd)(mL:nd.kind=98)(b:Nat)(xq:nd.hv=.slice (some ⟨b,0,none⟩) 256 256)(jJ:nd.pv=.slice none 0 0)(hb:base+nb ns k<n)(hn:n<=200)(hF:gD w fv n gs F)(h0:F (base+nb ns k)=0):aI aB 98 #[.pointer (some ⟨X,0,none⟩),.pointer (some ⟨r,4,none⟩),.int .i64 k] w (Nr (.set m) (base+nb ns k) n gs fv F w):=by
 obtain⟨s,i,e,pl,top,rd⟩:=h.rd;obtain⟨g,cap,q4,rfl,hg,n0,n1,n2,n3,hq⟩:=h.row hk;rw[hq mL]at n3;rw[mL]at n0;have aN:k<ae ns:=by
  rcases eK k (ae ns) with a|a
  .exact a
  .rw[iY a]at hk;cases hk
 have gU:(k:Int)<ae ns:=(by omega);obtain⟨_,_,_,_,c4,c5,_⟩:=dM rd;have HF:=aj hF;have H0:=aj h0;have hr:=aE rd;generalize base+nb ns k=P at *;rw[xq]at n1;rw[jJ]at n2;clear h hF h0 hq rd;go_enter Tryz.func98,Tryz.ntmps98;go_wp2_with fail;go_wp2;have hF2:gD ((((w.alloc (.cells #[.bool false,.slice (some ⟨w.heap.size+1+1,0,none⟩) 1 1,.slice (some ⟨w.heap.size+1+1+1,0,none⟩) 1 1] 199)).alloc (.cells #[.int .u8 98,.slice (some ⟨b,0,none⟩) 256 256,.slice none 0 0,.int .i64 (P:Nat)] 104)).alloc (.cells #[.int .i64 (P:Nat)] 3)).alloc (.cells #[.int .i64 (P:Nat)] 3)) fv n gs F :=
  HF.o.kp (((((Kp.refl [] w).alloc _).alloc _).alloc _).alloc _) (by simp) (by simp)
 refine cF (v:=.agg #[.bool false,.slice (some ⟨w.heap.size+1+1,0,none⟩) 1 1,.slice (some ⟨w.heap.size+1+1+1,0,none⟩) 1 1]) (FU (b:=w.heap.size) G7 rfl (by simp only[aC,aM];rw[az (by omega),az (by omega),az (by omega),aA trivial])) rfl ?_;refine⟨false,[P],[P],_,_,F,rfl,by rw[Mn];exact PG.set m P F H0.o,hF2,((((Kp.refl _ w).alloc _).alloc _).alloc _).alloc _,I9 (by simp only[aC,aM];rw[az (by omega),aA trivial]) (by omega),I9 (by simp only[aC,aM];rw[aA trivial]) (by omega),fun g hg=>by simp[aK]at hg |-;omega,aH _,aH _⟩
def Kf(w0:ay)(X r n base:Nat)(ns:List ND)(Ls:List AN)(fv x0 x1 x2 x4:aq)(gs:List Nat)(p:Nat):Prop :=
 ∀(F:Nat->Nat) (w:ay),Kp [] w0 w->w.heap[X]?=some (qA x0 x1 x2 fv x4)->gD w fv n gs F->(∀q,base+nb ns (Ls.getD p cK).2.1<=q->q<base+nb ns (Ls.getD p cK).2.1+(Ls.getD p cK).1.np->F q=0) ->
  aI aB 98 #[.pointer (some ⟨X,0,none⟩),.pointer (some ⟨r,4,none⟩),.int .i64 p] w (Nr (Ls.getD p cK).1 (base+nb ns (Ls.getD p cK).2.1) n gs fv F w)
theorem gD.lt{w:ay}{fv:aq}(h:gD w fv n gs F):∀g∈gs,g<w.heap.size:=fun g hg=>by
 obtain⟨p,hp,e⟩:=Df hg
 have:=h.row p hp
 rw[aO,bD hp]at this
 simp only[nV,e]at this
 exact aE this
theorem gD.ne{w:ay}{fv:aq}(h:gD w fv n gs F){X:Nat}{c:Array aq}{e:cL}(hX:w.heap[X]?=some (.cells c e (0,0)))(he:e≠4):X∉gs:=fun hm=>by
 obtain⟨p,hp,q⟩:=Df hm
 have:=h.row p hp
 rw[aO,bD hp]at this
 simp only[nV,q,hX,aV,fE]at this
 exact he this.2.1
theorem eV{w:ay}{v:aq}{xs:List aq}{e:cL}(h:w.ownsRow base e 1 v n xs)(hB:B<=base):w.ownsRow B e 1 v n xs:=by
 refine⟨h.1,?_⟩;rcases h.2 with a|⟨g,cap,cur,a,hb,b⟩
 .exact .inl a
 .exact .inr ⟨g,cap,cur,a,j8 hB hb,b⟩
theorem eS{w:ay}{v:aq}{xs:List aq}{e:cL}(h:w.ownsRow base e 1 v n xs){g:Nat}(hg:v.ownBlock=some g):base<=g/\g<w.heap.size/\∃c,w.heap[g]?=some (.cells c e (0,0)):=by
 rcases h.2 with⟨q,_⟩|⟨g',cap,cur,q,hb,hc,_⟩
 .rw[q]at hg;simp[aK]at hg
 .rw[q]at hg;simp only[aK,aV]at hg;subst hg;exact⟨hb,aE hc,cur,hc⟩
theorem ab8{w:ay}{v:aq}{m:Nat}{xs:List aq}{fv:aq}(h:w.ownsRow base 3 1 v n xs)(hF:gD w fv m gs F):∀g,v.ownBlock=some g->g∉gs:=fun g hg=>by
 obtain⟨_,_,c,hc⟩:=eS h hg
 exact hF.ne hc (by decide)
theorem fX{w:ay}{x0 x1 x2:aq}{e:cL}(h:w.heap[b]?=some (.cells #[x0,x1,x2] e (0,0))):w.cell? ⟨b,0,none⟩=some x0/\w.cell? ⟨b,1,none⟩=some x1/\w.cell? ⟨b,2,none⟩=some x2/\w.frozen? ⟨b,0,none⟩=false/\w.frozen? ⟨b,1,none⟩=false/\w.frozen? ⟨b,2,none⟩=false :=
 ⟨by rw[aF h];rfl,by rw[aF h];rfl,by rw[aF h];rfl,cM h 0,cM h 1,cM h 2⟩
end
theorem Pf{w W w2 w5:ay}{gs:List Nat}(kW:Kp [] w W)(Fh:w.heap.size+1<W.heap.size)(k2:Kp gs W w2)(k5:Kp (w2.heap.size::w.heap.size::gs) w2 w5)(n8:∀g∈gs,g<w.heap.size):Kp gs w w5/\∀v n xs,w2.ownsRow W.heap.size 3 1 v n xs->w5.ownsRow w.heap.size 3 1 v n xs:=by
 have s2:=k2.size;refine⟨((kW.mono (by simp)).trans k2 (fun y hy=>.inl hy)).trans k5 (fun y hy=>?_),fun v n xs of=>eV (aJ of k5 (fun g hg hm=>?_)) (by omega)⟩
 .simp only[gH]at hy;rcases hy with rfl|rfl|hy
  .right;omega
  .right;omega
  .exact .inl hy
 .obtain⟨h1,h2,_⟩:=eS of hg;simp only[gH]at hm;rcases hm with rfl|rfl|hm
  .omega
  .omega
  .have:=n8 _ hm;omega
theorem aoX(w0:ay)(X r k n base:Nat)(nv:aq)(ns:List ND)(Ls:List AN)(nd:ND)(fv x0 x1 x2 x4:aq)(gs:List Nat)(F:Nat->Nat)(w:ay)(h:TP w0 r nv ns Ls base)(k0:Kp [] w0 w)(hk:ns[k]?=some nd)(p:Nat)(mL:nd.kind=42\/nd.kind=43\/nd.kind=63)(xq:nd.hv=.slice none 0 0)(jP:w0.ownsRow 0 3 1 nd.pv [p].length (dy [p]))(hX:w.heap[X]?=some (qA x0 x1 x2 fv x4))(hF:gD w fv n gs F)(hl:(ae gs)=n)(hn:n<=200)(hG:∀g∈gs,w0.heap.size<=g)(iu:base+nb ns (Ls.getD p cK).2.1+(Ls.getD p cK).1.np<=n)(hz:∀q,base+nb ns (Ls.getD p cK).2.1<=q->q<base+nb ns (Ls.getD p cK).2.1+(Ls.getD p cK).1.np->F q=0)(hp:Kf w0 X r n base ns Ls fv x0 x1 x2 x4 gs p):aI aB 98 #[.pointer (some ⟨X,0,none⟩),.pointer (some ⟨r,4,none⟩),.int .i64 k] w (Nr (qD nd.kind (Ls.getD p cK).1) (base+nb ns (Ls.getD p cK).2.1) n gs fv F w):=by
 have h1:=h.kp k0;obtain⟨s,i,e,pl,top,rd⟩:=h1.rd;obtain⟨g,cap,q4,rfl,hg,n0,n1,n2,n3,_⟩:=h1.row hk;have aN:k<ae ns:=by
  rcases eK k (ae ns) with a|a
  .exact a
  .rw[iY a]at hk;cases hk
 have gU:(k:Int)<ae ns:=(by omega);obtain⟨_,_,_,_,c4,c5,_⟩:=dM rd;obtain⟨ap,cp,jJ,uH⟩:=qB (aJ jP k0 (by simp));obtain⟨gp,rfl,Ry⟩:=uH 0 (by simp);rw[xq]at n1;rw[jJ]at n2;obtain⟨HF,HX,HP,HZ,K0⟩:=jd hF hX hp hz k0;have hr:=aE rd;have aeF:=aE hX;have apK:gp<w.heap.size:=by
  rcases eK gp w.heap.size with z|z
  .exact z
  .have:w.heap[gp]?=none:=Array.getElem?_eq_none z;simp[World.cell?,this]at Ry
 have aa0:w.cell? ⟨gp,0,none⟩=some (.int .i64 p):=Ry;have lu:=aj iu;have iL:=(Ls.getD p cK).1.Lr (base+nb ns (Ls.getD p cK).2.1);have AU:=aj iL;unfold Kf at HP;generalize hA:(Ls.getD p cK).1=A at *;generalize hL:base+nb ns (Ls.getD p cK).2.1=L at *;generalize Le:nd.kind=kd at *;have fA:[p].length=1:=rfl;rw[fA]at n2;clear h h1 hF hX hp hz rd hA hL iu hk xq jJ jP Ry uH iL fA Le k0;rcases mL with rfl|rfl|rfl
 .go_enter Tryz.func98,Tryz.ntmps98;go_wp2_with fail;have kW:Kp [] w ((w.alloc lN).alloc (.cells #[.int .u8 42,.slice none 0 0,.slice (some ⟨gp,0,none⟩) 1 cp,.int .i64 q4] 104)):=((Kp.refl [] w).alloc _).alloc _;have bR:((w.alloc lN).alloc (.cells #[.int .u8 42,.slice none 0 0,.slice (some ⟨gp,0,none⟩) 1 cp,.int .i64 q4] 104)).heap[w.heap.size]?=some lN:=by
   rw[aC,az (by rw[aM];omega),aC,aA rfl]
  have bN:((w.alloc lN).alloc (.cells #[.int .u8 42,.slice none 0 0,.slice (some ⟨gp,0,none⟩) 1 cp,.int .i64 q4] 104)).heap[w.heap.size+1]?=some (.cells #[.int .u8 42,.slice none 0 0,.slice (some ⟨gp,0,none⟩) 1 cp,.int .i64 q4] 104 (0,0)):=by
   rw[aC,aA (by rw[aM])]
  generalize (w.alloc lN).alloc (.cells #[.int .u8 42,.slice none 0 0,.slice (some ⟨gp,0,none⟩) 1 cp,.int .i64 q4] 104)=W at *;have Fh:=aE bN;have FW:=HF.o.kp kW (by simp) (by simp);have XW:=kW.keep HX.o (by simp);refine(HP.o F W (K0.o.trans kW (by simp)) XW FW HZ.o).mono ?_;rintro _ w2 ⟨e,ff,ll,vf,vl,F2,rfl,pg,f2,k2,of,ol,hd,lf,ln⟩;obtain⟨af,cf,rfl,_⟩:=jm (eV of (bU _));obtain⟨al,cl,rfl,_⟩:=jm (eV ol (bU _));have n8:∀g∈gs,g<w.heap.size:=HF.o.lt
  have nR:w.heap.size∉gs:=fun hm=>Ey _ (n8 _ hm)
  have nN:w.heap.size+1∉gs:=fun hm=>by have:=n8 _ hm;omega
  have Hi:=k2.keep bR nR;have Hg:=k2.keep bN nN;have X2:=k2.keep XW (FW.ne XW (by decide));have s2:=k2.size;have Cr:∀q∈ff,q<n:=fun q hq=>by
   have:=AU.o.1 q (by rw[<-pg.fi];exact(Ax ff q).2 hq);have:=lu.o;omega
  have Cs:∀q∈ll,q<n:=fun q hq=>by
   have:=AU.o.2 q (by rw[<-pg.la];exact(Ax ll q).2 hq);have:=lu.o;omega
  have vO:=lu.o;obtain⟨KW,Dl,K2,OF,OL,HD,Da,Db⟩:=KZ kW pg k2 of ol hd Cr Cs;have kA:Kp [] w2 (w2.alloc (.cells #[.bool e,.slice af (ae ff) cf,.slice al (ae ll) cl] 199)):=(Kp.refl [] w2).alloc _;have bA:(w2.alloc (.cells #[.bool e,.slice af (ae ff) cf,.slice al (ae ll) cl] 199)).heap[w2.heap.size]?=some (.cells #[.bool e,.slice af (ae ff) cf,.slice al (ae ll) cl] 199 (0,0)):=(by rw[aC,aA rfl]);have F3:=aj (f2.kp kA (by simp) (by simp));have X3:=aj (kA.keep X2 (by simp));have Hj:=kA.keep Hi (by simp);have Bo:=kA.keep Hg (by simp);have Di:=aj (aJ of kA (by simp));have Dj:=aj (aJ ol kA (by simp));have KA:=aj kA;have lA:=aE bA;clear kW FW XW bR bN n0 n1 n2 n3 c4 c5 pg k2 of ol hd Cr Cs f2 X2 Hi Hg kA HP aa0;generalize tM:w2.alloc (.cells #[.bool e,.slice af (ae ff) cf,.slice al (ae ll) cl] 199)=W3 at *;obtain⟨d0,d1,d2,d3,_⟩:=dB Bo;obtain⟨a0,a1,a2,g0,g1,g2⟩:=fX bA;obtain⟨BA,oE,Ps⟩:=cR bA Hj Bo;clear bA Hj Bo;go_wp2_with (simp only[tM])
  refine(abM X n x0 x1 x2 x4 fv (.slice al (ae ll) cl) (.slice af (ae ff) cf) ll ff gs F2 W3 X3.o F3.o hl hn (eV Dj.o (bU _)) (eV Di.o (bU _)) (by omega) (by omega) Db.o Da.o).mono ?_;rintro _ w4 ⟨rfl,f4,k4⟩;have Pk:=aj (k4.keep BA.o (fun hm=>by have:=n8 _ hm;omega));have nP:=aj (k4.keep oE.o nR);have Gi:=k4.keep Ps.o nN;have F4:=aj f4;have GC:ax (Kp gs W3 w4):=k4;clear a0 a1 a2 g0 g1 g2 d0 d1 d2 d3;obtain⟨d0,d1,d2,d3,_⟩:=dB Gi;obtain⟨a0,a1,a2,g0,g1,g2⟩:=fX Pk.o;obtain⟨r0,r1,r2,y0,y1,y2⟩:=fX nP.o;have xm:w2.heap.size≠w.heap.size:=(by omega);have Gm:ax (∀g,fv.ownBlock=some g->g<w.heap.size):=fun g hg=>(eS HF.o.own hg).2.1
  clear Gi;cases e
  all_goals
   (go_wp2_with (simp only[tM]));go_wp2
  .have Ct:Kp (w2.heap.size::w.heap.size::gs) w4 ((((w4.setCell ⟨w2.heap.size,0,none⟩ (.bool true)).setCell ⟨w.heap.size,0,none⟩ (.bool true)).setCell ⟨w.heap.size,1,none⟩ (.slice af (ae ff) cf)).setCell ⟨w.heap.size,2,none⟩ (.slice al (ae ll) cl)) :=
    ((((Kp.refl _ w4).set (.inl (by simp)) _ _).set (.inl (by simp)) _ _).set (.inl (by simp)) _ _).set (.inl (by simp)) _ _
   have Cu:Kp [w2.heap.size,w.heap.size] w4 ((((w4.setCell ⟨w2.heap.size,0,none⟩ (.bool true)).setCell ⟨w.heap.size,0,none⟩ (.bool true)).setCell ⟨w.heap.size,1,none⟩ (.slice af (ae ff) cf)).setCell ⟨w.heap.size,2,none⟩ (.slice al (ae ll) cl)) :=
    ((((Kp.refl _ w4).set (.inl (by simp)) _ _).set (.inl (by simp)) _ _).set (.inl (by simp)) _ _).set (.inl (by simp)) _ _
   obtain⟨kF,oF⟩:=Pf KW.o Fh K2.o (((KA.o.mono (by simp)).trans GC.o (fun y hy=>.inl (by simp[hy]))).trans Ct (fun y hy=>.inl hy)) n8;refine cF (v:=.agg #[.bool true,.slice af (ae ff) cf,.slice al (ae ll) cl]) (FU (b:=w.heap.size) G7 rfl (by simp only[aQ,nP.o,az xm,az xm.symm,if_true];simp[eD])) rfl ?_;exact⟨true,ff,ll,_,_,_,rfl,Dl.o.star,F4.o.kp Cu (fun g hg hm=>by have:=Gm.o g hg;simp at hm;omega) (fun g hg hm=>by have:=n8 g hg;simp at hm;omega),kF,oF _ _ _ OF.o,oF _ _ _ OL.o,HD.o,lf,ln⟩
  .have Ct:Kp (w2.heap.size::w.heap.size::gs) w4 ((((w4.setCell ⟨w2.heap.size,0,none⟩ (.bool true)).setCell ⟨w.heap.size,0,none⟩ (.bool true)).setCell ⟨w.heap.size,1,none⟩ (.slice af (ae ff) cf)).setCell ⟨w.heap.size,2,none⟩ (.slice al (ae ll) cl)) :=
    ((((Kp.refl _ w4).set (.inl (by simp)) _ _).set (.inl (by simp)) _ _).set (.inl (by simp)) _ _).set (.inl (by simp)) _ _
   have Cu:Kp [w2.heap.size,w.heap.size] w4 ((((w4.setCell ⟨w2.heap.size,0,none⟩ (.bool true)).setCell ⟨w.heap.size,0,none⟩ (.bool true)).setCell ⟨w.heap.size,1,none⟩ (.slice af (ae ff) cf)).setCell ⟨w.heap.size,2,none⟩ (.slice al (ae ll) cl)) :=
    ((((Kp.refl _ w4).set (.inl (by simp)) _ _).set (.inl (by simp)) _ _).set (.inl (by simp)) _ _).set (.inl (by simp)) _ _
   obtain⟨kF,oF⟩:=Pf KW.o Fh K2.o (((KA.o.mono (by simp)).trans GC.o (fun y hy=>.inl (by simp[hy]))).trans Ct (fun y hy=>.inl hy)) n8;refine cF (v:=.agg #[.bool true,.slice af (ae ff) cf,.slice al (ae ll) cl]) (FU (b:=w.heap.size) G7 rfl (by simp only[aQ,nP.o,az xm,az xm.symm,if_true];simp[eD])) rfl ?_;exact⟨true,ff,ll,_,_,_,rfl,Dl.o.star,F4.o.kp Cu (fun g hg hm=>by have:=Gm.o g hg;simp at hm;omega) (fun g hg hm=>by have:=n8 g hg;simp at hm;omega),kF,oF _ _ _ OF.o,oF _ _ _ OL.o,HD.o,lf,ln⟩
 .go_enter Tryz.func98,Tryz.ntmps98;go_wp2_with fail;have kW:Kp [] w ((w.alloc lN).alloc (.cells #[.int .u8 43,.slice none 0 0,.slice (some ⟨gp,0,none⟩) 1 cp,.int .i64 q4] 104)):=((Kp.refl [] w).alloc _).alloc _;have bR:((w.alloc lN).alloc (.cells #[.int .u8 43,.slice none 0 0,.slice (some ⟨gp,0,none⟩) 1 cp,.int .i64 q4] 104)).heap[w.heap.size]?=some lN:=by
   rw[aC,az (by rw[aM];omega),aC,aA rfl]
  have bN:((w.alloc lN).alloc (.cells #[.int .u8 43,.slice none 0 0,.slice (some ⟨gp,0,none⟩) 1 cp,.int .i64 q4] 104)).heap[w.heap.size+1]?=some (.cells #[.int .u8 43,.slice none 0 0,.slice (some ⟨gp,0,none⟩) 1 cp,.int .i64 q4] 104 (0,0)):=by
   rw[aC,aA (by rw[aM])]
  generalize (w.alloc lN).alloc (.cells #[.int .u8 43,.slice none 0 0,.slice (some ⟨gp,0,none⟩) 1 cp,.int .i64 q4] 104)=W at *;have Fh:=aE bN;have FW:=HF.o.kp kW (by simp) (by simp);have XW:=kW.keep HX.o (by simp);refine(HP.o F W (K0.o.trans kW (by simp)) XW FW HZ.o).mono ?_;rintro _ w2 ⟨e,ff,ll,vf,vl,F2,rfl,pg,f2,k2,of,ol,hd,lf,ln⟩;obtain⟨af,cf,rfl,_⟩:=jm (eV of (bU _));obtain⟨al,cl,rfl,_⟩:=jm (eV ol (bU _));have n8:∀g∈gs,g<w.heap.size:=HF.o.lt
  have nR:w.heap.size∉gs:=fun hm=>Ey _ (n8 _ hm)
  have nN:w.heap.size+1∉gs:=fun hm=>by have:=n8 _ hm;omega
  have Hi:=k2.keep bR nR;have Hg:=k2.keep bN nN;have X2:=k2.keep XW (FW.ne XW (by decide));have s2:=k2.size;have Cr:∀q∈ff,q<n:=fun q hq=>by
   have:=AU.o.1 q (by rw[<-pg.fi];exact(Ax ff q).2 hq);have:=lu.o;omega
  have Cs:∀q∈ll,q<n:=fun q hq=>by
   have:=AU.o.2 q (by rw[<-pg.la];exact(Ax ll q).2 hq);have:=lu.o;omega
  have vO:=lu.o;obtain⟨KW,Dl,K2,OF,OL,HD,Da,Db⟩:=KZ kW pg k2 of ol hd Cr Cs;have kA:Kp [] w2 (w2.alloc (.cells #[.bool e,.slice af (ae ff) cf,.slice al (ae ll) cl] 199)):=(Kp.refl [] w2).alloc _;have bA:(w2.alloc (.cells #[.bool e,.slice af (ae ff) cf,.slice al (ae ll) cl] 199)).heap[w2.heap.size]?=some (.cells #[.bool e,.slice af (ae ff) cf,.slice al (ae ll) cl] 199 (0,0)):=(by rw[aC,aA rfl]);have F3:=aj (f2.kp kA (by simp) (by simp));have X3:=aj (kA.keep X2 (by simp));have Hj:=kA.keep Hi (by simp);have Bo:=kA.keep Hg (by simp);have Di:=aj (aJ of kA (by simp));have Dj:=aj (aJ ol kA (by simp));have KA:=aj kA;have lA:=aE bA;clear kW FW XW bR bN n0 n1 n2 n3 c4 c5 pg k2 of ol hd Cr Cs f2 X2 Hi Hg kA HP aa0;generalize tM:w2.alloc (.cells #[.bool e,.slice af (ae ff) cf,.slice al (ae ll) cl] 199)=W3 at *;obtain⟨d0,d1,d2,d3,_⟩:=dB Bo;obtain⟨a0,a1,a2,g0,g1,g2⟩:=fX bA;obtain⟨BA,oE,Ps⟩:=cR bA Hj Bo;clear bA Hj Bo;go_wp2_with (simp only[tM])
  refine(abM X n x0 x1 x2 x4 fv (.slice al (ae ll) cl) (.slice af (ae ff) cf) ll ff gs F2 W3 X3.o F3.o hl hn (eV Dj.o (bU _)) (eV Di.o (bU _)) (by omega) (by omega) Db.o Da.o).mono ?_;rintro _ w4 ⟨rfl,f4,k4⟩;have Pk:=aj (k4.keep BA.o (fun hm=>by have:=n8 _ hm;omega));have nP:=aj (k4.keep oE.o nR);have Gi:=k4.keep Ps.o nN;have F4:=aj f4;have GC:ax (Kp gs W3 w4):=k4;clear a0 a1 a2 g0 g1 g2 d0 d1 d2 d3;obtain⟨d0,d1,d2,d3,_⟩:=dB Gi;obtain⟨a0,a1,a2,g0,g1,g2⟩:=fX Pk.o;obtain⟨r0,r1,r2,y0,y1,y2⟩:=fX nP.o;have xm:w2.heap.size≠w.heap.size:=(by omega);have Gm:ax (∀g,fv.ownBlock=some g->g<w.heap.size):=fun g hg=>(eS HF.o.own hg).2.1
  clear Gi;cases e
  all_goals
   (go_wp2_with (simp only[tM]));go_wp2
  .have Ct:Kp (w2.heap.size::w.heap.size::gs) w4 ((((w4.setCell ⟨w2.heap.size,0,none⟩ (.bool false)).setCell ⟨w.heap.size,0,none⟩ (.bool false)).setCell ⟨w.heap.size,1,none⟩ (.slice af (ae ff) cf)).setCell ⟨w.heap.size,2,none⟩ (.slice al (ae ll) cl)) :=
    ((((Kp.refl _ w4).set (.inl (by simp)) _ _).set (.inl (by simp)) _ _).set (.inl (by simp)) _ _).set (.inl (by simp)) _ _
   have Cu:Kp [w2.heap.size,w.heap.size] w4 ((((w4.setCell ⟨w2.heap.size,0,none⟩ (.bool false)).setCell ⟨w.heap.size,0,none⟩ (.bool false)).setCell ⟨w.heap.size,1,none⟩ (.slice af (ae ff) cf)).setCell ⟨w.heap.size,2,none⟩ (.slice al (ae ll) cl)) :=
    ((((Kp.refl _ w4).set (.inl (by simp)) _ _).set (.inl (by simp)) _ _).set (.inl (by simp)) _ _).set (.inl (by simp)) _ _
   obtain⟨kF,oF⟩:=Pf KW.o Fh K2.o (((KA.o.mono (by simp)).trans GC.o (fun y hy=>.inl (by simp[hy]))).trans Ct (fun y hy=>.inl hy)) n8;refine cF (v:=.agg #[.bool false,.slice af (ae ff) cf,.slice al (ae ll) cl]) (FU (b:=w.heap.size) G7 rfl (by simp only[aQ,nP.o,az xm,az xm.symm,if_true];simp[eD])) rfl ?_;exact⟨false,ff,ll,_,_,_,rfl,Dl.o.plus,F4.o.kp Cu (fun g hg hm=>by have:=Gm.o g hg;simp at hm;omega) (fun g hg hm=>by have:=n8 g hg;simp at hm;omega),kF,oF _ _ _ OF.o,oF _ _ _ OL.o,HD.o,lf,ln⟩
  .have Ct:Kp (w2.heap.size::w.heap.size::gs) w4 ((((w4.setCell ⟨w2.heap.size,0,none⟩ (.bool true)).setCell ⟨w.heap.size,0,none⟩ (.bool true)).setCell ⟨w.heap.size,1,none⟩ (.slice af (ae ff) cf)).setCell ⟨w.heap.size,2,none⟩ (.slice al (ae ll) cl)) :=
    ((((Kp.refl _ w4).set (.inl (by simp)) _ _).set (.inl (by simp)) _ _).set (.inl (by simp)) _ _).set (.inl (by simp)) _ _
   have Cu:Kp [w2.heap.size,w.heap.size] w4 ((((w4.setCell ⟨w2.heap.size,0,none⟩ (.bool true)).setCell ⟨w.heap.size,0,none⟩ (.bool true)).setCell ⟨w.heap.size,1,none⟩ (.slice af (ae ff) cf)).setCell ⟨w.heap.size,2,none⟩ (.slice al (ae ll) cl)) :=
    ((((Kp.refl _ w4).set (.inl (by simp)) _ _).set (.inl (by simp)) _ _).set (.inl (by simp)) _ _).set (.inl (by simp)) _ _
   obtain⟨kF,oF⟩:=Pf KW.o Fh K2.o (((KA.o.mono (by simp)).trans GC.o (fun y hy=>.inl (by simp[hy]))).trans Ct (fun y hy=>.inl hy)) n8;refine cF (v:=.agg #[.bool true,.slice af (ae ff) cf,.slice al (ae ll) cl]) (FU (b:=w.heap.size) G7 rfl (by simp only[aQ,nP.o,az xm,az xm.symm,if_true];simp[eD])) rfl ?_;exact⟨true,ff,ll,_,_,_,rfl,Dl.o.plus,F4.o.kp Cu (fun g hg hm=>by have:=Gm.o g hg;simp at hm;omega) (fun g hg hm=>by have:=n8 g hg;simp at hm;omega),kF,oF _ _ _ OF.o,oF _ _ _ OL.o,HD.o,lf,ln⟩
 .go_enter Tryz.func98,Tryz.ntmps98;go_wp2_with fail;have kW:Kp [] w ((w.alloc lN).alloc (.cells #[.int .u8 63,.slice none 0 0,.slice (some ⟨gp,0,none⟩) 1 cp,.int .i64 q4] 104)):=((Kp.refl [] w).alloc _).alloc _;have bR:((w.alloc lN).alloc (.cells #[.int .u8 63,.slice none 0 0,.slice (some ⟨gp,0,none⟩) 1 cp,.int .i64 q4] 104)).heap[w.heap.size]?=some lN:=by
   rw[aC,az (by rw[aM];omega),aC,aA rfl]
  have bN:((w.alloc lN).alloc (.cells #[.int .u8 63,.slice none 0 0,.slice (some ⟨gp,0,none⟩) 1 cp,.int .i64 q4] 104)).heap[w.heap.size+1]?=some (.cells #[.int .u8 63,.slice none 0 0,.slice (some ⟨gp,0,none⟩) 1 cp,.int .i64 q4] 104 (0,0)):=by
   rw[aC,aA (by rw[aM])]
  generalize (w.alloc lN).alloc (.cells #[.int .u8 63,.slice none 0 0,.slice (some ⟨gp,0,none⟩) 1 cp,.int .i64 q4] 104)=W at *;have Fh:=aE bN;have FW:=HF.o.kp kW (by simp) (by simp);have XW:=kW.keep HX.o (by simp);refine(HP.o F W (K0.o.trans kW (by simp)) XW FW HZ.o).mono ?_;rintro _ w2 ⟨e,ff,ll,vf,vl,F2,rfl,pg,f2,k2,of,ol,hd,lf,ln⟩;obtain⟨af,cf,rfl,_⟩:=jm (eV of (bU _));obtain⟨al,cl,rfl,_⟩:=jm (eV ol (bU _));have n8:∀g∈gs,g<w.heap.size:=HF.o.lt
  have nR:w.heap.size∉gs:=fun hm=>Ey _ (n8 _ hm)
  have nN:w.heap.size+1∉gs:=fun hm=>by have:=n8 _ hm;omega
  have Hi:=k2.keep bR nR;have Hg:=k2.keep bN nN;have X2:=k2.keep XW (FW.ne XW (by decide));have s2:=k2.size;have Cr:∀q∈ff,q<n:=fun q hq=>by
   have:=AU.o.1 q (by rw[<-pg.fi];exact(Ax ff q).2 hq);have:=lu.o;omega
  have Cs:∀q∈ll,q<n:=fun q hq=>by
   have:=AU.o.2 q (by rw[<-pg.la];exact(Ax ll q).2 hq);have:=lu.o;omega
  have vO:=lu.o;obtain⟨KW,Dl,K2,OF,OL,HD,Da,Db⟩:=KZ kW pg k2 of ol hd Cr Cs;have kA:Kp [] w2 (w2.alloc (.cells #[.bool e,.slice af (ae ff) cf,.slice al (ae ll) cl] 199)):=(Kp.refl [] w2).alloc _;have bA:(w2.alloc (.cells #[.bool e,.slice af (ae ff) cf,.slice al (ae ll) cl] 199)).heap[w2.heap.size]?=some (.cells #[.bool e,.slice af (ae ff) cf,.slice al (ae ll) cl] 199 (0,0)):=(by rw[aC,aA rfl]);have F3:=aj (f2.kp kA (by simp) (by simp));have X3:=aj (kA.keep X2 (by simp));have Hj:=kA.keep Hi (by simp);have Bo:=kA.keep Hg (by simp);have Di:=aj (aJ of kA (by simp));have Dj:=aj (aJ ol kA (by simp));have KA:=aj kA;have lA:=aE bA;clear kW FW XW bR bN n0 n1 n2 n3 c4 c5 pg k2 of ol hd Cr Cs f2 X2 Hi Hg kA HP aa0;generalize tM:w2.alloc (.cells #[.bool e,.slice af (ae ff) cf,.slice al (ae ll) cl] 199)=w4 at *;obtain⟨d0,d1,d2,d3,_⟩:=dB Bo;obtain⟨a0,a1,a2,g0,g1,g2⟩:=fX bA;obtain⟨BA,oE,Ps⟩:=cR bA Hj Bo;clear bA Hj Bo;have Pk:ax (w4.heap[w2.heap.size]?=some (.cells #[.bool e,.slice af (ae ff) cf,.slice al (ae ll) cl] 199 (0,0))):=BA.o;have nP:ax (w4.heap[w.heap.size]?=some lN):=oE.o;have Gi:w4.heap[w.heap.size+1]?=some (.cells #[.int .u8 63,.slice none 0 0,.slice (some ⟨gp,0,none⟩) 1 cp,.int .i64 q4] 104 (0,0)):=Ps.o;have F4:ax (gD w4 fv n gs F2):=F3.o;have GC:ax (Kp gs w4 w4):=Kp.refl _ _;clear a0 a1 a2 g0 g1 g2 d0 d1 d2 d3;obtain⟨d0,d1,d2,d3,_⟩:=dB Gi;obtain⟨a0,a1,a2,g0,g1,g2⟩:=fX Pk.o;obtain⟨r0,r1,r2,y0,y1,y2⟩:=fX nP.o;have xm:w2.heap.size≠w.heap.size:=(by omega);have Gm:ax (∀g,fv.ownBlock=some g->g<w.heap.size):=fun g hg=>(eS HF.o.own hg).2.1
  clear Gi;cases e
  all_goals
   (go_wp2_with (simp only[tM]));go_wp2
  .have Ct:Kp (w2.heap.size::w.heap.size::gs) w4 ((((w4.setCell ⟨w2.heap.size,0,none⟩ (.bool true)).setCell ⟨w.heap.size,0,none⟩ (.bool true)).setCell ⟨w.heap.size,1,none⟩ (.slice af (ae ff) cf)).setCell ⟨w.heap.size,2,none⟩ (.slice al (ae ll) cl)) :=
    ((((Kp.refl _ w4).set (.inl (by simp)) _ _).set (.inl (by simp)) _ _).set (.inl (by simp)) _ _).set (.inl (by simp)) _ _
   have Cu:Kp [w2.heap.size,w.heap.size] w4 ((((w4.setCell ⟨w2.heap.size,0,none⟩ (.bool true)).setCell ⟨w.heap.size,0,none⟩ (.bool true)).setCell ⟨w.heap.size,1,none⟩ (.slice af (ae ff) cf)).setCell ⟨w.heap.size,2,none⟩ (.slice al (ae ll) cl)) :=
    ((((Kp.refl _ w4).set (.inl (by simp)) _ _).set (.inl (by simp)) _ _).set (.inl (by simp)) _ _).set (.inl (by simp)) _ _
   obtain⟨kF,oF⟩:=Pf KW.o Fh K2.o (((KA.o.mono (by simp)).trans GC.o (fun y hy=>.inl (by simp[hy]))).trans Ct (fun y hy=>.inl hy)) n8;refine cF (v:=.agg #[.bool true,.slice af (ae ff) cf,.slice al (ae ll) cl]) (FU (b:=w.heap.size) G7 rfl (by simp only[aQ,nP.o,az xm,az xm.symm,if_true];simp[eD])) rfl ?_;exact⟨true,ff,ll,_,_,_,rfl,Dl.o.opt,F4.o.kp Cu (fun g hg hm=>by have:=Gm.o g hg;simp at hm;omega) (fun g hg hm=>by have:=n8 g hg;simp at hm;omega),kF,oF _ _ _ OF.o,oF _ _ _ OL.o,HD.o,lf,ln⟩
  .have Ct:Kp (w2.heap.size::w.heap.size::gs) w4 ((((w4.setCell ⟨w2.heap.size,0,none⟩ (.bool true)).setCell ⟨w.heap.size,0,none⟩ (.bool true)).setCell ⟨w.heap.size,1,none⟩ (.slice af (ae ff) cf)).setCell ⟨w.heap.size,2,none⟩ (.slice al (ae ll) cl)) :=
    ((((Kp.refl _ w4).set (.inl (by simp)) _ _).set (.inl (by simp)) _ _).set (.inl (by simp)) _ _).set (.inl (by simp)) _ _
   have Cu:Kp [w2.heap.size,w.heap.size] w4 ((((w4.setCell ⟨w2.heap.size,0,none⟩ (.bool true)).setCell ⟨w.heap.size,0,none⟩ (.bool true)).setCell ⟨w.heap.size,1,none⟩ (.slice af (ae ff) cf)).setCell ⟨w.heap.size,2,none⟩ (.slice al (ae ll) cl)) :=
    ((((Kp.refl _ w4).set (.inl (by simp)) _ _).set (.inl (by simp)) _ _).set (.inl (by simp)) _ _).set (.inl (by simp)) _ _
   obtain⟨kF,oF⟩:=Pf KW.o Fh K2.o (((KA.o.mono (by simp)).trans GC.o (fun y hy=>.inl (by simp[hy]))).trans Ct (fun y hy=>.inl hy)) n8;refine cF (v:=.agg #[.bool true,.slice af (ae ff) cf,.slice al (ae ll) cl]) (FU (b:=w.heap.size) G7 rfl (by simp only[aQ,nP.o,az xm,az xm.symm,if_true];simp[eD])) rfl ?_;exact⟨true,ff,ll,_,_,_,rfl,Dl.o.opt,F4.o.kp Cu (fun g hg hm=>by have:=Gm.o g hg;simp at hm;omega) (fun g hg hm=>by have:=n8 g hg;simp at hm;omega),kF,oF _ _ _ OF.o,oF _ _ _ OL.o,HD.o,lf,ln⟩
section
variable{n base:Nat}
abbrev iP(e:Bool)(f l:aq):Obj:=.cells #[.bool e,f,l] 199 (0,0)
def xX(u v:aq):Prop:=∀g,u.ownBlock=some g->v.ownBlock≠some g
structure lV(w w':ay)(P n:Nat)(gs:List Nat)(nc:Array aq)(fv:aq)(F:Nat->Nat)(e:Bool)(vf vl:aq)(ff ll:List Nat)(e1:Bool)(pf pl:aq)(dU ew:List Nat):Prop where
 k:Kp gs w w'
 gl:∀g∈gs,g<w.heap.size
 bR:w'.heap[w.heap.size]?=some lN
 bN:w'.heap[w.heap.size+1]?=some (.cells nc 104 (0,0))
 bO:w'.heap[w.heap.size+2]?=some (iP e vf vl)
 bP:w'.heap[P]?=some (iP e1 pf pl)
 P3:w.heap.size+2<P
 fo:gD w' fv n gs F
 of:w'.ownsRow (w.heap.size+3) 3 1 vf (ae ff) (dy ff)
 ol:w'.ownsRow (w.heap.size+3) 3 1 vl (ae ll) (dy ll)
 IY:w'.ownsRow (w.heap.size+3) 3 1 pf (ae dU) (dy dU)
 FN:w'.ownsRow (w.heap.size+3) 3 1 pl (ae ew) (dy ew)
 d1:xX vf vl
 d2:xX vf pl
 d3:xX vl pl
 d4:xX vf pf
theorem oX{v:aq}{k:Nat}(h:k∈v.ownBlock.toList):v.ownBlock=some k:=by simpa [aat]using h
theorem Dr{w w':ay}{v:aq}(hg:w.grownBy w' v.ownBlock):Kp v.ownBlock.toList w w':=(Kp.refl _ w).grown hg (fun k hk=>.inl (by rw[hk];simp))
theorem Ak{w:ay}{v:aq}{xs:List aq}{b:Nat}{c:Array aq}{e':cL}(h:w.ownsRow base 3 1 v n xs)(hb:w.heap[b]?=some (.cells c e' (0,0)))(cP:e'≠3):b∉v.ownBlock.toList:=fun hm=>by
 obtain⟨_,_,c',hc⟩:=eS h (oX hm)
 rw[hb]at hc
 simp only[aV,fE]at hc
 exact cP hc.2.1
theorem I5{w:ay}{B:Nat}{v:aq}{xs:List aq}{e:cL}(h:w.ownsRow 0 e 1 v n xs)(hB:∀g,v.ownBlock=some g->B<=g):w.ownsRow B e 1 v n xs:=by
 refine⟨h.1,?_⟩;rcases h.2 with a|⟨g,cap,cur,a,hb,b⟩
 .exact .inl a
 .exact .inr ⟨g,cap,cur,a,hB g (by rw[a];rfl),b⟩
theorem aep{w w':ay}{fv v:aq}{m:Nat}{gs:List Nat}{F:Nat->Nat}{xs:List aq}(h:gD w fv n gs F)(hv:w.ownsRow base 3 1 v m xs)(hk:Kp v.ownBlock.toList w w'):gD w' fv n gs F :=
 h.kp hk (fun g hg hm=>by
  obtain⟨_,_,c,hc⟩:=eS h.own hg
  exact Ak hv hc (by decide) hm) (fun g hg hm=>(ab8 hv h) g (oX hm) hg)
section
variable{w w':ay}{P n:Nat}{gs:List Nat}{nc:Array aq}{fv:aq}{F:Nat->Nat}{e:Bool}{vf vl:aq}{ff ll:List Nat}{e1:Bool}{pf pl:aq}{dU ew:List Nat}
theorem lV.gO(h:lV w w' P n gs nc fv F e vf vl ff ll e1 pf pl dU ew):w.heap.size∉gs/\w.heap.size+1∉gs/\w.heap.size+2∉gs :=
 ⟨fun hm=>by have:=h.gl _ hm;omega,fun hm=>by have:=h.gl _ hm;omega,fun hm=>by have:=h.gl _ hm;omega⟩
theorem lV.BU(h:lV w w' P n gs nc fv F e vf vl ff ll e1 pf pl dU ew){b:Nat}{c:Array aq}{t:cL}(hb:w'.heap[b]?=some (.cells c t (0,0)))(ht:t≠80):fv.ownBlock≠some b:=fun hg=>by
 obtain⟨_,_,c',hc⟩:=eS h.fo.own hg
 rw[hb]at hc
 simp only[aV,fE]at hc
 exact ht hc.2.1
theorem lV.put{e':Bool}{dP YZ:aq}(h:lV w w' P n gs nc fv F e vf vl ff ll e1 pf pl dU ew){i:Nat}{v:aq}(hc:Mm i v (iP e vf vl)=iP e' dP YZ):Kp gs w (w'.setCell ⟨w.heap.size+2,i,none⟩ v)/\(w'.setCell ⟨w.heap.size+2,i,none⟩ v).heap[w.heap.size]?=some lN/\(w'.setCell ⟨w.heap.size+2,i,none⟩ v).heap[w.heap.size+1]?=some (.cells nc 104 (0,0))/\(w'.setCell ⟨w.heap.size+2,i,none⟩ v).heap[w.heap.size+2]?=some (iP e' dP YZ)/\(w'.setCell ⟨w.heap.size+2,i,none⟩ v).heap[P]?=some (iP e1 pf pl)/\gD (w'.setCell ⟨w.heap.size+2,i,none⟩ v) fv n gs F:=by
 have hk:Kp [w.heap.size+2] w' (w'.setCell ⟨w.heap.size+2,i,none⟩ v):=(Kp.refl _ w').set (.inl (by simp)) _ _;have hP:=h.P3;refine⟨h.k.set (.inr (by omega)) _ _,hk.keep h.bR (by simp),hk.keep h.bN (by simp),?_,hk.keep h.bP (by simp;omega),h.fo.kp hk (fun g hg hm=>?_) (fun g hg hm=>?_)⟩
 .rw[aQ,aA rfl,h.bO,<-hc];rfl
 .simp only[bQ]at hm;subst hm;exact h.BU h.bO (by decide) hg
 .simp only[bQ]at hm;have:=h.gl g hg;omega
theorem lV.lt(h:lV w w' P n gs nc fv F e vf vl ff ll e1 pf pl dU ew):w.heap.size+2<w'.heap.size:=aE h.bO
theorem lV.app1(h:lV w w' P n gs nc fv F e vf vl ff ll e1 pf pl dU ew){w2:ay}{v':aq}{zs:List Nat}(g:w'.grownBy w2 vf.ownBlock)(o:w2.ownsRow 0 3 1 v' (ae zs) (dy zs))(ha:v'.ownBlock=vf.ownBlock\/v'.ownBlock=some w'.heap.size):w2.heap[w.heap.size+2]?=some (iP e vf vl)/\w2.heap[P]?=some (iP e1 pf pl)/\lV w (w2.setCell ⟨w.heap.size+2,1,none⟩ v') P n gs nc fv F e v' vl zs ll e1 pf pl dU ew:=by
 have k2:=Dr g;have hO:=k2.keep h.bO (Ak h.of h.bO (by decide));have hP:=k2.keep h.bP (Ak h.of h.bP (by decide));have WJ:=h.P3;have hl:=h.lt;have hk:Kp [w.heap.size+2] w2 (w2.setCell ⟨w.heap.size+2,1,none⟩ v'):=(Kp.refl _ w2).set (.inl (by simp)) _ _;have oth:∀ {u:aq} {m:Nat} {xs:List aq},w'.ownsRow (w.heap.size+3) 3 1 u m xs->xX vf u->(w2.setCell ⟨w.heap.size+2,1,none⟩ v').ownsRow (w.heap.size+3) 3 1 u m xs:=fun {u m xs} hu hd =>
  aJ (aJ hu k2 (fun g' hg hm=>hd g' (oX hm) hg)) hk (fun g' hg hm=>by
   simp only[bQ]at hm;subst hm;exact Ak hu h.bO (by decide) (by rw[hg];simp))
 have low:∀g',v'.ownBlock=some g'->w.heap.size+3<=g':=fun g' hg=>by
  rcases ha with q|q
  .rw[q]at hg;exact(eS h.of hg).1
  .rw[q]at hg;simp only[aV]at hg;omega
 have apt:∀ {u:aq} {m:Nat} {xs:List aq},w'.ownsRow (w.heap.size+3) 3 1 u m xs->xX vf u->xX v' u:=fun {u m xs} hu hd g' h1 h2=>by
  rcases ha with q|q
  .rw[q]at h1;exact hd g' h1 h2
  .rw[q]at h1;simp only[aV]at h1;have:=(eS hu h2).2.1;omega
 have ofv:(w2.setCell ⟨w.heap.size+2,1,none⟩ v').ownsRow (w.heap.size+3) 3 1 v' (ae zs) (dy zs):=aJ (I5 o low) hk (fun g' hg hm=>by
  simp only[bQ]at hm;subst hm;have:=low _ hg;omega)
 refine⟨hO,hP,⟨(h.k.trans k2 (fun y hy=>.inr (by have:=(eS h.of (oX hy)).1;omega))).set (.inr (by omega)) _ _,h.gl,hk.keep (k2.keep h.bR (Ak h.of h.bR (by decide))) (by simp),hk.keep (k2.keep h.bN (Ak h.of h.bN (by decide))) (by simp),?_,hk.keep hP (by simp;omega),WJ,?_,ofv,oth h.ol h.d1,oth h.IY h.d4,oth h.FN h.d2,apt h.ol h.d1,apt h.FN h.d2,h.d3,apt h.IY h.d4⟩⟩
 .rw[aQ,aA rfl,hO];rfl
 .exact(aep h.fo h.of k2).kp hk (fun g' hg hm=>by
   simp only[bQ]at hm;subst hm;exact h.BU h.bO (by decide) hg) (fun g' hg hm=>by
   simp only[bQ]at hm;have:=h.gl g' hg;omega)
theorem lV.app2(h:lV w w' P n gs nc fv F e vf vl ff ll e1 pf pl dU ew){w2:ay}{v':aq}{zs:List Nat}(g:w'.grownBy w2 vl.ownBlock)(o:w2.ownsRow 0 3 1 v' (ae zs) (dy zs))(ha:v'.ownBlock=vl.ownBlock\/v'.ownBlock=some w'.heap.size):w2.heap[w.heap.size+2]?=some (iP e vf vl)/\w2.heap[P]?=some (iP e1 pf pl)/\Kp gs w (w2.setCell ⟨w.heap.size+2,2,none⟩ v')/\(w2.setCell ⟨w.heap.size+2,2,none⟩ v').heap[w.heap.size]?=some lN/\(w2.setCell ⟨w.heap.size+2,2,none⟩ v').heap[w.heap.size+1]?=some (.cells nc 104 (0,0))/\(w2.setCell ⟨w.heap.size+2,2,none⟩ v').heap[w.heap.size+2]?=some (iP e vf v')/\(w2.setCell ⟨w.heap.size+2,2,none⟩ v').heap[P]?=some (iP e1 pf pl)/\gD (w2.setCell ⟨w.heap.size+2,2,none⟩ v') fv n gs F/\(w2.setCell ⟨w.heap.size+2,2,none⟩ v').ownsRow (w.heap.size+3) 3 1 vf (ae ff) (dy ff)/\(w2.setCell ⟨w.heap.size+2,2,none⟩ v').ownsRow (w.heap.size+3) 3 1 v' (ae zs) (dy zs)/\xX vf v':=by
 have k2:=Dr g;have hO:=k2.keep h.bO (Ak h.ol h.bO (by decide));have hP:=k2.keep h.bP (Ak h.ol h.bP (by decide));have WJ:=h.P3;have hl:=h.lt;have hk:Kp [w.heap.size+2] w2 (w2.setCell ⟨w.heap.size+2,2,none⟩ v'):=(Kp.refl _ w2).set (.inl (by simp)) _ _;have low:∀g',v'.ownBlock=some g'->w.heap.size+3<=g':=fun g' hg=>by
  rcases ha with q|q
  .rw[q]at hg;exact(eS h.ol hg).1
  .rw[q]at hg;simp only[aV]at hg;omega
 have ofv:(w2.setCell ⟨w.heap.size+2,2,none⟩ v').ownsRow (w.heap.size+3) 3 1 v' (ae zs) (dy zs):=aJ (I5 o low) hk (fun g' hg hm=>by
  simp only[bQ]at hm;subst hm;have:=low _ hg;omega)
 refine⟨hO,hP,(h.k.trans k2 (fun y hy=>.inr (by have:=(eS h.ol (oX hy)).1;omega))).set (.inr (by omega)) _ _,hk.keep (k2.keep h.bR (Ak h.ol h.bR (by decide))) (by simp),hk.keep (k2.keep h.bN (Ak h.ol h.bN (by decide))) (by simp),?_,hk.keep hP (by simp;omega),?_,?_,ofv,?_⟩
 .rw[aQ,aA rfl,hO];rfl
 .exact(aep h.fo h.ol k2).kp hk (fun g' hg hm=>by
   simp only[bQ]at hm;subst hm;exact h.BU h.bO (by decide) hg) (fun g' hg hm=>by
   simp only[bQ]at hm;have:=h.gl g' hg;omega)
 .exact aJ (aJ h.of k2 (fun g' hg hm=>h.d1 g' hg (oX hm))) hk (fun g' hg hm=>by
   simp only[bQ]at hm;subst hm;exact Ak h.of h.bO (by decide) (by rw[hg];simp))
 .intro g' h1 h2;rcases ha with q|q
  .rw[q]at h2;exact h.d1 g' h1 h2
  .rw[q]at h2;simp only[aV]at h2;have:=(eS h.of h1).2.1;omega
structure pO(w w':ay)(n:Nat)(gs:List Nat)(nc:Array aq)(fv:aq)(F:Nat->Nat)(e:Bool)(vf vl:aq)(ff ll:List Nat):Prop where
 k:Kp gs w w'
 gl:∀g∈gs,g<w.heap.size
 bR:w'.heap[w.heap.size]?=some lN
 bN:w'.heap[w.heap.size+1]?=some (.cells nc 104 (0,0))
 bO:w'.heap[w.heap.size+2]?=some (iP e vf vl)
 fo:gD w' fv n gs F
 of:w'.ownsRow (w.heap.size+3) 3 1 vf (ae ff) (dy ff)
 ol:w'.ownsRow (w.heap.size+3) 3 1 vl (ae ll) (dy ll)
 d1:xX vf vl
theorem pO.mid(h:pO w w' n gs nc fv F e vf vl ff ll){w2:ay}{F2:Nat->Nat}(k2:Kp gs w' w2)(f2:gD w2 fv n gs F2)(of:w2.ownsRow w'.heap.size 3 1 pf (ae dU) (dy dU))(ol:w2.ownsRow w'.heap.size 3 1 pl (ae ew) (dy ew))(hd:xX pf pl):lV w (w2.alloc (iP e1 pf pl)) w2.heap.size n gs nc fv F2 e vf vl ff ll e1 pf pl dU ew:=by
 have hk:Kp [] w2 (w2.alloc (iP e1 pf pl)):=(Kp.refl _ _).alloc _;have s2:=k2.size;have l0:=aE h.bO;have g0:w.heap.size∉gs:=fun hm=>by have:=h.gl _ hm;omega
 have g1:w.heap.size+1∉gs:=fun hm=>by have:=h.gl _ hm;omega
 have g2:w.heap.size+2∉gs:=fun hm=>by have:=h.gl _ hm;omega
 have old:∀ {u:aq} {m:Nat} {xs:List aq},w'.ownsRow (w.heap.size+3) 3 1 u m xs->(w2.alloc (iP e1 pf pl)).ownsRow (w.heap.size+3) 3 1 u m xs:=fun {u m xs} hu =>
  aJ (aJ hu k2 (fun g hg hm=>ab8 hu h.fo g hg hm)) hk (by simp)
 have new:∀ {u:aq} {m:Nat} {xs:List aq},w2.ownsRow w'.heap.size 3 1 u m xs->(w2.alloc (iP e1 pf pl)).ownsRow (w.heap.size+3) 3 1 u m xs:=fun {u m xs} hu=>eV (aJ hu hk (by simp)) (by omega)
 have dis:∀ {u v:aq} {m m':Nat} {xs ys:List aq},w'.ownsRow (w.heap.size+3) 3 1 u m xs->w2.ownsRow w'.heap.size 3 1 v m' ys->xX u v:=fun {u v m m' xs ys} hu hv g h1 h2=>by
  have:=(eS hu h1).2.1;have:=(eS hv h2).1;omega
 exact⟨(h.k.trans k2 (fun y hy=>.inl hy)).alloc _,h.gl,hk.keep (k2.keep h.bR g0) (by simp),hk.keep (k2.keep h.bN g1) (by simp),hk.keep (k2.keep h.bO g2) (by simp),by rw[aC,aA rfl],by omega,f2.kp hk (by simp) (by simp),old h.of,old h.ol,new of,new ol,h.d1,dis h.of ol,dis h.ol ol,dis h.of of⟩
theorem lV.kp{w2:ay}{F2:Nat->Nat}(h:lV w w' P n gs nc fv F e vf vl ff ll e1 pf pl dU ew)(k2:Kp gs w' w2)(f2:gD w2 fv n gs F2):lV w w2 P n gs nc fv F2 e vf vl ff ll e1 pf pl dU ew:=by
 have g:=h.gO;have l:=h.P3;have old:∀ {u:aq} {m:Nat} {xs:List aq},w'.ownsRow (w.heap.size+3) 3 1 u m xs->w2.ownsRow (w.heap.size+3) 3 1 u m xs:=fun {u m xs} hu=>aJ hu k2 (fun g hg hm=>ab8 hu h.fo g hg hm)
 exact⟨h.k.trans k2 (fun y hy=>.inl hy),h.gl,k2.keep h.bR g.1,k2.keep h.bN g.2.1,k2.keep h.bO g.2.2,k2.keep h.bP (fun hm=>by have:=h.gl _ hm;omega),l,f2,old h.of,old h.ol,old h.IY,old h.FN,h.d1,h.d2,h.d3,h.d4⟩
end
end
theorem amp:∀(M:List AN) (a:aD),a.np<=(M.foldl (fun a x=>aD.cat a x.1) a).np:=by
 intro M;induction M with
 |nil=>intro a;exact aH _
 |cons x M ih=>intro a;exact j8 (adj a.np x.1.np) (ih (.cat a x.1))
theorem amr(M:List AN)(i:Nat):(mJ (M.take i)).np<=(mJ M).np:=by
 have e:M=M.take i++M.drop i:=(List.take_append_drop i M).symm;have:mJ M=(M.drop i).foldl (fun a x=>aD.cat a x.1) (mJ (M.take i)):=by
  show _=(M.drop i).foldl _ ((M.take i).foldl _ _);rw[<-List.foldl_append,<-e];rfl
 rw[this];exact amp _ _
theorem age{M:List AN}{i:Nat}(h:i<ae M):(mJ (M.take (i+1))).np=(mJ (M.take i)).np+(M.getD i cK).1.np:=by
 rw[UF h,aaR];rfl
theorem abX(ps:List Nat)(Ls:List AN)(i:Nat)(h:i<ae ps):(ps.map fun p=>Ls.getD p cK).getD i cK=Ls.getD (ps.getD i 0) cK:=by
 rw[aO,kx,bD h,aO (l:=ps),bD h];rfl
theorem pO.start{w W:ay}{n:Nat}{gs:List Nat}{nc:Array aq}{fv:aq}{F:Nat->Nat}{e:Bool}(hF:gD w fv n gs F)(k:Kp [] w W)(bR:W.heap[w.heap.size]?=some lN)(bN:W.heap[w.heap.size+1]?=some (.cells nc 104 (0,0)))(bO:W.heap[w.heap.size+2]?=some (iP e (.slice none 0 0) (.slice none 0 0))):pO w W n gs nc fv F e (.slice none 0 0) (.slice none 0 0) [] [] :=
 ⟨k.mono (by simp),hF.lt,bR,bN,bO,hF.kp k (by simp) (by simp),j9 _ _ _ _,j9 _ _ _ _,fun g hg=>by simp[aK]at hg⟩
section
variable{w w':ay}{P n:Nat}{gs:List Nat}{nc:Array aq}{fv:aq}{F:Nat->Nat}{e:Bool}{vf vl:aq}{ff ll:List Nat}{e1:Bool}{pf pl:aq}{dU ew:List Nat}
theorem lV.two(h:lV w w' P n gs nc fv F e vf vl ff ll e1 pf pl dU ew){w2:ay}{v':aq}{zs:List Nat}(g:w'.grownBy w2 vl.ownBlock)(o:w2.ownsRow 0 3 1 v' (ae zs) (dy zs))(ha:v'.ownBlock=vl.ownBlock\/v'.ownBlock=some w'.heap.size):w2.heap[w.heap.size+2]?=some (iP e vf vl)/\w2.heap[P]?=some (iP e1 pf pl)/\pO w (w2.setCell ⟨w.heap.size+2,2,none⟩ v') n gs nc fv F e vf v' ff zs/\(w2.setCell ⟨w.heap.size+2,2,none⟩ v').heap[P]?=some (iP e1 pf pl):=by
 obtain⟨a1,a2,a3,a4,a5,a6,a7,a8,a9,a10,a11⟩:=h.app2 g o ha;exact⟨a1,a2,⟨a3,h.gl,a4,a5,a6,a8,a9,a10,a11⟩,a7⟩
theorem lV.YQ(h:lV w w' P n gs nc fv F e vf vl ff ll e1 pf pl dU ew):pO w (w'.setCell ⟨w.heap.size+2,2,none⟩ pl) n gs nc fv F e vf pl ff ew/\(w'.setCell ⟨w.heap.size+2,2,none⟩ pl).heap[P]?=some (iP e1 pf pl):=by
 obtain⟨a1,a2,a3,a4,a5,a6⟩:=h.put (i:=2) (v:=pl) (e':=e) (dP:=vf) (YZ:=pl) rfl;have hk:Kp [w.heap.size+2] w' (w'.setCell ⟨w.heap.size+2,2,none⟩ pl):=(Kp.refl _ w').set (.inl (by simp)) _ _;have old:∀ {u:aq} {m:Nat} {xs:List aq},w'.ownsRow (w.heap.size+3) 3 1 u m xs->(w'.setCell ⟨w.heap.size+2,2,none⟩ pl).ownsRow (w.heap.size+3) 3 1 u m xs:=fun {u m xs} hu=>aJ hu hk (fun g hg hm=>by
  simp only[bQ]at hm;have:=(eS hu hg).1;omega)
 exact⟨⟨a1,h.gl,a2,a3,a4,a6,old h.of,old h.FN,h.d2⟩,a5⟩
theorem pO.em(h:pO w w' n gs nc fv F e vf vl ff ll)(e':Bool):pO w (w'.setCell ⟨w.heap.size+2,0,none⟩ (.bool e')) n gs nc fv F e' vf vl ff ll:=by
 have hk:Kp [w.heap.size+2] w' (w'.setCell ⟨w.heap.size+2,0,none⟩ (.bool e')):=(Kp.refl _ w').set (.inl (by simp)) _ _;have old:∀ {u:aq} {m:Nat} {xs:List aq},w'.ownsRow (w.heap.size+3) 3 1 u m xs->(w'.setCell ⟨w.heap.size+2,0,none⟩ (.bool e')).ownsRow (w.heap.size+3) 3 1 u m xs:=fun {u m xs} hu=>aJ hu hk (fun g hg hm=>by
  simp only[bQ]at hm;have:=(eS hu hg).1;omega)
 refine⟨h.k.set (.inr (by omega)) _ _,h.gl,hk.keep h.bR (by simp),hk.keep h.bN (by simp),?_,h.fo.kp hk (fun g hg hm=>?_) (fun g hg hm=>?_),old h.of,old h.ol,h.d1⟩
 .rw[aQ,aA rfl,h.bO];rfl
 .simp only[bQ]at hm;subst hm;obtain⟨_,_,c',hc⟩:=eS h.fo.own hg;rw[h.bO]at hc;simp only[aV,fE]at hc;exact absurd hc.2.1 (by decide)
 .simp only[bQ]at hm;have:=h.gl g hg;omega
theorem pO.done(h:pO w w' n gs nc fv F e vf vl ff ll):((((w'.setCell ⟨w.heap.size,0,none⟩ (.bool e)).setCell ⟨w.heap.size,1,none⟩ vf).setCell ⟨w.heap.size,2,none⟩ vl).heap[w.heap.size]?=some (iP e vf vl))/\gD (((w'.setCell ⟨w.heap.size,0,none⟩ (.bool e)).setCell ⟨w.heap.size,1,none⟩ vf).setCell ⟨w.heap.size,2,none⟩ vl) fv n gs F/\Kp gs w (((w'.setCell ⟨w.heap.size,0,none⟩ (.bool e)).setCell ⟨w.heap.size,1,none⟩ vf).setCell ⟨w.heap.size,2,none⟩ vl)/\(((w'.setCell ⟨w.heap.size,0,none⟩ (.bool e)).setCell ⟨w.heap.size,1,none⟩ vf).setCell ⟨w.heap.size,2,none⟩ vl).ownsRow w.heap.size 3 1 vf (ae ff) (dy ff)/\(((w'.setCell ⟨w.heap.size,0,none⟩ (.bool e)).setCell ⟨w.heap.size,1,none⟩ vf).setCell ⟨w.heap.size,2,none⟩ vl).ownsRow w.heap.size 3 1 vl (ae ll) (dy ll):=by
 have hk:Kp [w.heap.size] w' (((w'.setCell ⟨w.heap.size,0,none⟩ (.bool e)).setCell ⟨w.heap.size,1,none⟩ vf).setCell ⟨w.heap.size,2,none⟩ vl):=(((Kp.refl _ w').set (.inl (by simp)) _ _).set (.inl (by simp)) _ _).set (.inl (by simp)) _ _;have old:∀ {u:aq} {m:Nat} {xs:List aq},w'.ownsRow (w.heap.size+3) 3 1 u m xs->(((w'.setCell ⟨w.heap.size,0,none⟩ (.bool e)).setCell ⟨w.heap.size,1,none⟩ vf).setCell ⟨w.heap.size,2,none⟩ vl).ownsRow w.heap.size 3 1 u m xs:=fun {u m xs} hu=>eV (aJ hu hk (fun g hg hm=>by
  simp only[bQ]at hm;have:=(eS hu hg).1;omega)) (by omega)
 refine⟨by simp only[aQ,if_true,h.bR];simp[eD],h.fo.kp hk (fun g hg hm=>?_) (fun g hg hm=>?_),((h.k.set (.inr (aH _)) _ _).set (.inr (aH _)) _ _).set (.inr (aH _)) _ _,old h.of,old h.ol⟩
 .simp only[bQ]at hm;subst hm;obtain⟨_,_,c',hc⟩:=eS h.fo.own hg;rw[h.bR]at hc;simp only[aV,fE]at hc;exact absurd hc.2.1 (by decide)
 .simp only[bQ]at hm;have:=h.gl g hg;omega
end
theorem aoV(w0:ay)(X r k n base lo:Nat)(nv:aq)(ns:List ND)(Ls:List AN)(nd:ND)(fv x0 x1 x2 x4:aq)(gs:List Nat)(F:Nat->Nat)(w:ay)(h:TP w0 r nv ns Ls base)(k0:Kp [] w0 w)(hk:ns[k]?=some nd)(ps:List Nat)(mL:nd.kind=99)(xq:nd.hv=.slice none 0 0)(jP:w0.ownsRow 0 3 1 nd.pv (ae ps) (dy ps))(hX:w.heap[X]?=some (qA x0 x1 x2 fv x4))(hF:gD w fv n gs F)(hl:(ae gs)=n)(hn:n<=200)(hG:∀g∈gs,w0.heap.size<=g)(je:(ae ps)<=1000)(iu:lo+(mJ (ps.map fun p=>Ls.getD p cK)).np<=n)(lu:∀i,i<ae ps->base+nb ns (Ls.getD (ps.getD i 0) cK).2.1=lo+(mJ ((ps.map fun p=>Ls.getD p cK).take i)).np)(hz:∀q,lo<=q->q<lo+(mJ (ps.map fun p=>Ls.getD p cK)).np->F q=0)(hp:∀p∈ps,Kf w0 X r n base ns Ls fv x0 x1 x2 x4 gs p):aI aB 98 #[.pointer (some ⟨X,0,none⟩),.pointer (some ⟨r,4,none⟩),.int .i64 k] w (Nr (mJ (ps.map fun p=>Ls.getD p cK)) lo n gs fv F w):=by
 have h1:=h.kp k0;obtain⟨s,i,e,pl,top,rd⟩:=h1.rd;obtain⟨g,cap,q4,rfl,hg,n0,n1,n2,n3,_⟩:=h1.row hk;have aN:k<ae ns:=by
  rcases eK k (ae ns) with a|a
  .exact a
  .rw[iY a]at hk;cases hk
 have gU:(k:Int)<ae ns:=(by omega);obtain⟨_,_,_,_,c4,c5,_⟩:=dM rd;obtain⟨ap,cp,jJ,_⟩:=qB (aJ jP k0 (by simp));rw[xq]at n1;rw[jJ]at n2 jP;rw[mL]at n0;obtain⟨HOWN,HF,HX,HP,HZ,zi,K0⟩:=DG jP hF hX hp hz lu k0;have hr:=aE rd;have aeF:=aE hX;have nX:X∉gs:=hF.ne hX (by decide);have NN:(ps.map fun p=>Ls.getD p cK).length=ae ps:=(by simp);generalize hM:(ps.map fun p=>Ls.getD p cK)=M at *;have HM:=aj hM;have Eg:=aj NN;clear h h1 hF hX hp hz rd hk xq jJ jP mL k0 hM NN lu;go_enter Tryz.func98,Tryz.ntmps98;go_upto_region 7 with fail;have kW:Kp [] w (((w.alloc lN).alloc (.cells #[.int .u8 99,.slice none 0 0,.slice ap (ae ps) cp,.int .i64 q4] 104)).alloc (iP true (.slice none 0 0) (.slice none 0 0))):=(((Kp.refl [] w).alloc _).alloc _).alloc _;have Uc:pO w (((w.alloc lN).alloc (.cells #[.int .u8 99,.slice none 0 0,.slice ap (ae ps) cp,.int .i64 q4] 104)).alloc (iP true (.slice none 0 0) (.slice none 0 0))) n gs #[.int .u8 99,.slice none 0 0,.slice ap (ae ps) cp,.int .i64 q4] fv F true (.slice none 0 0) (.slice none 0 0) [] [] :=
  pO.start HF.o kW (by simp only[aC,aM];rw[az (by omega),az (by omega),aA trivial]) (by simp only[aC,aM];rw[az (by omega),aA trivial]) (by simp only[aC,aM];rw[aA trivial])
 generalize ((w.alloc lN).alloc (.cells #[.int .u8 99,.slice none 0 0,.slice ap (ae ps) cp,.int .i64 q4] 104)).alloc (iP true (.slice none 0 0) (.slice none 0 0))=W at *;have Qu:=aj Uc;clear Uc kW n0 n1 n2 n3 c4 c5;go_wp2_with fail;go_loopw [9] (fun s w'=>∃(i:Nat) (e:Bool) (ff ll:List Nat) (af:Option Addr) (cf:Nat) (al:Option Addr) (cl:Nat) (F':Nat->Nat),i<=ae ps/\s=.int .i64 i/\pO w w' n gs #[.int .u8 99,.slice none 0 0,.slice ap (ae ps) cp,.int .i64 q4] fv F' e (.slice af (ae ff) cf) (.slice al (ae ll) cl) ff ll/\Pz M i lo F F' e (eH ff) (eH ll)/\(ae ff)<=(mJ (M.take i)).np/\(ae ll)<=(mJ (M.take i)).np)
  (fun s _=>ae ps-(aG s).toNat)
 case atStart=>exact⟨0,true,[],[],none,0,none,0,F,bU _,rfl,Qu.o,PG.start lo F,bU _,bU _⟩
 case round =>
  obtain⟨i,e,ff,ll,af,cf,al,cl,F1,hi,rfl,lp,Rs,Lz,LC⟩:=hrel;obtain⟨d0,d1,d2,d3,_⟩:=dB lp.bN;have LP:=aj lp;have CF:=aj Rs;have bO:=lp.bO;obtain⟨o0,o1,o2,y0,y1,y2⟩:=fX bO;clear lp Rs bO Qu;by_cases dx:i<ae ps
  .have gZ:(i:Int)<ae ps:=(by omega);have TI:Kp [] w0 wr:=K0.o.trans LP.o.k (fun y hy=>.inr (hG y hy));obtain⟨_,_,ea,uH⟩:=qB (aJ HOWN.o TI (by simp));obtain⟨gp,ga,Ry⟩:=uH i dx;simp only[fy]at ea;obtain⟨rfl,_,rfl⟩:=ea;subst ga;have uI:ps.getD i 0∈ps:=Dx dx;(have hMi:M.getD i cK=Ls.getD (ps.getD i 0) cK:=by rw[<-HM.o];exact abX ps Ls i dx);have yP:=age (M:=M) (i:=i) (by rw[Eg.o];exact dx);have afd:=amr M (i+1);have SS:=zi.o i dx;have iU:=HP.o _ uI F1 wr TI (LP.o.k.keep HX.o nX) LP.o.fo;rw[SS,<-hMi]at iU;have zz:∀q,lo+(mJ (M.take i)).np<=q->q<lo+(mJ (M.take i)).np+(M.getD i cK).1.np->F1 q=0:=fun q h1 h2=>by
    have:=CF.o.fo q;rw[az (by omega)]at this;rw[this];exact HZ.o q (by omega) (by omega)
   have zh:=aj (iU zz);generalize ps.getD i 0=p at *;clear iU zz uH SS;go_wp2_with fail;refine zh.o.mono ?_;rintro _ w2 ⟨e1,dU,ew,pf,pl,F2,rfl,pg,f2,k2,of,ol,hd,lf,ln⟩;obtain⟨bf,df,rfl,_⟩:=jm (eV of (bU _));obtain⟨bl,dl,rfl,_⟩:=jm (eV ol (bU _));have m3:=LP.o.mid (e1:=e1) k2 f2 of ol hd;have WJ:=m3.P3;have lfn:=iu;have Cs:∀q∈ll,q<n:=fun q hq=>by
    have:=((mJ (M.take i)).Lr lo).2 q (by rw[<-CF.o.la];exact(Ax ll q).2 hq);omega
   have Cr:∀q∈dU,q<n:=fun q hq=>by
    have:=((M.getD i cK).1.Lr (lo+(mJ (M.take i)).np)).1 q (by rw[<-pg.fi];exact(Ax dU q).2 hq);omega
   have X3:(w2.alloc (iP e1 (.slice bf (ae dU) df) (.slice bl (ae ew) dl))).heap[X]?=some (qA x0 x1 x2 fv x4):=m3.k.keep HX.o nX;generalize tM:w2.alloc (iP e1 (.slice bf (ae dU) df) (.slice bl (ae ew) dl))=W3 at *;obtain⟨u0,u1,u2,_⟩:=fX m3.bP;clear d0 d1 d2 d3 o0 o1 o2 y0 y1 y2;obtain⟨o0,o1,o2,y0,y1,y2⟩:=fX m3.bO;obtain⟨M3,Dl,Db,Da,Vg⟩:=jd m3 pg Cs Cr X3;clear m3 pg Cs Cr X3 of ol k2 f2 hd;(go_wp2_with (simp only[tM]));refine(abM X n x0 x1 x2 x4 fv (.slice al (ae ll) cl) (.slice bf (ae dU) df) ll dU gs F2 W3 Vg.o M3.o.fo hl hn (eV M3.o.ol (bU _)) (eV M3.o.IY (bU _)) (by omega) (by omega) Db.o Da.o).mono ?_;rintro _ w4 ⟨rfl,f4,k4⟩;have M4:=aj (M3.o.kp k4 f4);have AO:=aj (CF.o.step (by rw[Eg.o];exact dx) Dl.o);have akC:w.heap.size+2≠w2.heap.size:=(by omega);clear f4 k4 u0 u1 u2 o0 o1 o2 y0 y1 y2 tM Vg M3;cases e
   .obtain⟨o0,o1,o2,y0,y1,y2⟩:=fX M4.o.bO;obtain⟨u0,u1,u2,_⟩:=fX M4.o.bP;go_upto_region 14 with fail;have M6:=M4;(obtain⟨W5,hW5⟩:∃W5,W5=w4:=⟨_,rfl⟩);subst hW5;clear u0 u1 u2 o0 o1 o2 y0 y1 y2 M4;obtain⟨o0,o1,o2,y0,y1,y2⟩:=fX M6.o.bO;obtain⟨u0,u1,u2,_⟩:=fX M6.o.bP;cases e1
    .go_upto_region 17 with fail;have L8:ax (pO w (W5.setCell ⟨w.heap.size+1+1,2,none⟩ (.slice bl (ae ew) dl)) n gs #[.int .u8 99,.slice none 0 0,.slice (some ⟨gp,0,none⟩) (ae ps) cp,.int .i64 q4] fv (gW F2 (eH ll) (eH dU)) false (.slice af (ae ff) cf) (.slice bl (ae ew) dl) ff ew):=M6.o.YQ.1;have B8:ax ((W5.setCell ⟨w.heap.size+1+1,2,none⟩ (.slice bl (ae ew) dl)).heap[w2.heap.size]?=some (iP false (.slice bf (ae dU) df) (.slice bl (ae ew) dl))):=M6.o.YQ.2;generalize W5.setCell ⟨w.heap.size+1+1,2,none⟩ (.slice bl (ae ew) dl)=W8 at *;clear o0 o1 o2 y0 y1 y2 u0 u1 u2 M6;obtain⟨o0,o1,o2,y0,y1,y2⟩:=fX L8.o.bO;obtain⟨u0,u1,u2,_⟩:=fX B8.o;go_wp2;refine⟨⟨i+1,false,ff,ew,af,cf,bl,dl,gW F2 (eH ll) (eH dU),by omega,by go_num,by first|exact L8.o.em false|(simp only[cx];exact L8.o.em false),?_,?_,?_⟩,by simp[aG];omega⟩
     .have c2:=AO.o;simpa [Aw]using c2
     .rw[yP];omega
     .rw[yP];omega
    ·(go_upto_region 17 with(at_builtin;go_must (refine zD rfl _ _ rfl (.slice al (ae ll) cl) (.slice bl (ae ew) dl) ll ew rfl rfl (eV M6.o.ol (bU _)) (eV M6.o.FN (bU _)) (by omega) ?_);intro v7 w7 sO tK qh LZ;obtain⟨a7,c7,rfl,_⟩:=jm sO;obtain⟨Bp,Kk,l7,yA⟩:=M6.o.two tK sO qh;obtain⟨FK,FL,FM,Gc,Gd,Ge⟩:=fX Bp;rw[cx]at l7 yA;have L7:=aj l7;have Zm:=aj yA;clear l7 yA tK sO qh LZ Bp Kk));have L8:ax (pO w (w7.setCell ⟨w.heap.size+1+1,2,none⟩ (.slice a7 (ae ll+ae ew) c7)) n gs #[.int .u8 99,.slice none 0 0,.slice (some ⟨gp,0,none⟩) (ae ps) cp,.int .i64 q4] fv (gW F2 (eH ll) (eH dU)) false (.slice af (ae ff) cf) (.slice a7 (ae ll+ae ew) c7) ff (ll++ew)):=L7.o;have B8:ax ((w7.setCell ⟨w.heap.size+1+1,2,none⟩ (.slice a7 (ae ll+ae ew) c7)).heap[w2.heap.size]?=some (iP true (.slice bf (ae dU) df) (.slice bl (ae ew) dl))):=Zm.o;generalize w7.setCell ⟨w.heap.size+1+1,2,none⟩ (.slice a7 (ae ll+ae ew) c7)=W8 at *;clear o0 o1 o2 y0 y1 y2 u0 u1 u2 M6;obtain⟨o0,o1,o2,y0,y1,y2⟩:=fX L8.o.bO;obtain⟨u0,u1,u2,_⟩:=fX B8.o;go_wp2;refine⟨⟨i+1,false,ff,(ll++ew),af,cf,a7,c7,gW F2 (eH ll) (eH dU),by omega,by go_num,by first|exact L8.o.em false|(simp only[cx];exact L8.o.em false),?_,?_,?_⟩,by simp[aG];omega⟩
     .have c2:=AO.o;simpa [Aw]using c2
     .rw[yP];omega
     .rw[yP];simp only[cx];omega
   .obtain⟨o0,o1,o2,y0,y1,y2⟩:=fX M4.o.bO;obtain⟨u0,u1,u2,_⟩:=fX M4.o.bP;(go_upto_region 14 with(at_builtin;go_must (refine zD rfl _ _ rfl (.slice af (ae ff) cf) (.slice bf (ae dU) df) ff dU rfl rfl (eV M4.o.of (bU _)) (eV M4.o.IY (bU _)) (by omega) ?_);intro v5 w5 eE jO jY vY;obtain⟨a5,c5,rfl,_⟩:=jm eE;obtain⟨Hh,Rc,m5⟩:=M4.o.app1 jO eE jY;obtain⟨FK,FL,FM,Gc,Gd,Ge⟩:=fX Hh;rw[cx]at m5;have M5:=aj m5;clear m5 jO eE jY vY Hh Rc));have M6:ax (lV w (w5.setCell ⟨w.heap.size+1+1,1,none⟩ (.slice a5 (ae ff+ae dU) c5)) w2.heap.size n gs #[.int .u8 99,.slice none 0 0,.slice (some ⟨gp,0,none⟩) (ae ps) cp,.int .i64 q4] fv (gW F2 (eH ll) (eH dU)) true (.slice a5 (ae ff+ae dU) c5) (.slice al (ae ll) cl) (ff++dU) ll e1 (.slice bf (ae dU) df) (.slice bl (ae ew) dl) dU ew):=M5.o;generalize w5.setCell ⟨w.heap.size+1+1,1,none⟩ (.slice a5 (ae ff+ae dU) c5)=W5 at *;clear M5 FK FL FM Gc Gd Ge;clear u0 u1 u2 o0 o1 o2 y0 y1 y2 M4;obtain⟨o0,o1,o2,y0,y1,y2⟩:=fX M6.o.bO;obtain⟨u0,u1,u2,_⟩:=fX M6.o.bP;cases e1
    .go_upto_region 17 with fail;have L8:ax (pO w (W5.setCell ⟨w.heap.size+1+1,2,none⟩ (.slice bl (ae ew) dl)) n gs #[.int .u8 99,.slice none 0 0,.slice (some ⟨gp,0,none⟩) (ae ps) cp,.int .i64 q4] fv (gW F2 (eH ll) (eH dU)) true (.slice a5 (ae ff+ae dU) c5) (.slice bl (ae ew) dl) (ff++dU) ew):=M6.o.YQ.1;have B8:ax ((W5.setCell ⟨w.heap.size+1+1,2,none⟩ (.slice bl (ae ew) dl)).heap[w2.heap.size]?=some (iP false (.slice bf (ae dU) df) (.slice bl (ae ew) dl))):=M6.o.YQ.2;generalize W5.setCell ⟨w.heap.size+1+1,2,none⟩ (.slice bl (ae ew) dl)=W8 at *;clear o0 o1 o2 y0 y1 y2 u0 u1 u2 M6;obtain⟨o0,o1,o2,y0,y1,y2⟩:=fX L8.o.bO;obtain⟨u0,u1,u2,_⟩:=fX B8.o;go_wp2;refine⟨⟨i+1,false,(ff++dU),ew,a5,c5,bl,dl,gW F2 (eH ll) (eH dU),by omega,by go_num,by first|exact L8.o.em false|(simp only[cx];exact L8.o.em false),?_,?_,?_⟩,by simp[aG];omega⟩
     .have c2:=AO.o;simpa [Aw]using c2
     .rw[yP];simp only[cx];omega
     .rw[yP];omega
    ·(go_upto_region 17 with(at_builtin;go_must (refine zD rfl _ _ rfl (.slice al (ae ll) cl) (.slice bl (ae ew) dl) ll ew rfl rfl (eV M6.o.ol (bU _)) (eV M6.o.FN (bU _)) (by omega) ?_);intro v7 w7 sO tK qh LZ;obtain⟨a7,c7,rfl,_⟩:=jm sO;obtain⟨Bp,Kk,l7,yA⟩:=M6.o.two tK sO qh;obtain⟨FK,FL,FM,Gc,Gd,Ge⟩:=fX Bp;rw[cx]at l7 yA;have L7:=aj l7;have Zm:=aj yA;clear l7 yA tK sO qh LZ Bp Kk));have L8:ax (pO w (w7.setCell ⟨w.heap.size+1+1,2,none⟩ (.slice a7 (ae ll+ae ew) c7)) n gs #[.int .u8 99,.slice none 0 0,.slice (some ⟨gp,0,none⟩) (ae ps) cp,.int .i64 q4] fv (gW F2 (eH ll) (eH dU)) true (.slice a5 (ae ff+ae dU) c5) (.slice a7 (ae ll+ae ew) c7) (ff++dU) (ll++ew)):=L7.o;have B8:ax ((w7.setCell ⟨w.heap.size+1+1,2,none⟩ (.slice a7 (ae ll+ae ew) c7)).heap[w2.heap.size]?=some (iP true (.slice bf (ae dU) df) (.slice bl (ae ew) dl))):=Zm.o;generalize w7.setCell ⟨w.heap.size+1+1,2,none⟩ (.slice a7 (ae ll+ae ew) c7)=W8 at *;clear o0 o1 o2 y0 y1 y2 u0 u1 u2 M6;obtain⟨o0,o1,o2,y0,y1,y2⟩:=fX L8.o.bO;obtain⟨u0,u1,u2,_⟩:=fX B8.o;go_wp2;refine⟨⟨i+1,true,(ff++dU),(ll++ew),a5,c5,a7,c7,gW F2 (eH ll) (eH dU),by omega,by go_num,by first|exact L8.o.em true|(simp only[cx];exact L8.o.em true),?_,?_,?_⟩,by simp[aG];omega⟩
     .have c2:=AO.o;simpa [Aw]using c2
     .rw[yP];simp only[cx];omega
     .rw[yP];simp only[cx];omega
  .have gZ:¬(i:Int)<ae ps:=(by omega);obtain⟨r0,r1,r2,z0,z1,z2⟩:=fX LP.o.bR;go_wp2_with fail;go_wp2;obtain⟨b1,b2,b3,b4,b5⟩:=LP.o.done;have e1:M.take i=M:=Ba (by rw[Eg.o];omega);have Kr:=CF.o;unfold Pz at Kr;rw[e1]at Kr Lz LC;refine cF (v:=.agg #[.bool e,.slice af (ae ff) cf,.slice al (ae ll) cl]) (FU (b:=w.heap.size) G7 rfl b1) rfl ?_;exact⟨e,ff,ll,_,_,F1,rfl,Kr,b2,b3,b4,b5,LP.o.d1,Lz,LC⟩
section
variable{M:List AN}{i:Nat}
def vF(M:List AN)(i:Nat):Nat:=if i=0 then 0 else(xb (M.take i)).np
theorem ab2(h:i<ae M):vF M (i+1)=vF M i+(M.getD i cK).1.np:=by
 unfold vF;rw[az (by omega),UF h];by_cases z:i=0
 .subst z;rw[aA rfl,Nat.zero_add,Ew,aap];rfl
 .rw[az z,aaK _ _ (by intro e;have:=congrArg ae e;rw[GJ,MX]at this;omega)];rfl
theorem amq(M:List AN):∀j i,i<=j->j<=ae M->vF M i<=vF M j:=by
 intro j;induction j with
 |zero=>intro i h _;rw[show i=0 by omega];exact aH _
 |succ j ih =>
  intro i h hj;by_cases e:i=j+1
  .rw[e];exact aH _
  .rw[ab2 (by omega)];exact j8 (ih i (by omega) (by omega)) (adj _ _)
theorem agd(h:M≠[]):vF M (ae M)=(xb M).np:=by
 unfold vF;rw[az (fun e=>h (Et e)),List.take_length]
theorem CW.fo{lo:Nat}{F0 F:Nat->Nat}{e:Bool}{f l:Nat}(h:CW M i lo F0 F e f l)(q:Nat)(hq:lo+vF M i<=q):F q=F0 q:=by
 unfold CW at h;unfold vF at hq;by_cases z:i=0
 .rw[aA z]at h;rw[h.2.2.2]
 .rw[az z]at h hq;rw[h.fo q,az (by omega)]
section
variable{w w':ay}{P n:Nat}{gs:List Nat}{nc:Array aq}{fv:aq}{F:Nat->Nat}{e:Bool}{vf vl:aq}{ff ll:List Nat}{e1:Bool}{pf pl:aq}{dU ew:List Nat}
theorem lV.em(h:lV w w' P n gs nc fv F e vf vl ff ll e1 pf pl dU ew)(e':Bool):lV w (w'.setCell ⟨w.heap.size+2,0,none⟩ (.bool e')) P n gs nc fv F e' vf vl ff ll e1 pf pl dU ew:=by
 obtain⟨a1,a2,a3,a4,a5,a6⟩:=h.put (i:=0) (v:=.bool e') (e':=e') (dP:=vf) (YZ:=vl) rfl;have hk:Kp [w.heap.size+2] w' (w'.setCell ⟨w.heap.size+2,0,none⟩ (.bool e')):=(Kp.refl _ w').set (.inl (by simp)) _ _;have old:∀ {u:aq} {m:Nat} {xs:List aq},w'.ownsRow (w.heap.size+3) 3 1 u m xs->(w'.setCell ⟨w.heap.size+2,0,none⟩ (.bool e')).ownsRow (w.heap.size+3) 3 1 u m xs:=fun {u m xs} hu=>aJ hu hk (fun g hg hm=>by
  simp only[bQ]at hm;have:=(eS hu hg).1;omega)
 exact⟨a1,h.gl,a2,a3,a4,a5,h.P3,a6,old h.of,old h.ol,old h.IY,old h.FN,h.d1,h.d2,h.d3,h.d4⟩
end
theorem aoT(w0:ay)(X r k n base lo:Nat)(nv:aq)(ns:List ND)(Ls:List AN)(nd:ND)(fv x0 x1 x2 x4:aq)(gs:List Nat)(F:Nat->Nat)(w:ay)(h:TP w0 r nv ns Ls base)(k0:Kp [] w0 w)(hk:ns[k]?=some nd)(ps:List Nat)(mL:nd.kind=97)(xq:nd.hv=.slice none 0 0)(jP:w0.ownsRow 0 3 1 nd.pv (ae ps) (dy ps))(hX:w.heap[X]?=some (qA x0 x1 x2 fv x4))(hF:gD w fv n gs F)(hl:(ae gs)=n)(hn:n<=200)(hG:∀g∈gs,w0.heap.size<=g)(je:(ae ps)<=1000)(cP:ps≠[])(iu:lo+(xb (ps.map fun p=>Ls.getD p cK)).np<=n)(lu:∀i,i<ae ps->base+nb ns (Ls.getD (ps.getD i 0) cK).2.1=lo+vF (ps.map fun p=>Ls.getD p cK) i)(hz:∀q,lo<=q->q<lo+(xb (ps.map fun p=>Ls.getD p cK)).np->F q=0)(hp:∀p∈ps,Kf w0 X r n base ns Ls fv x0 x1 x2 x4 gs p):aI aB 98 #[.pointer (some ⟨X,0,none⟩),.pointer (some ⟨r,4,none⟩),.int .i64 k] w (Nr (xb (ps.map fun p=>Ls.getD p cK)) lo n gs fv F w):=by
 have h1:=h.kp k0;obtain⟨s,i,e,pl,top,rd⟩:=h1.rd;obtain⟨g,cap,q4,rfl,hg,n0,n1,n2,n3,_⟩:=h1.row hk;have aN:k<ae ns:=by
  rcases eK k (ae ns) with a|a
  .exact a
  .rw[iY a]at hk;cases hk
 have gU:(k:Int)<ae ns:=(by omega);obtain⟨_,_,_,_,c4,c5,_⟩:=dM rd;obtain⟨ap,cp,jJ,_⟩:=qB (aJ jP k0 (by simp));rw[xq]at n1;rw[jJ]at n2 jP;rw[mL]at n0;obtain⟨HOWN,HF,HX,HP,HZ,zi,K0⟩:=DG jP hF hX hp hz lu k0;have hr:=aE rd;have aeF:=aE hX;have nX:X∉gs:=hF.ne hX (by decide);have NN:(ps.map fun p=>Ls.getD p cK).length=ae ps:=(by simp);generalize hM:(ps.map fun p=>Ls.getD p cK)=M at *;have HM:=aj hM;have Eg:=aj NN;have vg:ax (M≠[]):=fun e=>cP (Et (by rw[<-NN,e];rfl))
 clear h h1 hF hX hp hz rd hk xq jJ jP mL k0 hM NN lu;go_enter Tryz.func98,Tryz.ntmps98;go_upto_region 21 with fail;have kW:Kp [] w (((w.alloc lN).alloc (.cells #[.int .u8 97,.slice none 0 0,.slice ap (ae ps) cp,.int .i64 q4] 104)).alloc (iP false (.slice none 0 0) (.slice none 0 0))):=(((Kp.refl [] w).alloc _).alloc _).alloc _;have Uc:pO w (((w.alloc lN).alloc (.cells #[.int .u8 97,.slice none 0 0,.slice ap (ae ps) cp,.int .i64 q4] 104)).alloc (iP false (.slice none 0 0) (.slice none 0 0))) n gs #[.int .u8 97,.slice none 0 0,.slice ap (ae ps) cp,.int .i64 q4] fv F false (.slice none 0 0) (.slice none 0 0) [] [] :=
  pO.start HF.o kW (by simp only[aC,aM];rw[az (by omega),az (by omega),aA trivial]) (by simp only[aC,aM];rw[az (by omega),aA trivial]) (by simp only[aC,aM];rw[aA trivial])
 generalize ((w.alloc lN).alloc (.cells #[.int .u8 97,.slice none 0 0,.slice ap (ae ps) cp,.int .i64 q4] 104)).alloc (iP false (.slice none 0 0) (.slice none 0 0))=W at *;have Qu:=aj Uc;clear Uc kW n0 n1 n2 n3 c4 c5;go_wp2_with fail;go_loopw [12] (fun s w'=>∃(i:Nat) (e:Bool) (ff ll:List Nat) (af:Option Addr) (cf:Nat) (al:Option Addr) (cl:Nat) (F':Nat->Nat),i<=ae ps/\s=.int .i64 i/\pO w w' n gs #[.int .u8 97,.slice none 0 0,.slice ap (ae ps) cp,.int .i64 q4] fv F' e (.slice af (ae ff) cf) (.slice al (ae ll) cl) ff ll/\CW M i lo F F' e (eH ff) (eH ll)/\(ae ff)<=vF M i/\(ae ll)<=vF M i)
  (fun s _=>ae ps-(aG s).toNat)
 case atStart=>exact⟨0,false,[],[],none,0,none,0,F,bU _,rfl,Qu.o,by unfold CW;rw[aA rfl];exact⟨rfl,rfl,rfl,rfl⟩,bU _,bU _⟩
 case round =>
  obtain⟨i,e,ff,ll,af,cf,al,cl,F1,hi,rfl,lp,Rs,Lz,LC⟩:=hrel;obtain⟨d0,d1,d2,d3,_⟩:=dB lp.bN;have LP:=aj lp;have CF:=aj Rs;have bO:=lp.bO;obtain⟨o0,o1,o2,y0,y1,y2⟩:=fX bO;clear lp Rs bO Qu;by_cases dx:i<ae ps
  .have gZ:(i:Int)<ae ps:=(by omega);have TI:Kp [] w0 wr:=K0.o.trans LP.o.k (fun y hy=>.inr (hG y hy));obtain⟨_,_,ea,uH⟩:=qB (aJ HOWN.o TI (by simp));obtain⟨gp,ga,Ry⟩:=uH i dx;simp only[fy]at ea;obtain⟨rfl,_,rfl⟩:=ea;subst ga;have uI:ps.getD i 0∈ps:=Dx dx;(have hMi:M.getD i cK=Ls.getD (ps.getD i 0) cK:=by rw[<-HM.o];exact abX ps Ls i dx);have yP:=ab2 (M:=M) (i:=i) (by rw[Eg.o];exact dx);have afd:=amq M (ae M) (i+1) (by rw[Eg.o];omega) (aH _);rw[agd vg.o]at afd;have SS:=zi.o i dx;have iU:=HP.o _ uI F1 wr TI (LP.o.k.keep HX.o nX) LP.o.fo;rw[SS,<-hMi]at iU;have zz:∀q,lo+vF M i<=q->q<lo+vF M i+(M.getD i cK).1.np->F1 q=0:=fun q h1 h2=>by
    rw[CF.o.fo q h1];exact HZ.o q (by omega) (by omega)
   have zh:=aj (iU zz);generalize ps.getD i 0=p at *;clear iU zz uH SS;go_wp2_with fail;refine zh.o.mono ?_;rintro _ w2 ⟨e1,dU,ew,pf,pl,F2,rfl,pg,f2,k2,of,ol,hd,lf,ln⟩;obtain⟨bf,df,rfl,_⟩:=jm (eV of (bU _));obtain⟨bl,dl,rfl,_⟩:=jm (eV ol (bU _));have m3:=LP.o.mid (e1:=e1) k2 f2 of ol hd;have WJ:=m3.P3;have lfn:=iu;generalize tM:w2.alloc (iP e1 (.slice bf (ae dU) df) (.slice bl (ae ew) dl))=W3 at *;clear d0 d1 d2 d3 o0 o1 o2 y0 y1 y2;have M3:=aj m3;have AO:=aj (CF.o.step (by rw[Eg.o];exact dx) (by exact pg));have akC:w.heap.size+2≠w2.heap.size:=(by omega);clear m3 pg of ol k2 f2 hd;cases e
   .obtain⟨o0,o1,o2,y0,y1,y2⟩:=fX M3.o.bO;obtain⟨u0,u1,u2,_⟩:=fX M3.o.bP;(go_upto_region 26 with(simp only[tM]));have M4:ax (lV w (W3.setCell ⟨w.heap.size+1+1,0,none⟩ (.bool e1)) w2.heap.size n gs #[.int .u8 97,.slice none 0 0,.slice (some ⟨gp,0,none⟩) (ae ps) cp,.int .i64 q4] fv F2 e1 (.slice af (ae ff) cf) (.slice al (ae ll) cl) ff ll e1 (.slice bf (ae dU) df) (.slice bl (ae ew) dl) dU ew):=M3.o.em e1;generalize W3.setCell ⟨w.heap.size+1+1,0,none⟩ (.bool e1)=W4 at *;clear u0 u1 u2 o0 o1 o2 y0 y1 y2 M3 tM;obtain⟨o0,o1,o2,y0,y1,y2⟩:=fX M4.o.bO;obtain⟨u0,u1,u2,_⟩:=fX M4.o.bP;(go_upto_region 27 with(at_builtin;go_must (refine zD rfl _ _ rfl (.slice af (ae ff) cf) (.slice bf (ae dU) df) ff dU rfl rfl (eV M4.o.of (bU _)) (eV M4.o.IY (bU _)) (by omega) ?_);intro v5 w5 eE jO jY vY;obtain⟨a5,c5,rfl,_⟩:=jm eE;obtain⟨Hh,Rc,m5⟩:=M4.o.app1 jO eE jY;obtain⟨FK,FL,FM,Gc,Gd,Ge⟩:=fX Hh;rw[cx]at m5;have M5:=aj m5;clear m5 jO eE jY vY Hh Rc));have M6:ax (lV w (w5.setCell ⟨w.heap.size+1+1,1,none⟩ (.slice a5 (ae ff+ae dU) c5)) w2.heap.size n gs #[.int .u8 97,.slice none 0 0,.slice (some ⟨gp,0,none⟩) (ae ps) cp,.int .i64 q4] fv F2 e1 (.slice a5 (ae ff+ae dU) c5) (.slice al (ae ll) cl) (ff++dU) ll e1 (.slice bf (ae dU) df) (.slice bl (ae ew) dl) dU ew):=M5.o;generalize w5.setCell ⟨w.heap.size+1+1,1,none⟩ (.slice a5 (ae ff+ae dU) c5)=W5 at *;clear M5 FK FL FM Gc Gd Ge u0 u1 u2 o0 o1 o2 y0 y1 y2 M4;obtain⟨o0,o1,o2,y0,y1,y2⟩:=fX M6.o.bO;obtain⟨u0,u1,u2,_⟩:=fX M6.o.bP;(go_wp2_with (at_builtin;go_must (refine zD rfl _ _ rfl (.slice al (ae ll) cl) (.slice bl (ae ew) dl) ll ew rfl rfl (eV M6.o.ol (bU _)) (eV M6.o.FN (bU _)) (by omega) ?_);intro v7 w7 sO tK qh LZ;obtain⟨a7,c7,rfl,_⟩:=jm sO;obtain⟨Bp,Kk,l7,yA⟩:=M6.o.two tK sO qh;obtain⟨FK,FL,FM,Gc,Gd,Ge⟩:=fX Bp;rw[cx]at l7 yA;have L7:=aj l7;clear l7 yA tK sO qh LZ Bp Kk));go_wp2;refine⟨⟨i+1,e1,ff++dU,ll++ew,a5,c5,a7,c7,F2,by omega,by go_num,by simp only[cx];exact L7.o,?_,?_,?_⟩,by simp[aG];omega⟩
    .have c2:=AO.o;simpa [Aw]using c2
    .rw[yP];simp only[cx];omega
    .rw[yP];simp only[cx];omega
   .obtain⟨o0,o1,o2,y0,y1,y2⟩:=fX M3.o.bO;obtain⟨u0,u1,u2,_⟩:=fX M3.o.bP;(go_upto_region 26 with(simp only[tM]));have M4:ax (lV w (W3.setCell ⟨w.heap.size+1+1,0,none⟩ (.bool true)) w2.heap.size n gs #[.int .u8 97,.slice none 0 0,.slice (some ⟨gp,0,none⟩) (ae ps) cp,.int .i64 q4] fv F2 true (.slice af (ae ff) cf) (.slice al (ae ll) cl) ff ll e1 (.slice bf (ae dU) df) (.slice bl (ae ew) dl) dU ew):=M3.o.em true;generalize W3.setCell ⟨w.heap.size+1+1,0,none⟩ (.bool true)=W4 at *;clear u0 u1 u2 o0 o1 o2 y0 y1 y2 M3 tM;obtain⟨o0,o1,o2,y0,y1,y2⟩:=fX M4.o.bO;obtain⟨u0,u1,u2,_⟩:=fX M4.o.bP;(go_upto_region 27 with(at_builtin;go_must (refine zD rfl _ _ rfl (.slice af (ae ff) cf) (.slice bf (ae dU) df) ff dU rfl rfl (eV M4.o.of (bU _)) (eV M4.o.IY (bU _)) (by omega) ?_);intro v5 w5 eE jO jY vY;obtain⟨a5,c5,rfl,_⟩:=jm eE;obtain⟨Hh,Rc,m5⟩:=M4.o.app1 jO eE jY;obtain⟨FK,FL,FM,Gc,Gd,Ge⟩:=fX Hh;rw[cx]at m5;have M5:=aj m5;clear m5 jO eE jY vY Hh Rc));have M6:ax (lV w (w5.setCell ⟨w.heap.size+1+1,1,none⟩ (.slice a5 (ae ff+ae dU) c5)) w2.heap.size n gs #[.int .u8 97,.slice none 0 0,.slice (some ⟨gp,0,none⟩) (ae ps) cp,.int .i64 q4] fv F2 true (.slice a5 (ae ff+ae dU) c5) (.slice al (ae ll) cl) (ff++dU) ll e1 (.slice bf (ae dU) df) (.slice bl (ae ew) dl) dU ew):=M5.o;generalize w5.setCell ⟨w.heap.size+1+1,1,none⟩ (.slice a5 (ae ff+ae dU) c5)=W5 at *;clear M5 FK FL FM Gc Gd Ge u0 u1 u2 o0 o1 o2 y0 y1 y2 M4;obtain⟨o0,o1,o2,y0,y1,y2⟩:=fX M6.o.bO;obtain⟨u0,u1,u2,_⟩:=fX M6.o.bP;(go_wp2_with (at_builtin;go_must (refine zD rfl _ _ rfl (.slice al (ae ll) cl) (.slice bl (ae ew) dl) ll ew rfl rfl (eV M6.o.ol (bU _)) (eV M6.o.FN (bU _)) (by omega) ?_);intro v7 w7 sO tK qh LZ;obtain⟨a7,c7,rfl,_⟩:=jm sO;obtain⟨Bp,Kk,l7,yA⟩:=M6.o.two tK sO qh;obtain⟨FK,FL,FM,Gc,Gd,Ge⟩:=fX Bp;rw[cx]at l7 yA;have L7:=aj l7;clear l7 yA tK sO qh LZ Bp Kk));go_wp2;refine⟨⟨i+1,true,ff++dU,ll++ew,a5,c5,a7,c7,F2,by omega,by go_num,by simp only[cx];exact L7.o,?_,?_,?_⟩,by simp[aG];omega⟩
    .have c2:=AO.o;simpa [Aw]using c2
    .rw[yP];simp only[cx];omega
    .rw[yP];simp only[cx];omega
  .have gZ:¬(i:Int)<ae ps:=(by omega);obtain⟨r0,r1,r2,z0,z1,z2⟩:=fX LP.o.bR;go_wp2_with fail;go_wp2;obtain⟨b1,b2,b3,b4,b5⟩:=LP.o.done;have e1:M.take i=M:=Ba (by rw[Eg.o];omega);(have cS:i=ae M:=by rw[Eg.o];omega);have Kr:=CF.o;unfold CW at Kr;rw[az (by intro z;apply vg.o;exact Et (by omega)),e1]at Kr;rw[cS,agd vg.o]at Lz LC;refine cF (v:=.agg #[.bool e,.slice af (ae ff) cf,.slice al (ae ll) cl]) (FU (b:=w.heap.size) G7 rfl b1) rfl ?_;exact⟨e,ff,ll,_,_,F1,rfl,Kr,b2,b3,b4,b5,LP.o.d1,Lz,LC⟩
end
section
variable{M:List AN}{ns:List ND}{S:Nat->Nat}{lo hi:Nat}
theorem aaV:∀(M:List AN) (lo hi:Nat),tI lo M hi->0<ae M->(M.getD 0 cK).2.1=lo:=by
 intro M lo hi h h0;cases M with
 |nil=>simp at h0
 |cons x M=>exact h.1
theorem ad4:∀(M:List AN) (lo hi i:Nat),tI lo M hi->i+1<ae M->(M.getD (i+1) cK).2.1=(M.getD i cK).2.2:=by
 intro M;induction M with
 |nil=>intro lo hi i _ h;simp at h
 |cons x M ih =>
  intro lo hi i h hi';cases i with
  |zero=>exact aaV M x.2.2 hi h.2 (by simp at hi';omega)
  |succ i=>exact ih x.2.2 hi i h.2 (by simp at hi';omega)
theorem ajw:∀(M:List AN) (lo hi:Nat),tI lo M hi->(∀x∈M,x.2.1<x.2.2)->lo+ae M<=hi:=by
 intro M;induction M with
 |nil=>intro lo hi h _;simp[tI]at h;simp[h]
 |cons x M ih =>
  intro lo hi h hx;have h1:=ih x.2.2 hi h.2 (fun y hy=>hx y (vq _ hy));have h2:=hx x GN;rw[h.1]at h2;simp only[List.length_cons];omega
theorem ajv:∀(M:List AN) (lo hi:Nat),tI lo M hi->(∀x∈M,x.2.1<=x.2.2)->lo<=hi:=by
 intro M;induction M with
 |nil=>intro lo hi h _;exact Nat.le_of_eq h
 |cons x M ih =>
  intro lo hi h hx;have h1:=ih x.2.2 hi h.2 (fun y hy=>hx y (vq _ hy));have h2:=hx x GN;rw[h.1]at h2;omega
theorem af1{i:Nat}(h:i<ae M):M.getD i cK∈M:=by
 rw[aO,bD h];exact nE h
theorem aju(h:tI lo M hi)(g:∀x∈M,me ns S x.1 x.2.1 x.2.2):∀i,i<ae M->nb ns (M.getD i cK).2.1=nb ns lo+(mJ (M.take i)).np:=by
 intro i;induction i with
 |zero=>intro h0;rw[aaV M lo hi h h0];rfl
 |succ i ih =>
  intro hi';rw[ad4 M lo hi i h hi',age (by omega),<-Vw,<-ih (by omega)];exact((g _ (af1 (i:=i) (by omega))).np).symm
theorem ajt(h:tI lo M hi)(g:∀x∈M,me ns S x.1 x.2.1 x.2.2):∀i,i<ae M->nb ns (M.getD i cK).2.1=nb ns lo+vF M i:=by
 intro i;induction i with
 |zero=>intro h0;rw[aaV M lo hi h h0];rfl
 |succ i ih =>
  intro hi';rw[ad4 M lo hi i h hi',ab2 (by omega),<-Vw,<-ih (by omega)];exact((g _ (af1 (i:=i) (by omega))).np).symm
theorem aoS(w0:ay)(X r n base:Nat)(nv:aq)(ns:List ND)(Ls:List AN)(fv x0 x1 x2 x4:aq)(gs:List Nat)(S:Nat->Nat)(h:TP w0 r nv ns Ls base)(hS:Ke ns Ls S)(hl:(ae gs)=n)(hn:n<=200)(hG:∀g∈gs,w0.heap.size<=g)(hb:base+nb ns (ae ns)<=n)(Ir:(ae ns)<=1000):∀k,k<ae ns->Kf w0 X r n base ns Ls fv x0 x1 x2 x4 gs k:=by
 intro k;induction k using M2 with
 |ind k ih =>
  intro hk F w k0 hX hF hz;have eZ:ns[k]?=some ns[k]:=bD hk;have gk:=h.tr.good hS k hk;have WC:=gk.1.np;rw[gk.2]at WC;have mono:=OJ ns (k+1) (ae ns) (by omega);rcases h.tr.ok k _ eZ with⟨h1,h0,b,s,h2,h3,h4⟩|⟨h0,ps,h1,h2,⟨h3,h5⟩,h4⟩
  .have e1:nb ns (k+1)=nb ns k+1:=LK eZ h1;(rw[h4]at hz |-);exact aoU w0 X r k n base nv ns Ls ns[k] s fv gs F w (h.kp k0) eZ h1 b h2 h0 (by omega) hn hF (hz _ (aH _) (GS _))
  .have gp:∀x∈ps.map (fun p=>Ls.getD p cK),me ns S x.1 x.2.1 x.2.2:=fun x hx=>by
    obtain⟨p,hp,rfl⟩:=kY.1 hx;exact(h.tr.good hS p (by have:=h2 p hp;omega)).1
   have gl:∀x∈ps.map (fun p=>Ls.getD p cK),x.2.1<x.2.2:=fun x hx=>by
    obtain⟨p,hp,rfl⟩:=kY.1 hx;(have fA:p<ae ns:=by have:=h2 p hp;omega);have q:=h.tr.good hS p fA;rcases h.tr.ok p _ (bD fA)with⟨_,_,b,s,_,_,e4⟩|⟨_,qs,_,e2,⟨e3,e5⟩,_⟩
    .rw[e4];exact GS _
    .rw[e5];have:=ajv _ _ _ e3 (fun y hy=>by
      obtain⟨p',hp',rfl⟩:=kY.1 hy;exact(h.tr.good hS p' (by have:=e2 p' hp';omega)).1.le)
     omega
   have lM:(ps.map fun p=>Ls.getD p cK).length=ae ps:=(by simp);have fA:=ajw _ _ _ h3 gl;rw[lM]at fA;(have hpw:∀p∈ps,Kf w0 X r n base ns Ls fv x0 x1 x2 x4 gs p:=fun p hp=>ih p (h2 p hp) (by have:=h2 p hp;omega));(have mg:∀i,i<ae ps->(ps.map fun p=>Ls.getD p cK).getD i cK=Ls.getD (ps.getD i 0) cK:=fun i hi=>abX ps Ls i hi);rcases h4 with⟨q,e⟩|⟨q,e,ne⟩|⟨p,e1,q,e⟩
   ·(rw[e]at hz WC |-);refine aoV w0 X r k n base (base+nb ns (Ls.getD k cK).2.1) nv ns Ls ns[k] fv x0 x1 x2 x4 gs F w h k0 eZ ps q h0 h1 hX hF hl hn hG (by omega) (by omega) (fun i hi=>?_) hz hpw;have:=aju h3 gp i (by rw[lM];exact hi);rw[mg i hi]at this;omega
   ·(rw[e]at hz WC |-);refine aoT w0 X r k n base (base+nb ns (Ls.getD k cK).2.1) nv ns Ls ns[k] fv x0 x1 x2 x4 gs F w h k0 eZ ps q h0 h1 hX hF hl hn hG (by omega) ne (by omega) (fun i hi=>?_) hz hpw;have:=ajt h3 gp i (by rw[lM];exact hi);rw[mg i hi]at this;omega
   .subst e1;have c0:(Ls.getD p cK).2.1=(Ls.getD k cK).2.1:=h3.1;(have enp:(Ls.getD k cK).1.np=(Ls.getD p cK).1.np:=by rw[e];unfold qD;split;rfl;split<;>rfl);rw[e,<-c0];rw[e,<-c0]at WC;rw[enp,<-c0]at hz;rw[e]at enp;refine aoX w0 X r k n base nv ns Ls ns[k] fv x0 x1 x2 x4 gs F w h k0 eZ p q h0 h1 hX hF hl hn hG ?_ hz (hpw p GN);rw[<-enp];omega
end
end Go.Proofs.YtbjdkbcfpmeneaaGreat
