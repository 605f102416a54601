/- What is proved here: each step of a script is as the document says. -/
import Derived.Test.YtbjdkbcfpmeneaaGreatF10
import Derived.Test.YtbjdkbcfpmeneaaGreatM09
import Derived.Lib.SmallJoins
open Array renaming getElem?_setIfInBounds_ne->iH,getElem?_setIfInBounds_self_of_lt->xZ
open Go renaming Calls->aI,TypeId->cL,Value->aq,World->ay,bodyPost_ret->cF,heap_alloc_new->jS,info_parts->iw,results->eG,toList_madeCells_one->YU,wp_region_lit->fD
open Go.DataW renaming trod->Jv,trod_string->ahI
open Go.Obj.cells renaming injEq->fE
open Go.Proofs.Tryz renaming prog->aB,results27->VW,underlying3->ET,underlying32->VX,underlying9->adB
open Go.Proofs.YtbjdkbcfpmeneaaGreat.Rows renaming uptoBulk->yt,uptoBulkAll->zv
open Go.Value renaming agg->si,oneCell'->dS,ownBlock->aK
open Go.World renaming cell?->vE,news_of_block->gN,ownsRow_nil->j9
open List renaming getElem?_append_left->iI,getElem?_append_right->mU,getElem?_cons_succ->mV,getElem?_cons_zero->j7,getElem?_eq_getElem->bD,getElem?_eq_some_iff->fB,getElem?_range->De,getElem?_toArray->rY,length->ae,length_append->cx,length_map->mX,mem_map->kY,mem_map_of_mem->aid,mem_of_getElem?->qL,mem_singleton->bQ,range->lU
open List.cons renaming injEq->zn
open Nat renaming le_refl->aH,lt_irrefl->Ey,lt_or_ge->eK,ne_of_lt->bY,zero_le->bU
open Option.some renaming injEq->aV
namespace Go.Proofs.YtbjdkbcfpmeneaaGreat
set_option linter.unusedVariables false
set_option linter.unusedSimpArgs false
set_option maxRecDepth 100000
set_option maxHeartbeats 16000000
open Go.RowKit
def adq(rs:Nat->ByteArray)(n:Nat)(w:ay)(e:Ending)(w':ay):Prop:=Kp [] w w' /\
 ((∃i:Nat,i<n/\(∀k,k<i->(cO (rs k)).err=0)/\(cO (rs i)).err≠0/\e=.returned (.tuple #[.pointer none,.int .i64 (cO (rs i)).err,.int .i64 i,.int .i64 (cO (rs i)).pl])) \/
  ((∀k,k<n->(cO (rs k)).err=0)/\∃(ts:List TD) (S:Nat->Nat) (ru:List Nat),VL rs n ts S ru /\
  ((∃(X:Nat) (U:bw) (L:List (Nat×Nat)) (rows:List (List Int)) (ls:List Nat),e=.returned (.tuple #[.pointer (some ⟨X,0,none⟩),.int .i64 0,.int .i64 0,.int .i64 0])/\kH (xh ts S ru) (cH (gR ts) (ae ts),0) (aZ ts (ae ts)) (ae ts) L rows/\(ae rows)=ae L/\(ae ls)=256/\Dd S (aZ ts (ae ts)) ls/\VM (fun i c=>(rows.getD i []).getD c 0) (mZ (ae ts) L) (ae L) ls U/\qf w.heap.size w' X ts U/\U.N<=250/\U.C<=256) \/
   (∃(L:List (Nat×Nat)) (s:Nat×Nat),e=.returned (.tuple #[.pointer none,.int .i64 7,.int .i64 0,.int .i64 0])/\(ae L)=250/\(L ++ [s]).Nodup/\∀y∈L ++ [s],yq (xh ts S ru) (cH (gR ts) (ae ts),0) y))))
theorem ajd{ops:Array Oper}{rest:List Oper}{op:Oper}{a:Act}{w:ay}{Q:Exit->Act->ay->Prop}(iK:op.guard=none)(ho:op.op=.build 95 #[])(h:wpList aB ops Q rest (a.put op.dst (.agg (mP (.slice none 0 0) dR (.slice none 0 0) (.slice none 0 0)))) w):wpList aB ops Q (op::rest) a w:=by
 have e:((#[]:Array (Nat×Operand)).map fun(i,x)=>(i,a.eval x)).toList=[]:=(by simp);refine wpList_plain iK fun _ hK=>wp_build 95 #[] ho ?_ (hK _ _ ?_)
 .rw[e,adV];rfl
 .rw[e,adV];exact h
theorem anF(a:Option Addr)(n cap:Nat)(w:ay)(hn:n=0\/6<n):aI aB 27 #[.slice a n cap] w fun e w'=>e=.returned (.tuple #[.pointer none,.int .i64 1,.int .i64 0,.int .i64 0])/\w'=w:=by
 go_enter Tryz.func27,Tryz.ntmps27;rcases hn with rfl|hn
 .go_wp2;refine cF (v:=.tuple #[.pointer none,.int .i64 1,.int .i64 0,.int .i64 0]) ?_ rfl ⟨rfl,rfl⟩;simp[eG,VW,go_sem]
 .have h1:¬(n:Int)=0:=(by omega);have h2:(6:Int)<n:=(by omega);have h3:((n:Int) == 0)=false:=by simpa using h1
  clear hn;go_wp2;refine cF (v:=.tuple #[.pointer none,.int .i64 1,.int .i64 0,.int .i64 0]) ?_ rfl ⟨rfl,rfl⟩;simp[eG,VW,go_sem]
theorem anE(g o n cap:Nat)(rs:Nat->ByteArray)(w:ay)(hR:EE w g o n rs)(h0:0<n)(h6:n<=6):aI aB 27 #[.slice (some ⟨g,o,none⟩) n cap] w (adq rs n w):=by
 have HR:=aj hR;have lg:=hR.lt;clear hR;have h1:¬(n:Int)=0:=(by omega);have h1b:((n:Int) == 0)=false:=by simpa using h1
 have h2:¬(6:Int)<n:=(by omega);go_enter Tryz.func27,Tryz.ntmps27;go_upto_region 3 with fail;apply fD;refine ajd rfl rfl ?_;refine aaM rfl _ _ rfl (.agg (mP (.slice none 0 0) dR (.slice none 0 0) (.slice none 0 0))) rfl ?_;simp only[Act.put,List.setIfInBounds_toArray,List.set_cons_zero,List.set_cons_succ];have RI:ax (Dm rs w (w.alloc (.cells (si (mP (.slice none 0 0) dR (.slice none 0 0) (.slice none 0 0))).cells 95 (0,0))) w.heap.size cE []) :=
  ⟨(Kp.refl [] w).alloc _,by rw[aC,aA rfl];rfl,aH _,j9 _ _ _ _,fun g hg=>by simp[cE,aK]at hg,fun k hk=>by simp at hk,fun t ht=>by simp at ht,fun i j hi=>by simp at hi⟩
 generalize (w.alloc (.cells (si (mP (.slice none 0 0) dR (.slice none 0 0) (.slice none 0 0))).cells 95 (0,0)))=w1 at *;generalize hX:w.heap.size=X at RI |-
 have HX:=aj hX;clear hX;go_wp2_with fail;go_loopw [7] (fun s7 w'=>∃(i:Nat) (tv:aq) (ts:List TD),s7=.int .i64 i/\i<=n/\(ae ts)=i/\Dm rs w w' X tv ts)
  (fun s7 _=>n-(intOf s7).toNat)
 case atStart=>exact⟨0,_,[],rfl,by omega,rfl,RI.o⟩
 case round =>
  clear RI;obtain⟨i,tv,ts,rfl,iL,pV,ri⟩:=hrel;have RI:=aj ri;have pM:=aj pV;by_cases dx:i<n
  .have gZ:(i:Int)<n:=(by omega);have cr:=(HR.o.kp ri.k).at_ i dx;clear ri pV;go_upto_region 7 with fail;go_wp2_with fail;refine(acm (rs i) wr).mono ?_;rintro _ w2 ⟨k2,aby⟩;have K2:=aj k2;clear k2 cr;(have yd:ax (∀k,k<i->(cO (rs k)).err=0):=fun k hk=>(RI.o.ok k (by rw[pM.o];exact hk)).1);rcases aby with⟨he,rfl⟩|⟨he,fA,r,k,rfl,ta⟩
   .have HE:=aj he;have KW:ax (Kp [] w w2):=RI.o.k.trans K2.o (by simp);(have cP:((cO (rs i)).err != 0)=true:=by simpa using he);clear he;generalize hee:(cO (rs i)).err=ee at *;generalize hpp:(cO (rs i)).pl=pp_ at *;have HEE:=aj hee;have Ej:=aj hpp;clear hee hpp;go_wp2;refine cF (v:=.tuple #[.pointer none,.int .i64 ee,.int .i64 i,.int .i64 pp_]) ?_ rfl ⟨KW.o,.inl ⟨i,dx,yd.o,by rw[HEE.o];exact HE.o,by rw[HEE.o,Ej.o]⟩⟩;simp[eG,VW,go_sem]
   .obtain⟨t,tr,ta2,hs,hn,hr,hg⟩:=ta.td;subst tr;obtain⟨HE,TA,HS,HN,jC,HG⟩:=DF he ta2 hs hn hr hg;have x2:w2.heap[X]?=some (.cells (mP tv dR cE cE) 95 (0,0)):=K2.o.keep RI.o.x (by simp);have cX:w2.cell? ⟨X,0,none⟩=some tv:=(by rw[aF x2,Mf]);have X2:=aj x2;have zu:=aj (aJ RI.o.own K2.o (by simp));have IQ:X≠w2.heap.size:=bY (aE x2);have tX:ax (tv.ownBlock≠some X):=fun e=>by
     rcases zu.o.2 with⟨e2,_⟩|⟨g',cap,cur,e2,_,hc,_⟩
     .rw[e2]at e;cases e
     .rw[e2]at e;simp only[aK,aV]at e;rw[e,X2.o]at hc;simp only[aV,fE]at hc;exact absurd hc.2.1 (by decide)
    (have yS:(ae ts)<=6:=by have:=pM.o;omega);obtain⟨i0,cS,dc,dm,cW⟩:=iw alv;obtain⟨I0,Z0,Z1,Z2⟩:=dH cS dc dm cW;generalize Xx:t.r=rr at *;have JI:=aj Xx;clear cS dc dm cW x2 he ta2 hs hn hr hg ta fA Xx;go_upto_region 10 with fail;(go_upto_region 6 with(at_builtin;go_must (refine qU rfl _ _ _ rfl 41 i0 _ 1 8 Tryz.underlying93 I0.o Z0.o Z1.o Z2.o rfl (by omega) tv (ae ts) (ts.map fun t=>.pointer (some ⟨t.r,4,none⟩)) rfl (zu.o.alloc _) ⟨w2.heap.size,0,none⟩ 1 1 [.pointer (some ⟨rr,4,none⟩)] rfl rfl (gN (cs:=#[.pointer (some ⟨rr,4,none⟩)]) (t:=41) (fr:=(0,0)) (jS w2 _)) (by simp[dS]) (by omega) (by unfold maxLen;omega) (by omega) (w2.heap.size+1) (by simp) ?_);intro g1 aP w3 cT bj cy iz;have B3:w3.heap[X]?=some (.cells (mP tv dR cE cE) 95 (0,0)):=fY bj (b:=X) (by rw[aC,az IQ];exact X2.o) (fun e=>tX.o e);have e0:w3.cell? ⟨X,0,none⟩=some tv:=(by rw[aF B3,Mf]);have f0:=cM B3 0));have RI3:ax (Dm rs w (w3.setCell ⟨X,0,none⟩ (.slice (some ⟨g1,0,none⟩) (ae ts+1) aP)) X (.slice (some ⟨g1,0,none⟩) (ae ts+1) aP) (ts ++ [t])) :=
     RI.o.add K2.o (by rw[pM.o];exact HE.o) (by rw[pM.o];exact TA.o) HS.o HN.o (by rw[JI.o];exact jC.o) HG.o (by rw[JI.o];exact cT) bj cy
    generalize w3.setCell ⟨X,0,none⟩ (.slice (some ⟨g1,0,none⟩) (ae ts+1) aP)=w4 at *;clear cT bj cy iz B3 e0 f0 cX X2 zu IQ I0 Z0 Z1 Z2 RI;go_wp2;exact⟨⟨i+1,_,ts ++ [t],by go_num,by omega,by rw[cx,pM.o];rfl,RI3.o⟩,by simp[intOf];omega⟩
  .have gZ:¬(i:Int)<n:=(by omega);have m7:i=n:=(by omega);subst m7;have cX:wr.cell? ⟨X,0,none⟩=some tv:=(by rw[aF ri.x,Mf]);have hb:=ri.base;have pU:aZ ts (ae ts)<=200:=(by omega);have TRS:=aj ri.Pd;clear ri pV hb;(have qv:∀(W:ay) (a:Option Addr) (l c:Nat),(binOp .eql 116 (.slice a l c) (.slice none 0 0)).run aB W=.ok (.bool a.isNone) W:=fun W a l c=>Go.Lib.run_eql_slice_nil W _ _ a l c 0 0 Tryz.underlying116);go_upto_region 11 with fail;go_wp2_with fail;refine(akv tv ts wr TRS.o RI.o.own (by have:=pM.o;omega) pU).mono ?_;rintro _ w2 ⟨S,ru,Ln,Of,k2,sI,Tb,aby⟩;have RT:ax (VL rs i ts S ru):=⟨pM.o,fun k hk=>(RI.o.ok k (by rw[pM.o];exact hk)).2,fun k hk=>((sI _ (sB (by rw[pM.o];exact hk))).np (Ln k (by rw[pM.o];exact hk))).1,fun k hk=>((sI _ (sB (by rw[pM.o];exact hk))).np (Ln k (by rw[pM.o];exact hk))).2,Of⟩;(have yd:ax (∀k,k<i->(cO (rs k)).err=0):=fun k hk=>(RI.o.ok k (by rw[pM.o];exact hk)).1);have nN:∀x∈sM ts,w.heap.size<=x/\∃c,wr.heap[x]?=some (.cells c 104 (0,0)):=fun x hx=>by
    obtain⟨t,ht,hg⟩:=IP.1 hx;exact⟨(RI.o.tr t ht).2.2.2 x hg,TRS.o.node x hx⟩
   have KW:ax (Kp [] w w2):=RI.o.k.trans k2 (fun x hx=>.inr (nN x hx).1);have X2:ax (w2.heap[X]?=some (.cells (mP tv dR cE cE) 95 (0,0))):=k2.keep RI.o.x (fun hm=>by
    obtain⟨_,c,hc⟩:=nN _ hm;rw[RI.o.x]at hc;simp only[aV,fE]at hc;exact absurd hc.2.1 (by decide))
   have zu:ax (w2.ownsRow 0 41 1 tv (ae ts) (ts.map fun t=>.pointer (some ⟨t.r,4,none⟩))):=aJ RI.o.own k2 (fun g hg hm=>by
    obtain⟨_,c,hc⟩:=nN _ hm;rcases RI.o.own.2 with⟨e2,_⟩|⟨g',cap,cur,e2,_,sD,_⟩
    .rw[e2]at hg;cases hg
    .rw[e2]at hg;simp only[aK,aV]at hg;rw[hg,hc]at sD;simp only[aV,fE]at sD;exact absurd sD.2.1 (by decide))
   have zx:ax (∀t∈ts,pQ w2 t/\w.heap.size<=t.r/\(∀g,t.nv.ownBlock=some g->w.heap.size<=g)/\∃base d,NR w2 t base d):=fun t ht=>by
    obtain⟨j,hj,e⟩:=List.getElem_of_mem ht;(have e2:ts.getD j dT=t:=by rw[List.getD_eq_getElem?_getD,bD hj,<-e];rfl);refine⟨sI t ht,(RI.o.tr t ht).2.2.1,(RI.o.tr t ht).2.2.2,_,_,by have:=Tb j hj;rw[e2]at this;exact this⟩
   have OL:=aj RI.o.ol;have XL:=aj RI.o.xl;have s2:=k2.size;have SW:ax (w.heap.size<=w2.heap.size):=KW.o.size;clear Ln Of k2 sI Tb nN TRS RI cX s2;rcases aby with⟨wL,lv,tv2,sv,L,bl,gs,rows,ls,rfl,hwL,hlv,gm,gB,gi,zQ,jT,yU,Sf⟩|⟨L,s,rfl,hL,eZ,Cn⟩
   .have pS:0<ae L:=(fB.1 gm.zero).1;obtain⟨al,cl,rfl,fal⟩:=jV gi.st;obtain⟨gal,rfl,_⟩:=fal pS;clear fal;obtain⟨cy,vK,rfl,_⟩:=jV gi.tw;obtain⟨asl,csl,esl,fsl⟩:=jm (eV yU (bU _));subst esl;obtain⟨Dy,rfl,_,_⟩:=fsl (by omega);have Co:∀j c,j<ae rows->c<256->-1<=(rows.getD j []).getD c 0/\(rows.getD j []).getD c 0<ae L:=fun j c hj hc=>by
     rcases gm.ok j c hj hc with⟨_,e⟩|⟨_,q,e,hq⟩
     .omega
     .have:=(fB.1 hq).1;omega
    obtain⟨GM,wG,pK,AV⟩:=dH gm gB jT zQ;have TC:=aj (aow wL w2 (aZ ts (ae ts)) (ae ts) (some ⟨gal,0,none⟩) cy cl vK L bl gs rows Dy csl ls gi (by have:=pM.o;omega) gm.few pS gB Sf Co zQ (eV yU (bU _)));clear gm gB gi zQ jT yU Sf Co hwL hlv fsl;go_upto_region 14 with fail;go_wp2_with fail;refine TC.o.mono ?_;rintro _ w3 ⟨vn,va,U,rfl,tr3,afP,rt,KJ,Sn,k3⟩;have X3:=aj (k3.keep X2.o (by simp));obtain⟨vB,ah3,RTT,K3⟩:=dH tr3 afP rt k3;clear tr3 afP rt k3 TC;have vT:(aY (cI U.cls 256) vn va).size=258:=fG (fU _ _) _ _;have ON:=aj (show(aY (cI U.cls 256) vn va).all (·.oneCell')=true by
     obtain⟨⟨gn,c1,rfl,_⟩,⟨ga,c2,rfl,_⟩⟩:=vB.o;exact CL (vJ _ _) rfl rfl)
    dsimp only
    iterate 7 go_step
    refine acz rfl _ _ _ rfl (o:=1) X3.o rfl rfl (Nat.le_of_eq (by rw[vT,agL kG])) (by rw[vT];exact m9) ON.o ?_;intro w4 b4 k4 s4;rw[anC kG (fU _ _)]at b4;have IQ:∀b,w2.heap.size<=b->b≠X:=fun b hb e=>by
     have:=aE X2.o;omega
    have RL:ax (qf w.heap.size w4 X ts U):=by
     have sw:=SW.o;have tb4:kz w4 vn va U/\vC w.heap.size w4 vn va U.N:=by
      have lw:=ah3.o;obtain⟨⟨gn,c1,rfl,l1,r1⟩,⟨ga,c2,rfl,l2,r2⟩⟩:=vB.o;have n1:=lw.n gn rfl;have n2:=lw.a ga rfl;have cc:∀b o,b<w3.heap.size->b≠X->w4.cell? ⟨b,o,none⟩=w3.cell? ⟨b,o,none⟩:=fun b o hb cP=>by
       unfold vE;rw[k4.block b hb (by simpa using cP)]
      refine⟨⟨⟨gn,c1,rfl,by omega,fun i hi=>?_⟩,⟨ga,c2,rfl,by omega,fun i hi=>by rw[cc ga i l2 (IQ _ n2)];exact r2 i hi⟩⟩,⟨fun g hg=>by have:=lw.n g hg;omega,fun g hg=>by have:=lw.a g hg;omega,fun g hg i hi g2 m2 c2 hc=>?_⟩⟩
      .obtain⟨g,c,q1,q2,q3⟩:=r1 i hi;have n3:=lw.r gn rfl i hi g _ _ q1;exact⟨g,c,by rw[cc gn i l1 (IQ _ n1)];exact q1,by omega,fun k hk=>by rw[cc g k q2 (IQ _ n3)];exact q3 k hk⟩
      .have hg':=hg;simp only[aK,aV]at hg;subst hg;rw[cc gn i l1 (IQ _ n1)]at hc;have:=lw.r gn rfl i hi g2 _ _ hc;omega
     have k24:Kp [X] w2 w4:=(K3.o.mono (by simp)).trans k4 (fun x hx=>.inl hx);have far:kV w2 [X]:=fun b hb c e f hc=>by
      rw[bQ.1 hb,X2.o]at hc;simp only[aV,fE]at hc;rw[<-hc.2.1];decide
     refine⟨⟨tv,vn,va,b4,aJ zu.o k24 (fun g hg hm=>?_),OL.o,tb4⟩,XL.o,fun t ht=>?_⟩
     .rw[bQ.1 hm]at hg;rcases zu.o.2 with⟨e2,_⟩|⟨g',cap,cur,e2,_,hc,_⟩
      .rw[e2]at hg;cases hg
      .rw[e2]at hg;simp only[aK,aV]at hg;rw[hg,X2.o]at hc;simp only[aV,fE]at hc;exact absurd hc.2.1 (by decide)
     .obtain⟨a1,a2,a3,base,d,a4⟩:=zx.o t ht;refine⟨a1.gV k24 far (fun hm=>?_),a2,a3,base,d,a4.kp k24 (fun g hg hm=>?_)⟩
      .obtain⟨s,i,e,pl,rd⟩:=a1.rd;rw[bQ.1 hm,X2.o]at rd;simp only[fh,aV,fE]at rd;exact absurd rd.2.1 (by decide)
      .obtain⟨c,hc⟩:=a4.blk hg;rw[bQ.1 hm,X2.o]at hc;simp only[aV,fE]at hc;exact absurd hc.2.1 (by decide)
    have K4:ax (Kp [] w w4):=(KW.o.trans K3.o (by simp)).trans k4 (fun x hx=>.inr (by rw[bQ.1 hx];exact XL.o));clear b4 k4 s4 X3 ON IQ;go_wp2;refine cF (v:=.tuple #[.pointer (some ⟨X,0,none⟩),.int .i64 0,.int .i64 0,.int .i64 0]) ?_ rfl ⟨K4.o,.inr ⟨yd.o,ts,S,ru,RT.o,.inl ⟨X,U,L,rows,ls,rfl,GM.o,wG.o,AV.o,pK.o,RTT.o,RL.o,KJ,Sn⟩⟩⟩;simp[eG,VW,go_sem]
   .have HL:=aj hL;have wF:=aj eZ;have ahZ:=aj Cn;clear hL eZ Cn;go_wp2;refine cF (v:=.tuple #[.pointer none,.int .i64 7,.int .i64 0,.int .i64 0]) ?_ rfl ⟨KW.o,.inr ⟨yd.o,ts,S,ru,RT.o,.inr ⟨L,s,rfl,HL.o,wF.o,ahZ.o⟩⟩⟩;simp[eG,VW,go_sem]
section
variable{n:Nat}{rs:Nat->ByteArray}{px:Option Addr}{E I A:Int}
abbrev OH(px:Option Addr)(E I A:Int):Ending:=.returned (.tuple #[.pointer px,.int .i64 E,.int .i64 I,.int .i64 A])
def MZ(rs:Nat->ByteArray)(n:Nat)(w:ay)(px:Option Addr)(E I A:Int)(w':ay):Prop:=((n=0\/6<n)/\px=none/\E=1/\I=0/\A=0)\/((0<n/\n<=6)/\adi rs n w (OH px E I A) w')
def aav(rs:Nat->ByteArray)(n:Nat)(w:ay)(px:Option Addr)(E I A:Int)(w':ay):Prop:=((n=0\/6<n)/\px=none/\E=1/\I=0/\A=0)\/((0<n/\n<=6)/\adq rs n w (OH px E I A) w')
def aih(rs:Nat->ByteArray)(n:Nat)(w:ay)(e:Ending)(w':ay):Prop :=
 ∃px E I A,e=OH px E I A/\Kp [] w w'/\MZ rs n w px E I A w'
def ain(rs:Nat->ByteArray)(n:Nat)(w:ay)(e:Ending)(w':ay):Prop :=
 ∃px E I A,e=OH px E I A/\Kp [] w w'/\aav rs n w px E I A w'
def vy(w:ay)(a:Option Addr)(n:Nat)(rs:Nat->ByteArray):Prop:=0<n->∃g o,a=some ⟨g,o,none⟩/\EE w g o n rs
theorem vy.kp{w w':ay}{a:Option Addr}(h:vy w a n rs)(hk:Kp [] w w'):vy w' a n rs:=fun h0=>by
 obtain⟨g,o,e,hr⟩:=h h0
 exact⟨g,o,e,hr.kp hk⟩
theorem af5(a:Option Addr)(n cap:Nat)(rs:Nat->ByteArray)(w:ay)(h:vy w a n rs):aI aB 26 #[.slice a n cap] w (aih rs n w):=by
 by_cases hn:n=0\/6<n
 .refine(al6 a n cap w hn).mono ?_;rintro e w' ⟨rfl,rfl⟩;exact⟨none,1,0,0,rfl,Kp.refl _ _,.inl ⟨hn,rfl,rfl,rfl,rfl⟩⟩
 .obtain⟨g,o,rfl,hr⟩:=h (by omega);refine(al4 g o n cap rs w hr (by omega) (by omega)).mono ?_;rintro e w' hp;have hk:Kp [] w w':=(Kp.refl [] w).below hp.1;rcases hp.2 with⟨i,_,_,_,rfl⟩|⟨_,bs,fs,ps,lo,S,_,_,_,_,q⟩
  .exact⟨_,_,_,_,rfl,hk,.inr ⟨⟨by omega,by omega⟩,hp⟩⟩
  .rcases q with⟨lb,U,_,_,_,_,rfl,_⟩|⟨rfl,_⟩
   .exact⟨_,_,_,_,rfl,hk,.inr ⟨⟨by omega,by omega⟩,hp⟩⟩
   .exact⟨_,_,_,_,rfl,hk,.inr ⟨⟨by omega,by omega⟩,hp⟩⟩
theorem agM(a:Option Addr)(n cap:Nat)(rs:Nat->ByteArray)(w:ay)(h:vy w a n rs):aI aB 27 #[.slice a n cap] w (ain rs n w):=by
 by_cases hn:n=0\/6<n
 .refine(anF a n cap w hn).mono ?_;rintro e w' ⟨rfl,rfl⟩;exact⟨none,1,0,0,rfl,Kp.refl _ _,.inl ⟨hn,rfl,rfl,rfl,rfl⟩⟩
 .obtain⟨g,o,rfl,hr⟩:=h (by omega);refine(anE g o n cap rs w hr (by omega) (by omega)).mono ?_;rintro e w' hp;have hk:Kp [] w w':=hp.1;rcases hp.2 with⟨i,_,_,_,rfl⟩|⟨_,ts,S,ru,_,q⟩
  .exact⟨_,_,_,_,rfl,hk,.inr ⟨⟨by omega,by omega⟩,hp⟩⟩
  .rcases q with⟨X,U,L,rows,ls,rfl,_⟩|⟨L,s,rfl,_⟩
   .exact⟨_,_,_,_,rfl,hk,.inr ⟨⟨by omega,by omega⟩,hp⟩⟩
   .exact⟨_,_,_,_,rfl,hk,.inr ⟨⟨by omega,by omega⟩,hp⟩⟩
def zg(rs:Nat->ByteArray)(n:Nat):Prop:=0<n/\n<=6/\(∀k,k<n->(cO (rs k)).err=0)/\∀(bs fs:List Nat) (ps:List (Bool×Nat×Nat)) (lo:Nat->Nat) (S:List (Nat×Nat)),oM rs n bs fs ps lo->ae fs=ae bs->(S.map sv).Nodup->(∀y∈S,yp bs fs ps y)->ae S<=250
theorem MZ.good{w w':ay}(h:MZ rs n w px E I A w')(g:zg rs n):px≠none:=by
 obtain⟨g1,g2,g3,g4⟩:=g;rcases h with⟨hn,_⟩|⟨_,_,hp⟩
 .omega
 .simp only[OH,Ending.returned.injEq,Value.tuple.injEq,Array.mk.injEq,zn,Value.pointer.injEq,Value.int.injEq,true_and,and_true]at hp;rcases hp with⟨i,hi,_,h2,_⟩|⟨_,bs,fs,ps,lo,S,rd,fl,nd,nK,hp⟩
  .exact absurd (g3 i hi) h2
  .rcases hp with⟨lb,U,_,_,_,_,⟨rfl,_⟩,_⟩|⟨_,hS⟩
   .simp
   .have:=g4 bs fs ps lo S rd fl nd nK;omega
theorem af4{w1 w1' w2 w2':ay}{pr:Option Addr}{E' I' A':Int}(h:MZ rs n w1 px E I A w1')(k:aav rs n w2 pr E' I' A' w2'):E=E'/\I=I'/\A=A'/\((px=none/\pr=none)\/∃(x r:Nat) (U V:bw) (ts:List TD),px=some ⟨x,0,none⟩/\pr=some ⟨r,0,none⟩/\w1.heap.size<=x/\Er w1.heap.size w1' x U/\qf w2.heap.size w2' r ts V/\gL U (told (fun k=>(cO (rs k)).v.fV) n)/\gL V (told (fun k=>(cO (rs k)).v.fV) n)/\(ae ts)=n/\n<=6/\(∀k,k<n->(ts.getD k dT).a.fV=(cO (rs k)).v.fV)/\U.N<=250/\U.C<=256):=by
 rcases h with⟨hn,rfl,rfl,rfl,rfl⟩|⟨hn,hb,hp⟩
 .rcases k with⟨_,rfl,rfl,rfl,rfl⟩|⟨hn',_⟩
  .exact⟨rfl,rfl,rfl,.inl ⟨rfl,rfl⟩⟩
  .omega
 .rcases k with⟨hn',_⟩|⟨_,_,kp⟩
  .omega
  .simp only[OH,Ending.returned.injEq,Value.tuple.injEq,Array.mk.injEq,zn,Value.pointer.injEq,Value.int.injEq,true_and,and_true]at hp kp;rcases hp with⟨i,hi,h1,h2,rfl,rfl,rfl,rfl⟩|⟨yQ,bs,fs,ps,lo,S,rd,fl,nd,nK,hp⟩
   .rcases kp with⟨j,hj,k1,k2,rfl,rfl,rfl,rfl⟩|⟨kok,_⟩
    .have e:i=j:=by
      rcases Nat.lt_trichotomy i j with q|q|q
      .exact absurd (k1 i q) h2
      .exact q
      .exact absurd (h1 j q) k2
     subst e;exact⟨rfl,rfl,rfl,.inl ⟨rfl,rfl⟩⟩
    .exact absurd (kok i hi) h2
   .rcases kp with⟨j,hj,k1,k2,_⟩|⟨kok,ts,S',ru,rt,kp⟩
    .exact absurd (yQ j hj) k2
    .have both:=rt.both rd fl;rcases hp with⟨lb,U,cl,nx,ac,C,⟨rfl,rfl,rfl,rfl⟩,hS,bu,DI,_,ll,cU,hN,hC⟩|⟨⟨rfl,rfl,rfl,rfl⟩,hS⟩
     .rcases kp with⟨X,V,L,rows,ls,⟨rfl,rfl,rfl,rfl⟩,gm,hr,rj,jT,rf,rx,_,_⟩|⟨L,s,_,hL,eZ,Xu⟩
      .refine⟨rfl,rfl,rfl,.inr ⟨lb,X,U,V,ts,rfl,rfl,DI,ll,rx,cU,ans both gm hr rj jT rf,rt.tl,hn.2,fun k hk=>by rw[rt.a k hk],hN,hC⟩⟩
      .have:=both.aj2 bu eZ Xu;rw[cx,List.length_singleton,hL]at this;omega
     .rcases kp with⟨X,V,L,rows,ls,_,gm,hr,_⟩|⟨L,s,⟨rfl,rfl,rfl,rfl⟩,_⟩
      .have:=both.few gm hr nd nK;omega
      .exact⟨rfl,rfl,rfl,.inl ⟨rfl,rfl⟩⟩
end
section
variable{ops:Array Oper}{rest:List Oper}{op:Oper}{a:Act}
theorem alx:(aB.info? 9).map (fun i=>(i.zero,i.size,i.bytes))=some (some (.string ⟨#[]⟩),1,16):=by kernel_rfl
theorem alo:(aB.info? 53).map (fun i=>(i.zero,i.size,i.bytes))=some (some (.agg #[.pointer none,.pointer none]),2,16):=by kernel_rfl
theorem an2(n:Nat)(hn:n<=10000000000000)(w:ay):(Instr.makeSlice 32 (.int .i64 ((n:Int)+1)) (.int .i64 ((n:Int)+1))).run aB w=.ok (.slice (some ⟨w.heap.size,0,none⟩) (n+1) (n+1)) (w.alloc (.cells (madeCells #[.string ⟨#[]⟩] (n+1)) 9 (0,0))):=by
 obtain⟨i0,cS,dc,dm,cW⟩:=iw alx;have hb:(i0.bytes:Int)*((n:Int)+1)<=281474976710656:=by rw[cW];omega
 have q:=run_make (P:=aB) w 32 9 i0 _ VX cS dc .i64 .i64 ((n:Int)+1) ((n:Int)+1) (by omega) (Int.le_refl _) hb (by omega);rw[dm,show((n:Int)+1).toNat=n+1 by omega,Nat.mul_one]at q;exact q
structure lP(w:ay)(ab n k:Nat)(rs:Nat->ByteArray)(last:ByteArray):Prop where
 ex:∃c:Array aq,w.heap[ab]?=some (.cells c 9 (0,0))/\c.size=n+1/\(∀i,k<=i->i<n->c[i]?=some (.string (rs i)))/\(∀i,i<n->∃v,c[i]?=some v)/\c[n]?=some (.string last)
section
variable{w w':ay}{ab n k:Nat}{rs:Nat->ByteArray}{last:ByteArray}
theorem lP.kp{xs:List Nat}(h:lP w ab n k rs last)(hk:Kp xs w w')(hx:ab∉xs):lP w' ab n k rs last:=by
 obtain⟨c,h1,h2⟩:=h.ex;exact⟨c,hk.keep h1 hx,h2⟩
theorem lP.at(h:lP w ab n k rs last){i:Nat}(h1:k<=i)(h2:i<n):w.cell? ⟨ab,i,none⟩=some (.string (rs i)):=by
 obtain⟨c,a,_,b,_⟩:=h.ex;rw[aF a];exact b i h1 h2
theorem lP.end_(h:lP w ab n k rs last):w.cell? ⟨ab,n,none⟩=some (.string last):=by
 obtain⟨c,a,_,_,_,b⟩:=h.ex;rw[aF a];exact b
theorem lP.aer(h:lP w ab n k rs last)(i:Nat):w.frozen? ⟨ab,i,none⟩=false:=by
 obtain⟨c,a,_⟩:=h.ex;exact cM a i
theorem lP.lt(h:lP w ab n k rs last):ab<w.heap.size:=by
 obtain⟨c,a,_⟩:=h.ex;exact aE a
theorem lP.aob(h:lP w ab n k rs last)(s:ByteArray):lP (w.setCell ⟨ab,n,none⟩ (.string s)) ab n k rs s:=by
 obtain⟨c,a,b,d,e,f⟩:=h.ex;refine⟨c.setIfInBounds n (.string s),by rw[aQ,aA rfl,a];rfl,by simpa using b,fun i h1 h2=>?_,fun i h2=>?_,?_⟩
 .rw[iH (by omega)];exact d i h1 h2
 .rw[iH (by omega)];exact e i h2
 .rw[xZ (by omega)]
theorem lP.gone(h:lP w ab n k rs last)(hk:k<n)(v:aq):lP (w.setCell ⟨ab,k,none⟩ v) ab n (k+1) rs last:=by
 obtain⟨c,a,b,d,e,f⟩:=h.ex;refine⟨c.setIfInBounds k v,by rw[aQ,aA rfl,a];rfl,by simpa using b,fun i h1 h2=>?_,fun i h2=>?_,?_⟩
 .rw[iH (by omega)];exact d i (by omega) h2
 .by_cases q:i=k
  .rw[q,xZ (by omega)];exact⟨_,rfl⟩
  .rw[iH (by omega)];exact e i h2
 .rw[iH (by omega)];exact f
theorem lP.rules(h:lP w ab n 0 rs last):EE w ab 0 n rs:=⟨h.lt,fun i hi=>by rw[Nat.zero_add];exact h.at (bU _) hi⟩
end
theorem abW(n i:Nat)(hi:i<n):(madeCells #[.string ⟨#[]⟩] n)[i]?=some (.string ⟨#[]⟩):=by
 rw[<-Array.getElem?_toList,YU,List.getElem?_replicate,aA hi]
theorem lP.made(w:ay)(n:Nat)(rs:Nat->ByteArray):lP (w.alloc (.cells (madeCells #[.string ⟨#[]⟩] (n+1)) 9 (0,0))) w.heap.size n n rs ⟨#[]⟩ :=
 ⟨_,by rw[aC,aA rfl],size_madeCells _ _,fun i h1 h2=>by omega,fun i hi=>⟨_,abW (n+1) i (by omega)⟩,abW (n+1) n (by omega)⟩
abbrev Ar(rs:Nat->ByteArray)(n:Nat):List aq:=(lU n).map fun i=>.string (rs i)
theorem lP.copied(w:ay)(n:Nat)(rs:Nat->ByteArray)(ab:Nat)(hb:w.heap[ab]?=some (.cells (madeCells #[.string ⟨#[]⟩] (n+1)) 9 (0,0))):lP (w.setRow ab ((madeCells #[.string ⟨#[]⟩] (n+1)).toList.take 0++(Ar rs n++(madeCells #[.string ⟨#[]⟩] (n+1)).toList.drop (0+(Ar rs n).length))).toArray) ab n 0 rs ⟨#[]⟩:=by
 have hl:(Ar rs n).length=n:=(by simp);have e:(madeCells #[.string ⟨#[]⟩] (n+1)).toList.take 0++(Ar rs n++(madeCells #[.string ⟨#[]⟩] (n+1)).toList.drop (0+(Ar rs n).length))=Ar rs n ++ [.string ⟨#[]⟩]:=by
  rw[YU,hl];simp
 have g:∀i,i<n->(Ar rs n ++ [.string ⟨#[]⟩])[i]?=some (.string (rs i)):=fun i hi=>by
  rw[iI (by omega)];simp[Ar,De hi]
 refine⟨_,setRow_heap w ab _ _ _ _ hb,?_,fun i _ hi=>?_,fun i hi=>?_,?_⟩
 .rw[e];simp
 .rw[e,rY];exact g i hi
 .rw[e,rY];exact⟨_,g i hi⟩
 .rw[e,rY,mU (by omega),hl,Nat.sub_self];rfl
theorem ajE{w:ay}{Q:Exit->Act->ay->Prop}(iK:op.guard=none)(d s:Operand)(ho:op.op=.call { callee:=.builtin .copy,args:=#[d,s],argTypes:=#[32,32] })(ab n cap g o:Nat)(rs:Nat->ByteArray)(vS:(aB.info? 9).map (·.size)=some 1)(hd:a.eval d=.slice (some ⟨ab,0,none⟩) (n+1) (n+1))(hs:a.eval s=.slice (some ⟨g,o,none⟩) n cap)(hb:w.heap[ab]?=some (.cells (madeCells #[.string ⟨#[]⟩] (n+1)) 9 (0,0)))(hr:EE w g o n rs)(h:∀w',lP w' ab n 0 rs ⟨#[]⟩->Kp [ab] w w'->wpList aB ops Q rest (a.put op.dst (goInt n)) w'):wpList aB ops Q (op::rest) a w:=by
 have gB:(Ar rs n).length=n:=(by simp);refine wpList_copy_own iK d s 32 32 ho 9 VX vS ab 0 (n+1) (n+1) ⟨g,o,none⟩ n cap hd hs _ 9 hb (Ar rs n) (by rw[gB];exact(Nat.min_eq_left (Nat.le_succ n)).symm) (fun j v hj=>?_) (by rw[gB,size_madeCells];omega) (fun v hv=>by obtain⟨q,_,rfl⟩:=kY.1 hv;rfl) ?_
 .have Cf:=(fB.1 hj).1;rw[mX,List.length_range]at Cf;simp only[Ar,List.getElem?_map,De Cf,Option.map_some,aV]at hj;rw[<-hj,Addr.add_lit];exact hr.at_ j Cf
 .have e:goInt (Ar rs n).length=goInt n:=(by rw[gB]);rw[e];exact h _ (lP.copied w n rs ab hb) ⟨rfl,rfl,rfl,by rw[setRow_size];exact aH _,fun k hk hx=>setRow_other _ _ _ _ (fun q=>hx (by simp[q]))⟩
theorem ajD{w:ay}{Q:Exit->Act->ay->Prop}(iK:op.guard=none)(d s:Operand)(ho:op.op=.call { callee:=.builtin .copy,args:=#[d,s],argTypes:=#[32,32] })(ab n cap:Nat)(ad:Addr)(rs:Nat->ByteArray)(vS:(aB.info? 9).map (·.size)=some 1)(hd:a.eval d=.slice (some ⟨ab,0,none⟩) (n+1) (n+1))(hs:a.eval s=.slice (some ad) n cap)(hb:w.heap[ab]?=some (.cells (madeCells #[.string ⟨#[]⟩] (n+1)) 9 (0,0)))(hr:vy w (some ad) n rs)(h:∀w',lP w' ab n 0 rs ⟨#[]⟩->Kp [ab] w w'->wpList aB ops Q rest (a.put op.dst (goInt n)) w'):wpList aB ops Q (op::rest) a w:=by
 by_cases hn:n=0
 .subst hn;refine wpList_copy_nothing iK d s 32 32 ho 9 VX vS _ _ _ _ _ _ hd hs rfl (h w ⟨_,hb,size_madeCells _ _,fun i _ hi=>by omega,fun i hi=>by omega,abW 1 0 (by omega)⟩ (Kp.refl _ _))
 .obtain⟨g,o,e,Xw⟩:=hr (by omega);simp only[aV]at e;subst e;exact ajE iK d s ho ab n cap g o rs vS hd hs hb Xw h
abbrev Uh:ByteArray:=⟨#[109,105,110,101]⟩
theorem al2(wS w:ay)(W:Nat)(lv tv iv rv:aq)(ps:List (Nat×Nat))(tl il rl:List aq)(m:Nat)(a:Option Addr)(n cap:Nat)(rs:Nat->ByteArray)(h:eI wS w W lv tv iv rv ps tl il rl m)(hm:m<=2000000000000)(hr:vy w a n rs)(hn:n<=9000000000000)(ha:a=none->n=0):aI aB 15 #[.pointer (some ⟨W,0,none⟩),.slice a n cap] w fun e w'=>e=.returned (.bool true)/\(∃IE ps',eI wS w' W IE tv iv rv ps' tl il rl (m+1)/\(ae ps)<=ae ps'/\(zg rs n->ae ps<ae ps'))/\Kp (jL W lv tv iv rv) w w':=by
 have H:=aj h;have HR:=aj hr;have fA:(ae ps)<=2000000000000:=by have:=h.nl;omega
 obtain⟨al,cl,rfl,_⟩:=jV h.ol;have cP:∀(W':ay) (a:Option Addr) (l c:Nat),(binOp .neq 32 (.slice a l c) (.slice none 0 0)).run aB W'=.ok (.bool (!a.isNone)) W':=fun W' a l c=>Go.run_neq_slice_nil_any W' _ _ a l c 0 0 VX
 obtain⟨i0,cS,dc,dm,cW⟩:=iw alo;obtain⟨I0,Z0,Z1,Z2⟩:=dH cS dc dm cW;clear h hr cS dc dm cW;cases a with
 |none =>
  have Cj:=ha rfl;subst Cj;go_enter Tryz.func15,Tryz.ntmps15;go_wp2_with fail;refine(af5 none 0 0 rs w (fun h0=>absurd h0 (Ey _))).mono ?_;rintro _ w5 ⟨px,E,I,A,rfl,k5,h5⟩;have K5:=aj k5;have H5:=aj h5;clear k5 h5;go_wp2_with fail;refine(agM none 0 cap rs w5 (fun h0=>absurd h0 (Ey _))).mono ?_;rintro _ w7 ⟨pr,E',I',A',rfl,k7,h7⟩;obtain⟨e1,e2,e3,Xv⟩:=af4 H5.o h7;subst e1;subst e2;subst e3;have K7:ax (Kp [] w w7):=K5.o.trans k7 (by simp);obtain⟨rfl,rfl⟩:px=none/\pr=none:=by
   rcases Xv with q|⟨x,r,U,V,ts,_,_,_,_,_,cU,_⟩
   .exact q
   .rcases(H5.o:MZ _ _ _ _ _ _ _ _)with⟨_,q,_⟩|⟨q,_⟩
    .rcases(h7:aav _ _ _ _ _ _ _ _)with⟨_,q2,_⟩|⟨q2,_⟩
     .exact⟨q,q2⟩
     .omega
    .omega
  have ZQ:ax (zg rs 0->False):=fun g=>absurd g.1 (Ey _)
  clear k7 h7 H5 Xv;go_wp2_with fail;refine(Um E w7).mono ?_;rintro _ w8 ⟨rfl,Om⟩;have hw9:=Om.symm;subst hw9;clear Om;go_wp2;go_ret;exact⟨rfl,⟨_,ps,(H.o.jA K7.o).more,aH _,fun g=>(ZQ.o g).elim⟩,K7.o.mono (by simp)⟩
 |some ad =>
  have ig:∀W',(Instr.makeSlice 32 (.int .i64 ((n:Int)+1)) (.int .i64 ((n:Int)+1))).run aB W'=.ok (.slice (some ⟨W'.heap.size,0,none⟩) (n+1) (n+1)) (W'.alloc (.cells (madeCells #[.string ⟨#[]⟩] (n+1)) 9 (0,0))):=fun W'=>an2 n (by omega) W'
  have vS:(aB.info? 9).map (·.size)=some 1:=(by kernel_rfl);go_enter Tryz.func15,Tryz.ntmps15;go_upto_region 4 with fail;have B1:ax ((w.alloc (.cells (madeCells #[.string ⟨#[]⟩] (n+1)) 9 (0,0))).heap[w.heap.size]?=some (.cells (madeCells #[.string ⟨#[]⟩] (n+1)) 9 (0,0))):=by
   show _=_;rw[aC,aA rfl]
  have A1:=aj (lP.made w n rs);have K1:ax (Kp [] w (w.alloc (.cells (madeCells #[.string ⟨#[]⟩] (n+1)) 9 (0,0)))):=(Kp.refl [] w).alloc _;generalize w.alloc (.cells (madeCells #[.string ⟨#[]⟩] (n+1)) 9 (0,0))=w1 at *;have zL:w.heap.size<=w.heap.size:=aH _;generalize aeH:w.heap.size=ab at B1 A1 |-
  have ZH:ax (w.heap.size<=ab):=Nat.le_of_eq aeH;clear zL aeH ig;have HRI:=aj (HR.o.kp K1.o);apply fD
  iterate 6 go_step
  refine ajD rfl _ _ rfl ab n cap ad rs vS rfl rfl B1.o HRI.o ?_;intro w2 a2 k2;have A2:=aj a2;have K2:ax (Kp [] w w2):=K1.o.trans k2 (fun x hx=>.inr (by rw[bQ.1 hx];exact ZH.o));clear a2 k2;clear A1 B1 K1 HRI;have cn:=A2.o.end_;have fn:=A2.o.aer n;go_upto_region 6 with fail;have A3:=aj (A2.o.aob Uh);have K3:ax (Kp [] w (w2.setCell ⟨ab,n,none⟩ (.string Uh))):=K2.o.set (.inr ZH.o) _ _;generalize w2.setCell ⟨ab,n,none⟩ (.string Uh)=w3 at *;clear cn fn A2 K2;go_wp2_with fail;refine(af5 (some ⟨ab,0,none⟩) n (n+1) rs w3 (fun _=>⟨ab,0,rfl,A3.o.rules⟩)).mono ?_;rintro _ w5 ⟨px,E,I,A,rfl,k5,h5⟩;have A5:=aj (A3.o.kp k5 (by simp));have K5:ax (Kp [] w w5):=K3.o.trans k5 (by simp);have LT3:ax (ab<w3.heap.size):=A3.o.lt;have S3:ax (w.heap.size<=w3.heap.size):=K3.o.size;have K35:=aj k5;have H5:=aj h5;clear k5 h5 A3 K3;have cn:=A5.o.end_;go_wp2_with fail;go_loopw [13,11] (fun FX rK w'=>∃k:Nat,FX=.int .i64 k/\rK=.bool true/\k<=n/\lP w' ab n k rs Uh/\Kp [ab] w5 w')
   (fun FX _ _=>n-(intOf FX).toNat)
  case atStart=>exact⟨0,rfl,rfl,bU _,A5.o,Kp.refl _ _⟩
  case round =>
   clear cn A5;obtain⟨k,rfl,rfl,hk,ak,kk⟩:=hrel;have AK:=aj ak;have KK:=aj kk;have KW:ax (Kp [] w wr):=K5.o.trans kk (fun x hx=>.inr (by rw[bQ.1 hx];exact ZH.o));by_cases dI:k<n
   .have j3:(k:Int)<n:=(by omega);have Xc:(k:Int)<(n:Int)+1:=(by omega);obtain⟨g9,o9,e9,Xw⟩:=HR.o (by omega);simp only[aV]at e9;subst e9;have cr:=(Xw.kp KW.o).at_ k dI;have ca:=ak.at (aH _) dI;have fa:=ak.aer k;clear ak kk Xw;go_upto_region 15 with fail;go_region;go_upto_region 16 with fail;(have AK2:ax (∀v,lP (wr.drew.setCell ⟨ab,k,none⟩ v) ab n (k+1) rs Uh):=fun v=>(AK.o.kp ((Kp.refl [] wr).drew) (by simp)).gone dI v);(have fF:ax (∀v,Kp [ab] w5 (wr.drew.setCell ⟨ab,k,none⟩ v)):=fun v=>KK.o.drew.set (by simp) _ _);clear AK KK KW;go_wp2;exact⟨⟨k+1,by go_num,by simp,by omega,AK2.o _,fF.o _⟩,by simp[intOf];omega⟩
   .have j3:¬(k:Int)<n:=(by omega);clear ak kk;go_wp2_with fail;refine(agM (some ad) n cap rs wr (HR.o.kp KW.o)).mono ?_;rintro _ w7 ⟨pr,E',I',A',rfl,k7,h7⟩;obtain⟨e1,e2,e3,Xv⟩:=af4 H5.o h7;subst e1;subst e2;subst e3;have K7:ax (Kp [] w w7):=KW.o.trans k7 (by simp);have K57:ax (Kp [ab] w5 w7):=KK.o.trans k7 (by simp);have S7:ax (w.heap.size<=wr.heap.size):=KW.o.size;(have ZQ:ax (zg rs n->px≠none):=fun g=>MZ.good H5.o g);clear h7 H5;go_wp2_with fail;refine(Um E w7).mono ?_;rintro _ w8 ⟨rfl,Om⟩;have hw9:=Om.symm;subst hw9;clear Om;rcases Xv with⟨rfl,rfl⟩|⟨x,r,U,V,ts,rfl,rfl,hx,ll,rx,cU,cV,yS,ht6,hL,KJ,Sn⟩
    .go_wp2;go_ret;exact⟨rfl,⟨_,ps,(H.o.jA K7.o).more,aH _,fun g=>absurd rfl (ZQ.o g)⟩,K7.o.mono (by simp)⟩
    .have L7:=aj (H.o.jA K7.o);have LP:ax (zm (jL W (.slice al (ae ps) cl) tv iv rv) w7 x r):=by
      obtain⟨vn,va,hb,tr,lw⟩:=ll.Ow hx K57.o (fun y hy=>by rw[bQ.1 hy];exact LT3.o);exact H.o.amm K7.o (Nat.le_trans S3.o hx) ⟨vn,va,hb,tr,lw.low S3.o⟩ S7.o rx cU cV yS ht6 hL KJ Sn
     clear ll rx cU cV hL;(have c0:w7.cell? ⟨W,0,none⟩=some (.slice al (ae ps) cl):=by rw[aF L7.o.blk];rfl);have OL:=aj L7.o.ol;have W7:=aj L7.o.blk;have nW:W≠w7.heap.size:=bY (aE L7.o.blk);have TW:ax (aK (.slice al (ae ps) cl)≠some W):=fun e=>by
      obtain⟨c,hc⟩:=fC OL.o e;exact gQ hc W7.o (by decide) rfl
     (go_wp2_with (at_builtin;go_must (refine qU rfl _ _ _ rfl 53 i0 _ 2 16 Tryz.underlying26 I0.o Z0.o Z1.o Z2.o rfl (by omega) (.slice al (ae ps) cl) (ae ps) (zI ps) rfl (OL.o.alloc _) ⟨w7.heap.size,0,none⟩ 1 1 [.pointer (some ⟨x,0,none⟩),.pointer (some ⟨r,0,none⟩)] rfl rfl (gN (cs:=#[.pointer (some ⟨x,0,none⟩),.pointer (some ⟨r,0,none⟩)]) (t:=53) (fr:=(0,0)) (jS w7 _)) (by simp[dS]) (by omega) (by unfold maxLen;omega) (by omega) (w7.heap.size+1) (by simp) ?_);intro g1 aP w8 cT bj cy iz;have B8:w8.heap[W]?=some (uf (.slice al (ae ps) cl) tv iv rv):=fY bj (b:=W) (by rw[aC,az nW];exact W7.o) (fun e=>TW.o e);have e0:w8.cell? ⟨W,0,none⟩=some (.slice al (ae ps) cl):=(by rw[aF B8];rfl);have f0:=cM B8 0));have L8:ax (eI wS (w8.setCell ⟨W,0,none⟩ (.slice (some ⟨g1,0,none⟩) (ae ps+1) aP)) W (.slice (some ⟨g1,0,none⟩) (ae ps+1) aP) tv iv rv (ps ++ [(x,r)]) tl il rl (m+1)):=L7.o.pair cT bj cy LP.o;have KF:ax (Kp (jL W (.slice al (ae ps) cl) tv iv rv) w (w8.setCell ⟨W,0,none⟩ (.slice (some ⟨g1,0,none⟩) (ae ps+1) aP))):=(K7.o.mono (by simp)).trans (eI.ags bj _) (fun y hy=>.inl hy);clear cT bj cy iz;go_wp2;go_ret;exact⟨rfl,⟨_,_,L8.o,by simp,fun _=>by simp⟩,KF.o⟩
end
def Aq(k:Nat):ByteArray:=if k=0 then⟨#[105,102]⟩ else if k=1 then⟨#[91,97,45,122,93,43]⟩ else⟨#[32,43]⟩
theorem agO:(cO (Aq 0)).err=0/\(cO (Aq 0)).v.np=2:=by constructor<;>kernel_rfl
theorem agP:(cO (Aq 1)).err=0/\(cO (Aq 1)).v.np=1:=by constructor<;>kernel_rfl
theorem agQ:(cO (Aq 2)).err=0/\(cO (Aq 2)).v.np=1:=by constructor<;>kernel_rfl
theorem aks:zg Aq 3:=by
 refine⟨by omega,by omega,fun k hk=>?_,fun bs fs ps lo S rd fl nd nK=>?_⟩
 .match k,hk with
  |0,_=>exact agO.1
  |1,_=>exact agP.1
  |2,_=>exact agQ.1
 .have p0:lo 1=lo 0+(cO (Aq 0)).v.np:=(rd.part 0 (by omega)).n;have p1:lo 2=lo 1+(cO (Aq 1)).v.np:=(rd.part 1 (by omega)).n;have p2:lo 3=lo 2+(cO (Aq 2)).v.np:=(rd.part 2 (by omega)).n;rw[agO.2]at p0;rw[agP.2]at p1;rw[agQ.2]at p2;have z:=rd.zero;have l:=rd.last;have hb:(ae bs)=4:=by omega
  have sm:=rd.small fl;rw[hb]at sm;have:=aj3 nd nK 4 sm.1 sm.2;rw[rd.len]at this;omega
theorem eI.start{w w9:ay}(k:Kp [] w w9)(b:w9.heap[w.heap.size]?=some ue):eI w w9 w.heap.size (.slice none 0 0) (.slice none 0 0) (.slice none 0 0) (.slice none 0 0) [] [] [] [] 0 :=
 ⟨k,b,j9 _ _ _ _,j9 _ _ _ _,j9 _ _ _ _,j9 _ _ _ _,fun f hf=>by simp[jL,aK]at hf;omega,aH _,aH _,aH _,aH _,rfl,rfl,rfl,fun p hp=>by simp at hp,fun k v hv=>by simp at hv,fun k v hv=>by simp at hv,fun k v hv=>by simp at hv⟩
theorem eI.beside{wS w:ay}{W:Nat}{lv tv iv rv:aq}{ps:List (Nat×Nat)}{tl il rl:List aq}{m:Nat}(h:eI wS w W lv tv iv rv ps tl il rl m){f e:Nat}{c:Array aq}(hf:w.heap[f]?=some (.cells c e (0,0)))(n1:e≠31)(n2:e≠53)(n3:e≠57)(n4:e≠61)(n5:e≠28):f∉jL W lv tv iv rv:=fun hm=>by
 rcases uL.1 hm with q|q|q|q|q
 .rw[q]at hf;exact gQ hf h.blk n1 rfl
 .obtain⟨c',hc⟩:=fC h.ol q;exact gQ hf hc n2 rfl
 .obtain⟨c',hc⟩:=fC h.ot q;exact gQ hf hc n3 rfl
 .obtain⟨c',hc⟩:=fC h.oi q;exact gQ hf hc n4 rfl
 .obtain⟨c',hc⟩:=fC h.sN q;exact gQ hf hc n5 rfl
abbrev xT:Obj:=.cells #[.string ⟨#[105,102]⟩,.string ⟨#[91,97,45,122,93,43]⟩,.string ⟨#[32,43]⟩] 9 (0,0)
theorem anU{w:ay}{b:Nat}(h:w.heap[b]?=some xT):EE w b 0 3 Aq:=by
 refine⟨aE h,fun i hi=>?_⟩;rw[aF h]
 match i,hi with
 |0,_=>rfl
 |1,_=>rfl
 |2,_=>rfl
def wP(w:ay)(d:se):Prop:=(∃a n cap rs,d.v=.slice a n cap/\vy w a n rs/\n<=9000000000000/\(a=none->n=0))/\-9223372036854775808<=d.o/\d.o<=9223372036854775807
theorem wP.kp{w w':ay}{d:se}(h:wP w d)(hk:Kp [] w w'):wP w' d:=by
 obtain⟨⟨a,n,cap,rs,e,h1,h2⟩,h3⟩:=h;exact⟨⟨a,n,cap,rs,e,h1.kp hk,h2⟩,h3⟩
theorem Yg{w w':ay}{ops:List se}(hr:∀d∈ops,wP w d)(hk:Kp [] w w'){b:Nat}(hb:w'.heap[b]?=some xT):∀j d,(lD b++ops)[j]?=some d->(∃a n cap rs,d.v=.slice a n cap/\vy w' a n rs/\n<=9000000000000/\(a=none->n=0)/\(j=1->d.k=3/\zg rs n))/\-9223372036854775808<=d.o/\d.o<=9223372036854775807:=fun j d hj=>by
 rcases eK j 3 with q|q
 .rw[iI (by exact q)]at hj
  match j,q with
  |0,_ =>
   simp only[lD,j7,aV]at hj
   subst hj
   exact⟨⟨none,0,0,fun _=>⟨#[]⟩,rfl,fun h=>absurd h (Ey _),by omega,fun _=>rfl,fun e=>by omega⟩,by decide,by decide⟩
  |1,_ =>
   simp only[lD,mV,j7,aV]at hj
   subst hj
   exact⟨⟨some ⟨b,0,none⟩,3,3,Aq,rfl,fun _=>⟨b,0,rfl,anU hb⟩,by omega,(fun e=>by cases e),fun _=>⟨rfl,aks⟩⟩,(show(-9223372036854775808:Int)<=0 by decide),(show(0:Int)<=9223372036854775807 by decide)⟩
  |2,_ =>
   simp only[lD,mV,j7,aV]at hj
   subst hj
   exact⟨⟨none,0,0,fun _=>⟨#[]⟩,rfl,fun h=>absurd h (Ey _),by omega,fun _=>rfl,fun e=>by omega⟩,by decide,by decide⟩
 .rw[mU (by exact q)]at hj
  obtain⟨⟨a,n,cap,rs,e,h1,h2,h3⟩,h4,h5⟩:=(hr d (qL hj)).kp hk
  exact⟨⟨a,n,cap,rs,e,h1,h2,h3,fun e=>by omega⟩,h4,h5⟩
section
variable{H:Type}{base fuel:Nat}{spare:Nat->Bool}{DD:Bool}{x:DataW H×List MemPlace}
section
open Go.ChangeShapes Go.WideShapes Go.ChangeAt Go.RowKit
open Go.ChangeMaps (open_string shut_string)
theorem own:ownKnob aB.godebug=none:=by kernel_rfl
theorem afI:laidOutB aB=true:=by kernel_rfl
theorem ad2:aB.cellsOf 34=5:=by kernel_rfl
theorem ajq:aB.cellsOf 3=1:=by kernel_rfl
theorem ad3:aB.cellsOf 9=1:=by kernel_rfl
theorem ajr:aB.cellsOf 32=1:=by kernel_rfl
theorem aje(d:DataW H):0<yt d:=by
 cases d with
 |lit l=>cases l<;>simp[yt]
 |_=>simp[yt]
theorem adW{d:DataW H}:∀ {l:List (DataW H)},d∈l->yt d<=zv l:=by
 intro l;induction l with
 |nil=>intro h;simp at h
 |cons x r ih =>
  intro h;show _<=yt x+zv r;rcases List.mem_cons.1 h with e|e
  .rw[e];omega
  .have:=ih e;omega
theorem adX:∀l:List (DataW H),ae l<=zv l:=by
 intro l;induction l with
 |nil=>exact bU _
 |cons x r ih =>
  have:=aje x;show (ae r)+1<=yt x+zv r;omega
theorem aop{w:ay}{a:Addr}{v:aq}(h:w.cell? a=some v):a=⟨a.block,a.off,none⟩/\a.block<w.heap.size:=by
 unfold vE at h;cases hb:w.heap[a.block]? with
 |none=>rw[hb]at h;cases h
 |some o =>
  refine⟨?_,by
   rcases eK a.block w.heap.size with q|q
   .exact q
   .rw[Array.getElem?_eq_none q]at hb;cases hb⟩
  rw[hb]at h;cases o with
  |cells c t f =>
   simp only at h;cases hs:a.spot with
   |none=>cases a;simp at hs;rw[hs]
   |some k=>rw[hs]at h;simp at h
  |_=>cases h
theorem anV{enc:cL×aq->H}{W:ay}{cs:List aq}(h:Jv enc aB W base spare DD fuel 32 cs=some x):∃a len cap rs,cs=[.slice a len cap]/\vy W a len rs/\len<=yt x.1/\(a=none->len=0):=by
 rcases open_strings VX adB ad3 h with⟨eY,_⟩|⟨a,len,cap,ss,eY,_,hl,hm,hz,hx,od,_⟩
 .exact⟨none,0,0,fun _=>⟨#[]⟩,eY,fun h0=>absurd h0 (Ey _),bU _,fun _=>rfl⟩
 .have iu:len<=ae ss:=by rw[hz];split<;>omega
  refine⟨some a,len,cap,fun i=>ss.getD i ByteArray.empty,eY,fun h0=>?_,?_,fun e=>by cases e⟩
  .have c0:=od 0 (by omega);have e0:a.add 0=a:=(by simp[Addr.add]);rw[e0]at c0;obtain⟨ea,lt⟩:=aop c0;refine⟨a.block,a.off,by rw[<-ea],lt,fun i hi=>?_⟩;have:=od i (by omega);rw[ea,Addr.add_mid]at this;exact this
  .rw[hx];show len<=zv (strs (ss.take len))+zv (strs (ss.drop len))+1;have:=adX (H:=H) (strs (ss.take len));(have Ll:(strs (H:=H) (ss.take len)).length=len:=by simp[strs];omega);omega
theorem amN{enc:cL×aq->H}{w:ay}{cs:List aq}(h:Jv enc aB w base spare DD fuel 34 cs=some x)(hb:yt x.1<=1048576):∃d:se,cs=pX d/\d.v.oneCell'=true/\wP w d:=by
 obtain⟨xs,n,_,hxx,hl,hx,hf⟩:=DataW.trod_struct Tryz.underlying34 h;rw[ad2]at hl
 match cs,hl with
 |[c0,c1,c2,c3,c4],_ =>
  have g0:Jv enc aB w base spare DD n 3 (List.take (aB.cellsOf 3) [c0,c1,c2,c3,c4])=xs[0]?:=hf 0 _ rfl;have g1:Jv enc aB w base spare DD n 3 (List.take (aB.cellsOf 3) [c1,c2,c3,c4])=xs[1]?:=hf 1 _ rfl;have g2:Jv enc aB w base spare DD n 9 (List.take (aB.cellsOf 9) [c2,c3,c4])=xs[2]?:=hf 2 _ rfl;have g3:Jv enc aB w base spare DD n 9 (List.take (aB.cellsOf 9) [c3,c4])=xs[3]?:=hf 3 _ rfl;have g4:Jv enc aB w base spare DD n 32 (List.take (aB.cellsOf 32) [c4])=xs[4]?:=hf 4 _ rfl;have m8:(ae xs)=5:=hx;rw[ajq]at g0 g1;rw[ad3]at g2 g3;rw[ajr]at g4;simp only[List.take_succ_cons,List.take_zero]at g0 g1 g2 g3 g4;rw[bD (by omega)]at g0 g1 g2 g3 g4;obtain⟨k,e0,_,_⟩:=DataW.trod_int ET g0;obtain⟨o,e1,_,ho⟩:=DataW.trod_int ET g1;obtain⟨p,e2,_,_⟩:=ahI adB g2;obtain⟨t,e3,_,_⟩:=ahI adB g3;obtain⟨a,l,c,rs,e4,hr,pq,ha⟩:=anV g4;simp only[zn,and_true]at e0 e1 e2 e3 e4;have hm:yt (xs[4]'(by omega)).1<=yt x.1:=by
   rw[hxx];show _<=zv (xs.map (·.1))+1;have:=adW (d:=(xs[4]'(by omega)).1) (l:=xs.map (·.1)) (aid (List.getElem_mem _));omega
  refine⟨⟨k,o,p,t,.slice a l c⟩,by rw[e0,e1,e2,e3,e4];rfl,rfl,⟨a,l,c,rs,rfl,hr,by omega,ha⟩,?_⟩;simp[Lit.wf,IntKind.min,IntKind.max,IntKind.bits,IntKind.signed]at ho;show -9223372036854775808<=o/\o<=9223372036854775807;omega
theorem agU{enc:cL×aq->H}{W:ay}{a0:Option Addr}{mC E9:Nat}(h:Jv enc aB W base spare DD fuel 22 [.slice a0 mC E9]=some x)(hb:yt x.1<=1048576):∃ops,Kc W a0 mC ops/\(∀d∈ops,wP W d)/\mC<=1100000:=by
 rcases Go.Deep.open_slice Tryz.underlying22 h with⟨eY,_⟩|⟨a,len,cap,m,n,D,Pl,eY,_,iu,hmx,hmm,hx,hel⟩
 .simp at eY;obtain⟨rfl,rfl,rfl⟩:=eY;exact⟨[],⟨rfl,.inl rfl,fun d hd=>by cases hd⟩,(fun d hd=>by cases hd),bU _⟩
 .simp at eY;obtain⟨rfl,rfl,rfl⟩:=eY;have hm0:mC<=m:=by rw[hmm];split<;>omega
  rw[hx]at hb;have hb':zv ((lU mC).map D)+zv ((lU (m-mC)).map fun j=>D (mC+j))+1<=1048576:=hb;have apS:mC<=1048576:=by
   have:=adX ((lU mC).map D);rw[mX,List.length_range]at this;omega
  have hop:∀i,i<mC->∃d:se,(∀j,j<5->W.cell? (a.add (i*5+j))=(pX d)[j]?)/\d.v.oneCell'=true/\wP W d:=fun i hi=>by
   obtain⟨cs',h1,h2⟩:=hel i (by omega);have hbi:yt (D i)<=1048576:=by
    have:=adW (d:=D i) (l:=(lU mC).map D) (aid (List.mem_range.2 hi));omega
   obtain⟨d,rfl,hd,vM⟩:=amN h2 hbi;rw[ad2]at h1;obtain⟨_,_,h3⟩:=World.cells?_some h1;refine⟨d,fun j hj=>?_,hd,vM⟩;rw[<-Addr.add_add];exact h3 j hj
  have hch:∃f:Nat->se,∀i,i<mC->(∀j,j<5->W.cell? (a.add (i*5+j))=(pX (f i))[j]?)/\(f i).v.oneCell'=true/\wP W (f i):=by
   classical exact⟨fun i=>if hi:i<mC then Classical.choose (hop i hi) else⟨0,0,⟨#[]⟩,⟨#[]⟩,.slice none 0 0⟩,fun i hi=>by simp only[dif_pos hi];exact Classical.choose_spec (hop i hi)⟩
  obtain⟨f,pz⟩:=hch;have dD:((lU mC).map f).length=mC:=(by simp);refine⟨(lU mC).map f,⟨dD,.inr ⟨a,rfl,fun j u hu=>?_⟩,fun d hd=>?_⟩,fun d hd=>?_,by omega⟩
  .have hj:j<mC*5:=by
    rcases eK j (mC*5)with x|x
    .exact x
    .rw[List.getElem?_eq_none (by rw[aa9,dD];exact x)]at hu;cases hu
   have hi:j / 5<mC:=(by omega);have e:j=j / 5*5+j % 5:=(by omega);have h5:j % 5<5:=(by omega);have hg:((lU mC).map f)[j / 5]?=some (f (j / 5)):=(by simp[De hi]);have qw:=RM _ _ _ hg (j % 5) h5;rw[<-e]at qw;have hc:=(pz (j / 5) hi).1 (j % 5) h5;rw[<-e]at hc;rw[hc,<-qw];exact hu
  .obtain⟨i,hi,rfl⟩:=kY.1 hd;exact(pz i (by simpa using hi)).2.1
  .obtain⟨i,hi,rfl⟩:=kY.1 hd;exact(pz i (by simpa using hi)).2.2
end
end
def aiv(wS w:ay)(W:Nat)(F:List Nat)(np m nr:Nat)(more tab:Prop)(e:Ending)(w':ay):Prop:=e=.returned (.bool true)/\Kp F w w'/\∃(lv tv iv rv:aq) (ps:List (Nat×Nat)) (tl il rl:List aq),eI wS w' W lv tv iv rv ps tl il rl (m+1)/\np<=ae ps/\(more->np<ae ps)/\(¬tab->ae rl=nr)
theorem akc(ps:List (Nat×Nat)):∀i p,ps[i]?=some p->(zI ps)[i*2]?=some (.pointer (some ⟨p.1,0,none⟩))/\(zI ps)[i*2+1]?=some (.pointer (some ⟨p.2,0,none⟩)):=by
 induction ps with
 |nil=>intro i p h;simp at h
 |cons q ps ih =>
  intro i p h;have e:zI (q::ps)=.pointer (some ⟨q.1,0,none⟩) :: .pointer (some ⟨q.2,0,none⟩)::zI ps:=(by simp[zI]);rw[e];cases i with
  |zero =>
   simp only[j7,aV]at h;subst h;exact⟨rfl,rfl⟩
  |succ i =>
   rw[mV]at h;have:=ih i p h;rw[show(i+1)*2=i*2+2 by omega,show i*2+2+1=i*2+1+2 by omega];simp only[mV];exact this
open Classical in
theorem YI(wS w:ay)(W:Nat)(lv tv iv rv:aq)(ps:List (Nat×Nat))(tl il rl:List aq)(m:Nat)(k o:Int)(p t:ByteArray)(a:Option Addr)(n cap:Nat)(rs:Nat->ByteArray)(h:eI wS w W lv tv iv rv ps tl il rl m)(hm:m<=2000000000000)(hr:vy w a n rs)(hn:n<=9000000000000)(ha:a=none->n=0)(ho:-9223372036854775808<=o/\o<=9223372036854775807)(ht5:k=5->adt/\m<=2000000):aI aB 7 #[.pointer (some ⟨W,0,none⟩),opV k o p t (.slice a n cap)] w (aiv wS w W (jL W lv tv iv rv) (ae ps) m (ae rl) (k=3/\zg rs n) (k=5)):=by
 have hb:=aE h.blk;obtain⟨al,cl,rfl,_⟩:=jV h.ol;have fA:(ae ps)<=2000000000000:=by have:=h.nl;omega
 obtain⟨H,HR,MO⟩:=cR h hr ht5;clear h hr ht5;go_enter Tryz.func7,Tryz.ntmps7;go_upto_region 1 with fail;have kW:Kp [] w (w.alloc (.cells #[.int .i64 k,.int .i64 o,.string p,.string t,.slice a n cap] 34)):=(Kp.refl _ _).alloc _;have bT:(w.alloc (.cells #[.int .i64 k,.int .i64 o,.string p,.string t,.slice a n cap] 34)).heap[w.heap.size]?=some (.cells #[.int .i64 k,.int .i64 o,.string p,.string t,.slice a n cap] 34 (0,0)):=(by rw[aC,aA rfl]);generalize w.alloc (.cells #[.int .i64 k,.int .i64 o,.string p,.string t,.slice a n cap] 34)=WA at *;obtain⟨c0,c1,c2,c3,c4,f3⟩:=RJ bT;have KW:=aj kW;have BT:=aj bT;clear kW bT;go_wp2_with fail;refine(aol t _).mono ?_;rintro _ w1 ⟨t',rfl,ht,rfl⟩;go_upto_region 2 with fail;have k2:Kp [] w (w1.setCell ⟨w.heap.size,3,none⟩ (.string t')):=KW.o.set (.inr (aH _)) _ _;have b2:(w1.setCell ⟨w.heap.size,3,none⟩ (.string t')).heap[w.heap.size]?=some (.cells #[.int .i64 k,.int .i64 o,.string p,.string t',.slice a n cap] 34 (0,0)):=by rw[aQ,aA rfl,BT.o];simp[eD]
 generalize w1.setCell ⟨w.heap.size,3,none⟩ (.string t')=WB at *;clear c0 c1 c2 c3 c4 f3;obtain⟨c0,c1,c2,c3,c4,f3⟩:=RJ b2;have K2:=aj k2;have B2:=aj b2;clear k2 b2;by_cases jt:k=1
 .subst jt;go_wp2_with fail;refine(anB p _).mono ?_;rintro _ w3 ⟨rfl,h3⟩;have K3:ax (Kp [] w w3):=K2.o.below h3;have b3:=bV h3 B2.o;clear c0 c1 c2 c3 c4 f3 h3;obtain⟨c0,c1,c2,c3,c4,f3⟩:=RJ b3;clear b3;go_wp2_with fail;refine(acm p _).mono ?_;rintro _ w4 ⟨k4,⟨h0,rfl⟩|⟨h0,fA,r,kk,rfl,sI⟩⟩
  .have K4:ax (Kp [] w w4):=K3.o.trans k4 (by simp);clear k4 h0;go_wp2_with fail;refine(Um (cO p).err _).mono ?_;rintro _ w5 ⟨rfl,rfl⟩;go_wp2;go_ret;exact⟨by simp,K4.o.mono (by simp),_,_,_,_,ps,_,_,_,(H.o.jA K4.o).more,aH _,fun q=>absurd q.1 (by omega),fun _=>rfl⟩
  .have K4:ax (Kp [] w w4):=K3.o.trans k4 (by simp);rw[h0,fA];clear k4 h0 fA sI;go_wp2_with fail;refine(Um 0 _).mono ?_;rintro _ w5 ⟨rfl,rfl⟩;go_wp2;go_ret;exact⟨by simp,K4.o.mono (by simp),_,_,_,_,ps,_,_,_,(H.o.jA K4.o).more,aH _,fun q=>absurd q.1 (by omega),fun _=>rfl⟩
 .have q1:(k == 1)=false:=by simp[jt]
  by_cases jk:k=2
  .subst jk;clear q1 jt;(have hM:=fun w'=>al8 p t' w' (by omega));(have hR:=fun w'=>anG p t' w' (by omega));generalize decide ((cO p).err=0/\(cO p).v.fV (tx t'))=bb at hM hR;generalize (cO p).err=ee at hM hR;have HM:=aj hM;have HR:=aj hR;clear hM hR;go_wp2_with fail;refine(HM.o _).mono ?_;rintro _ w3 ⟨rfl,h3⟩;have K3:ax (Kp [] w w3):=K2.o.below h3;have b3:=bV h3 B2.o;clear c0 c1 c2 c3 c4 f3 h3;obtain⟨c0,c1,c2,c3,c4,f3⟩:=RJ b3;clear b3;go_wp2_with fail;refine(HR.o _).mono ?_;rintro _ w4 ⟨rfl,h4⟩;have K4:ax (Kp [] w w4):=K3.o.below h4;clear h4;(have hbb:(bb == bb)=true:=by simp);go_wp2_with fail;refine(Um ee _).mono ?_;rintro _ w5 ⟨rfl,rfl⟩;go_wp2;go_ret;exact⟨by simp,K4.o.mono (by simp),_,_,_,_,ps,_,_,_,(H.o.jA K4.o).more,aH _,fun q=>absurd q.1 (by omega),fun _=>rfl⟩
  ·(have q2:(k == 2)=false:=by simp[jk]);by_cases rh:k=3
   .subst rh;clear q1 q2 jt jk;go_wp2_with fail;refine(al2 wS WB W (.slice al (ae ps) cl) tv iv rv ps tl il rl m a n cap rs (H.o.jA K2.o) hm (HR.o.kp K2.o) hn ha).mono ?_;rintro _ w3 ⟨rfl,⟨IE,ps',l3,h1,h2⟩,kf⟩;have L3:=aj l3;have H2:=aj h2;have KF:ax (Kp (jL W (.slice al (ae ps) cl) tv iv rv) w w3):=(K2.o.mono (by simp)).trans kf (fun y hy=>.inl hy);clear l3 h2 kf;go_wp2;go_ret;exact⟨rfl,KF.o,IE,_,_,_,ps',_,_,_,L3.o,h1,fun q=>H2.o q.2,fun _=>rfl⟩
   ·(have q3:(k == 3)=false:=by simp[rh]);have L2:=aj (H.o.jA K2.o);(have e0:WB.cell? ⟨W,0,none⟩=some (.slice al (ae ps) cl):=by rw[aF L2.o.blk];rfl);(have Vv:ax (¬(k=3/\zg rs n)):=fun q=>rh q.1);have HK3:=aj rh;clear jt jk rh;by_cases vQ:(ae ps)=0
    ·(have ak7:(((ae ps:Nat):Int) == 0)=true:=by simp[vQ]);clear vQ;go_wp2;go_ret;exact⟨rfl,K2.o.mono (by simp),_,_,_,_,ps,_,_,_,L2.o.more,aH _,fun q=>absurd q Vv.o,fun _=>rfl⟩
    .have ak7:(((ae ps:Nat):Int) == 0)=false:=by
      have:((ae ps:Nat):Int)≠0:=(by omega);simpa using this
     have Cm:0<ae ps:=(by omega);obtain⟨_,_,e1,f1⟩:=jV L2.o.ol;obtain⟨gl,e2,_,_,hc⟩:=f1 Cm;simp only[Value.slice.injEq]at e1;rw[<-e1.1]at e2;subst e2;have HC:=aj hc;clear e1 f1 hc vQ;have H9:W≠WB.heap.size:=bY (aE L2.o.blk);have hO1:w.heap.size≠WB.heap.size:=bY (aE B2.o);have hG1:gl≠WB.heap.size:=bY (L2.o.ol.lt gl rfl).2;have xa:∀(ob:Obj) (b j:Nat),b≠WB.heap.size->(WB.alloc ob).cell? ⟨b,j,none⟩=WB.cell? ⟨b,j,none⟩:=fun ob b j cP=>by
      unfold vE;have:=aC WB ob b;rw[az cP]at this;rw[this]
     have XA:=aj xa;(have x0:∀ob,(WB.alloc ob).cell? ⟨W,0,none⟩=some (.slice (some ⟨gl,0,none⟩) (ae ps) cl):=fun ob=>(xa ob W 0 H9).trans e0);(have x1:∀ob,(WB.alloc ob).cell? ⟨w.heap.size,1,none⟩=some (.int .i64 o):=fun ob=>(xa ob _ 1 hO1).trans c1);clear xa;go_upto_region 15 with fail;generalize Oe:WB.heap.size=pb at *;go_cut [14] from 84 to 97 (fun FY wc=>FY=.pointer (some ⟨pb,0,none⟩)/\∃pp,pp∈ps/\wc.heap[pb]?=some (.cells #[.pointer (some ⟨pp.1,0,none⟩),.pointer (some ⟨pp.2,0,none⟩)] 53 (0,0))/\Kp [] WB wc)
     case first =>
      subst Oe;go_region_law ((go_simp;go_at_call 16;refine(am1 o (ae ps) ho Cm (by omega) _).mono ?_;rintro _ w5 ⟨i,rfl,hi,tU⟩;have Fx:=tU.symm;subst Fx;clear tU;have hi':(i:Int)<ae ps:=(by omega);have pi:=bD hi;obtain⟨d0,d1⟩:=akc ps i _ pi;rw[<-HC.o (i*2) (by omega)]at d0;rw[<-HC.o (i*2+1) (by omega)]at d1;have y0:=(fun ob=>(XA.o ob gl (i*2) hG1).trans d0);have y1:=(fun ob=>(XA.o ob gl (i*2+1) hG1).trans d1);have PI:=aj (qL pi);clear pi;generalize ps[i]=pp at *))
      all_goals
       go_wp2_with fail;go_meet
       case rel=>exact⟨rfl,pp,PI.o,by rw[eO,aC,aA rfl],((Kp.refl [] WB).alloc _).drew⟩
     case rest =>
      obtain⟨rfl,pp,mO,bp,kc⟩:=hcut;have K3:ax (Kp [] w wc):=K2.o.trans kc (by simp);have b3:=kc.keep B2.o (by simp);clear c0 c1 c2 c3 c4 f3 x0 x1 e0;obtain⟨c0,c1,c2,c3,c4,f3⟩:=RJ b3;(have p0:wc.cell? ⟨pb,0,none⟩=some (.pointer (some ⟨pp.1,0,none⟩)):=by rw[aF bp];rfl);(have p1:wc.cell? ⟨pb,1,none⟩=some (.pointer (some ⟨pp.2,0,none⟩)):=by rw[aF bp];rfl);have L3:=aj (H.o.jA K3.o);have LP:=aj (L3.o.pr pp mO);clear bp kc b3 mO Oe H9 hO1 hG1 XA HC B2 BT c1 c2 c4 f3;by_cases N9:k=4
      .subst N9;clear q1 q2 q3;go_wp2_with fail;refine(an8 wS wc W pp.1 pp.2 _ tv iv rv ps tl il rl m t' L3.o LP.o hm ht).mono ?_;rintro _ w6 ⟨rfl,⟨AA,tl',l6⟩,kf⟩;have L6:=aj l6;have KF:ax (Kp (jL W (.slice (some ⟨gl,0,none⟩) (ae ps) cl) tv iv rv) w w6):=(K3.o.mono (by simp)).trans kf (fun y hy=>.inl hy);clear l6 kf;go_wp2;go_ret;exact⟨rfl,KF.o,_,AA,_,_,ps,tl',_,_,L6.o,aH _,fun q=>absurd q Vv.o,fun _=>rfl⟩
      ·(have q4:(k == 4)=false:=by simp[N9]);by_cases hk5:k=5
       .have T5:=aj (MO.o hk5);subst hk5;clear q1 q2 q3 q4 N9 MO;go_wp2_with fail;refine(T5.o.1 wS wc W pp.1 pp.2 _ tv iv rv ps tl il rl m L3.o LP.o T5.o.2).mono ?_;rintro _ w6 ⟨rfl,⟨gJ,xP,zZ,wg,l6⟩,kf⟩;have L6:=aj l6;have KF:ax (Kp (jL W (.slice (some ⟨gl,0,none⟩) (ae ps) cl) tv iv rv) w w6):=(K3.o.mono (by simp)).trans kf (fun y hy=>.inl hy);clear l6 kf;go_wp2;go_ret;exact⟨rfl,KF.o,_,_,gJ,xP,ps,_,zZ,wg,L6.o,aH _,fun q=>absurd q Vv.o,fun q=>by first|exact absurd rfl q|exact absurd trivial q⟩
       ·(have q5:(k == 5)=false:=by simp[hk5]);go_wp2;go_ret;exact⟨rfl,K3.o.mono (by simp),_,_,_,_,ps,_,_,_,L3.o.more,aH _,fun q=>absurd q Vv.o,fun _=>rfl⟩
end Go.Proofs.YtbjdkbcfpmeneaaGreat
