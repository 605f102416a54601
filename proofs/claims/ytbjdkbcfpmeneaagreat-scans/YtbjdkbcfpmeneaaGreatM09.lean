/- What is proved here: what the document's table answers. -/
import Derived.Test.YtbjdkbcfpmeneaaGreatM08
open Go renaming Calls->aI,Value->aq,World->ay,bodyPost_ret->cF,heap_alloc_new->jS,info_parts->iw,maxLen->eB,wp_region_lit->fD
open Go.Addr.mk renaming injEq->oD
open Go.Instr renaming makeSlice->pN
open Go.Obj.cells renaming injEq->fE
open Go.Proofs.Tryz renaming prog->aB,underlying91->zB
open Go.RowKit renaming intOf->aG
open Go.Value renaming cells->uA,oneCell'->dS,ownBlock->aK
open Go.Value.slice renaming injEq->fy
open Go.World renaming cell?->vE,news_of_block->gN,ownsRow_nil->j9
open Int renaming toNat_natCast->mj
open List renaming getD_eq_getElem?_getD->aO,getElem?_eq_getElem->bD,getElem?_eq_some_iff->fB,getElem?_map->kx,getElem_mem->nE,length->ae,length_append->cx,length_set->mq,length_singleton->iq,mem_singleton->bQ,replicate->gM,setIfInBounds_toArray->fx,set_cons_succ->eU,set_cons_zero->eX
open Nat renaming le_refl->aH,ne_of_lt->bY,zero_le->bU
open Option.some renaming injEq->aV
namespace Go.Proofs.YtbjdkbcfpmeneaaGreat
set_option linter.unusedVariables false
set_option linter.unusedSimpArgs false
set_option maxRecDepth 100000
set_option maxHeartbeats 16000000
open Go.RowKit
section
variable{ds gs:List Nat}{D F:Nat->Nat}{n N G:Nat}
theorem gD.aiC{w w1 w2:ay}{fv v':aq}(h:gD w fv n gs F)(k1:Kp [] w w1)(hG:w1.heap[G]?=some (aW (dK n (F (ae gs)))))(sE:∀g∈gs,g≠G)(g:w1.grownBy w2 fv.ownBlock)(o:w2.ownsRow 0 80 1 v' (gs ++ [G]).length ((gs ++ [G]).map fun g=>.slice (some ⟨g,0,none⟩) n n)):gD w2 v' n (gs ++ [G]) F:=by
 have k2:=Dr g;have cP:∀ {b:Nat} {c:Array aq},w1.heap[b]?=some (.cells c 4 (0,0))->b∉fv.ownBlock.toList:=fun {b c} hb hm=>by
  obtain⟨_,hl,c',hc⟩:=eS h.own (oX hm);have:=k1.keep hc (by simp);rw[hb]at this;simp only[aV,fE]at this;exact absurd this.2.1 (by decide)
 refine⟨o,fun p hp=>?_,?_⟩
 .rw[cx,iq]at hp;by_cases z:p<ae gs
  .rw[acv z];have q:=k1.keep (h.row p z) (by simp);exact k2.keep q (cP q)
  .have e0:p=ae gs:=(by omega);subst e0;rw[acu];exact k2.keep hG (cP hG)
 .rw[List.nodup_append];refine⟨h.nd,by simp,fun a ha b hb=>?_⟩;rw[bQ.1 hb];exact sE a ha
theorem aja(n s k:Nat)(h:s.testBit k=false):(dK n s).set k false=dK n s:=by
 apply List.ext_getElem?;intro i;rw[List.getElem?_set];by_cases e:k=i
 .subst e;rw[aA rfl];by_cases z:k<n
  .rw[aA (by rw[jz];exact z),dK,kx,List.getElem?_range z];simp[h]
  .rw[az (by rw[jz];exact z),List.getElem?_eq_none (by rw[jz];omega)]
 .rw[az e]
structure rW(w w':ay)(N:Nat)(dv:aq)(ds:List Nat)(D:Nat->Nat):Prop where
 k:Kp [] w w'
 f:gD w' dv N ds D
 lo:(∀g∈ds,w.heap.size<=g)/\∀g,dv.ownBlock=some g->w.heap.size<=g
theorem rW.kp{w w' w2:ay}{dv:aq}(h:rW w w' N dv ds D)(hk:Kp [] w' w2):rW w w2 N dv ds D :=
 ⟨h.k.trans hk (by simp),h.f.kp hk (by simp) (by simp),h.lo⟩
theorem rW.other{w w':ay}{dv:aq}(h:rW w w' N dv ds D){b:Nat}{c:Array aq}(hb:w'.heap[b]?=some (.cells c 4 (0,0)))(Il:w.heap.size<=b)(hds:∀g∈ds,g≠b)(o:Nat)(v:aq):rW w (w'.setCell ⟨b,o,none⟩ v) N dv ds D:=by
 have hk:Kp [b] w' (w'.setCell ⟨b,o,none⟩ v):=(Kp.refl _ w').set (.inl (by simp)) _ _;refine⟨h.k.set (.inr Il) _ _,h.f.kp hk (fun g hg hm=>?_) (fun g hg hm=>?_),h.lo⟩
 .simp only[bQ]at hm;subst hm;obtain⟨_,_,c',hc⟩:=eS h.f.own hg;rw[hb]at hc;simp only[aV,fE]at hc;exact absurd hc.2.1 (by decide)
 .simp only[bQ]at hm;exact hds g hg hm
theorem rW.add{w w' w1 w2:ay}{dv v':aq}(h:rW w w' N dv ds D)(k1:Kp [] w' w1)(hG:w1.heap[G]?=some (aW (dK N (D (ae ds)))))(Il:w.heap.size<=G)(hds:∀g∈ds,g≠G)(g:w1.grownBy w2 dv.ownBlock)(o:w2.ownsRow 0 80 1 v' (ds ++ [G]).length ((ds ++ [G]).map fun g=>.slice (some ⟨g,0,none⟩) N N))(ha:v'.ownBlock=dv.ownBlock\/∃k,v'.ownBlock=some k/\w'.heap.size<=k):rW w w2 N v' (ds ++ [G]) D:=by
 have k2:Kp dv.ownBlock.toList w' w2:=(k1.mono (by simp)).trans (Dr g) (fun y hy=>.inl hy);have sz:=h.k.size;refine⟨h.k.trans k2 (fun y hy=>.inr (h.lo.2 y (oX hy))),h.f.aiC k1 hG hds g o,fun x hx=>?_,fun x hx=>?_⟩
 .rcases List.mem_append.1 hx with q|q
  .exact h.lo.1 x q
  .rw[bQ.1 q];exact Il
 .rcases ha with q|⟨k,q,q2⟩
  .rw[q]at hx;exact h.lo.2 x hx
  .rw[q]at hx;simp only[aV]at hx;omega
theorem rW.set{w w':ay}{dv:aq}(h:rW w w' N dv ds D){p:Nat}(hp:p<ae ds)(c:Nat):rW w (w'.setCell ⟨ds.getD p 0,c,none⟩ (.bool true)) N dv ds (iF D p (1 <<< c)) :=
 ⟨h.k.set (.inr (h.lo.1 _ (Dx hp))) _ _,h.f.set hp c,h.lo⟩
def cD(n:Nat)(D:Nat->Nat):Nat->Nat
 |0=>0
 |p+1=>cD n D p+cf (dK n (D p))
def su(w:ay):List Nat->Nat
 |[]=>0
 |g::gs=>Nv w g+su w gs
theorem ajs(w:ay)(ds:List Nat)(g:Nat):su w (ds ++ [g])=su w ds+Nv w g:=by
 induction ds with
 |nil=>simp[su]
 |cons x ds ih=>rw[List.cons_append,su,su,ih,Nat.add_assoc]
theorem gD.cnt{w:ay}{dv:aq}(h:gD w dv n ds D):su w ds=cD n D (ae ds):=by
 have key:∀k,k<=ae ds->su w (ds.take k)=cD n D k:=by
  intro k;induction k with
  |zero=>intro _;rfl
  |succ k ih =>
   intro hk;have hk':k<ae ds:=(by omega);rw[List.take_add_one,bD hk'];show su w (ds.take k ++ [ds[k]])=cD n D k+cf (dK n (D k));rw[ajs,ih (by omega)];have:=h.row k hk';rw[aO,bD hk']at this;simp only[Option.getD_some]at this;rw[Rt this]
 have:=key (ae ds) (aH _);rw[List.take_length]at this;exact this
theorem Nu{p c:Nat}(hc:c<n)(hb:(D p).testBit c=false):∀len,p<len->cD n (iF D p (1 <<< c)) len+1=cD n D len:=by
 have same:∀len,len<=p->cD n (iF D p (1 <<< c)) len=cD n D len:=by
  intro len;induction len with
  |zero=>intro _;rfl
  |succ len ih =>
   intro h;rw[cD,cD,ih (by omega)];(have:iF D p (1 <<< c) len=D len:=by unfold iF;rw[az (by omega)]);rw[this]
 intro len;induction len with
 |zero=>intro h;omega
 |succ len ih =>
  intro h;rw[cD,cD];by_cases e:p=len
  .subst e;rw[same p (aH _)];(have e2:iF D p (1 <<< c) p=D p ||| 1 <<< c:=by unfold iF;rw[aA rfl]);rw[e2,<-Ns];have:=aaU (dK n (D p)) c (by rw[jz];exact hc) (by rw[yz n _ c hc];exact hb);omega
  ·(have e2:iF D p (1 <<< c) len=D len:=by unfold iF;rw[az (fun z=>e z.symm)]);rw[e2];have:=ih (by omega);omega
theorem gD.Wg{w:ay}{gd cd:Nat}(h:gD w (.slice (some ⟨gd,0,none⟩) (ae ds) cd) n ds F){p:Nat}(hp:p<ae ds):w.cell? ⟨gd,p,none⟩=some (.slice (some ⟨ds.getD p 0,0,none⟩) n n):=by
 obtain⟨g,cap,e,hc⟩:=h.Wh hp;simp only[fy,aV,oD,and_true]at e;rw[e.1];exact hc
theorem nQ.Yr{w w':ay}{m:Nat}{lv:aq}{L bl:List (Nat×Nat)}{rows:List (List Int)}{NK Wm:Nat}(h:nQ w w' n m lv (.slice (some ⟨NK,0,none⟩) (ae gs) Wm) L bl gs rows){j:Nat}(hj:j<ae gs):w'.cell? ⟨NK,j,none⟩=some (.slice (some ⟨gs.getD j 0,0,none⟩) 256 256):=by
 obtain⟨a,cap,e,f⟩:=jm (eV h.tw (bU _));obtain⟨g,rfl,_,hc⟩:=f (by omega);simp only[fy,aV,oD,and_true]at e;rw[e.1,hc j hj,kx,bD hj,aO,bD hj];rfl
def ahz(nx:Nat->Nat->Int)(ac:Nat->Int)(N:Nat)(ls:List Nat)(w:ay)(e:Ending)(w':ay):Prop :=
 ∃(dv:aq) (ds:List Nat) (D:Nat->Nat),e=.returned dv/\(ae ds)=N/\rW w w' N dv ds D/\uj nx ac N D/\∀i k,i<N->k<i->G3 nx ls D i k
theorem aiL(wL w:ay)(n m:Nat)(al cy:Option Addr)(cl vK:Nat)(L bl:List (Nat×Nat))(gs:List Nat)(rows:List (List Int))(Dy cg:Nat)(ls:List Nat)(gi:nQ wL w n m (.slice al (ae L) cl) (.slice cy (ae gs) vK) L bl gs rows)(hm:m<=6)(hN:(ae L)<=250)(pS:0<ae L)(gB:(ae rows)=ae L)(xw:∀j,j<ae rows->(rows.getD j []).length=256)(Co:∀j c,j<ae rows->c<256->(rows.getD j []).getD c 0<ae L)(zQ:(ae ls)=256)(yU:w.ownsRow 0 3 1 (.slice (some ⟨Dy,0,none⟩) (ae ls) cg) (ae ls) (dy ls)):aI aB 72 #[.slice al (ae L) cl,.slice cy (ae gs) vK,.slice (some ⟨Dy,0,none⟩) (ae ls) cg] w (ahz (fun i c=>(rows.getD i []).getD c 0) (mZ m L) (ae L) ls w):=by
 obtain⟨g7,adZ,e7,_,_⟩:=gi.read pS;simp only[fy]at e7;obtain⟨rfl,_,rfl⟩:=e7;obtain⟨a8,c8,e8,f8⟩:=jm (eV gi.tw (bU _));obtain⟨NK,rfl,_,_⟩:=f8 (by have:=gi.gl;omega);simp only[fy]at e8;obtain⟨rfl,_,rfl⟩:=e8;obtain⟨i0,cS,dc,dm,cW⟩:=iw afv;have Fj:∀W,(pN 80 (.int .i64 (ae L:Int)) (.int .i64 (ae L:Int))).run aB W=.ok (.slice (some ⟨W.heap.size,0,none⟩) (ae L) (ae L)) (W.alloc (aW (fl (ae L)))):=fun W=>yZ (ae L) (by omega) W
 have uE:∀j,j<ae L->∀W,Kp [] w W->aI aB 73 #[.agg #[.slice (some ⟨(bl.getD j (0,0)).1,0,none⟩) n n,.slice (some ⟨(bl.getD j (0,0)).2,0,none⟩) m m]] W fun e W'=>e=.returned (.int .i64 (mZ m L j))/\Kp [] W W':=fun j hj W hW=>by
  refine(adH _ n m (L.getD j (0,0)) W ⟨_,_,rfl,hW.keep (gi.bk j hj).1 (by simp),hW.keep (gi.bk j hj).2 (by simp)⟩ (by omega)).mono ?_;rintro _ W' ⟨r,rfl,hr,hk⟩;rw[aen hr (Q4 m L j)];exact⟨rfl,hk⟩
 obtain⟨GI,Jz,wG,JJ,JK,AV,MT⟩:=DG gi uE gB xw Co zQ yU;clear gi uE gB xw Co zQ yU;generalize eP:mZ m L=ac at *;clear eP;go_enter Tryz.func72,Tryz.ntmps72;go_wp2_with fail;go_loopw [9,8] (fun s9 s8 w'=>∃(i:Nat) (av:Option Addr) (cv:Nat) (ds:List Nat),s9=.int .i64 i/\i<=ae L/\s8=.slice av (ae ds) cv/\(ae ds)=i/\rW w w' (ae L) (.slice av (ae ds) cv) ds (fun p=>ua ac p (ae L)))
  (fun s9 _ _=>ae L-(aG s9).toNat)
 case atStart=>exact⟨0,none,0,[],rfl,bU _,rfl,rfl,Kp.refl _ _,⟨j9 _ _ _ _,fun p hp=>by simp at hp,List.nodup_nil⟩,by simp,fun g hg=>by simp[aK]at hg⟩
 case round =>
  obtain⟨i,av,cv,ds,rfl,hi,rfl,qZ,da⟩:=hrel;by_cases dx:i<ae L
  .have gZ:(i:Int)<ae L:=(by omega);have DA:=aj da;have Ee:=aj qZ;clear da qZ;go_upto_region 7 with fail;have da1:=DA.o.kp ((Kp.refl [] wr).alloc (aW (fl (ae L))));(have br1:(wr.alloc (aW (fl (ae L)))).heap[wr.heap.size]?=some (aW (dK (ae L) (ua ac i 0))):=by rw[aC,aA rfl];show _=some (aW (dK (ae L) 0));rw[Kn]);(have hdr:∀g∈ds,g≠wr.heap.size:=fun g hg=>bY (DA.o.f.lt g hg));have xy:w.heap.size<=wr.heap.size:=DA.o.k.size;generalize wr.alloc (aW (fl (ae L)))=W1 at *;generalize wr.heap.size=rb at *;obtain⟨DA1,rU,HDR⟩:=cR da1 br1 hdr;clear da1 br1 hdr DA;go_wp2_with fail;go_loopw [11] (fun rK w'=>∃k:Nat,rK=.int .i64 k/\k<=ae L/\rW w w' (ae L) (.slice av (ae ds) cv) ds (fun p=>ua ac p (ae L))/\w'.heap[rb]?=some (aW (dK (ae L) (ua ac i k))))
    (fun rK _=>ae L-(aG rK).toNat)
   case atStart=>exact⟨0,rfl,bU _,DA1.o,rU.o⟩
   case round =>
    obtain⟨k,rfl,hk,da,br⟩:=hrel;clear DA1 rU;by_cases dI:k<ae L
    .have j3:(k:Int)<ae L:=(by omega);obtain⟨_,_,e1,s0,s1⟩:=(GI.o.kp da.k).read dx;obtain⟨_,_,e2,t0,t1⟩:=(GI.o.kp da.k).read dI;simp only[fy,aV,oD,and_true]at e1 e2;rw[<-e1.1]at s0 s1;rw[<-e2.1]at t0 t1;have DT:g7<wr.heap.size:=by
      rcases Nat.lt_or_ge g7 wr.heap.size with z|z
      .exact z
      .have:wr.heap[g7]?=none:=Array.getElem?_eq_none z;simp[vE,this]at s0
     have lrb:=aE br;have Kw:=gz br k (by rw[jz];exact dI);have RQ:=kJ br k;rw[yz _ _ _ dI,agN ac i k k (aH _)]at Kw;have hS:∀W,Kp [] wr W->((W.cell? ⟨g7,i*2,none⟩=some (.slice (some ⟨(bl.getD i (0,0)).1,0,none⟩) n n)/\W.cell? ⟨g7,i*2+1,none⟩=some (.slice (some ⟨(bl.getD i (0,0)).2,0,none⟩) m m))/\(W.cell? ⟨g7,k*2,none⟩=some (.slice (some ⟨(bl.getD k (0,0)).1,0,none⟩) n n)/\W.cell? ⟨g7,k*2+1,none⟩=some (.slice (some ⟨(bl.getD k (0,0)).2,0,none⟩) m m)))/\(W.cell? ⟨rb,k,none⟩=some (.bool false)/\W.frozen? ⟨rb,k,none⟩=false):=fun W hW =>
      ⟨⟨⟨(o8 hW.toBelow DT).trans s0,(o8 hW.toBelow DT).trans s1⟩,⟨(o8 hW.toBelow DT).trans t0,(o8 hW.toBelow DT).trans t1⟩⟩,⟨(o8 hW.toBelow lrb).trans Kw,kJ (hW.keep br (by simp)) k⟩⟩
     have nGR:g7≠rb:=fun e=>by
      rcases(GI.o.kp da.k).st.2 with⟨q,_⟩|⟨g',cap,cur,q,_,hc,_⟩
      .simp at q
      .simp only[fy,aV,oD,and_true]at q;rw[<-q.1,e,br]at hc;simp only[aV,fE]at hc;exact absurd hc.2.1 (by decide)
     have NQ:∀W v,Kp [] wr W->(((W.setCell ⟨rb,k,none⟩ v).cell? ⟨g7,i*2,none⟩=some (.slice (some ⟨(bl.getD i (0,0)).1,0,none⟩) n n)/\(W.setCell ⟨rb,k,none⟩ v).cell? ⟨g7,i*2+1,none⟩=some (.slice (some ⟨(bl.getD i (0,0)).2,0,none⟩) m m))/\((W.setCell ⟨rb,k,none⟩ v).cell? ⟨g7,k*2,none⟩=some (.slice (some ⟨(bl.getD k (0,0)).1,0,none⟩) n n)/\(W.setCell ⟨rb,k,none⟩ v).cell? ⟨g7,k*2+1,none⟩=some (.slice (some ⟨(bl.getD k (0,0)).2,0,none⟩) m m))):=fun W v hW=>by
      have q:=(hS W hW).1;have e:∀o,(W.setCell ⟨rb,k,none⟩ v).cell? ⟨g7,o,none⟩=W.cell? ⟨g7,o,none⟩:=fun o=>by
       have:=aQ W rb k v g7;rw[az nGR]at this;unfold vE;rw[this]
      rw[e,e,e,e];exact q
     have A0:=aj NQ;have HS:=aj hS;have AI:=aj (fun W (hW:Kp [] wr W)=>Jz.o i dx W (da.k.trans hW (by simp)));have AK:=aj (fun W (hW:Kp [] wr W)=>Jz.o k dI W (da.k.trans hW (by simp)));have DA:=aj da;have BR:=aj br;clear hS NQ da br e1 e2 Kw RQ;generalize (bl.getD i (0,0)).1=bi1 at *;generalize (bl.getD i (0,0)).2=bi2 at *;generalize (bl.getD k (0,0)).1=Ho at *;generalize (bl.getD k (0,0)).2=Hp at *;(have hv:∃vi vk,ac i=vi/\ac k=vk:=⟨_,_,rfl,rfl⟩);obtain⟨vi,vk,xB,hvk⟩:=hv;rw[xB]at AI;rw[hvk]at AK;have Ql:=aj xB;have HVK:=aj hvk;have HA:ax (∀(b1 b2:Nat) (v:Int),((b1=bi1/\b2=bi2/\v=vi)\/(b1=Ho/\b2=Hp/\v=vk))->∀W,Kp [] wr W->aI aB 73 #[.agg #[.slice (some ⟨b1,0,none⟩) n n,.slice (some ⟨b2,0,none⟩) m m]] W fun e W'=>e=.returned (.int .i64 v)/\Kp [] W W'):=fun b1 b2 v hb W hW=>by
      rcases hb with⟨rfl,rfl,rfl⟩|⟨rfl,rfl,rfl⟩
      .exact AI.o W hW
      .exact AK.o W hW
     clear xB hvk s0 s1 t0 t1 AI AK;go_upto_region 10 with fail;go_region_held3 (fun w':ay=>(w'.cell? ⟨g7,i*2,none⟩=some (.slice (some ⟨bi1,0,none⟩) n n)/\w'.cell? ⟨g7,i*2+1,none⟩=some (.slice (some ⟨bi2,0,none⟩) m m))/\(w'.cell? ⟨g7,k*2,none⟩=some (.slice (some ⟨Ho,0,none⟩) n n)/\w'.cell? ⟨g7,k*2+1,none⟩=some (.slice (some ⟨Hp,0,none⟩) m m)))
      (first|exact(HS.o _ ((Kp.refl _ _).drew)).1|exact(HS.o _ K6).1|exact(HS.o _ K5).1|exact A0.o _ _ K6)
      (first|(go_at_call 73;refine(HA.o _ _ _ (by first|exact .inl ⟨rfl,rfl,rfl⟩|exact .inr ⟨rfl,rfl,rfl⟩) _ K5).mono ?_;rintro _ w6 ⟨rfl,k6⟩;have K6:Kp [] wr w6:=K5.trans k6 (by simp);obtain⟨_,Kw,RQ⟩:=HS.o _ K6)|(go_at_call 73;refine(HA.o _ _ _ (by first|exact .inl ⟨rfl,rfl,rfl⟩|exact .inr ⟨rfl,rfl,rfl⟩) _ ((Kp.refl [] wr).drew)).mono ?_;rintro _ w5 ⟨rfl,k5⟩;have K5:Kp [] wr w5:=((Kp.refl [] wr).drew).trans k5 (by simp)))
     all_goals
      have oY:=K6.keep BR.o (by simp);have DA6:=aj ((DA.o.kp K6).other oY xy HDR.o k (.bool (vi != vk)));have ij:(dK (ae L) (ua ac i k)).set k (vi != vk)=dK (ae L) (ua ac i (k+1)):=by
       rw[ua,Ql.o,HVK.o];by_cases e:vi=vk
       .rw[aA e,show(vi != vk)=false by simp[e]];exact aja _ _ _ (agN ac i k k (aH _))
       .rw[az e,show(vi != vk)=true by simp[e]];exact Ns _ _ _
      (have Pu:ax ((w6.setCell ⟨rb,k,none⟩ (.bool (vi != vk))).heap[rb]?=some (aW (dK (ae L) (ua ac i (k+1))))):=by rw[<-ij];exact nF oY k _);generalize w6.setCell ⟨rb,k,none⟩ (.bool (vi != vk))=W9 at *;clear oY ij K5 K6 k5 k6 Kw RQ HA HS A0 BR DA;go_wp2;exact⟨⟨k+1,by go_num,by omega,DA6.o,Pu.o⟩,by simp[aG];omega⟩
    .have j3:¬(k:Int)<ae L:=(by omega);have yN:k=ae L:=(by omega);subst yN;have DA:=aj da;have BR:=aj br;have qZ:=Ee.o;have apC:(ae ds)<=250:=(by omega);clear da br qZ;(go_wp2_with (at_builtin;go_must (refine qU rfl _ _ _ rfl 80 i0 _ 1 24 Tryz.underlying161 cS dc dm cW rfl (by omega) (.slice av (ae ds) cv) (ae ds) (ds.map fun g=>.slice (some ⟨g,0,none⟩) (ae L) (ae L)) rfl (DA.o.f.own.alloc _) ⟨wr.heap.size,0,none⟩ 1 1 [.slice (some ⟨rb,0,none⟩) (ae L) (ae L)] rfl rfl (gN (cs:=#[.slice (some ⟨rb,0,none⟩) (ae L) (ae L)]) (t:=80) (fr:=(0,0)) (by rw[aC,aA rfl])) (by simp[dS]) (by omega) (by unfold eB;omega) (by omega) _ rfl ?_);intro g9 oO w9 jM jH at9 rE;have DA9:=aj (DA.o.add (G:=rb) ((Kp.refl [] wr).alloc _) (((Kp.refl [] wr).alloc _).keep (by rw[Ee.o];exact BR.o) (by simp)) xy HDR.o jH (v':=.slice (some ⟨g9,0,none⟩) (ae ds+1) oO) (by rw[cx,List.map_append];exact jM) (by rcases at9 with q|q;exact .inl (by rw[q];rfl);exact .inr ⟨g9,rfl,by rw[aM]at q;omega⟩));clear jM jH at9 rE));go_wp2;refine⟨⟨i+1,some ⟨g9,0,none⟩,oO,ds ++ [rb],by go_num,by omega,by simp,by rw[cx,Ee.o];rfl,?_⟩,by simp[aG];omega⟩;first|exact DA9.o|(rw[cx];exact DA9.o)
  .have gZ:¬(i:Int)<ae L:=(by omega);have m7:i=ae L:=(by omega);subst m7;obtain⟨gd,cd,ed,_⟩:=da.f.Wh (p:=0) (by omega);simp only[fy]at ed;obtain⟨rfl,_,rfl⟩:=ed;have DA:=aj da;have Ee:=aj qZ;have AP0:ax (uj (fun i c=>(rows.getD i []).getD c 0) ac (ae L) (fun p=>ua ac p (ae L))):=uj.start;clear da qZ Fj;go_upto_region 12 with fail;go_wp2_with fail;go_loopw [12] (fun s12 w'=>∃(mo:Bool) (D:Nat->Nat),s12=.bool mo/\rW w w' (ae L) (.slice (some ⟨gd,0,none⟩) (ae ds) cv) ds D/\uj (fun i c=>(rows.getD i []).getD c 0) ac (ae L) D/\(mo=false->∀i k,i<ae L->k<i->G3 (fun i c=>(rows.getD i []).getD c 0) ls D i k))
    (fun s12 w'=>2*su w' ds+E3 s12)
   case atStart=>exact⟨true,_,rfl,DA.o,AP0.o,fun e=>by cases e⟩
   case round =>
    obtain⟨mo,D,rfl,da,ap,qz⟩:=hrel;clear DA AP0;cases mo
    .have tu:=aj (qz rfl);have DA:=aj da;have AP:=aj ap;clear qz da ap;go_wp2;exact cF (v:=.slice (some ⟨gd,0,none⟩) (ae ds) cv) (by simp[results,Tryz.results72,go_sem]) rfl ⟨_,ds,D,rfl,Ee.o,DA.o,AP.o,tu.o⟩
    .have C0:ax (su wr ds=cD (ae L) D (ae ds)):=da.f.cnt;have DA:=aj da;have AP:=aj ap;clear da ap qz;(have hCE:∃CC,CC=su wr ds:=⟨_,rfl⟩);obtain⟨CC,hCC⟩:=hCE;have HCC:=aj hCC;clear hCC C0;go_wp2_with fail;go_loopw [12,13] (fun s12 FX w'=>∃(mo:Bool) (D:Nat->Nat) (i:Nat),s12=.bool mo/\FX=.int .i64 i/\i<=ae L/\rW w w' (ae L) (.slice (some ⟨gd,0,none⟩) (ae ds) cv) ds D/\uj (fun i c=>(rows.getD i []).getD c 0) ac (ae L) D/\(mo=false->∀i' k,i' < i->k<i'->G3 (fun i c=>(rows.getD i []).getD c 0) ls D i' k)/\su w' ds+(if mo=true then 1 else 0)<=CC)
      (fun _ FX _=>ae L-(aG FX).toNat)
     case atStart=>exact⟨false,D,0,rfl,rfl,bU _,DA.o,AP.o,fun _ i' k h=>by omega,by rw[HCC.o];simp⟩
     case round =>
      clear DA AP;obtain⟨mo,D,i,rfl,rfl,hi,da,ap,qz,NZ⟩:=hrel;obtain⟨DA,AP,tu,C7⟩:=dH da ap qz NZ;clear da ap qz NZ;by_cases dx:i<ae L
      .have gZ:(i:Int)<ae L:=(by omega);go_wp2_with fail;go_loopw [12,14] (fun s12 FY w'=>∃(mo:Bool) (D:Nat->Nat) (k:Nat),s12=.bool mo/\FY=.int .i64 k/\k<=i/\rW w w' (ae L) (.slice (some ⟨gd,0,none⟩) (ae ds) cv) ds D/\uj (fun i c=>(rows.getD i []).getD c 0) ac (ae L) D/\(mo=false->(∀i' k',i' < i->k' < i'->G3 (fun i c=>(rows.getD i []).getD c 0) ls D i' k')/\∀k',k' < k->G3 (fun i c=>(rows.getD i []).getD c 0) ls D i k')/\su w' ds+(if mo=true then 1 else 0)<=CC)
        (fun _ FY _=>i-(aG FY).toNat)
       case atStart=>exact⟨mo,D,0,rfl,rfl,bU _,DA.o,AP.o,fun e=>⟨tu.o e,fun k' h=>by omega⟩,C7.o⟩
       case round =>
        clear DA AP tu C7;obtain⟨mo,D,k,rfl,rfl,hk,da,ap,qz,NZ⟩:=hrel;obtain⟨sZ,tu,C7,DA⟩:=dH ap qz NZ da;have qZ:=Ee.o;by_cases dI:k<i
        .have j3:(k:Int)<i:=(by omega);have akT:(k:Int)<ae L:=(by omega);have apO:(k:Int)<ae ds:=(by omega);have akQ:(i:Int)<ae ds:=(by omega);have ci:=da.f.Wg (p:=i) (by omega);have ck:=da.f.Wg (p:=k) (by omega);have Kt:=gz (da.f.row i (by omega)) k (by rw[jz];omega);have fik:=kJ (da.f.row i (by omega)) k;have cki:=gz (da.f.row k (by omega)) i (by rw[jz];omega);have fki:=kJ (da.f.row k (by omega)) i;rw[yz _ _ _ (by omega)]at Kt cki;(have nik:ds.getD i 0≠ds.getD k 0:=fun e=>by have:=af7 da.f.nd (by omega) (by omega) e;omega);have ngd:∀p,p<ae ds->ds.getD p 0≠gd:=fun p hp e=>by
          obtain⟨_,_,c',hc'⟩:=eS da.f.own (show aK (.slice (some ⟨gd,0,none⟩) (ae ds) cv)=some gd from rfl);have q:=da.f.row p hp;rw[e,hc']at q;simp only[aV,fE]at q;exact absurd q.2.1 (by decide)
         have ngi:=ngd i (by omega);have ngk:=ngd k (by omega);clear ngd;have xg:=GI.o.kp da.k;have ko:=GI.o.gl;have aqa:=wG.o;have UX:=aj xg;have FA:=aj da.f;have ad9:su wr ds=cD (ae L) D (ae ds):=da.f.cnt;have Zs:=aj ad9;have MD:=aj ((da.set (p:=i) (by omega) k).set (p:=k) (by omega) i);clear ap qz NZ da qZ xg ad9;generalize hdi:ds.getD i 0=di at *;generalize hdk:ds.getD k 0=dk at *;have HDI:=aj hdi;have HDK:=aj hdk;clear hdi hdk;cases hb:(D i).testBit k
         .rw[hb]at Kt;(have my:(D k).testBit i=false:=by rw[<-sZ.o.sym i k (by omega) (by omega)];exact hb);rw[my]at cki;have HB:=aj hb;have mG:=aj my;clear hb my;go_wp2_with fail;go_loopw [12,15] (fun s12 wh w'=>∃c:Nat,s12=.bool mo/\wh=.int .i64 c/\c<=256/\w'=wr/\∀c',c' < c->ls.getD c' 0=c'->((rows.getD i []).getD c' 0<0↔(rows.getD k []).getD c' 0<0)/\∀a b:Nat,(rows.getD i []).getD c' 0=a->(rows.getD k []).getD c' 0=b->(D a).testBit b=false)
           (fun _ wh _=>256-(aG wh).toNat)
          case atStart=>exact⟨0,rfl,rfl,by omega,rfl,fun c' h=>by omega⟩
          case round =>
           obtain⟨c,rfl,rfl,hc,On,eY⟩:=hrel;subst On;have HC:=aj eY;clear eY;by_cases dw:c<256
           .have yI:(c:Int)<256:=(by omega);have ri:=UX.o.Yr (j:=i) (by omega);have rk:=UX.o.Yr (j:=k) (by omega);have xi:=jK (UX.o.rr i (by omega)).2 c (by have:=JJ.o i (by omega);omega);have xk:=jK (UX.o.rr k (by omega)).2 c (by have:=JJ.o k (by omega);omega);have apF:(i:Int)<ae gs:=(by omega);have apG:(k:Int)<ae gs:=(by omega);have Ud:=aJ MT.o DA.o.k (by simp);obtain⟨_,_,ea,eP⟩:=qB Ud;obtain⟨ga,lj,cls⟩:=eP c (by rw[AV.o];exact dw);simp only[fy]at ea;rw[<-ea.1]at lj;simp only[aV,oD,and_true]at lj;rw[<-lj]at cls;(have akL:(c:Int)<ae ls:=by have:=AV.o;omega);have UQ:ax ((rows.getD i []).getD c 0<ae L/\(rows.getD k []).getD c 0<ae L):=⟨JK.o i c (by omega) dw,JK.o k c (by omega) dw⟩;generalize gs.getD i 0=KD at *;generalize gs.getD k 0=gk_ at *;(have hx:∃x y l0,(rows.getD i []).getD c 0=x/\(rows.getD k []).getD c 0=y/\ls.getD c 0=l0:=⟨_,_,_,rfl,rfl,rfl⟩);obtain⟨x,y,l0,hx,hy,Oc⟩:=hx;rw[hx]at xi;rw[hy]at xk;rw[Oc]at cls;(have AO:ax (x<ae L/\y<ae L):=by have:=UQ.o;rw[hx,hy]at this;exact this);obtain⟨HX,HY,HL⟩:=cR hx hy Oc;clear Ud ea eP lj hx hy Oc;by_cases hl:l0=c
            ·(have DI:((l0:Int) == (c:Int))=true:=by simp[hl]);by_cases yT:x<0
             .by_cases mz:y<0
              ·(have HG:ax (ls.getD c 0=c->((rows.getD i []).getD c 0<0↔(rows.getD k []).getD c 0<0)/\∀a b:Nat,(rows.getD i []).getD c 0=a->(rows.getD k []).getD c 0=b->(D a).testBit b=false):=fun _=>⟨by rw[HX.o,HY.o];exact⟨fun _=>mz,fun _=>yT⟩,fun a b h1 _=>by rw[HX.o]at h1;omega⟩);have xC:¬(0<=x):=(by omega);clear UQ;go_wp2;refine⟨⟨c+1,rfl,by go_num,by omega,by first|rfl|trivial,fun c' hc' hq=>?_⟩,by simp[aG];omega⟩;by_cases z:c'=c
               .subst z;exact HG.o hq
               .exact HC.o c' (by omega) hq
              .have qu:ax (Ap (fun i c=>(rows.getD i []).getD c 0) ac i k):=.nowhere i k c dw (by show ¬((rows.getD i []).getD c 0<0↔(rows.getD k []).getD c 0<0);rw[HX.o,HY.o];exact fun e=>mz (e.1 yT));have ND:ax (uj (fun i c=>(rows.getD i []).getD c 0) ac (ae L) (iF (iF D i (1 <<< k)) k (1 <<< i))):=sZ.o.add qu.o;have Cc:ax (su ((wr.setCell ⟨di,k,none⟩ (.bool true)).setCell ⟨dk,i,none⟩ (.bool true)) ds+1<=CC):=by
                have e1:=MD.o.f.cnt;have e2:=Nu (n:=ae L) (D:=D) (p:=i) (c:=k) (by omega) HB.o (ae ds) (by omega);have e3:=Nu (n:=ae L) (D:=iF D i (1 <<< k)) (p:=k) (c:=i) (by omega) (by unfold iF;rw[az (by omega)];exact mG.o) (ae ds) (by omega);have e4:=C7.o;have e5:=Zs.o;show _+1<=CC;rw[e1];omega
               clear qu tu;go_wp2;refine⟨⟨true,iF (iF D i (1 <<< k)) k (1 <<< i),k+1,rfl,by go_num,by omega,MD.o,ND.o,?_,?_⟩,by simp[aG];omega⟩
               .first|trivial|(intro e;exact absurd e (by simp))
               .first|exact Cc.o|(have:=Cc.o;simpa using this)
             .by_cases mz:y<0
              .have qu:ax (Ap (fun i c=>(rows.getD i []).getD c 0) ac i k):=.nowhere i k c dw (by show ¬((rows.getD i []).getD c 0<0↔(rows.getD k []).getD c 0<0);rw[HX.o,HY.o];exact fun e=>yT (e.2 mz));have ND:ax (uj (fun i c=>(rows.getD i []).getD c 0) ac (ae L) (iF (iF D i (1 <<< k)) k (1 <<< i))):=sZ.o.add qu.o;have Cc:ax (su ((wr.setCell ⟨di,k,none⟩ (.bool true)).setCell ⟨dk,i,none⟩ (.bool true)) ds+1<=CC):=by
                have e1:=MD.o.f.cnt;have e2:=Nu (n:=ae L) (D:=D) (p:=i) (c:=k) (by omega) HB.o (ae ds) (by omega);have e3:=Nu (n:=ae L) (D:=iF D i (1 <<< k)) (p:=k) (c:=i) (by omega) (by unfold iF;rw[az (by omega)];exact mG.o) (ae ds) (by omega);have e4:=C7.o;have e5:=Zs.o;show _+1<=CC;rw[e1];omega
               clear qu tu;go_wp2;refine⟨⟨true,iF (iF D i (1 <<< k)) k (1 <<< i),k+1,rfl,by go_num,by omega,MD.o,ND.o,?_,?_⟩,by simp[aG];omega⟩
               .first|trivial|(intro e;exact absurd e (by simp))
               .first|exact Cc.o|(have:=Cc.o;simpa using this)
              ·(obtain⟨a,rfl⟩:∃a:Nat,x=a:=⟨x.toNat,by omega⟩);(obtain⟨b,rfl⟩:∃b:Nat,y=b:=⟨y.toNat,by omega⟩);have zL:=AO.o;(have ha':(a:Int)<ae ds:=by have:=Ee.o;omega);have hb':(b:Int)<ae L:=zL.2;have ca:=FA.o.Wg (p:=a) (by omega);have cab:=gz (FA.o.row a (by omega)) b (by rw[jz];omega);rw[yz _ _ _ (by omega)]at cab;have xC:(0:Int)<=(a:Int):=(by omega);generalize ds.getD a 0=da_ at *;clear zL;cases hd:(D a).testBit b
               .rw[hd]at cab;have HG:ax (ls.getD c 0=c->((rows.getD i []).getD c 0<0↔(rows.getD k []).getD c 0<0)/\∀a b:Nat,(rows.getD i []).getD c 0=a->(rows.getD k []).getD c 0=b->(D a).testBit b=false):=fun _=>⟨by rw[HX.o,HY.o];exact⟨fun h=>absurd h yT,fun h=>absurd h mz⟩,fun a' b' h1 h2=>by
                 rw[HX.o]at h1;rw[HY.o]at h2;have e1:a=a':=(by omega);have e2:b=b':=(by omega);rw[<-e1,<-e2];exact hd⟩
                clear hd;clear UQ;go_wp2;refine⟨⟨c+1,rfl,by go_num,by omega,by first|rfl|trivial,fun c' hc' hq=>?_⟩,by simp[aG];omega⟩;by_cases z:c'=c
                .subst z;exact HG.o hq
                .exact HC.o c' (by omega) hq
               .rw[hd]at cab;have qu:ax (Ap (fun i c=>(rows.getD i []).getD c 0) ac i k):=.step i k c a b dw HX.o HY.o (sZ.o.sound a b (by have:=AO.o;omega) (by have:=AO.o;omega) hd);clear hd;have ND:ax (uj (fun i c=>(rows.getD i []).getD c 0) ac (ae L) (iF (iF D i (1 <<< k)) k (1 <<< i))):=sZ.o.add qu.o;have Cc:ax (su ((wr.setCell ⟨di,k,none⟩ (.bool true)).setCell ⟨dk,i,none⟩ (.bool true)) ds+1<=CC):=by
                 have e1:=MD.o.f.cnt;have e2:=Nu (n:=ae L) (D:=D) (p:=i) (c:=k) (by omega) HB.o (ae ds) (by omega);have e3:=Nu (n:=ae L) (D:=iF D i (1 <<< k)) (p:=k) (c:=i) (by omega) (by unfold iF;rw[az (by omega)];exact mG.o) (ae ds) (by omega);have e4:=C7.o;have e5:=Zs.o;show _+1<=CC;rw[e1];omega
                clear qu tu;go_wp2;refine⟨⟨true,iF (iF D i (1 <<< k)) k (1 <<< i),k+1,rfl,by go_num,by omega,MD.o,ND.o,?_,?_⟩,by simp[aG];omega⟩
                .first|trivial|(intro e;exact absurd e (by simp))
                .first|exact Cc.o|(have:=Cc.o;simpa using this)
            ·(have DI:((l0:Int) == (c:Int))=false:=by simp;omega);(have HG:ax (ls.getD c 0=c->((rows.getD i []).getD c 0<0↔(rows.getD k []).getD c 0<0)/\∀a b:Nat,(rows.getD i []).getD c 0=a->(rows.getD k []).getD c 0=b->(D a).testBit b=false):=fun e=>by rw[HL.o]at e;exact absurd e hl);clear UQ;go_wp2;refine⟨⟨c+1,rfl,by go_num,by omega,by first|rfl|trivial,fun c' hc' hq=>?_⟩,by simp[aG];omega⟩;by_cases z:c'=c
             .subst z;exact HG.o hq
             .exact HC.o c' (by omega) hq
           .have yI:¬(c:Int)<256:=(by omega);have SH:ax (G3 (fun i c=>(rows.getD i []).getD c 0) ls D i k):=.inr (fun c' h1 h2=>HC.o c' (by omega) h2);go_wp2;refine⟨⟨mo,D,k+1,rfl,by go_num,by omega,DA.o,sZ.o,fun e=>⟨(tu.o e).1,fun k' hk'=>?_⟩,C7.o⟩,by simp[aG];omega⟩;by_cases z:k'=k
            .rw[z];exact SH.o
            .exact(tu.o e).2 k' (by omega)
         .rw[hb]at Kt;have HB:=aj hb;clear hb;go_wp2;refine⟨⟨mo,D,k+1,rfl,by go_num,by omega,DA.o,sZ.o,fun e=>⟨(tu.o e).1,fun k' hk'=>?_⟩,C7.o⟩,by simp[aG];omega⟩;by_cases z:k'=k
          .rw[z];exact .inl HB.o
          .exact(tu.o e).2 k' (by omega)
        .have j3:¬(k:Int)<i:=(by omega);have yN:k=i:=(by omega);subst yN;clear ap qz NZ da qZ;go_wp2;refine⟨⟨mo,D,k+1,rfl,by go_num,by omega,DA.o,sZ.o,fun e i' k' h1 h2=>?_,C7.o⟩,by simp[aG];omega⟩;by_cases z:i'=k
         .subst z;exact(tu.o e).2 k' h2
         .exact(tu.o e).1 i' k' (by omega) h2
      .have gZ:¬(i:Int)<ae L:=(by omega);have m7:i=ae L:=(by omega);subst m7;go_wp2;refine⟨⟨mo,D,rfl,DA.o,AP.o,fun e i' k' h1 h2=>tu.o e i' k' h1 h2⟩,?_⟩;have:=C7.o;have:=HCC.o;cases mo
       .simp[E3];simp at *;omega
       .simp[E3];simp at *;omega
end
section
variable{c i n tb k:Nat}{D cls:Nat->Nat}{rows:List (List Int)}{r:List Int}{l v:Int}
def aiw(nx:Nat->Nat->Int)(ac:Nat->Int)(N:Nat)(ls:List Nat)(w:ay)(e:Ending)(w':ay):Prop :=
 ∃(vn va:aq) (U:bw),e=.returned (.agg (aY (cI U.cls 256) vn va))/\kz w' vn va U/\vC w.heap.size w' vn va U.N/\VM nx ac N ls U/\U.N<=250/\U.C<=256/\Kp [] w w'
def zl(D:Nat->Nat)(i:Nat)(k l:Int):Prop:=∃n:Nat,l=n/\n<=i/\(n=i\/(D i).testBit n=false)/\∀k':Nat,k<k'->k' < n->(D i).testBit k'=true
theorem zl.start(D:Nat->Nat)(i:Nat):zl D i i i:=⟨i,rfl,aH _,.inl rfl,fun k' h1 h2=>by omega⟩
theorem zl.yes(hk:k<=i)(h:(D i).testBit k=false):zl D i (k-1) k:=⟨k,rfl,hk,.inr h,fun k' h1 h2=>by omega⟩
theorem zl.no(h:zl D i k l)(hb:(D i).testBit k=true):zl D i (k-1) l:=by
 obtain⟨n,h1,h2,h3,h4⟩:=h;refine⟨n,h1,h2,h3,fun k' h5 h6=>?_⟩;by_cases e:k'=k
 .rw[e];exact hb
 .exact h4 k' (by omega) h6
theorem zl.done(h:zl D i (-1) l):Vn D i l:=by
 obtain⟨n,h1,h2,h3,h4⟩:=h;exact⟨n,h1,h2,h3,fun k hk=>h4 k (by omega) hk⟩
theorem mY.congr{T:bw}{ls:List Int}{ws:List Nat}{nx nx':Nat->Nat->Int}(h:mY T ls ws nx n c)(e:∀j k,o7 n c j k->nx' j k=nx j k):mY T ls ws nx' n c:=by
 refine⟨h.first,h.nodup,h.lt,fun j k hp hk=>by rw[e j k hp];exact h.row j k hp hk,h.Ot,fun t h1 h2=>?_,fun s k t u hp hk h1 h2 h3=>?_⟩
 .obtain⟨s,k,a,b,c',d⟩:=h.xQ t h1 h2;exact⟨s,k,a,b,c',by rw[e s k b];exact d⟩
 .rw[e s k hp]at h1;obtain⟨s',k',a,b,c',d⟩:=h.Ay s k t u hp hk h1 h2 h3;exact⟨s',k',a,b,c',by rw[e s' k' a];exact d⟩
def Rn(rows:List (List Int))(n:Nat)(r:List Int)(j k:Nat):Int:=if j=n then r.getD k 0 else(rows.getD j []).getD k 0
theorem aaA:∀j k,o7 n c j k->Rn rows n (r.set c v) j k=Rn rows n r j k:=fun j k hp=>by
 unfold Rn
 by_cases e:j=n
 .rw[aA e,aA e,tJ _ _ _ _ (by rcases hp with z|⟨_,z⟩<;>omega)]
 .rw[az e,az e]
theorem aaz(h:c<ae r):Rn rows n (r.set c v) n c=v:=by
 unfold Rn;rw[aA rfl,qV _ _ _ h]
theorem air(j k:Nat)(hp:o7 (ae rows) c j k):((rows ++ [r]).getD j []).getD k 0=Rn rows (ae rows) r j k:=by
 unfold Rn;by_cases e:j=ae rows
 .rw[aA e,e,qX]
 .rw[az e,qY (by rcases hp with z|⟨z,_⟩<;>omega)]
theorem ahk{w:ay}{v:aq}(hc:c<256)(h:w.heap[tb]?=some (.cells (aY ((cI cls c).setIfInBounds c v) cE cE) 91 (0,0))):w.cell? ⟨tb,c,none⟩=some v:=by
 rw[aF h,uQ (by simp[fU]) _ _ hc,Array.getElem?_setIfInBounds_self_of_lt (by rw[fU];exact hc)]
theorem ahl{w:ay}{v:aq}(hc:c<256)(h:w.heap[tb]?=some (.cells (aY ((cI cls c).setIfInBounds c v) cE cE) 91 (0,0)))(v':aq):(w.setCell ⟨tb,c,none⟩ v').heap[tb]?=some (.cells (aY ((cI cls c).setIfInBounds c v') cE cE) 91 (0,0)):=by
 rw[aQ,aA rfl,h];show some (Obj.cells ((aY ((cI cls c).setIfInBounds c v) cE cE).setIfInBounds c v') _ _)=_;rw[acC (by simp[fU]) _ _ _ hc,Array.setIfInBounds_setIfInBounds]
theorem acE{w:ay}{q:Nat}(hc:c<256)(h:w.heap[tb]?=some (.cells (aY ((cI cls c).setIfInBounds c (.int .i64 (q:Int))) cE cE) 91 (0,0))):w.heap[tb]?=some (.cells (aY (cI (CQ cls c q) (c+1)) cE cE) 91 (0,0)):=by
 rw[aaW _ _ _ hc]at h;exact h
theorem aow(wL w:ay)(n m:Nat)(al cy:Option Addr)(cl vK:Nat)(L bl:List (Nat×Nat))(gs:List Nat)(rows:List (List Int))(Dy cg:Nat)(ls:List Nat)(gi:nQ wL w n m (.slice al (ae L) cl) (.slice cy (ae gs) vK) L bl gs rows)(hm:m<=6)(hN:(ae L)<=250)(pS:0<ae L)(gB:(ae rows)=ae L)(xw:∀j,j<ae rows->(rows.getD j []).length=256)(Co:∀j c,j<ae rows->c<256->-1<=(rows.getD j []).getD c 0/\(rows.getD j []).getD c 0<ae L)(zQ:(ae ls)=256)(yU:w.ownsRow 0 3 1 (.slice (some ⟨Dy,0,none⟩) (ae ls) cg) (ae ls) (dy ls)):aI aB 45 #[.slice al (ae L) cl,.slice cy (ae gs) vK,.slice (some ⟨Dy,0,none⟩) (ae ls) cg] w (aiw (fun i c=>(rows.getD i []).getD c 0) (mZ m L) (ae L) ls w):=by
 obtain⟨g7,adZ,e7,_,_⟩:=gi.read pS;simp only[fy]at e7;obtain⟨rfl,_,rfl⟩:=e7;obtain⟨a8,c8,e8,f8⟩:=jm (eV gi.tw (bU _));obtain⟨NK,rfl,_,_⟩:=f8 (by have:=gi.gl;omega);simp only[fy]at e8;obtain⟨rfl,_,rfl⟩:=e8;have uE:∀j,j<ae L->∀W,Kp [] w W->aI aB 73 #[.agg #[.slice (some ⟨(bl.getD j (0,0)).1,0,none⟩) n n,.slice (some ⟨(bl.getD j (0,0)).2,0,none⟩) m m]] W fun e W'=>e=.returned (.int .i64 (mZ m L j))/\Kp [] W W':=fun j hj W hW=>by
  refine(adH _ n m (L.getD j (0,0)) W ⟨_,_,rfl,hW.keep (gi.bk j hj).1 (by simp),hW.keep (gi.bk j hj).2 (by simp)⟩ (by omega)).mono ?_;rintro _ W' ⟨r,rfl,hr,hk⟩;rw[aen hr (Q4 m L j)];exact⟨rfl,hk⟩
 have ko:=gi.gl;have ig:∀W,(pN 61 (.int .i64 (ae L:Int)) (.int .i64 (ae L:Int))).run aB W=.ok (.slice (some ⟨W.heap.size,0,none⟩) (ae L) (ae L)) (W.alloc (iO (gM (ae L) 0))):=fun W=>Mh (ae L) (by omega) W
 obtain⟨GI,Jz,wG,JJ,JK,AV,MT,Gq⟩:=KZ gi uE gB xw Co zQ yU ko;clear gi uE gB xw Co zQ yU ko;go_enter Tryz.func45,Tryz.ntmps45;go_upto_region 0 with fail;apply fD;refine qT rfl _ rfl _ xD ?_;simp only[Act.put,fx,eX,eU,aM,uA];go_upto_region 1 with fail;apply fD;refine qT rfl _ rfl _ xD ?_;simp only[Act.put,fx,eX,eU,aM,uA];have kW:Kp [] w ((w.alloc rT).alloc rT):=((Kp.refl _ w).alloc _).alloc _;have bR:((w.alloc rT).alloc rT).heap[w.heap.size]?=some rT:=(by rw[aC,aM,az (by omega),aC,aA rfl]);have bT:((w.alloc rT).alloc rT).heap[w.heap.size+1]?=some rT:=(by rw[aC,aM,aA rfl]);have sW:((w.alloc rT).alloc rT).heap.size=w.heap.size+2:=(by rw[aM,aM]);generalize (w.alloc rT).alloc rT=W at *;obtain⟨KW,BR,BT,SW⟩:=dH kW bR bT sW;clear kW bR bT sW;go_wp2_with fail;refine(aiL wL W n m (some ⟨g7,0,none⟩) (some ⟨NK,0,none⟩) cl vK L bl gs rows Dy cg ls (GI.o.kp KW.o) hm hN pS wG.o JJ.o (fun j c h1 h2=>(JK.o j c h1 h2).2) AV.o (aJ MT.o KW.o (by simp))).mono ?_;rintro _ w1 ⟨dv,ds,D,rfl,qZ,da,qu,qz⟩;obtain⟨gd,cd,ed,zz⟩:=da.f.Wh (p:=0) (by omega);subst ed;clear zz;have K1:ax (Kp [] w w1):=KW.o.trans da.k (by simp);have rU:=aj (da.k.keep BR.o (by simp));have uzc:=aj (da.k.keep BT.o (by simp));have sz1:w.heap.size+2<=w1.heap.size:=by have:=da.k.size;have:=SW.o;omega
 obtain⟨sZ,tu,Ee⟩:=cR qu qz qZ;have FA:=aj da.f;clear qu qz qZ da KW BR BT SW;clear W;go_upto_region 4 with fail;have kA:Kp [] w1 (w1.alloc (iO (gM (ae L) 0))):=(Kp.refl _ _).alloc _;have Nt:(w1.alloc (iO (gM (ae L) 0))).heap[w1.heap.size]?=some (iO (gM (ae L) 0)):=(by rw[aC,aA rfl]);have FA2:ax (∀W',Kp [w1.heap.size] (w1.alloc (iO (gM (ae L) 0))) W'->gD W' (.slice (some ⟨gd,0,none⟩) (ae ds) cd) (ae L) ds D):=fun W' hk=>by
  have jk:Kp [] w1 W':=kA.trans hk (by simp);exact FA.o.kp jk (by simp) (by simp)
 have K2:ax (Kp [] w1 (w1.alloc (iO (gM (ae L) 0)))):=kA;generalize w1.alloc (iO (gM (ae L) 0))=W1 at *;have DI:w.heap.size+2<=w1.heap.size:=sz1;have qH:=aj (kA.keep rU.o (by simp));have CY:=aj (kA.keep uzc.o (by simp));have K3:ax (Kp [] w W1):=K1.o.trans kA (by simp);generalize w1.heap.size=lb at *;have Pq:=aj Nt;clear Nt kA FA K1 rU uzc sz1 K2;clear w1;have hTB:∃tb,w.heap.size+1=tb:=⟨_,rfl⟩
 obtain⟨tb,Cq⟩:=hTB;rw[Cq]at CY |-
 have Gy:=aj Cq;have aql:w.heap.size<tb:=(by omega);have aqf:tb<lb:=(by omega);clear Cq;go_wp2_with fail;go_loopw [10] (fun s10 w'=>∃(i:Nat) (ld:List Int),s10=.int .i64 i/\i<=ae L/\w'.heap[lb]?=some (iO ld)/\(ae ld)=ae L/\Kp [lb] W1 w'/\∀i',i' < i->Vn D i' (ld.getD i' 0))
  (fun s10 _=>ae L-(aG s10).toNat)
 case atStart=>exact⟨0,_,rfl,bU _,Pq.o,by simp,Kp.refl _ _,fun i' h=>by omega⟩
 case round =>
  as_aux_lemma =>
  obtain⟨i,ld,rfl,hi,qj,rj,kl,SQ⟩:=hrel;obtain⟨ZU,KL,tc,CX⟩:=dH SQ kl rj qj;by_cases dx:i<ae L
  .have gZ:(i:Int)<ae L:=(by omega);have ci:=jK qj i (by omega);have fi:=rz qj i;clear SQ kl rj qj;go_upto_region 9 with fail;have acR:=aj (tV CX.o i i);have KL1:ax (Kp [lb] W1 (wr.setCell ⟨lb,i,none⟩ (.int .i64 i))):=KL.o.set (by simp) _ _;generalize wr.setCell ⟨lb,i,none⟩ (.int .i64 i)=wr1 at *;clear ci fi CX KL;go_wp2_with fail;go_loopw [11] (fun rK w'=>∃(k:Int) (Ly:List Int),rK=.int .i64 k/\-1<=k/\k<=i/\w'.heap[lb]?=some (iO Ly)/\(ae Ly)=ae L/\Kp [lb] W1 w'/\(∀i',i' < i->Ly.getD i' 0=ld.getD i' 0)/\zl D i k (Ly.getD i 0))
    (fun rK _=>(aG rK+1).toNat)
   case atStart=>exact⟨i,_,rfl,by omega,Int.le_refl _,acR.o,by rw[mq];exact tc.o,KL1.o,fun i' h=>tJ _ _ _ _ (by omega),by rw[qV _ _ _ (by rw[tc.o];exact dx)];exact zl.start D i⟩
   case round =>
    as_aux_lemma =>
    obtain⟨k,Ly,rfl,jt,jk,qj,rj,kl,DM,Xg⟩:=hrel;clear acR KL1;by_cases Xb:0<=k
    ·(obtain⟨k0,rfl⟩:∃k0:Nat,k=k0:=⟨k.toNat,by omega⟩);have fa:=FA2.o wr kl;have qZ:=Ee.o;have ci:=fa.Wg (p:=i) (by omega);have Kt:=gz (fa.row i (by omega)) k0 (by rw[jz];omega);rw[yz _ _ _ (by omega)]at Kt;have Wl:=jK qj i (by omega);have fl0:=rz qj i;have akQ:(i:Int)<ae ds:=(by omega);have akT:(k0:Int)<ae L:=(by omega);have ahD:=aj (tV qj i k0);have CX:=aj qj;have KL2:ax (Kp [lb] W1 (wr.setCell ⟨lb,i,none⟩ (.int .i64 k0))):=kl.set (by simp) _ _;obtain⟨KL,HOLD,ZZ,P7⟩:=dH kl DM Xg rj;clear fa qj kl DM Xg rj qZ;generalize ds.getD i 0=di at *;cases hb:(D i).testBit k0
     .rw[hb]at Kt;have HB:=aj hb;clear hb;go_wp2;exact⟨⟨(k0:Int)-1,_,by go_num,by omega,by omega,ahD.o,by rw[mq];exact P7.o,KL2.o,fun i' h=>by rw[tJ _ _ _ _ (by omega)];exact HOLD.o i' h,by rw[qV _ _ _ (by rw[P7.o];exact dx)];exact zl.yes (by omega) HB.o⟩,by simp[aG]⟩
     .rw[hb]at Kt;have HB:=aj hb;clear hb;go_wp2;exact⟨⟨(k0:Int)-1,Ly,by go_num,by omega,by omega,CX.o,P7.o,KL.o,HOLD.o,ZZ.o.no HB.o⟩,by simp[aG]⟩
    .have yN:k=-1:=(by omega);subst yN;obtain⟨KL,HOLD,ZZ,P7,CX⟩:=jd kl DM Xg rj qj;clear qj kl DM Xg rj;go_wp2;refine⟨⟨i+1,Ly,by go_num,by omega,CX.o,P7.o,KL.o,fun i' h=>?_⟩,by simp[aG];omega⟩;by_cases e:i'=i
     .rw[e];exact ZZ.o.done
     .rw[HOLD.o i' (by omega)];exact ZU.o i' (by omega)
  .have gZ:¬(i:Int)<ae L:=(by omega);have m7:i=ae L:=(by omega);clear SQ kl rj qj;(have ZV:ax (∀i',i' < (ae L)->Vn D i' (ld.getD i' 0)):=fun i' h=>ZU.o i' (by omega));have K4:ax (Kp [] w wr):=K3.o.trans KL.o (by simp;omega);have nP:=aj (KL.o.keep qH.o (by simp;omega));have Pw:=aj (KL.o.keep CY.o (by simp;omega));clear ZU KL K3 qH CY Pq FA2 m7 hi dx;generalize wr=W2 at *;go_upto_region 15 with fail;go_wp2_with fail;have SZ2:ax (lb<W2.heap.size):=aE CX.o;go_loopw [14,12,13] (fun FY s12 FX w'=>∃(c:Nat) (av:Option Addr) (cv:Nat) (aS:List Nat) (cls:Nat->Nat),FY=.int .i64 c/\s12=.int .i64 (ae aS)/\FX=.slice av (ae aS) cv/\c<=256/\(ae aS)<=c/\ze (fun i c=>(rows.getD i []).getD c 0) ld (ae L) c aS cls/\w'.heap[tb]?=some (.cells (aY (cI cls c) cE cE) 91 (0,0))/\w'.ownsRow W2.heap.size 3 1 (.slice av (ae aS) cv) (ae aS) (dy aS)/\Kp [tb] W2 w')
    (fun FY _ _ _=>256-(aG FY).toNat)
   case atStart=>exact⟨0,none,0,[],fun _=>0,rfl,rfl,rfl,by omega,by simp,ze.start _,by rw[Rv];exact Pw.o,j9 _ _ _ _,Kp.refl _ _⟩
   case round =>
    as_aux_lemma =>
    clear Pw;obtain⟨c,av,cv,aS,cls,rfl,rfl,rfl,hc,Xu,cm,bt,ow,kt⟩:=hrel;by_cases dw:c<256
    .have yI:(c:Int)<256:=(by omega);have ct:wr.cell? ⟨tb,c,none⟩=some (.int .i64 0):=by
      rw[aF bt,uQ (fU _ _) _ _ dw,Bu _ _ _ dw,az (by omega)];rfl
     have ft:=cM bt c;obtain⟨CM,BT,OW,KT⟩:=dH cm bt ow kt;clear cm bt ow kt;go_upto_region 20 with fail;have bt1:(wr.setCell ⟨tb,c,none⟩ (.int .i64 (-1))).heap[tb]?=some (.cells (aY ((cI cls c).setIfInBounds c (.int .i64 (-1))) cE cE) 91 (0,0)):=by
      rw[aQ,aA rfl,BT.o];show some (Obj.cells ((aY (cI cls c) cE cE).setIfInBounds c _) _ _)=_;rw[acC (fU _ _) _ _ _ dw]
     have kt1:Kp [tb] W2 (wr.setCell ⟨tb,c,none⟩ (.int .i64 (-1))):=KT.o.set (by simp) _ _;have otb:∀g,aK (.slice av (ae aS) cv)=some g->g≠tb:=fun g hg e=>by
      have:=(eS OW.o hg).1;have:=SZ2.o;omega
     have VD:=aj otb;have ow1:(wr.setCell ⟨tb,c,none⟩ (.int .i64 (-1))).ownsRow W2.heap.size 3 1 (.slice av (ae aS) cv) (ae aS) (dy aS):=aJ OW.o (show Kp [tb] wr (wr.setCell ⟨tb,c,none⟩ (.int .i64 (-1))) from(Kp.refl _ _).set (by simp) _ _) (fun g hg hm=>VD.o g hg (by simpa using hm));generalize wr.setCell ⟨tb,c,none⟩ (.int .i64 (-1))=wB at *;obtain⟨uzc,KT1,OW1⟩:=cR bt1 kt1 ow1;clear bt1 kt1 ow1 otb ct ft BT KT OW;clear wr;go_wp2_with fail;go_loopw [15] (fun wh w'=>∃(k:Nat) (v:Int),wh=.int .i64 k/\k<=ae aS/\w'.heap[tb]?=some (.cells (aY ((cI cls c).setIfInBounds c (.int .i64 v)) cE cE) 91 (0,0))/\Kp [tb] wB w'/\((v=-1/\∀q,q<k->¬pZ (fun i c=>(rows.getD i []).getD c 0) ld (ae L) c (aS.getD q 0))\/(∃q:Nat,v=q/\q<ae aS/\pZ (fun i c=>(rows.getD i []).getD c 0) ld (ae L) c (aS.getD q 0)/\∀q',q' < q->¬pZ (fun i c=>(rows.getD i []).getD c 0) ld (ae L) c (aS.getD q' 0))))
      (fun wh _=>ae aS-(aG wh).toNat)
     case atStart=>exact⟨0,-1,rfl,bU _,uzc.o,Kp.refl _ _,.inl ⟨rfl,fun q h=>by omega⟩⟩
     case round =>
      as_aux_lemma =>
      obtain⟨k,v,rfl,hk,bt,kb,hv⟩:=hrel;have ctb:=ahk dw bt;have ftb:=cM bt c;have wM:ax (Kp [] w wr):=(K4.o.trans KT1.o (by simp;omega)).trans kb (by simp;omega);have KBL:ax (wr.heap[lb]?=some (iO ld)):=kb.keep (KT1.o.keep CX.o (by simp;omega)) (by simp;omega);have Qr:ax (wr.ownsRow W2.heap.size 3 1 (.slice av (ae aS) cv) (ae aS) (dy aS)):=aJ OW1.o kb (fun g hg hm=>VD.o g hg (by simpa using hm));have Vm:ax (Kp [tb] W2 wr):=KT1.o.trans kb (by simp);have BT:=aj bt;have KB:=aj kb;clear bt kb;rcases hv with⟨rfl,vO⟩|⟨q,rfl,hq,pT,abr⟩
      .have uu:=aj vO;clear vO;by_cases dI:k<ae aS
       .have j3:(k:Int)<ae aS:=(by omega);generalize wr=wr4 at *;go_wp2_with fail;go_loopw [16,17] (fun s16 s17 w'=>∃i:Nat,s16=.bool true/\s17=.int .i64 i/\i<=ae L/\Kp [] wr4 w'/\∀i',i' < i->((rows.getD i' []).getD c 0<0↔(rows.getD i' []).getD (aS.getD k 0) 0<0)/\(0<=(rows.getD i' []).getD c 0->ld.getD ((rows.getD i' []).getD c 0).toNat 0=ld.getD ((rows.getD i' []).getD (aS.getD k 0) 0).toNat 0))
         (fun _ s17 _=>ae L-(aG s17).toNat)
        case atStart=>exact⟨0,rfl,rfl,bU _,Kp.refl _ _,fun i' h=>by omega⟩
        case round =>
         as_aux_lemma =>
         clear ctb ftb;obtain⟨i,rfl,rfl,hi,k5,eY⟩:=hrel;have K5:=aj k5;have ZM:=aj eY;clear eY;have Ht:=k5.keep BT.o (by simp);have aee:=ahk dw Ht;have aes:=cM Ht c;have Vl:ax (Kp [tb] wB wr):=KB.o.trans k5 (by simp);by_cases dx:i<ae L
         .have gZ:(i:Int)<ae L:=(by omega);have xg:=GI.o.kp (wM.o.trans k5 (by simp));have gB:=wG.o;have ko:=Gq.o;have apM:(i:Int)<ae gs:=(by omega);have ri:=xg.Yr (j:=i) (by omega);have Up:=eV (aJ Qr.o k5 (by simp)) (bU _);obtain⟨_,_,ea,eP⟩:=qB Up;obtain⟨ga,lj,ck⟩:=eP k dI;simp only[fy]at ea;rw[<-ea.1]at lj;subst lj;(have Th:aS.getD k 0<256:=by have:=(CM.o.xN k dI).1;omega);have xi:=jK (xg.rr i (by omega)).2 c (by have:=JJ.o i (by omega);omega);have xk:=jK (xg.rr i (by omega)).2 (aS.getD k 0) (by have:=JJ.o i (by omega);omega);have RX:=aj (JK.o i c (by omega) dw);have RY:=aj (JK.o i (aS.getD k 0) (by omega) Th);have qj:=k5.keep KBL.o (by simp);have rj:=tc.o;have abC:((aS.getD k 0:Nat):Int)<256:=(by omega);clear Up ea eP k5 Ht xg ko;(have Ii:∃x y r0 KD,(rows.getD i []).getD c 0=x/\(rows.getD i []).getD (aS.getD k 0) 0=y/\aS.getD k 0=r0/\gs.getD i 0=KD:=⟨_,_,_,_,rfl,rfl,rfl,rfl⟩);obtain⟨x,y,r0,KD,hx,hy,xu,qx⟩:=Ii;rw[hx]at xi RX;rw[hy,xu]at xk;rw[hy]at RY;rw[xu]at ck abC;rw[qx]at ri xi xk;obtain⟨HX,HY,HR0⟩:=cR hx hy xu;clear hx hy xu qx Th;have Ip:=RX.o;have Xy:=RY.o;by_cases yT:x<0
          .by_cases mz:y<0
           .have HG:ax (((rows.getD i []).getD c 0<0↔(rows.getD i []).getD (aS.getD k 0) 0<0)/\(0<=(rows.getD i []).getD c 0->ld.getD ((rows.getD i []).getD c 0).toNat 0=ld.getD ((rows.getD i []).getD (aS.getD k 0) 0).toNat 0)):=⟨by rw[HX.o,HY.o];exact⟨fun _=>mz,fun _=>yT⟩,fun h=>by rw[HX.o]at h;omega⟩;have xC:¬(0<=x):=(by omega);clear aee aes qj Ip Xy;go_upto_region 27 with fail;go_region;go_upto_region 28 with fail;go_region;go_wp2;refine⟨⟨i+1,rfl,by go_num,by omega,K5.o.drew.drew,fun i' h=>?_⟩,by simp[aG];omega⟩;by_cases e:i'=i
            .rw[e];exact HG.o
            .exact ZM.o i' (by omega)
           .have PL:ax (¬pZ (fun i c=>(rows.getD i []).getD c 0) ld (ae L) c (aS.getD k 0)):=fun h=>by
             have:=(h i dx).1;simp only[HX.o,HY.o]at this;exact mz (this.1 yT)
            clear qj Ip Xy;go_upto_region 27 with fail;go_region;go_upto_region 28 with fail;go_region;go_wp2;refine⟨⟨k+1,-1,by go_num,by omega,(show wr.heap[tb]?=_ from K5.o.keep BT.o (by simp)),Vl.o.drew.drew,.inl ⟨rfl,fun q h=>?_⟩⟩,by simp[aG];omega⟩;by_cases e:q=k
            .rw[e];exact PL.o
            .exact uu.o q (by omega)
          .by_cases mz:y<0
           .have PL:ax (¬pZ (fun i c=>(rows.getD i []).getD c 0) ld (ae L) c (aS.getD k 0)):=fun h=>by
             have:=(h i dx).1;simp only[HX.o,HY.o]at this;exact yT (this.2 mz)
            clear qj Ip Xy;go_upto_region 27 with fail;go_region;go_upto_region 28 with fail;go_region;go_wp2;refine⟨⟨k+1,-1,by go_num,by omega,(show wr.heap[tb]?=_ from K5.o.keep BT.o (by simp)),Vl.o.drew.drew,.inl ⟨rfl,fun q h=>?_⟩⟩,by simp[aG];omega⟩;by_cases e:q=k
            .rw[e];exact PL.o
            .exact uu.o q (by omega)
           ·(obtain⟨a,rfl⟩:∃a:Nat,x=a:=⟨x.toNat,by omega⟩);(obtain⟨b,rfl⟩:∃b:Nat,y=b:=⟨y.toNat,by omega⟩);have la:=jK qj a (by omega);have lb2:=jK qj b (by omega);have apy:(a:Int)<ae L:=(by omega);have akK:(b:Int)<ae L:=(by omega);have xC:(0:Int)<=(a:Int):=(by omega);(have akN:∃p q,ld.getD a 0=p/\ld.getD b 0=q:=⟨_,_,rfl,rfl⟩);obtain⟨p,q,hp,hq⟩:=akN;rw[hp]at la;rw[hq]at lb2;have HP:=aj hp;have HQ:=aj hq;clear qj Ip Xy hp hq;by_cases zT:p=q
            .have HG:ax (((rows.getD i []).getD c 0<0↔(rows.getD i []).getD (aS.getD k 0) 0<0)/\(0<=(rows.getD i []).getD c 0->ld.getD ((rows.getD i []).getD c 0).toNat 0=ld.getD ((rows.getD i []).getD (aS.getD k 0) 0).toNat 0)):=⟨by rw[HX.o,HY.o];exact⟨fun h=>absurd h yT,fun h=>absurd h mz⟩,fun _=>by rw[HX.o,HY.o,mj,mj,HP.o,HQ.o];exact zT⟩;(have ak9:(p != q)=false:=by simp[zT]);clear aee aes zT;go_upto_region 27 with fail;go_region;go_upto_region 28 with fail;go_region;go_wp2;refine⟨⟨i+1,rfl,by go_num,by omega,K5.o.drew.drew,fun i' h=>?_⟩,by simp[aG];omega⟩;by_cases e:i'=i
             .rw[e];exact HG.o
             .exact ZM.o i' (by omega)
            .have PL:ax (¬pZ (fun i c=>(rows.getD i []).getD c 0) ld (ae L) c (aS.getD k 0)):=fun h=>by
              have:=(h i dx).2 (by show 0<=(rows.getD i []).getD c 0;rw[HX.o];exact xC);simp only[HX.o,HY.o,mj,HP.o,HQ.o]at this;exact zT this
             (have ak9:(p != q)=true:=by simp[zT]);clear zT;go_upto_region 27 with fail;go_region;go_upto_region 28 with fail;go_region;go_wp2;refine⟨⟨k+1,-1,by go_num,by omega,(show wr.heap[tb]?=_ from K5.o.keep BT.o (by simp)),Vl.o.drew.drew,.inl ⟨rfl,fun q h=>?_⟩⟩,by simp[aG];omega⟩;by_cases e:q=k
             .rw[e];exact PL.o
             .exact uu.o q (by omega)
         .have gZ:¬(i:Int)<ae L:=(by omega);(have oI:ax (pZ (fun i c=>(rows.getD i []).getD c 0) ld (ae L) c (aS.getD k 0)):=fun i' h=>ZM.o i' (by omega));have Zp:=aj (ahl dw Ht (.int .i64 k));have KT6:ax (Kp [tb] wB (wr.setCell ⟨tb,c,none⟩ (.int .i64 k))):=Vl.o.set (by simp) _ _;clear k5 Ht;go_wp2;refine⟨⟨k+1,k,by go_num,by omega,Zp.o,KT6.o,.inr ⟨k,rfl,dI,oI.o,uu.o⟩⟩,by simp[aG];omega⟩
       .have j3:¬(k:Int)<ae aS:=(by omega);have yN:k=ae aS:=(by omega);subst yN;have BT7:=aj (ahl dw BT.o (.int .i64 (ae aS:Nat)));have OW7:ax ((wr.setCell ⟨tb,c,none⟩ (.int .i64 (ae aS:Nat))).ownsRow W2.heap.size 3 1 (.slice av (ae aS) cv) (ae aS) (dy aS)):=aJ Qr.o (show Kp [tb] wr (wr.setCell ⟨tb,c,none⟩ (.int .i64 (ae aS:Nat))) from(Kp.refl _ _).set (by simp) _ _) (fun g hg hm=>VD.o g hg (by simpa using hm));have KT7:ax (Kp [tb] W2 (wr.setCell ⟨tb,c,none⟩ (.int .i64 (ae aS:Nat)))):=Vm.o.set (by simp) _ _;clear KB wM KBL;go_upto_region 35 with fail;generalize wr.setCell ⟨tb,c,none⟩ (.int .i64 (ae aS:Nat))=w7 at *;clear ctb ftb BT Qr Vm;(go_wp2_with (at_builtin;go_must (refine zD rfl _ _ rfl (.slice av (ae aS) cv) (.slice (some ⟨w7.heap.size,0,none⟩) 1 1) aS [c] rfl rfl ((eV OW7.o (bU _)).alloc _) (I9 (by rw[aC,aA rfl]) (bU _)) (by simp;omega) ?_);intro v5 w5 eE jO jY vY;obtain⟨a5,c5,rfl,_⟩:=jm eE;have K5:ax (Kp [tb] W2 w5):=(KT7.o.alloc _).grown jO (fun k hk=>.inr (eS OW7.o hk).1);have BT8:ax (w5.heap[tb]?=some (.cells (aY ((cI cls c).setIfInBounds c (.int .i64 (ae aS:Nat))) cE cE) 91 (0,0))):=((Kp.refl (aK (.slice av (ae aS) cv)).toList w7).alloc _ |>.grown jO (fun k hk=>.inl (by simp[hk]))).keep BT7.o (fun hm=>VD.o tb (by simpa using hm) rfl);have O5:ax (w5.ownsRow W2.heap.size 3 1 (.slice a5 (aS ++ [c]).length c5) (aS ++ [c]).length (dy (aS ++ [c]))):=I5 eE (fun g hg=>by rcases jY with q|q;(rw[q]at hg;exact(eS OW7.o hg).1);(rw[q]at hg;simp only[aV]at hg;have:=KT7.o.size;rw[aM]at hg;omega));clear eE jO jY vY));go_wp2;refine⟨⟨c+1,a5,c5,aS ++ [c],CQ cls c (ae aS),by go_num,by first|(simp;done)|go_num,by first|(simp;done)|rfl,by omega,by simp;omega,CM.o.new uu.o,acE dw BT8.o,O5.o,K5.o⟩,by simp[aG];omega⟩
      .have HQ:=aj hq;have oI:=aj pT;have apk:=aj abr;have hq0:¬(q:Int)<0:=(by omega);have CM2:ax (ze (fun i c=>(rows.getD i []).getD c 0) ld (ae L) (c+1) aS (CQ cls c q)):=CM.o.old hq pT abr;clear hq pT abr;by_cases dI:k<ae aS
       .have j3:(k:Int)<ae aS:=(by omega);go_wp2;exact⟨⟨c+1,av,cv,aS,CQ cls c q,by go_num,rfl,rfl,by omega,by omega,CM2.o,acE dw BT.o,Qr.o,Vm.o⟩,by simp[aG];omega⟩
       .have j3:¬(k:Int)<ae aS:=(by omega);go_wp2;exact⟨⟨c+1,av,cv,aS,CQ cls c q,by go_num,rfl,rfl,by omega,by omega,CM2.o,acE dw BT.o,Qr.o,Vm.o⟩,by simp[aG];omega⟩
    .have yI:¬(c:Int)<256:=(by omega);have Sv:c=256:=(by omega);subst Sv;have CM:=aj cm;have BT:=aj bt;have KR:ax (∀W',Kp [tb] wr W'->Kp [] w W'/\W'.heap[lb]?=some (iO ld)/\W'.ownsRow 0 3 1 (.slice av (ae aS) cv) (ae aS) (dy aS)/\W'.heap[w.heap.size]?=some rT):=fun W' hk=>by
      refine⟨(K4.o.trans kt (by simp;omega)).trans hk (by simp;omega),hk.keep (kt.keep CX.o (by simp;omega)) (by simp;omega),aJ (eV ow (bU _)) hk (fun g hg hm=>?_),hk.keep (kt.keep nP.o (by simp;omega)) (by simp;omega)⟩;have q1:=(eS ow hg).1;have q2:=SZ2.o;rw[bQ.1 hm]at q1;omega
     (have hR0:0<ae aS:=by have:=(cm.lt 0 (by omega)).1;omega);obtain⟨ar,cr,er,fr⟩:=jm (eV ow (bU _));obtain⟨ga,rfl,zz1,zz2⟩:=fr hR0;simp only[fy]at er;obtain⟨rfl,_,rfl⟩:=er;clear zz1 zz2 fr;have ae4:ld.getD 0 0=0:=by
      obtain⟨q,h1,h2,_⟩:=ZV.o 0 pS;rw[h1];omega
     have Wl:wr.cell? ⟨lb,0,none⟩=some (.int .i64 0):=(by rw[jK (KR.o wr (Kp.refl _ _)).2.1 0 (by rw[tc.o];exact pS),ae4]);have apv:(0:Int)<ae L:=(by omega);have apV:tb<wr.heap.size:=aE bt;have abB:ax (ae aS<=256):=Xu;clear cm bt ow kt K4 CX nP Xu hc dw;generalize wr=W3 at *;go_upto_region 38 with fail;have K8:ax (Kp [] W3 ((W3.alloc (.cells #[.int .i64 0] 3 (0,0))).alloc (iO (gM (ae L) 0)))):=((Kp.refl _ _).alloc _).alloc _;have Zl:ax (((W3.alloc (.cells #[.int .i64 0] 3 (0,0))).alloc (iO (gM (ae L) 0))).heap[W3.heap.size]?=some (.cells #[.int .i64 0] 3 (0,0))):=by
      show _=_;rw[aC,aM,az (by omega),aC,aA rfl]
     have Zk:ax (((W3.alloc (.cells #[.int .i64 0] 3 (0,0))).alloc (iO (gM (ae L) 0))).heap[W3.heap.size+1]?=some (iO (gM (ae L) 0))):=by
      show _=_;rw[aC,aM,aA rfl]
     generalize (W3.alloc (.cells #[.int .i64 0] 3 (0,0))).alloc (iO (gM (ae L) 0))=W4 at *;(have akA:∃ob nb,W3.heap.size=ob/\W3.heap.size+1=nb:=⟨_,_,rfl,rfl⟩);obtain⟨ob,nb,Xo,sG⟩:=akA;rw[Xo]at Zl;rw[sG]at Zk;rw[sG,Xo];have HOB:=aj Xo;have HNB:=aj sG;clear Xo sG Wl;go_wp2_with fail;go_loopw [22] (fun s22 w'=>∃(i:Nat) (nums:List Int),s22=.int .i64 i/\i<=ae L/\w'.heap[nb]?=some (iO nums)/\(ae nums)=ae L/\Kp [nb] W4 w'/\∀i',i' < i->nums.getD i' 0=-1)
      (fun s22 _=>ae L-(aG s22).toNat)
     case atStart=>exact⟨0,_,rfl,bU _,Zk.o,by simp,Kp.refl _ _,fun i' h=>by omega⟩
     case round =>
      as_aux_lemma =>
      obtain⟨i,nums,rfl,hi,bn,tT,kn,zR⟩:=hrel;by_cases dx:i<ae L
      .have gZ:(i:Int)<ae L:=(by omega);have cn:=jK bn i (by omega);have fn:=rz bn i;have BN:=aj (tV bn i (-1));have KN:ax (Kp [nb] W4 (wr.setCell ⟨nb,i,none⟩ (.int .i64 (-1)))):=kn.set (by simp) _ _;have ML:=aj tT;have ahW:=aj zR;clear bn tT kn zR;go_wp2;refine⟨⟨i+1,_,by go_num,by omega,BN.o,by rw[mq];exact ML.o,KN.o,fun i' h=>?_⟩,by simp[aG];omega⟩;by_cases e:i'=i
       .rw[e,qV _ _ _ (by rw[ML.o];exact dx)]
       .rw[tJ _ _ _ _ (by omega)];exact ahW.o i' (by omega)
      .have gZ:¬(i:Int)<ae L:=(by omega);have m7:i=ae L:=(by omega);subst m7;have k9:Kp [] W3 wr:=K8.o.trans kn (by simp;have:=HNB.o;omega);have hq:=KR.o wr (k9.mono (by simp));have Wl:wr.cell? ⟨lb,0,none⟩=some (.int .i64 0):=(by rw[jK hq.2.1 0 (by rw[tc.o];exact pS),ae4]);have cn:=jK bn 0 (by omega);have fn:=rz bn 0;have OR:ax (nY W3 (wr.setCell ⟨nb,0,none⟩ (.int .i64 0)) tb nb (cI cls 256) (.slice (some ⟨ob,0,none⟩) [0].length 1) cE cE (ae aS) [] [] [] [0] (nums.set 0 0)):=by
        have ho:=HOB.o;have hn:=HNB.o;have bo:wr.heap[ob]?=some (.cells #[.int .i64 0] 3 (0,0)):=kn.keep Zl.o (by simp;omega);have h0:nY W3 wr tb nb (cI cls 256) (.slice (some ⟨ob,0,none⟩) [0].length 1) cE cE (ae aS) [] [] [] [0] nums:=by
         refine⟨k9.mono (by simp),⟨fU _ _,k9.keep BT.o (by simp),j9 _ _ _ _,j9 _ _ _ _,rfl,fun i hi=>by simp at hi,fun g hg=>by simp at hg⟩,I9 bo (bU _),bn,by omega,fun g hg=>?_,fun g hg=>?_,?_,fun g hg=>?_⟩
         .simp only[aK,aV]at hg;omega
         .simp[jf,aK,cE]at hg;exact .inl hg
         .simp only[aK,ne_eq,aV];omega
         .simp[jf,aK,cE]at hg;subst hg;refine⟨by omega,?_⟩;simp only[aK,ne_eq,aV];omega
        exact h0.agZ 0 0
       have NI:ax (GW (ae L) [0] (nums.set 0 0)):=by
        refine⟨by rw[mq];exact tT,fun a ha hm=>?_,fun i a hi=>?_,fun a ha=>?_⟩
        .rw[tJ _ _ _ _ (by simp at hm;omega)];exact zR a ha
        .have hl:=(fB.1 hi).1;simp only[iq]at hl;have e:i=0:=(by omega);subst e;simp only[List.getElem?_cons_zero,aV]at hi;rw[<-hi,qV _ _ _ (by omega)];rfl
        .rw[bQ.1 ha];exact pS
       have WI:ax (mY ⟨cls,fun s k=>(rows.getD s []).getD (aS.getD k 0) 0,mZ m L,ae L,ae aS⟩ ld [0] (fun j k=>(([]:List (List Int)).getD j []).getD k 0) 0 0):=by
        refine⟨rfl,by simp,fun s hs=>by rw[bQ.1 hs];exact pS,fun j k hp=>?_,fun i h1 h2=>?_,fun t h1 h2=>?_,fun s k t u hp=>?_⟩
        .rcases hp with z|⟨_,z⟩<;>omega
        .simp at h2;omega
        .simp at h2;omega
        .rcases hp with z|⟨_,z⟩<;>omega
       clear bn kn zR k9 hq K8 Zl Zk;go_upto_region 43 with fail;generalize wr.setCell ⟨nb,0,none⟩ (.int .i64 0)=W5 at *;generalize nums.set 0 0=amK at *;clear Wl cn fn tT;clear wr;(have apX:∀W,(pN 61 (.int .i64 (ae aS:Int)) (.int .i64 (ae aS:Int))).run aB W=.ok (.slice (some ⟨W.heap.size,0,none⟩) (ae aS) (ae aS)) (W.alloc (iO (gM (ae aS) 0))):=fun W=>Mh (ae aS) (by have:=abB.o;omega) W);clear ig;go_wp2_with fail;go_loopw [23,20] (fun s23 s20 w'=>∃(nn:Nat) (oa:Option Addr) (oc:Nat) (vn va:aq) (gs':List Nat) (rows':List (List Int)) (aL:List Int) (ws:List Nat) (nums:List Int),s23=.int .i64 nn/\s20=.slice oa (ae ws) oc/\nn<=ae ws/\(ae gs')=nn/\(ae aL)=nn/\nY W3 w' tb nb (cI cls 256) (.slice oa (ae ws) oc) vn va (ae aS) gs' rows' aL ws nums/\GW (ae L) ws nums/\mY ⟨cls,fun s k=>(rows.getD s []).getD (aS.getD k 0) 0,mZ m L,ae L,ae aS⟩ ld ws (fun j k=>(rows'.getD j []).getD k 0) nn 0/\∀j,j<nn->aL.getD j 0=mZ m L (ws.getD j 0))
        (fun s23 _ _=>ae L-(aG s23).toNat)
       case atStart=>exact⟨0,some ⟨ob,0,none⟩,1,cE,cE,[],[],[],[0],amK,rfl,rfl,by simp,rfl,rfl,OR.o,NI.o,WI.o,fun j h=>by omega⟩
       case round =>
        as_aux_lemma =>
        clear OR NI WI;obtain⟨nn,oa,oc,vn,va,gs',rows',aL,ws,nums,rfl,rfl,rm,WZ,pT,or,ni,wi,Ie⟩:=hrel;have zO:(ae ws)<=ae L:=UL wi.nodup wi.lt;by_cases tT:nn<ae ws
        .have Xn:(nn:Int)<ae ws:=(by omega);have rb1:W3.heap.size<=wr.heap.size:=or.sz;(have rb2:wr.heap.size∉jf tb vn va gs':=fun hm=>by have:=or.tab.lt _ hm;omega);(have rb3:wr.heap.size≠nb:=fun e=>by have:=aE or.num;omega);(have rb4:aK (.slice oa (ae ws) oc)≠some wr.heap.size:=fun e=>by have:=(or.ord.lt _ e).2;omega);obtain⟨OR,NI,WI,C6⟩:=dH or ni wi Ie;have PV:=aj WZ;have oI:=aj pT;clear or ni wi Ie WZ pT;go_upto_region 47 with fail;have OR1:=aj (OR.o.kp ((Kp.refl [] wr).alloc (iO (gM (ae aS) 0))));(have rU:ax ((wr.alloc (iO (gM (ae aS) 0))).heap[wr.heap.size]?=some (iO (gM (ae aS) 0))):=by show _=_;rw[aC,aA rfl]);generalize wr.alloc (iO (gM (ae aS) 0))=wA at *;generalize wr.heap.size=rb at *;obtain⟨VJ,VK,QL,RB4⟩:=dH rb1 rb2 rb3 rb4;clear rb1 rb2 rb3 rb4 OR;clear wr;go_wp2_with fail;go_loopw [25,20] (fun s25 s20 w'=>∃(k:Nat) (oa:Option Addr) (oc:Nat) (fS:List Nat) (nums:List Int) (r:List Int),s25=.int .i64 k/\s20=.slice oa (ae fS) oc/\k<=ae aS/\nn<ae fS/\(∀j,j<nn->aL.getD j 0=mZ m L (fS.getD j 0))/\nY W3 w' tb nb (cI cls 256) (.slice oa (ae fS) oc) vn va (ae aS) gs' rows' aL fS nums/\w'.heap[rb]?=some (iO r)/\(ae r)=ae aS/\aK (.slice oa (ae fS) oc)≠some rb/\GW (ae L) fS nums/\mY ⟨cls,fun s k=>(rows.getD s []).getD (aS.getD k 0) 0,mZ m L,ae L,ae aS⟩ ld fS (Rn rows' nn r) nn k)
          (fun s25 _ _=>ae aS-(aG s25).toNat)
         case atStart=>exact⟨0,oa,oc,ws,nums,_,rfl,rfl,bU _,tT,C6.o,OR1.o,rU.o,by simp,RB4.o,NI.o,WI.o.congr (fun j k hp=>by unfold Rn;rw[az (by rcases hp with z|⟨_,z⟩<;>omega)])⟩
         case round =>
          as_aux_lemma =>
          clear OR1 rU NI WI RB4 C6 tT Xn zO rm;obtain⟨k,oa,oc,fS,nums,r,rfl,rfl,hk,rm,Ie,or,br,xw,ho4,ni,wi⟩:=hrel;have zO:(ae fS)<=ae L:=UL wi.nodup wi.lt;have ap7:(ae aS)<=256:=abB.o;obtain⟨OR,NI,WI,C6,BR,iX,Gw⟩:=DG or ni wi Ie br xw ho4;by_cases dI:k<ae aS
          .have j3:(k:Int)<ae aS:=(by omega);have ak4:(nn:Int)<ae fS:=(by omega);obtain⟨_,_,eo,Tc⟩:=qB or.ord;obtain⟨go,Sb,co⟩:=Tc nn rm;simp only[fy]at eo;rw[<-eo.1]at Sb;subst Sb;have Tj:fS.getD nn 0<ae L:=wi.lt _ (by rw[aO,bD rm];exact nE rm);obtain⟨kw,blk,Up,Wc⟩:=KR.o wr or.k;have xg:=GI.o.kp kw;have gB:=wG.o;have ko:=Gq.o;have ri:=xg.Yr (j:=fS.getD nn 0) (by omega);obtain⟨_,_,ea,eP⟩:=qB Up;obtain⟨ga',lj,ck⟩:=eP k dI;simp only[fy]at ea;rw[<-ea.1]at lj;simp only[aV,oD,and_true]at lj;rw[<-lj]at ck;(have Th:aS.getD k 0<256:=by have:=(CM.o.xN k dI).1;omega);have xk:=jK (xg.rr (fS.getD nn 0) (by omega)).2 (aS.getD k 0) (by have:=JJ.o (fS.getD nn 0) (by omega);omega);have RX:=aj (JK.o (fS.getD nn 0) (aS.getD k 0) (by omega) Th);have Kw:=jK br k (by omega);have RQ:=rz br k;have abC:((aS.getD k 0:Nat):Int)<256:=(by omega);have alb:((fS.getD nn 0:Nat):Int)<ae gs:=(by omega);(have Ii:∃x r0 s0 KD,(rows.getD (fS.getD nn 0) []).getD (aS.getD k 0) 0=x/\aS.getD k 0=r0/\fS.getD nn 0=s0/\gs.getD (fS.getD nn 0) 0=KD:=⟨_,_,_,_,rfl,rfl,rfl,rfl⟩);obtain⟨x,r0,s0,KD,hx,xu,DN,qx⟩:=Ii;rw[hx]at xk RX;rw[xu]at ck xk abC;rw[DN]at co alb ri;rw[DN]at qx;rw[qx]at ri;rw[show gs.getD (fS.getD nn 0) 0=KD by rw[DN];exact qx]at xk;obtain⟨HX,HS0,ahO⟩:=cR hx DN blk;clear eo Tc Up Wc ea eP lj hx xu DN qx Th Tj xg ko gB kw blk or ni wi Ie br xw ho4;have Ip:=RX.o;by_cases yT:x<0
           .have J4:=aj ((OR.o.kp (Kp.refl [] wr).drew).other VJ.o VK.o QL.o Gw.o k (.int .i64 (-1)));have qH:ax ((wr.drew.setCell ⟨rb,k,none⟩ (.int .i64 (-1))).heap[rb]?=some (iO (r.set k (-1)))):=tV (show wr.drew.heap[rb]?=_ from BR.o) k (-1);have WI2:ax (mY ⟨cls,fun s k=>(rows.getD s []).getD (aS.getD k 0) 0,mZ m L,ae L,ae aS⟩ ld fS (Rn rows' nn (r.set k (-1))) nn (k+1)) :=
             WI.o.eJ rm (by unfold Aa;rw[aA (show(rows.getD (fS.getD nn 0) []).getD (aS.getD k 0) 0=-1 by rw[HX.o];omega)]) (aaz (by rw[iX.o];exact dI)) aaA
            clear Ip;go_upto_region 50 with fail;go_region;go_wp2;exact⟨⟨k+1,some ⟨go,0,none⟩,oc,fS,nums,_,by go_num,rfl,by omega,rm,C6.o,J4.o,qH.o,by rw[mq];exact iX.o,Gw.o,NI.o,WI2.o⟩,by simp[aG];omega⟩
           ·(obtain⟨a,rfl⟩:∃a:Nat,x=a:=⟨x.toNat,by omega⟩);have WO:a<ae L:=(by omega);have la:=jK ahO.o a (by rw[tc.o];exact WO);obtain⟨v,XC,xA,_,_⟩:=ZV.o a WO;rw[XC]at la;have HV:=aj XC;have Lq:v<ae L:=(by omega);have cv2:=jK OR.o.num v (by rw[NI.o.len];exact Lq);have fv2:=rz OR.o.num v;have apx:(a:Int)<ae L:=(by omega);have aqg:(v:Int)<ae L:=(by omega);have LT:ax (Aa ⟨cls,fun s k=>(rows.getD s []).getD (aS.getD k 0) 0,mZ m L,ae L,ae aS⟩ ld (fS.getD nn 0) k=v):=by
             show _=_;unfold Aa;rw[az (show ¬(rows.getD (fS.getD nn 0) []).getD (aS.getD k 0) 0=-1 by rw[HX.o];omega)];rw[show((⟨cls,fun s k=>(rows.getD s []).getD (aS.getD k 0) 0,mZ m L,ae L,ae aS⟩:bw).nx (fS.getD nn 0) k)=(a:Int) from HX.o,mj];exact HV.o
            rcases NI.o.is Lq with⟨e1,e2⟩|⟨i2,e1,e2,e3⟩
            .rw[e1]at cv2;have ahV:=aj e2;have J4:=aj ((OR.o.kp (Kp.refl [] wr).drew).agZ v (ae fS:Nat));have qH:ax ((wr.drew.setCell ⟨nb,v,none⟩ (.int .i64 (ae fS:Nat))).heap[rb]?=some (iO r)):=by
              show _=_;rw[aQ,az QL.o];exact BR.o
             have NI2:=aj (NI.o.add Lq e2);clear e1 e2 Ip XC;go_upto_region 50 with fail;go_region;go_upto_region 56 with fail;rw[show wr.drew.setCell ⟨nb,v,none⟩ (.int .i64 (ae fS:Nat))=(wr.setCell ⟨nb,v,none⟩ (.int .i64 (ae fS:Nat))).drew from rfl]at J4 qH;generalize (wr.setCell ⟨nb,v,none⟩ (.int .i64 (ae fS:Nat))).drew=w7 at *;clear ck co ri xk Kw RQ la cv2 fv2 OR BR;(go_upto_region 57 with(at_builtin;go_must (refine zD rfl _ _ rfl (.slice (some ⟨go,0,none⟩) (ae fS) oc) (.slice (some ⟨w7.heap.size,0,none⟩) 1 1) fS [v] rfl rfl (J4.o.ord.alloc _) (I9 (by rw[aC,aA rfl]) (bU _)) (by simp;omega) ?_);intro v5 w5 eE jO jY vY;have P5:=aj (J4.o.push eE jO jY);obtain⟨a5,c5,rfl,_⟩:=jm eE;clear eE jO jY vY));obtain⟨FO,k5,jY⟩:=P5.o;have Wb:w5.heap[rb]?=some (iO r):=k5.keep qH.o (fun hm=>Gw.o (by simpa using hm));have ho5:aK (.slice a5 (fS ++ [v]).length c5)≠some rb:=fun e=>by
              rcases jY with q|q
              .rw[q]at e;exact Gw.o e
              .rw[q]at e;simp only[aV]at e;have:=aE qH.o;omega
             have cn5:=jK FO.num v (by rw[NI2.o.len];exact Lq);rw[qV _ _ _ (by rw[NI.o.len];exact Lq)]at cn5;have cr5:=jK Wb k (by rw[iX.o];exact dI);have sy:=rz Wb k;have J6:=aj (FO.other VJ.o VK.o QL.o ho5 k (.int .i64 (ae fS:Nat)));have oY:=aj (tV Wb k (ae fS:Nat));have HO5:=aj ho5;have WI6:ax (mY ⟨cls,fun s k=>(rows.getD s []).getD (aS.getD k 0) 0,mZ m L,ae L,ae aS⟩ ld (fS ++ [v]) (Rn rows' nn (r.set k (ae fS:Nat))) nn (k+1)) :=
              WI.o.sP rm dI LT.o ⟨a,WO,HV.o⟩ Lq (.inr ⟨ahV.o,rfl⟩) (by rw[List.getElem?_append_right (aH _),Nat.sub_self];rfl) (aaz (by rw[iX.o];exact dI)) aaA
             have ahN:ax (∀j,j<nn->aL.getD j 0=mZ m L ((fS ++ [v]).getD j 0)):=fun j hj=>by
              rw[qY (by omega)];exact C6.o j hj
             clear FO k5 jY Wb ho5 P5;go_wp2;exact⟨⟨k+1,a5,c5,fS ++ [v],nums.set v (ae fS:Nat),r.set k (ae fS:Nat),by go_num,by first|(simp;done)|rfl,by omega,by simp;omega,ahN.o,J6.o,oY.o,by rw[mq];exact iX.o,HO5.o,NI2.o,WI6.o⟩,by simp[aG];omega⟩
            .rw[e1]at cv2;have cS:¬(i2:Int)<0:=(by omega);have J4:=aj ((OR.o.kp (Kp.refl [] wr).drew).other VJ.o VK.o QL.o Gw.o k (.int .i64 (i2:Nat)));have qH:ax ((wr.drew.setCell ⟨rb,k,none⟩ (.int .i64 (i2:Nat))).heap[rb]?=some (iO (r.set k (i2:Nat)))):=tV (show wr.drew.heap[rb]?=_ from BR.o) k (i2:Nat);have WI2:ax (mY ⟨cls,fun s k=>(rows.getD s []).getD (aS.getD k 0) 0,mZ m L,ae L,ae aS⟩ ld fS (Rn rows' nn (r.set k (i2:Nat))) nn (k+1)) :=
              WI.o.sP rm dI LT.o ⟨a,WO,HV.o⟩ Lq (.inl ⟨e3,rfl⟩) e2 (aaz (by rw[iX.o];exact dI)) aaA
             clear e1 e2 e3 Ip XC;go_upto_region 50 with fail;go_region;go_wp2;exact⟨⟨k+1,some ⟨go,0,none⟩,oc,fS,nums,_,by go_num,rfl,by omega,rm,C6.o,J4.o,qH.o,by rw[mq];exact iX.o,Gw.o,NI.o,WI2.o⟩,by simp[aG];omega⟩
          .have j3:¬(k:Int)<ae aS:=(by omega);have yN:k=ae aS:=(by omega);subst yN;have ak4:(nn:Int)<ae fS:=(by omega);have qm:wr.cell? ⟨tb,256,none⟩=some vn:=(by rw[aF or.tab.blk,oW (fU _ _)]);have TN:=aj or.tab.next;have TB0:=aj or.tab.blk;have TBN:=aj or.tab.wq;have OB:=aE or.tab.blk;have ntb:tb≠wr.heap.size:=bY OB;(have apH:(ae gs')<=250:=by have:=PV.o;omega);have xx:(ae rows')=nn:=or.tab.len.trans PV.o;have Tj:fS.getD nn 0<ae L:=wi.lt _ (by rw[aO,bD rm];exact nE rm);have WI3:ax (mY ⟨cls,fun s k=>(rows.getD s []).getD (aS.getD k 0) 0,mZ m L,ae L,ae aS⟩ ld fS (fun j k=>((rows' ++ [r]).getD j []).getD k 0) (nn+1) 0) :=
            (wi.congr (nx':=fun j k=>((rows' ++ [r]).getD j []).getD k 0) (fun j k hp=>by have q:=air (rows:=rows') (r:=r) (c:=ae aS) j k (by rw[xx];exact hp);rw[xx]at q;exact q)).next
           obtain⟨i0,cS,dc,dm,cW⟩:=iw Lt;obtain⟨I0,Z0,Z1,Z2⟩:=dH cS dc dm cW;clear cS dc dm cW Ie or br xw ho4 ni wi WI xx;go_upto_region 58 with fail;(go_upto_region 59 with(at_builtin;go_must (refine qU rfl _ _ _ rfl 61 i0 _ 1 24 Tryz.underlying28 I0.o Z0.o Z1.o Z2.o rfl (by omega) vn (ae gs') (gs'.map (rv (ae aS))) rfl (TN.o.alloc _) ⟨wr.heap.size,0,none⟩ 1 1 [rv (ae aS) rb] rfl rfl (gN (cs:=#[rv (ae aS) rb]) (t:=61) (fr:=(0,0)) (jS wr _)) (by simp[dS]) (by omega) (by unfold eB;omega) (by omega) (wr.heap.size+1) (by simp) ?_);intro g1 aP w3 cT bj cy iz;have B3:w3.heap[tb]?=some (.cells (aY (cI cls 256) vn va) 91 (0,0)):=fY bj (b:=tb) (by rw[aC,az ntb];exact TB0.o) (fun e=>TBN.o e);have By:w3.cell? ⟨tb,256,none⟩=some vn:=(by rw[aF B3,oW (fU _ _)]);have Ky:=cM B3 256));have QF:=aj (OR.o.row BR.o iX.o VJ.o VK.o QL.o Gw.o cT bj cy);generalize w3.setCell ⟨tb,256,none⟩ (.slice (some ⟨g1,0,none⟩) (ae gs'+1) aP)=w4 at *;clear cT bj cy iz B3 By Ky qm TN TB0 TBN OB ntb I0 Z0 Z1 Z2 OR BR Gw;clear w3;generalize Value.slice (some ⟨g1,0,none⟩) (ae gs'+1) aP=vn3 at *;have kw4:=(KR.o w4 QF.o.k).1;have xg:=GI.o.kp kw4;obtain⟨g7',apr,e7,s0,s1⟩:=xg.read Tj;simp only[fy,aV,oD,and_true,true_and]at e7;rw[<-e7.1]at s0 s1;obtain⟨_,_,eo,Tc⟩:=qB QF.o.ord;obtain⟨go,Sb,co⟩:=Tc nn rm;simp only[fy]at eo;rw[<-eo.1]at Sb;subst Sb;have zG:w4.cell? ⟨tb,257,none⟩=some va:=(by rw[aF QF.o.tab.blk,rM (fU _ _)]);have Zb:=aj (fun W (hW:Kp [] w4 W)=>Jz.o (fS.getD nn 0) Tj W (kw4.trans hW (by simp)));have ala:((fS.getD nn 0:Nat):Int)<ae L:=(by omega);clear eo Tc e7 xg kw4;(have Ii:∃q s b1 b2,mZ m L (fS.getD nn 0)=q/\fS.getD nn 0=s/\(bl.getD (fS.getD nn 0) (0,0)).1=b1/\(bl.getD (fS.getD nn 0) (0,0)).2=b2:=⟨_,_,_,_,rfl,rfl,rfl,rfl⟩);obtain⟨q,s,b1,b2,hq,hs,dL,my⟩:=Ii;rw[hq,dL,my]at Zb;rw[dL,hs]at s0;rw[my,hs]at s1;rw[hs]at co ala;have ahM:ax (∀j,j<nn+1->(aL ++ [q]).getD j 0=mZ m L (fS.getD j 0)):=fun j hj=>by
            have pT:=oI.o;by_cases e:j=nn
            .rw[e,<-pT,qX,pT,hq]
            .rw[qY (by omega)];exact C6.o j (by omega)
           (have apz:(ae aL)<=250:=by have:=oI.o;omega);obtain⟨i1,Ce,mz,pB,pW⟩:=iw DQ;obtain⟨I1,Y0,Y1,Y2⟩:=dH Ce mz pB pW;clear Ce mz pB pW hq hs dL my Tj C6;go_region_law ((first|(refine step_append_lies _ (by rfl) _ _ _ (by rfl) 0 3 i1 _ 1 8 Tryz.underlying61 I1.o Y0.o Y1.o Y2.o rfl (by omega) va (ae aL) (iv aL) (by rfl) (wO.o.alloc _) ⟨w2.heap.size,0,none⟩ 1 1 [.int .i64 q] (by rfl) (by rfl) (gN (cs:=#[.int .i64 q]) (t:=3) (fr:=(0,0)) (jS w2 _)) (by simp[dS]) (by omega) (by unfold eB;omega) (by omega) (by simp) (w2.heap.size+1) (by simp) ?_;intro g1 aP w3 cT bj cy iz;have B3:w3.heap[tb]?=some (.cells (aY (cI cls 256) vn3 va) 91 (0,0)):=fY bj (b:=tb) (by rw[aC,az xL];exact J5.o.tab.blk) (fun e=>J5.o.tab.F8 e);have Kx:w3.cell? ⟨tb,257,none⟩=some va:=(by rw[aF B3,rM (fU _ _)]);have aa3:=cM B3 257)|(go_simp;go_at_call 73;refine(Zb.o _ ((Kp.refl [] w4).drew)).mono ?_;rintro _ w2 ⟨rfl,k2⟩;have gV:Kp [] w4 w2:=((Kp.refl [] w4).drew).trans k2 (by simp);have J5:=aj (QF.o.kp gV);have aa2:w2.cell? ⟨tb,257,none⟩=some va:=(by rw[aF J5.o.tab.blk,rM (fU _ _)]);have xI:=aE J5.o.tab.blk;have xL:tb≠w2.heap.size:=bY xI;have wO:=aj J5.o.tab.acc)))
           all_goals
            have J6:=aj (J5.o.rule cT bj cy);clear k2 gV aa2 xI xL wO cT bj cy iz B3 Kx aa3 zG s0 s1 co I1 Y0 Y1 Y2 QF J5 Zb;go_wp2;exact⟨⟨nn+1,some ⟨go,0,none⟩,oc,vn3,_,gs' ++ [rb],rows' ++ [r],aL ++ [q],fS,nums,by go_num,rfl,by omega,by rw[cx,PV.o];rfl,by rw[cx,oI.o];rfl,J6.o,NI.o,WI3.o,ahM.o⟩,by simp[aG];omega⟩
        .have Xn:¬(nn:Int)<ae ws:=(by omega);have cP:nn=ae ws:=(by omega);obtain⟨kw,zz1,zz2,Wc⟩:=KR.o wr or.k;clear zz1 zz2;have pl:0<ae ws:=(fB.1 wi.first).1;obtain⟨OR,WI,C6⟩:=cR or wi Ie;have PV:=aj WZ;obtain⟨oI,KWX,BRZ⟩:=cR pT kw Wc;have vT:(aY (cI cls 256) vn va).size=258:=fG (fU _ _) _ _;have pM:=aj vT;clear or wi Ie WZ pT ni kw Wc vT;go_upto_region 60 with fail;apply fD;refine xH rfl _ _ rfl OR.o.tab.blk rfl _ zB rfl (by rw[pM.o];exact m9) ?_;refine mR rfl _ _ _ rfl BRZ.o rfl rfl (by rw[pM.o,fG kG]) (by rw[pM.o];exact m9) (CL (vJ _ _) (OQ OR.o.tab.next) (OQ OR.o.tab.acc)) ?_;intro w9 b9 k9 s9;go_wp2;have lw:∀x∈jf tb vn va gs',w.heap.size<x:=fun x hx=>by
          rcases OR.o.F9 x hx with e|e<;>omega
         have D3:=OR.o.tab.kp k9 (fun x hx hm=>by
          rw[bQ.1 hx]at hm;have:=lw _ hm;omega)
         have TJ:Kp [] w w9:=KWX.o.trans k9 (by simp);have HG:=PV.o;have HA:=oI.o;have low:=D3.low (B:=w.heap.size) (fun x hx=>.inr (Nat.le_of_lt (lw x hx)));refine cF (v:=.agg (aY (cI cls 256) vn va)) (D0 Tryz.results45 rfl b9 _ zB rfl (by rw[pM.o];exact m9)) rfl ?_;refine⟨vn,va,⟨cls,fun j m=>(rows'.getD j []).getD m 0,fun j=>mZ m L (ws.getD j 0),ae ws,ae aS⟩,rfl,D3.Mt (by omega) (by omega) pl (fun j hj=>C6.o j (by omega)),?_,?_,(show (ae ws)<=250 by omega),abB.o,TJ⟩
         .show vC _ _ _ _ (ae ws);rw[<-cP,<-HG];exact low
         .exact⟨⟨D,ld,aS,cls,ws,_,sZ.o,tu.o,tc.o,ZV.o,CM.o,(by have q:=WI.o;rw[cP]at q;exact q),rfl,rfl,fun c _=>rfl,fun j k _ _=>rfl,fun j _=>rfl⟩⟩
end
end Go.Proofs.YtbjdkbcfpmeneaaGreat
