/- What is proved here: the statement All, for every script whose bulk is at most 1048576: every call, in every order, answers as the document says; every Table, state by state. -/
import Derived.Test.YtbjdkbcfpmeneaaGreatM11
open Bool renaming false_eq_true->acV
open Go renaming Calls->aI,TypeId->cL,Value->aq,World->ay,heap_alloc_new->jS,info_parts->iw,maxLen->eB,undef->eT,wpAnyH_take->mE,wp_region_lit->fD
open Go.Act renaming put->fj
open Go.AllReadyH renaming cons->qG,nil->ug
open Go.Instr renaming fill->oZ
open Go.Proofs.Tryz renaming checked->QV,prog->aB,underlying22->Dp,underlying28->ES,underlying61->qR,underlying91->zB
open Go.Region renaming wanted->aay
open Go.RowKit renaming Below->dA,intOf->aG
open Go.Value renaming agg->si,int->EV,oneCell'->dS,ownBlock->aK,slice->uB
open Go.Value.slice renaming injEq->fy
open Go.World renaming news_of_block->gN,ownsRow_nil->j9
open List renaming append_nil->Es,eq_of_mem_replicate->ah8,getD_eq_getElem?_getD->aO,getElem?_eq_getElem->bD,getElem?_eq_some_iff->fB,getElem?_map->kx,getElem?_range->De,getElem_cons_succ->yg,getElem_cons_zero->yh,getElem_toArray->yj,length->ae,length_append->cx,length_singleton->iq,map_append->uv,mem_append->jr,mem_append_left->Qy,mem_cons->gH,mem_cons_of_mem->vq,mem_iff_getElem->Vr,mem_map->kY,mem_nil_iff->Ev,mem_of_getElem?->qL,mem_singleton->bQ,range->lU,replicate->gM,setIfInBounds_toArray->fx,set_cons_succ->eU,set_cons_zero->eX
open Nat renaming le_refl->aH,lt_or_ge->eK,ne_of_lt->bY,zero_le->bU
open Option.some renaming inj->Na,injEq->aV
namespace Go.Proofs.YtbjdkbcfpmeneaaGreat
set_option linter.unusedVariables false
set_option linter.unusedSimpArgs false
set_option maxRecDepth 100000
set_option maxHeartbeats 16000000
open Go.RowKit
section
variable{tb C sz n:Nat}{gs:List (Nat×Nat)}{rows:List (List Int)}{aL:List Int}{xs:List Nat}
section
open Go.RowKit Go.ChangeMaps
abbrev rq(C:Nat)(p:Nat×Nat):aq:=.slice (some ⟨p.1,0,none⟩) C p.2
structure vD(w:ay)(tb:Nat)(c:Array aq)(vn va:aq)(C:Nat)(gs:List (Nat×Nat))(rows:List (List Int))(aL:List Int):Prop where
 cs:c.size=256
 blk:w.heap[tb]?=some (.cells (aY c vn va) 91 (0,0))
 next:w.ownsRow 0 61 1 vn (ae gs) (gs.map (rq C))
 acc:w.ownsRow 0 3 1 va (ae aL) (iv aL)
 len:(ae rows)=ae gs
 row:∀i,i<ae gs->w.ownsRow 0 3 1 (rq C (gs.getD i (0,0))) C (iv (rows.getD i []))/\(rows.getD i []).length=C
def GX(w:ay)(e:cL)(xs:List Nat):Prop:=∀x∈xs,∀c fz,w.heap[x]?≠some (.cells c e fz)
theorem Am{w w':ay}{e:cL}{v:aq}{l:List aq}(h:w.ownsRow 0 e sz v n l)(hk:Kp xs w w')(ho:GX w e xs):w'.ownsRow 0 e sz v n l :=
 aJ h hk (fun g hg hm=>by
  obtain⟨c,fz,q⟩:=rG h hg
  exact ho g hm c fz q)
theorem OM{w:ay}{x:Nat}{c:Array aq}{e e':cL}{f:Nat×Nat}(h:w.heap[x]?=some (.cells c e' f))(cP:e'≠e):GX w e [x]:=fun y hy c' fz q=>by
 rw[bQ.1 hy,h]at q
 cases q
 exact cP rfl
theorem amO{w:ay}{e e':cL}{v:aq}{l:List aq}(h:w.ownsRow 0 e' sz v n l)(cP:e'≠e):GX w e v.ownBlock.toList:=fun y hy c' fz q=>by
 simp at hy
 obtain⟨c,f,q'⟩:=rG h hy
 rw[q']at q
 cases q
 exact cP rfl
theorem vD.kp{w w':ay}{c:Array aq}{vn va:aq}(h:vD w tb c vn va C gs rows aL)(hk:Kp xs w w')(hx:tb∉xs)(h1:GX w 61 xs)(h2:GX w 3 xs):vD w' tb c vn va C gs rows aL :=
 ⟨h.cs,hk.keep h.blk hx,Am h.next hk h1,Am h.acc hk h2,h.len,fun i hi=>⟨Am (h.row i hi).1 hk h2,(h.row i hi).2⟩⟩
theorem vD.keep{w w':ay}{c:Array aq}{vn va:aq}(h:vD w tb c vn va C gs rows aL)(hk:Kp [] w w'):vD w' tb c vn va C gs rows aL :=
 h.kp hk (by simp) (fun x hx=>by cases hx) (fun x hx=>by cases hx)
theorem vD.wq{w:ay}{c:Array aq}{vn va:aq}(h:vD w tb c vn va C gs rows aL):vn.ownBlock≠some tb:=by
 intro e;obtain⟨c',f,q⟩:=rG h.next e;exact uO h.blk q (by decide) rfl
theorem vD.Kg{w w3:ay}{c:Array aq}{vn va:aq}{o:Obj}{p:Nat×Nat}{g1 aP:Nat}{r:List Int}(h:vD w tb c vn va C gs rows aL)(hg:w.ownsRow 0 3 1 (rq C p) C (iv r))(hr:(ae r)=C)(cT:w3.ownsRow 0 61 1 (.slice (some ⟨g1,0,none⟩) (ae gs+1) aP) (ae gs+1) (gs.map (rq C) ++ [rq C p]))(bj:(w.alloc o).grownBy w3 vn.ownBlock):vD (w3.setCell ⟨tb,256,none⟩ (.slice (some ⟨g1,0,none⟩) (ae gs+1) aP)) tb c (.slice (some ⟨g1,0,none⟩) (ae gs+1) aP) va C (gs ++ [p]) (rows ++ [r]) aL:=by
 have kA:Kp vn.ownBlock.toList w w3:=(((Kp.refl _ w).alloc o).qt bj (fun k e=>.inl (by simp[e])));have kS:Kp [tb] w3 (w3.setCell ⟨tb,256,none⟩ (.slice (some ⟨g1,0,none⟩) (ae gs+1) aP)):=(Kp.refl _ _).set (by simp) _ _;have wq:=h.wq;have b3:w3.heap[tb]?=some (.cells (aY c vn va) 91 (0,0)):=kA.keep h.blk (by simp;exact fun e=>wq e);have oA:GX w 3 vn.ownBlock.toList:=amO h.next (by decide);have o1:GX w3 3 [tb]:=OM b3 (by decide);have o2:GX w3 61 [tb]:=OM b3 (by decide);refine⟨h.cs,?_,?_,Am (Am h.acc kA oA) kS o1,by simp[h.len],fun i hi=>?_⟩
 .rw[aQ,aA rfl,b3];show some (Obj.cells ((aY c vn va).setIfInBounds 256 _) _ _)=_;rw[ahf h.cs]
 .rw[cx,iq,uv];exact Am cT kS o2
 .rw[cx,iq]at hi;by_cases e:i=ae gs
  .subst e;have e2:(rows ++ [r]).getD (ae gs) []=r:=(by rw[<-h.len,qX]);rw[qX,e2];exact⟨Am (Am hg kA oA) kS o1,hr⟩
  .rw[qY (by omega),qY (by rw[h.len];omega)];obtain⟨a,b⟩:=h.row i (by omega);exact⟨Am (Am a kA oA) kS o1,b⟩
theorem vD.Mt{w:ay}{c:Array aq}{vn va:aq}{U:bw}(h:vD w tb c vn va U.C gs rows aL)(hN:(ae gs)=U.N)(hA:(ae aL)=U.N)(Cm:0<U.N)(eP:∀j,j<U.N->aL.getD j 0=U.ac j)(xy:∀j k,j<U.N->k<U.C->(rows.getD j []).getD k 0=U.nx j k):kz w vn va U:=by
 constructor
 .obtain⟨g,cap,e⟩:∃g cap,vn=.slice (some ⟨g,0,none⟩) (ae gs) cap:=by
   rcases h.next.2 with⟨_,e⟩|⟨g,cap,cur,e,_⟩
   .omega
   .exact⟨g,cap,e⟩
  subst e;refine⟨g,cap,by rw[hN],(h.next.lt g rfl).2,fun i hi=>?_⟩;obtain⟨a,b⟩:=h.row i (by omega);refine⟨(gs.getD i (0,0)).1,(gs.getD i (0,0)).2,I3 h.next rfl ?_,(a.lt _ rfl).2,fun k hk=>I3 a rfl ?_⟩
  .have hi':i<ae gs:=(by omega);simp[List.getD,hi',rq]
  .rw[<-xy i k hi hk];(have hk':k<(rows.getD i []).length:=by rw[b];exact hk);rw[kx,bD hk',aO (l:=rows.getD i []),bD hk'];rfl
 .obtain⟨g,cap,e⟩:∃g cap,va=.slice (some ⟨g,0,none⟩) (ae aL) cap:=by
   rcases h.acc.2 with⟨_,e⟩|⟨g,cap,cur,e,_⟩
   .omega
   .exact⟨g,cap,e⟩
  subst e;refine⟨g,cap,by rw[hA],(h.acc.lt g rfl).2,fun i hi=>I3 h.acc rfl ?_⟩;have N6:i<ae aL:=(by omega);rw[<-eP i hi];simp[iv,List.getD,N6]
end
end
section
variable{a:Act}{op:Oper}{ops:Array Oper}
section
open Go.RowKit Go.ChangeMaps
theorem ahs{w:ay}{K:Act->ay->Prop}{Q:Exit->Act->ay->Prop}(ty:cL)(ho:op.op=.alloc ty)(z:aq)(hz:(aB.info? ty).map (fun i=>i.zero)=some (some z))(h:K (a.put op.dst (.pointer (some ⟨w.heap.size,0,none⟩))) (w.alloc (.cells z.cells ty (0,0)))):op.wp aB a w K Q:=by
 cases hq:aB.info? ty with
 |none=>simp[hq]at hz
 |some i =>
  have hz':i.zero=some z:=(by simpa [hq]using hz);unfold Oper.wp execOp;simp only[ho];simp[go_sem,zeroValue,typeInfo,hq,hz'];exact h
theorem XJ{P:Program}{o:Oper}{w:ay}{K:Act->ay->Prop}{Q:Exit->Act->ay->Prop}{E:Prop}(hg:o.guard=none)(h:Oper.wp P o a w K Q):if aay o (yielded ops a.tmps)=true then Oper.wp P o a w K Q else E:=by
 rw[aA (by simp[aay,hg])];exact h
theorem ape{S:ay->Prop}(hw:aay op (yielded ops a.tmps)=true)(ty:cL)(x:Operand)(ho:op.op=.load ty x)(b o:Nat)(hx:a.eval x=.pointer (some ⟨b,o,none⟩))(ys:Array aq)(d:TypeDesc)(hS:∀w,S w->∀j,j<ys.size->w.cell? ⟨b,o+j,none⟩=ys[j]?)(hu:aB.underlying ty=some d)(hd:d.isRow=true)(hi:(aB.info? ty).map (·.size)=some ys.size):YieldsIf aB ops S op (.agg ys) a:=by
 have:=yieldsIf_load_mid (P:=aB) (S:=S) hw ty x ho b o hx ys.toList d (fun w h j v hv=>by
  have hj:j<ys.size:=by have:=(fB.1 hv).1;simpa using this
  rw[hS w h j hj,<-Array.getElem?_toList];exact hv) hu hd (by rw[Array.length_toList];exact hi)
 rwa [Array.toArray_toList]at this
theorem aqx{w:ay}{K:Act->ay->Prop}{Q:Exit->Act->ay->Prop}(parts:List (Nat×Operand))(ho:op.op=.build 91 parts.toArray)(cells:Array aq)(hf:oZ wo (aY dR (.slice none 0 0) (.slice none 0 0)) (parts.map fun q=>(q.1,a.eval q.2))=some cells)(h:K (a.put op.dst (.agg cells)) w):op.wp aB a w K Q:=by
 have e:(parts.toArray.map fun(i,x)=>(i,a.eval x)).toList=parts.map fun q=>(q.1,a.eval q.2):=(by simp)
 refine wp_build 91 parts.toArray ho ?_ ?_
 .rw[Rl,e,hf];rfl
 .rw[Rl,e,hf];exact h
theorem ahu{S:ay->Prop}(hw:aay op (yielded ops a.tmps)=true)(parts:List (Nat×Operand))(ho:op.op=.build 91 parts.toArray)(cells:Array aq)(hf:oZ wo (aY dR (.slice none 0 0) (.slice none 0 0)) (parts.map fun q=>(q.1,a.eval q.2))=some cells):YieldsIf aB ops S op (.agg cells) a :=
 .inl ⟨hw,fun w _=>by
  have e:(parts.toArray.map fun(i,x)=>(i,a.eval x)).toList=parts.map fun q=>(q.1,a.eval q.2):=by simp
  have hc:aB.built 91 (parts.toArray.map fun(i,x)=>(i,a.eval x)).toList=some cells:=by rw[Rl,e,hf]
  unfold execOp
  simp only[ho,Sem.run_bind,run_build w 91 _ cells hc,Result.andThen_ok,Sem.run_pure]⟩
def zC(U:bw):List Int:=(lU U.N).map U.ac
theorem G9(U:bw):(zC U).length=U.N:=by simp[zC]
theorem adG(U:bw)(i:Nat)(hi:i<U.N):(zC U).getD i 0=U.ac i:=by
 rw[aO,zC,kx,De hi];rfl
theorem ad8(ga ki:Nat)(U:bw)(w:ay)(h0:0<U.N)(hN:U.N<=250)(hc:∀i,i<U.N->w.cell? ⟨ga,i,none⟩=some (.int .i64 (U.ac i)))(hg:ga<w.heap.size):aI aB 46 #[.slice (some ⟨ga,0,none⟩) U.N ki] w fun e w'=>∃g1 aP,e=.returned (.slice (some ⟨g1,0,none⟩) U.N aP)/\w.heap.size<=g1/\w'.ownsRow 0 3 1 (.slice (some ⟨g1,0,none⟩) U.N aP) U.N (iv (zC U))/\dA w.heap.size w w':=by
 have:=aaX ga ki (zC U) w (by rw[G9];exact h0) (by rw[G9];omega) (fun i hi=>by rw[G9]at hi;rw[hc i hi,adG U i hi]) hg;rw[G9]at this;exact this
def Au(U:bw)(j:Nat):List Int:=(lU U.C).map (U.nx j)
theorem Uz(U:bw)(j:Nat):(Au U j).length=U.C:=by simp[Au]
theorem agS(U:bw)(j k:Nat)(hk:k<U.C):(Au U j).getD k 0=U.nx j k:=by
 rw[aO,Au,kx,De hk];rfl
theorem ajB(g0 c0:Nat)(U:bw)(j:Nat)(w:ay)(h0:0<U.C)(hC:U.C<=256)(hc:∀i,i<U.C->w.cell? ⟨g0,i,none⟩=some (.int .i64 (U.nx j i)))(hg:g0<w.heap.size):aI aB 46 #[.slice (some ⟨g0,0,none⟩) U.C c0] w fun e w'=>∃g1 aP,e=.returned (.slice (some ⟨g1,0,none⟩) U.C aP)/\w.heap.size<=g1/\w'.ownsRow 0 3 1 (.slice (some ⟨g1,0,none⟩) U.C aP) U.C (iv (Au U j))/\dA w.heap.size w w':=by
 have:=aaX g0 c0 (Au U j) w (by rw[Uz];exact h0) (by rw[Uz];omega) (fun i hi=>by rw[Uz]at hi;rw[hc i hi,agS U j i hi]) hg;rw[Uz]at this;exact this
def Nh(B:Nat)(w:ay)(vn va:aq)(U:bw):Prop:=∃gs:List (Nat×Nat),ae gs=U.N/\(gs.map (·.1)).Nodup/\(∀p∈gs,B<=p.1/\va.ownBlock≠some p.1)/\(∀g,vn.ownBlock=some g->B<=g)/\(∀g,va.ownBlock=some g->B<=g)/\w.ownsRow 0 61 1 vn (ae gs) (gs.map (rq U.C))/\w.ownsRow 0 3 1 va U.N (iv (zC U))/\∀i,i<ae gs->w.ownsRow 0 3 1 (rq U.C (gs.getD i (0,0))) U.C (iv (Au U i))
theorem alW(lb:Nat)(U:bw)(w:ay)(hL:∃vn va,w.heap[lb]?=some (.cells (aY (cI U.cls 256) vn va) 115 (0,0))/\kz w vn va U)(pS:0<U.N)(hN:U.N<=250)(xn:0<U.C)(hC:U.C<=256):aI aB 31 #[.pointer (some ⟨lb,0,none⟩)] w fun e w'=>dA w.heap.size w w'/\∃vn va,e=.returned (.agg (aY (cI U.cls 256) vn va))/\kz w' vn va U/\Nh w.heap.size w' vn va U:=by
 obtain⟨_,_,bL,⟨⟨gn,cap,rfl,ID,ij⟩,⟨ga,ki,rfl,IC,uE⟩⟩⟩:=hL;obtain⟨BL,Qd,Jz⟩:=cR bL ij uE;have llb:=aE bL;clear bL ij uE;have eY:(cI U.cls 256).size=256:=fU _ _;go_enter Tryz.func31,Tryz.ntmps31;go_upto_region 0 with fail;apply fD;refine qT rfl _ rfl _ xD ?_;simp only[fj,fx,eX,eU];have k1:Kp [] w (w.alloc (.cells (si (aY dR cE cE)).cells 91 (0,0))):=(Kp.refl [] w).alloc _;have b1:(w.alloc (.cells (si (aY dR cE cE)).cells 91 (0,0))).heap[w.heap.size]?=some (.cells (aY dR cE cE) 91 (0,0)):=by rw[aC,aA rfl];rfl
 have s1:(w.alloc (.cells (si (aY dR cE cE)).cells 91 (0,0))).heap.size=w.heap.size+1:=aM _ _;generalize w.alloc (.cells (si (aY dR cE cE)).cells 91 (0,0))=W at *;have K1:=aj k1;have B1:=aj b1;have Hf:=aj (k1.keep BL.o (by simp));clear k1 b1;go_upto_region 1 with fail;rename_i K HK;have rest:∀(W9:ay) (tb g1 aP:Nat),vD W9 tb (cI U.cls 256) cE (.slice (some ⟨g1,0,none⟩) U.N aP) U.C [] [] (zC U)->Kp [] W W9->W.heap.size<=tb->W.heap.size<=g1->K ⟨#[.pointer (some ⟨lb,0,none⟩),eT,.pointer (some ⟨w.heap.size,0,none⟩),.pointer (some ⟨tb,0,none⟩),eT,eT,.pointer (some ⟨lb,0,none⟩),.pointer (some ⟨lb,0,none⟩),.pointer (some ⟨lb,0,none⟩),.pointer (some ⟨lb,0,none⟩),.agg (cI U.cls 256),.pointer (some ⟨lb,0,none⟩),.pointer (some ⟨lb,0,none⟩),.pointer (some ⟨lb,0,none⟩),.pointer (some ⟨lb,257,none⟩),.slice (some ⟨ga,0,none⟩) U.N ki,.slice (some ⟨g1,0,none⟩) U.N aP,.agg (aY (cI U.cls 256) cE (.slice (some ⟨g1,0,none⟩) U.N aP)),eT,eT,eT,eT,eT,eT,eT,eT,eT,eT,eT,eT,eT,eT,eT,eT,eT,eT,eT],[]⟩ W9:=by
  intro W9 tb g1 aP tq k9 OB lg1;refine HK _ _ ?_;clear HK;have TQ:=aj tq;have K9:=aj k9;have By:W9.cell? ⟨lb,256,none⟩=some (.slice (some ⟨gn,0,none⟩) U.N cap):=(by rw[aF (k9.keep Hf.o (by simp)),oW eY]);clear tq k9;go_wp2_with fail;clear By;go_loopw [24] (fun s w'=>∃(gs:List (Nat×Nat)) (rows:List (List Int)) (iS:aq),s=.int .i64 (ae gs)/\(ae gs)<=U.N/\vD w' tb (cI U.cls 256) iS (.slice (some ⟨g1,0,none⟩) U.N aP) U.C gs rows (zC U)/\(∀j,j<ae gs->∀k,k<U.C->(rows.getD j []).getD k 0=U.nx j k)/\Kp [] W w'/\(∀g,iS.ownBlock=some g->W.heap.size<=g)/\(∀j,j<ae gs->rows.getD j []=Au U j)/\(gs.map (·.1)).Nodup/\∀p∈gs,W.heap.size<=p.1/\p.1<w'.heap.size/\g1≠p.1)
   (fun s _=>U.N-(aG s).toNat)
  case atStart=>exact⟨[],[],cE,rfl,by simp,TQ.o,by simp,K9.o,(fun g e=>by simp[aK]at e),by simp,by simp,by simp⟩
  case round =>
   obtain⟨gs,rows,iS,rfl,ko,tp,xy,kp,Sy,hre,eZ,rm⟩:=hrel;obtain⟨wF,Va,JI⟩:=cR eZ rm hre;have uy:=aj tp;have wK:=aj kp;have C9:=aj xy;have Gp:=aj Sy;clear tp kp xy Sy eZ rm hre TQ K9;by_cases aN:(ae gs)<U.N
   .have gU:(ae gs:Int)<U.N:=(by omega);obtain⟨g0,c0,q1,q2,q3⟩:=Qd.o (ae gs) aN;have kw:Kp [] w wr:=K1.o.trans wK.o (by simp);(have Rz:wr.cell? ⟨gn,ae gs,none⟩=some (.slice (some ⟨g0,0,none⟩) U.C c0):=by rw[kw.cell ID];exact q1);have KW:=aj kw;have Q3:=aj q3;clear q1 q3 kw;go_upto_region 5 with fail;clear Rz;have qm:wr.cell? ⟨tb,256,none⟩=some iS:=(by rw[aF uy.o.blk,oW eY]);(have ROW:ax (∀k,k<U.C->wr.drew.cell? ⟨g0,k,none⟩=some (.int .i64 (U.nx (ae gs) k))):=fun k hk=>by rw[KW.o.drew.cell q2];exact Q3.o k hk);(have kK:g0<wr.drew.heap.size:=by have:=KW.o.size;show g0<wr.heap.size;omega);obtain⟨i0,cS,dc,dm,cW⟩:=iw Lt;obtain⟨I0,Z0,Z1,Z2⟩:=dH cS dc dm cW;clear cS dc dm cW;go_region_law ((first|(refine step_append_lies _ (by rfl) _ _ _ (by rfl) 0 61 i0 _ 1 24 ES I0.o Z0.o Z1.o Z2.o rfl (by omega) iS (ae gs) (gs.map (rq U.C)) (by rfl) (wO.o.alloc _) ⟨w2.heap.size,0,none⟩ 1 1 [rq U.C (g,cp)] (by rfl) (by rfl) (gN (cs:=#[rq U.C (g,cp)]) (t:=61) (fr:=(0,0)) (jS w2 _)) (by simp[dS]) (by omega) (by unfold eB;omega) (by omega) (by simp) (w2.heap.size+1) (by simp) ?_;intro g2 xd w3 cT bj cy iz;have B3:w3.heap[tb]?=some (.cells (aY (cI U.cls 256) iS (.slice (some ⟨g1,0,none⟩) U.N aP)) 91 (0,0)):=fY bj (b:=tb) (by rw[aC,az xL];exact kO.blk) (fun e=>kO.wq e);have By:w3.cell? ⟨tb,256,none⟩=some iS:=(by rw[aF B3,oW eY]);have Ky:=cM B3 256)|(go_simp;go_at_call 46;refine(ajB g0 c0 U (ae gs) _ xn hC ROW.o kK).mono ?_;rintro _ w2 ⟨g,cp,rfl,Ik,N5,h2⟩;have gV:Kp [] wr w2:=((Kp.refl [] wr).drew).below h2;have kO:=uy.o.keep gV;have Ny:w2.cell? ⟨tb,256,none⟩=some iS:=(by rw[aF kO.blk,oW eY]);have xI:=aE kO.blk;have xL:tb≠w2.heap.size:=bY xI;have wO:=aj kO.next)))
    all_goals
     have t3:=kO.Kg N5 (Uz U (ae gs)) cT bj;have k3:Kp [] W (w3.setCell ⟨tb,256,none⟩ (.slice (some ⟨g2,0,none⟩) (ae gs+1) xd)) :=
      ((((wK.o.trans gV (by simp)).alloc _).qt bj (fun k e=>.inr (Gp.o k e)))).set (.inr OB) _ _
     have yK:W.heap.size<=g2:=by
      rcases cy with e|e
      .exact Gp.o _ e
      .have:=wK.o.size;have:=gV.size;omega
     have lgo:=(N5.lt g rfl).2;have lac:=(uy.o.acc.lt g1 rfl).2;have ae0:wr.heap.size<=g:=Ik;have z3:w2.heap.size<=(w3.setCell ⟨tb,256,none⟩ (.slice (some ⟨g2,0,none⟩) (ae gs+1) xd)).heap.size:=(((Kp.refl _ w2).alloc _).qt bj (xs:=iS.ownBlock.toList ++ [tb]) (fun k e=>.inl (by simp[e])) |>.set (.inl (by simp)) _ _).size;have zk:=gV.size;have zw:=wK.o.size;have N3:ax (((gs ++ [(g,cp)]).map (·.1)).Nodup):=by
      show List.Nodup _;rw[uv,List.nodup_append];refine⟨wF.o,by simp,fun a ha b hb e=>?_⟩;obtain⟨p,hp,rfl⟩:=kY.1 ha;have:=(Va.o p hp).2.1;simp at hb;omega
     have M3:ax (∀p∈gs ++ [(g,cp)],W.heap.size<=p.1/\p.1<(w3.setCell ⟨tb,256,none⟩ (.slice (some ⟨g2,0,none⟩) (ae gs+1) xd)).heap.size/\g1≠p.1):=fun p hp=>by
      rcases jr.1 hp with q|q
      .obtain⟨a1,a2,a3⟩:=Va.o p q;exact⟨a1,by omega,a3⟩
      .rw[bQ.1 q];exact⟨by show _<=g;omega,by show g<_;omega,by show g1≠g;omega⟩
     have JO:=aj t3;have K3:=aj k3;clear lgo lac ae0 z3 zk zw t3 k3 gV kO Ny xI xL wO cT bj cy iz B3 By Ky qm I0 Z0 Z1 Z2 N5 h2;go_wp2;refine⟨⟨gs ++ [(g,cp)],rows ++ [Au U (ae gs)],_,by simp,by simp;omega,JO.o,fun j hj k hk=>?_,K3.o,(fun x e=>by simp[aK]at e;omega),fun j hj=>?_,N3.o,M3.o⟩,by simp[aG];omega⟩
     .rw[cx,iq]at hj;have gB:=uy.o.len;by_cases e:j=ae gs
      .rw[e,<-gB,qX,gB];exact agS U _ k hk
      .rw[qY (by omega)];exact C9.o j (by omega) k hk
     .rw[cx,iq]at hj;have gB:=uy.o.len;by_cases e:j=ae gs
      .rw[e,<-gB,qX,gB]
      .rw[qY (by omega)];exact JI.o j (by omega)
   .have gU:¬(ae gs:Int)<U.N:=(by omega);(have sE:(ae gs)=U.N:=by omega);go_upto_region 7 with fail;apply fD;have vT:(aY (cI U.cls 256) iS (.slice (some ⟨g1,0,none⟩) U.N aP)).size=258:=fG eY _ _;refine xH rfl _ _ rfl uy.o.blk rfl _ zB rfl (by rw[vT];exact m9) ?_;have bA:wr.heap[w.heap.size]?=some (.cells (aY dR cE cE) 91 (0,0)):=wK.o.keep B1.o (by simp);refine mR rfl _ _ _ rfl bA rfl rfl (by rw[vT,fG kG]) (by rw[vT];exact m9) (CL (vJ _ _) (OQ uy.o.next) rfl) ?_;intro w9 b9 k9 s9;go_wp2;have D3:=uy.o.kp k9 (by simp;omega) (OM bA (by decide)) (OM bA (by decide));have TJ:Kp [] w w9:=(K1.o.trans wK.o (by simp)).trans k9 (by simp);refine bodyPost_ret (v:=.agg (aY (cI U.cls 256) iS (.slice (some ⟨g1,0,none⟩) U.N aP))) (D0 Tryz.results31 rfl b9 _ zB rfl (by rw[vT];exact m9)) rfl ?_;have an:=D3.acc;rw[G9]at an;refine⟨TJ.toBelow,iS,_,rfl,D3.Mt sE (G9 U) pS (fun j hj=>adG U j hj) (fun j k hj hk=>C9.o j (by omega) k hk),gs,sE,wF.o,fun p hp=>⟨by have:=(Va.o p hp).1;omega,fun e=>(Va.o p hp).2.2 (by simpa [aK]using e)⟩,fun g hg=>by have:=Gp.o g hg;omega,fun g hg=>by simp[aK]at hg;omega,D3.next,an,fun i hi=>?_⟩;rw[<-JI.o i hi];exact(D3.row i hi).1
 have REST:=aj rest;have LB:=aj llb;clear rest HK;refine wp_region_held_drew (S:=fun w'=>w'.heap[lb]?=some (.cells (aY (cI U.cls 256) (.slice (some ⟨gn,0,none⟩) U.N cap) (.slice (some ⟨ga,0,none⟩) U.N ki)) 115 (0,0))) (by kernel_rfl) Hf.o (fun fQ=>?_);refine mE (i:=0) (v:=?v0) rfl (by kernel_rfl) (by kernel_rfl) (by kernel_rfl) (fun _ _ _ h=>h) (Or.inl ⟨by rfl,?y0⟩) (by assumption) ?r0
 case y0=>intro w gS;(try dsimp only at gS);go_simp;first|done|with_reducible rfl
 case' r0=>simp only[fj,yj,yh,yg,fx,eX,eU]
 refine mE (i:=1) (v:=?v1) rfl (by kernel_rfl) (by kernel_rfl) (by kernel_rfl) (fun _ _ _ h=>h) (Or.inl ⟨by rfl,?y1⟩) (by assumption) ?r1
 case y1=>intro w gS;(try dsimp only at gS);go_simp;first|done|with_reducible rfl
 case' r1=>simp only[fj,yj,yh,yg,fx,eX,eU]
 refine mE (i:=2) (v:=?v2) rfl (by kernel_rfl) (by kernel_rfl) (by kernel_rfl) (fun _ _ _ h=>h) (Or.inl ⟨by rfl,?y2⟩) (by assumption) ?r2
 case y2=>intro w gS;(try dsimp only at gS);go_simp;first|done|with_reducible rfl
 case' r2=>simp only[fj,yj,yh,yg,fx,eX,eU]
 refine mE (i:=3) (v:=?v3) rfl (by kernel_rfl) (by kernel_rfl) (by kernel_rfl) (fun _ _ _ h=>h) (Or.inl ⟨by rfl,?y3⟩) (by assumption) ?r3
 case y3=>intro w gS;(try dsimp only at gS);go_simp;first|done|with_reducible rfl
 case' r3=>simp only[fj,yj,yh,yg,fx,eX,eU]
 refine mE (i:=4) (v:=.agg (cI U.cls 256)) rfl (by kernel_rfl) (by kernel_rfl) (by kernel_rfl) (fun _ _ _ h=>h) (ape rfl _ _ rfl lb 0 rfl (cI U.cls 256) _ (fun w' h' j hj=>by rw[aF h',Nat.zero_add,uQ eY _ _ (by rw[eY]at hj;exact hj)]) Tryz.underlying89 rfl (by rw[eY];exact TG)) (by assumption) ?_;simp only[fj,yj,yh,yg,fx,eX,eU];refine mE (i:=5) (v:=?v5) rfl (by kernel_rfl) (by kernel_rfl) (by kernel_rfl) (fun _ _ _ h=>h) (Or.inl ⟨by rfl,?y5⟩) (by assumption) ?r5
 case y5=>intro w gS;(try dsimp only at gS);go_simp;first|done|with_reducible rfl
 case' r5=>simp only[fj,yj,yh,yg,fx,eX,eU]
 refine mE (i:=6) (v:=?v6) rfl (by kernel_rfl) (by kernel_rfl) (by kernel_rfl) (fun _ _ _ h=>h) (Or.inl ⟨by rfl,?y6⟩) (by assumption) ?r6
 case y6=>intro w gS;(try dsimp only at gS);go_simp;first|done|with_reducible rfl
 case' r6=>simp only[fj,yj,yh,yg,fx,eX,eU]
 refine mE (i:=7) (v:=?v7) rfl (by kernel_rfl) (by kernel_rfl) (by kernel_rfl) (fun _ _ _ h=>h) (Or.inl ⟨by rfl,?y7⟩) (by assumption) ?r7
 case y7=>intro w gS;(try dsimp only at gS);go_simp;first|done|with_reducible rfl
 case' r7=>simp only[fj,yj,yh,yg,fx,eX,eU]
 refine mE (i:=8) (v:=?v8) rfl (by kernel_rfl) (by kernel_rfl) (by kernel_rfl) (fun _ _ _ h=>h) (Or.inl ⟨by rfl,?y8⟩) (by assumption) ?r8
 case y8=>intro w gS;(try dsimp only at gS);go_simp;first|done|with_reducible rfl
 case' r8=>simp only[fj,yj,yh,yg,fx,eX,eU]
 refine mE (i:=9) (v:=?v9) rfl (by kernel_rfl) (by kernel_rfl) (by kernel_rfl) (fun _ _ _ h=>h) (Or.inl ⟨by rfl,?y9⟩) (by assumption) ?r9
 case y9=>intro w gS;have Kx:w.cell? ⟨lb,257,none⟩=some (.slice (some ⟨ga,0,none⟩) U.N ki):=(by rw[aF gS,rM eY]);(try dsimp only at gS);go_simp;first|done|with_reducible rfl
 case' r9=>simp only[fj,yj,yh,yg,fx,eX,eU]
 refine wpAnyH_ready (rs:=[10,12]) (by kernel_rfl) (by simp) ?_;refine qG rfl (fun K9 hK=>?_) (qG rfl (fun K9 hK=>?_) ug)
 .go_simp;refine(ad8 ga ki U _ pS hN (fun i hi=>by rw[K1.o.drew.cell IC];exact Jz.o i hi) (by show ga<W.heap.size;omega)).mono ?_;rintro _ w2 ⟨g1,aP,rfl,jI,jP,b2⟩;have abQ:W.heap.size<=g1:=jI;have k2:Kp [] W w2:=((Kp.refl [] W).drew).below b2;go_wp2_with fail;refine hK.out _ _ ?hS (fun abf=>?_)
  case hS=>exact k2.keep Hf.o (by simp)
  clear hK K9 fQ;refine mE (i:=11) (v:=.agg (aY (cI U.cls 256) cE (.slice (some ⟨g1,0,none⟩) U.N aP))) rfl (by kernel_rfl) (by kernel_rfl) (by kernel_rfl) (fun _ _ _ h=>h) (ahu rfl [(0,.tmp 10),(2,.tmp 16)] rfl _ (by show oZ wo (aY dR cE cE) [(0,.agg (cI U.cls 256)),(2,.slice (some ⟨g1,0,none⟩) U.N aP)]=some _;rw[aa6 eY kG,aa5 eY _ _ _ rfl];rfl)) (by assumption) ?_;simp only[fj,yj,yh,yg,fx,eX,eU];refine wpAnyH_ready (rs:=[12]) (by kernel_rfl) (by simp) ?_;refine qG rfl (fun K9 hK=>?_) ug;refine XJ rfl ?_;refine ahs 91 rfl _ xD ?_;simp only[fj,yj,yh,yg,fx,eX,eU];have k3:Kp [] W (w2.alloc (.cells (si (aY dR cE cE)).cells 91 (0,0))):=k2.alloc _;have bT:(w2.alloc (.cells (si (aY dR cE cE)).cells 91 (0,0))).heap[w2.heap.size]?=some (.cells (aY dR cE cE) 91 (0,0)):=by rw[aC,aA rfl];rfl
  have DX:=aJ jP ((Kp.refl [] w2).alloc (.cells (si (aY dR cE cE)).cells 91 (0,0))) (by simp);have szT:W.heap.size<=w2.heap.size:=k2.size;refine hK.out _ _ ?hS (fun aky=>?_)
  case hS=>exact k3.keep Hf.o (by simp)
  clear hK K9 abf;generalize w2.alloc (.cells (si (aY dR cE cE)).cells 91 (0,0))=w3 at *;generalize w2.heap.size=TB at *;refine wpAnyH_ready (rs:=[13]) (by kernel_rfl) (by simp) ?_;refine qG rfl (fun K9 hK=>?_) ug;refine XJ rfl ?_;refine wp_store_mid 91 (.tmp 3) (.tmp 17) rfl TB 0 (aY (cI U.cls 256) cE (.slice (some ⟨g1,0,none⟩) U.N aP)) rfl rfl (YT bT 0 _ (by rw[fG eY,fG kG];omega)) (by rw[fG eY];exact m9) (CL (vJ _ _) rfl rfl) ?_;have b4:(w3.setCells TB 0 (aY (cI U.cls 256) cE (.slice (some ⟨g1,0,none⟩) U.N aP)).toList).heap[TB]?=some (.cells (aY (cI U.cls 256) cE (.slice (some ⟨g1,0,none⟩) U.N aP)) 91 (0,0)):=by
   rw[Rj TB _ 0 w3 _ _ _ bT,XP _ _ (by rw[fG eY,fG kG])]
  have k4:Kp [TB] w3 (w3.setCells TB 0 (aY (cI U.cls 256) cE (.slice (some ⟨g1,0,none⟩) U.N aP)).toList):=TM TB _ 0 w3 w3 [TB] (by simp) (Kp.refl _ _);have FP:=Am DX k4 (OM bT (by decide));generalize w3.setCells TB 0 (aY (cI U.cls 256) cE (.slice (some ⟨g1,0,none⟩) U.N aP)).toList=w4 at *;have k5:Kp [] W w4:=k3.trans k4 (by simp;omega);refine hK.out _ _ ?hS (fun akz=>?_)
  case hS=>exact k5.keep Hf.o (by simp)
  refine wpAnyH_done (by kernel_rfl) ?_ _;exact REST.o w4 TB g1 aP ⟨eY,b4,j9 _ _ _ _,by rw[G9];exact FP,rfl,fun i hi=>by simp at hi⟩ k5 (by omega) abQ
 .refine XJ rfl ?_;refine ahs 91 rfl _ xD ?_;simp only[fj,yj,yh,yg,fx,eX,eU];have k2:Kp [] W (W.drew.alloc (.cells (si (aY dR cE cE)).cells 91 (0,0))):=((Kp.refl [] W).drew).alloc _;have bT0:(W.drew.alloc (.cells (si (aY dR cE cE)).cells 91 (0,0))).heap[W.heap.size]?=some (.cells (aY dR cE cE) 91 (0,0)):=by
   rw[aC,aA (show W.heap.size=W.drew.heap.size from rfl)];rfl
  refine hK.out _ _ ?hS (fun abf=>?_)
  case hS=>exact k2.keep Hf.o (by simp)
  clear hK K9 fQ;have es:W.drew.heap.size=W.heap.size:=rfl;rw[es];generalize W.drew.alloc (.cells (si (aY dR cE cE)).cells 91 (0,0))=w2 at *;refine wpAnyH_ready (rs:=[10]) (by kernel_rfl) (by simp) ?_;refine qG rfl (fun K9 hK=>?_) ug;go_simp;refine(ad8 ga ki U _ pS hN (fun i hi=>by rw[(K1.o.trans k2 (by simp)).cell IC];exact Jz.o i hi) (by have:=(K1.o.trans k2 (by simp)).size;omega)).mono ?_;rintro _ w3 ⟨g1,aP,rfl,jI,jP,b2⟩;have abQ:W.heap.size<=g1:=Nat.le_trans k2.size jI;have k3:Kp [] W w3:=k2.below b2;have bT:w3.heap[W.heap.size]?=some (.cells (aY dR cE cE) 91 (0,0)):=bV b2 bT0;go_wp2_with fail;refine hK.out _ _ ?hS (fun aky=>?_)
  case hS=>exact k3.keep Hf.o (by simp)
  clear hK K9 abf;have DX:=jP;have szT:W.heap.size<=W.heap.size:=aH _;refine mE (i:=11) (v:=.agg (aY (cI U.cls 256) cE (.slice (some ⟨g1,0,none⟩) U.N aP))) rfl (by kernel_rfl) (by kernel_rfl) (by kernel_rfl) (fun _ _ _ h=>h) (ahu rfl [(0,.tmp 10),(2,.tmp 16)] rfl _ (by show oZ wo (aY dR cE cE) [(0,.agg (cI U.cls 256)),(2,.slice (some ⟨g1,0,none⟩) U.N aP)]=some _;rw[aa6 eY kG,aa5 eY _ _ _ rfl];rfl)) (by assumption) ?_;simp only[fj,yj,yh,yg,fx,eX,eU];rw[s1]at bT szT;generalize w.heap.size+1=TB at *;refine wpAnyH_ready (rs:=[13]) (by kernel_rfl) (by simp) ?_;refine qG rfl (fun K9 hK=>?_) ug;refine XJ rfl ?_;refine wp_store_mid 91 (.tmp 3) (.tmp 17) rfl TB 0 (aY (cI U.cls 256) cE (.slice (some ⟨g1,0,none⟩) U.N aP)) rfl rfl (YT bT 0 _ (by rw[fG eY,fG kG];omega)) (by rw[fG eY];exact m9) (CL (vJ _ _) rfl rfl) ?_;have b4:(w3.setCells TB 0 (aY (cI U.cls 256) cE (.slice (some ⟨g1,0,none⟩) U.N aP)).toList).heap[TB]?=some (.cells (aY (cI U.cls 256) cE (.slice (some ⟨g1,0,none⟩) U.N aP)) 91 (0,0)):=by
   rw[Rj TB _ 0 w3 _ _ _ bT,XP _ _ (by rw[fG eY,fG kG])]
  have k4:Kp [TB] w3 (w3.setCells TB 0 (aY (cI U.cls 256) cE (.slice (some ⟨g1,0,none⟩) U.N aP)).toList):=TM TB _ 0 w3 w3 [TB] (by simp) (Kp.refl _ _);have FP:=Am DX k4 (OM bT (by decide));generalize w3.setCells TB 0 (aY (cI U.cls 256) cE (.slice (some ⟨g1,0,none⟩) U.N aP)).toList=w4 at *;have k5:Kp [] W w4:=k3.trans k4 (by simp;omega);refine hK.out _ _ ?hS (fun akz=>?_)
  case hS=>exact k5.keep Hf.o (by simp)
  refine wpAnyH_done (by kernel_rfl) ?_ _;exact REST.o w4 TB g1 aP ⟨eY,b4,j9 _ _ _ _,by rw[G9];exact FP,rfl,fun i hi=>by simp at hi⟩ k5 (by omega) abQ
end
end
section
variable{o c:Nat}{mk:Int}
theorem ago{w:ay}{e n g cap:Nat}{xs:List aq}{v:aq}(h:w.ownsRow 0 e 1 (.slice (some ⟨g,0,none⟩) n cap) n xs):(w.setCell ⟨g,o,none⟩ v).ownsRow 0 e 1 (.slice (some ⟨g,0,none⟩) n cap) n (xs.set o v):=by
 rcases h.2 with⟨e1,_⟩|⟨g',cap',cur,e1,_,hc,hn,hm,hs,ht⟩
 .cases e1
 .simp only[fy,aV,Addr.mk.injEq,and_true,true_and]at e1;obtain⟨rfl,rfl⟩:=e1;refine⟨by rw[List.length_set];exact h.1,.inr ⟨g,cap,cur.setIfInBounds o v,rfl,bU _,by rw[aQ,aA rfl,hc];rfl,hn,hm,by rw[Array.size_setIfInBounds];exact hs,?_⟩⟩;rw[Array.toList_setIfInBounds,List.take_set,ht]
theorem ag1{xs:List aq}{j:Nat}{x v:aq}(h:(xs.set o x)[j]?=some v):v=x\/(j≠o/\xs[j]?=some v):=by
 rw[List.getElem?_set]at h;split at h
 .split at h
  .simp only[aV]at h;exact .inl h.symm
  .cases h
 .rename_i q;exact .inr ⟨fun e=>q e.symm,h⟩
theorem aci{k:Nat}(h:lC k=mk)(n j:Nat)(u:aq)(hu:(gM c (EV .i64 mk))[j]?=some u):QI k (n*1+j) u:=by
 rw[QI,h];exact ah8 (qL hu)
theorem acj:∀u∈gM c (EV .i64 mk),u.oneCell'=true:=fun u hu=>by rw[ah8 hu];rfl
def aas(wX:ay)(W:Nat)(lv tv iv rv vt:aq)(il:List aq)(e:Ending)(w':ay):Prop:=e=.returned (.tuple #[])/\∃(gJ:aq) (vs:List aq),w'.heap[W]?=some (uf lv tv gJ rv)/\(ae vs)=4/\w'.ownsRow 0 61 1 gJ (ae il+4) (il++vs)/\(∀g,gJ.ownBlock=some g->iv.ownBlock=some g\/wX.heap.size<=g)/\Kp (W::(iv.ownBlock.toList++vt.ownBlock.toList)) wX w'/\∀v∈vs,∃n,ic w' 3 1 (QI (ae il)) v n/\∀g,v.ownBlock=some g->vt.ownBlock=some g\/wX.heap.size<=g
theorem agi(wX:ay)(W:Nat)(lv tv iv rv:aq)(il:List aq)(blk:wX.heap[W]?=some (uf lv tv iv rv))(oi:wX.ownsRow 0 61 1 iv (ae il) il)(dx:(ae il)<=5000000000)(vt:aq)(n:Nat)(xs:List aq)(own:wX.ownsRow 0 3 1 vt n xs)(hn:n<=1000):aI aB 33 #[.pointer (some ⟨W,0,none⟩),vt] wX (aas wX W lv tv iv rv vt il):=by
 obtain⟨at_,ct,rfl,_⟩:=jV oi;obtain⟨av,cv,rfl,_⟩:=jV own;have c1:wX.cell? ⟨W,2,none⟩=some (.slice at_ (ae il) ct):=by rw[aF blk];rfl
 obtain⟨BLK,OI,OW⟩:=cR blk oi own;have nVW:ax (aK (.slice av n cv)≠some W):=fun e=>by
  obtain⟨c,hc⟩:=fC own e;exact gQ hc blk (by decide) rfl
 have nVI:ax (∀g,aK (.slice at_ (ae il) ct)=some g->aK (.slice av n cv)≠some g):=fun g h1 h2=>by
  obtain⟨c,hc⟩:=fC own h2;obtain⟨c',hc'⟩:=fC oi h1;exact gQ hc hc' (by decide) rfl
 obtain⟨i0,cS,dc,dm,cW⟩:=iw DQ;obtain⟨I0,Z0,Z1,Z2⟩:=dH cS dc dm cW;obtain⟨j0,nJ,mz,pB,pW⟩:=iw Lt;obtain⟨J0,Y0,Y1,Y2⟩:=dH nJ mz pB pW;clear blk oi own cS dc dm cW nJ mz pB pW;go_enter Tryz.func33,Tryz.ntmps33;go_wp2_with fail;refine(IK (ae il) (by omega) wX).mono ?_;rintro _ w1 ⟨rfl,oU⟩;have iD:=oU.symm;subst iD;clear oU c1;generalize ig:lC (ae il)=mk at *;have pL:=aj ig;clear ig;go_wp2_with fail;go_loopw [5] (fun s5 w'=>∃(i:Nat) (xs':List aq),s5=.int .i64 i/\i<=n/\w'.ownsRow 0 3 1 (.slice av n cv) n xs'/\(∀j v,xs'[j]?=some v->j<i->v=.int .i64 mk)/\Kp (aK (.slice av n cv)).toList wX w')
  (fun s5 _=>n-(aG s5).toNat)
 case atStart=>exact⟨0,xs,rfl,bU _,OW.o,fun j v _ hj=>by omega,Kp.refl _ _⟩
 case round =>
  clear OW;obtain⟨i,xs',rfl,hi,ow,hq,kw⟩:=hrel;by_cases SG:i<n
  .have gZ:(i:Int)<n:=(by omega);obtain⟨_,_,e1,f1⟩:=jV ow;obtain⟨g,e2,_,_,hc⟩:=f1 (by omega);simp only[fy]at e1;rw[<-e1.1]at e2;subst e2;(have m8:i<ae xs':=by rw[ow.1];omega);have c0:wr.cell? ⟨g,i,none⟩=some xs'[i]:=(by rw[hc i (by omega),bD m8]);obtain⟨cur,aeT⟩:=fC ow rfl;have f0:=cM aeT i;generalize xs'[i]=x0 at c0;obtain⟨OWR,HQ,KW⟩:=cR ow hq kw;clear ow hq kw hc aeT e1 f1 m8;go_wp2;refine⟨⟨i+1,xs'.set i (.int .i64 mk),by go_num,by omega,ago OWR.o,fun j v hj aN=>?_,KW.o.set (.inl (by simp[aK])) _ _⟩,by simp[aG];omega⟩;rcases ag1 hj with q|⟨q1,q2⟩
   .exact q
   .exact HQ.o j v q2 (by omega)
  .have gZ:¬(i:Int)<n:=(by omega);have m7:i=n:=(by omega);subst m7;have SV:ax (ic wr 3 1 (QI (ae il)) (.slice av i cv) i):=⟨xs',ow,fun j v hj=>by rw[QI,pL.o];exact hq j v hj (by have:=(fB.1 hj).1;have:=ow.1;omega)⟩;have KW:=aj kw;clear ow hq kw;go_upto_region 5 with fail;(go_upto_region 6 with(at_builtin;go_must (refine He rfl _ _ _ rfl 3 i0 _ 1 8 qR I0.o Z0.o Z1.o Z2.o rfl (by omega) (QI (ae il)) (.slice av i cv) i rfl (SV.o.alloc _) ⟨wr.heap.size,0,none⟩ 1 1 (gM 1 (.int .i64 mk)) rfl rfl (gN (cs:=#[.int .i64 mk]) (t:=3) (fr:=(0,0)) (jS wr _)) (aci pL.o i) acj (by omega) (by unfold eB;omega) (by omega) ?_);intro ga ca w5 sa Ix jO jY;have SA:=aj sa;have wV:=aj (Ix _ i (SV.o.alloc _) (by omega));have K5:ax (Kp (aK (.slice av i cv)).toList wX w5):=(KW.o.alloc _).qt jO (fun g e=>.inl (by rw[e];simp));have PA:ax (aK (.slice av i cv)=some ga\/wX.heap.size<=ga):=jY.imp id (fun e=>by have:=KW.o.size;rw[e,aM];omega);clear sa Ix jO jY));clear KW SV;(go_upto_region 7 with(at_builtin;go_must (refine He rfl _ _ _ rfl 3 i0 _ 1 8 qR I0.o Z0.o Z1.o Z2.o rfl (by omega) (QI (ae il)) (.slice av i cv) i rfl (wV.o.alloc _) ⟨w5.heap.size,0,none⟩ 2 2 (gM 2 (.int .i64 mk)) rfl rfl (gN (cs:=#[.int .i64 mk,.int .i64 mk]) (t:=3) (fr:=(0,0)) (jS w5 _)) (aci pL.o i) acj (by omega) (by unfold eB;omega) (by omega) ?_);intro gb cb w6 sb Cv zK yy;have SB:=aj sb;have EG:=aj (Cv _ i (wV.o.alloc _) (by omega));have GY:=aj (Cv _ (i+1) (SA.o.alloc _) (by omega));have K6:ax (Kp (aK (.slice av i cv)).toList wX w6):=(K5.o.alloc _).qt zK (fun g e=>.inl (by rw[e];simp));have PB:ax (aK (.slice av i cv)=some gb\/wX.heap.size<=gb):=yy.imp id (fun e=>by have:=K5.o.size;rw[e,aM];omega);clear sb Cv zK yy));clear K5 wV SA;(go_upto_region 8 with(at_builtin;go_must (refine He rfl _ _ _ rfl 3 i0 _ 1 8 qR I0.o Z0.o Z1.o Z2.o rfl (by omega) (QI (ae il)) (.slice av i cv) i rfl (EG.o.alloc _) ⟨w6.heap.size,0,none⟩ 3 3 (gM 3 (.int .i64 mk)) rfl rfl (gN (cs:=#[.int .i64 mk,.int .i64 mk,.int .i64 mk]) (t:=3) (fr:=(0,0)) (jS w6 _)) (aci pL.o i) acj (by omega) (by unfold eB;omega) (by omega) ?_);intro gc cc w7 sc FB tK qh;have SC:=aj sc;have SV7:=aj (FB _ i (EG.o.alloc _) (by omega));have SA7:=aj (FB _ (i+1) (GY.o.alloc _) (by omega));have SB7:=aj (FB _ (i+2) (SB.o.alloc _) (by omega));have K7:ax (Kp (aK (.slice av i cv)).toList wX w7):=(K6.o.alloc _).qt tK (fun g e=>.inl (by rw[e];simp));have PC:ax (aK (.slice av i cv)=some gc\/wX.heap.size<=gc):=qh.imp id (fun e=>by have:=K6.o.size;rw[e,aM];omega);clear sc FB tK qh));clear K6 EG GY SB;have W7:ax (w7.heap[W]?=some (uf lv tv (.slice at_ (ae il) ct) rv)):=K7.o.keep BLK.o (fun hm=>nVW.o (by simpa using hm));(have c17:w7.cell? ⟨W,2,none⟩=some (.slice at_ (ae il) ct):=by rw[aF W7.o];rfl);have OT:ax (w7.ownsRow 0 61 1 (.slice at_ (ae il) ct) (ae il) il):=aJ OI.o K7.o (fun g hg hm=>nVI.o g hg (by simpa using hm));have nW:W≠w7.heap.size:=bY (aE W7.o);have TW:ax (aK (.slice at_ (ae il) ct)≠some W):=fun e=>by
    obtain⟨c,hc⟩:=fC OT.o e;exact gQ hc W7.o (by decide) rfl
   (go_wp2_with (at_builtin;go_must (refine qU rfl _ _ _ rfl 61 j0 _ 1 24 ES J0.o Y0.o Y1.o Y2.o rfl (by omega) (.slice at_ (ae il) ct) (ae il) il rfl (OT.o.alloc _) ⟨w7.heap.size,0,none⟩ 4 4 [.slice av i cv,.slice (some ⟨ga,0,none⟩) (i+1) ca,.slice (some ⟨gb,0,none⟩) (i+2) cb,.slice (some ⟨gc,0,none⟩) (i+3) cc] rfl rfl (gN (cs:=#[.slice av i cv,.slice (some ⟨ga,0,none⟩) (i+1) ca,.slice (some ⟨gb,0,none⟩) (i+2) cb,.slice (some ⟨gc,0,none⟩) (i+3) cc]) (t:=61) (fr:=(0,0)) (jS w7 _)) (by simp[dS]) (by omega) (by unfold eB;omega) (by omega) (w7.heap.size+1) (by simp) ?_);intro g1 aP w8 cT bj cy iz;have B8:w8.heap[W]?=some (uf lv tv (.slice at_ (ae il) ct) rv):=fY bj (b:=W) (by rw[aC,az nW];exact W7.o) (fun e=>TW.o e);have e1:w8.cell? ⟨W,2,none⟩=some (.slice at_ (ae il) ct):=(by rw[aF B8];rfl);have f1:=cM B8 2));have K9:ax (Kp (W::(aK (.slice at_ (ae il) ct)).toList) w7 (w8.setCell ⟨W,2,none⟩ (.slice (some ⟨g1,0,none⟩) (ae il+4) aP))):=(((Kp.refl _ w7).alloc _).grown bj (fun k e=>.inl (by rw[e];simp))).set (.inl (by simp)) _ _;have B9:ax ((w8.setCell ⟨W,2,none⟩ (.slice (some ⟨g1,0,none⟩) (ae il+4) aP)).heap[W]?=some (uf lv tv (.slice (some ⟨g1,0,none⟩) (ae il+4) aP) rv)):=by
    show _=_;rw[aQ,aA rfl,B8];rfl
   have O9:ax ((w8.setCell ⟨W,2,none⟩ (.slice (some ⟨g1,0,none⟩) (ae il+4) aP)).ownsRow 0 61 1 (.slice (some ⟨g1,0,none⟩) (ae il+4) aP) (ae il+4) (il ++ [.slice av i cv,.slice (some ⟨ga,0,none⟩) (i+1) ca,.slice (some ⟨gb,0,none⟩) (i+2) cb,.slice (some ⟨gc,0,none⟩) (i+3) cc])):=Yl cT (fun e=>by
    rcases cy with q|q
    .rw[e]at q;exact TW.o q
    .have:=aE W7.o;omega)
   have A9:ax (aK (.slice at_ (ae il) ct)=some g1\/wX.heap.size<=g1):=cy.imp id (fun e=>by have:=K7.o.size;omega);clear cT bj cy iz;go_wp2;go_end0;have fin:∀v n',ic w7 3 1 (QI (ae il)) v n'->(∀g,v.ownBlock=some g->aK (.slice av i cv)=some g\/wX.heap.size<=g)->∃n,ic (w8.setCell ⟨W,2,none⟩ (.slice (some ⟨g1,0,none⟩) (ae il+4) aP)) 3 1 (QI (ae il)) v n/\∀g,v.ownBlock=some g->aK (.slice av i cv)=some g\/wX.heap.size<=g:=fun v n' s p=>⟨n',s.kp K9.o (fun g hg hm=>by
    obtain⟨xs,o,_⟩:=s;obtain⟨c,hc⟩:=fC o hg;rcases gH.1 hm with q|q
    .rw[q]at hc;exact gQ hc W7.o (by decide) rfl
    .obtain⟨c',hc'⟩:=fC OT.o (by simpa using q);exact gQ hc hc' (by decide) rfl),p⟩
   refine⟨rfl,_,_,B9.o,rfl,O9.o,fun g hg=>?_,((K7.o.mono (fun y hy=>by simp[hy])).trans K9.o (fun y hy=>.inl ?_)),fun v hv=>?_⟩
   .simp only[aK,aV]at hg;rw[<-hg];exact A9.o
   .rcases gH.1 hy with q|q
    .rw[q];simp
    .exact vq _ (Qy _ q)
   .simp only[gH,Ev,or_false]at hv;rcases hv with rfl|rfl|rfl|rfl
    .exact fin _ _ SV7.o (fun g hg=>.inl hg)
    .exact fin _ _ SA7.o (fun g hg=>by simp only[aK,aV]at hg;rw[<-hg];exact PA.o)
    .exact fin _ _ SB7.o (fun g hg=>by simp only[aK,aV]at hg;rw[<-hg];exact PB.o)
    .exact fin _ _ SC.o (fun g hg=>by simp only[aK,aV]at hg;rw[<-hg];exact PC.o)
end
section
variable{mk:Int}{n:Nat}{gs:List (Nat×Nat)}
def Qm(w:ay)(mk:Int)(_:Nat)(u:aq):Prop:=∃g c,u=.slice (some ⟨g,0,none⟩) 1 c/\w.heap[g]?=some (iO [mk])
theorem agT{w w':ay}{v:aq}{ys:List Nat}(h:ic w 61 1 (Qm w mk) v n)(k:Kp ys w w')(h1:∀g,v.ownBlock=some g->g∉ys)(h2:∀g,w.heap[g]?=some (iO [mk])->g∉ys):ic w' 61 1 (Qm w' mk) v n:=by
 obtain⟨xs,o,q⟩:=h;refine⟨xs,aJ o k h1,fun j u hu=>?_⟩;obtain⟨g,c,e1,e2⟩:=q j u hu;exact⟨g,c,e1,k.keep e2 (h2 g e2)⟩
theorem Yw{w w':ay}{v:aq}(h:ic w 61 1 (Qm w mk) v n)(k:Kp [] w w'):ic w' 61 1 (Qm w' mk) v n:=agT h k (by simp) (by simp)
theorem O1{w:ay}{e sz:Nat}{Q:Nat->aq->Prop}{v:aq}(h:ic w e sz Q v n){g:Nat}(hg:v.ownBlock=some g):∃c,w.heap[g]?=some (.cells c e (0,0)):=by
 obtain⟨xs,o,_⟩:=h;exact fC o hg
theorem UB{w w':ay}{v u:aq}{n':Nat}(o:ic w 61 1 (Qm w mk) v n')(h:ic w' 61 1 (Qm w mk) u n)(gr:w.grownBy w' v.ownBlock):ic w' 61 1 (Qm w' mk) u n:=by
 obtain⟨ys,o',q⟩:=h;refine⟨ys,o',fun j x hx=>?_⟩;obtain⟨g,c,e1,e2⟩:=q j x hx;refine⟨g,c,e1,fY gr e2 (fun e=>?_)⟩;obtain⟨c',hc⟩:=O1 o e;exact gQ hc e2 (by decide) rfl
theorem qm1{w:ay}(ob:Obj)(n j:Nat)(u:aq)(h:[uB (some ⟨w.heap.size,0,none⟩) 1 1][j]?=some u):Qm ((w.alloc (iO [mk])).alloc ob) mk (n*1+j) u:=by
 have hm:=qL h;simp only[gH,Ev,or_false]at hm;exact⟨w.heap.size,1,hm,by rw[aC,aM,az (by omega),aC,aA rfl]⟩
theorem qm2{w:ay}(ob:Obj)(n j:Nat)(u:aq)(h:[uB (some ⟨w.heap.size,0,none⟩) 1 1,.slice (some ⟨w.heap.size+1,0,none⟩) 1 1][j]?=some u):Qm (((w.alloc (iO [mk])).alloc (iO [mk])).alloc ob) mk (n*1+j) u:=by
 have hm:=qL h;simp only[gH,Ev,or_false]at hm;rcases hm with q|q
 .exact⟨w.heap.size,1,q,by rw[aC,aM,aM,az (by omega),aC,aM,az (by omega),aC,aA rfl]⟩
 .exact⟨w.heap.size+1,1,q,by rw[aC,aM,aM,az (by omega),aC,aM,aA rfl]⟩
def Mk(W:Nat)(iv vn:aq)(gs:List (Nat×Nat)):List Nat:=W::(iv.ownBlock.toList++(vn.ownBlock.toList++gs.map (·.1)))
theorem O0{W:Nat}{iv vn:aq}{f:Nat}:f∈Mk W iv vn gs↔f=W\/iv.ownBlock=some f\/vn.ownBlock=some f\/f∈gs.map (·.1):=by
 unfold Mk;cases iv.ownBlock<;>cases vn.ownBlock<;>simp[eq_comm]
structure Ka(wX w':ay)(W:Nat)(lv tv iv rv vn:aq)(il:List aq)(C:Nat)(gs:List (Nat×Nat))(mk:Int)(i:Nat)(gJ:aq)(ns us:List aq):Prop where
 blk:w'.heap[W]?=some (uf lv tv gJ rv)
 len:(ae ns)=4*i
 oi:w'.ownsRow 0 61 1 gJ (il++ns).length (il++ns)
 ib:∀g,gJ.ownBlock=some g->iv.ownBlock=some g\/wX.heap.size<=g
 k:Kp (Mk W iv vn gs) wX w'
 row:∀j,i<=j->j<ae gs->∃l,w'.ownsRow 0 3 1 (rq C (gs.getD j (0,0))) C l
 sa:∀j v,ns[j]?=some v->∃n,ic w' 3 1 (QI (ae il+j)) v n/\∀g,v.ownBlock=some g->(∃i',i' < i/\g=(gs.getD i' (0,0)).1)\/wX.heap.size<=g
 ov:w'.ownsRow 0 61 1 vn (ae gs) us
 u1:∀j u,us[j]?=some u->j<i->∃g c,u=.slice (some ⟨g,0,none⟩) 1 c/\w'.heap[g]?=some (iO [mk])/\wX.heap.size<=g
 u2:∀j,i<=j->us[j]?=(gs.map (rq C))[j]?
def ais(wX:ay)(W:Nat)(lv tv iv rv vn:aq)(il rl:List aq)(gs:List (Nat×Nat))(e:Ending)(w':ay):Prop:=e=.returned (.tuple #[])/\∃(gJ xP:aq) (ns vs:List aq),w'.heap[W]?=some (uf lv tv gJ xP)/\(ae ns)=4*ae gs/\(ae vs)=4/\w'.ownsRow 0 61 1 gJ (il++ns).length (il++ns)/\w'.ownsRow 0 28 1 xP (ae rl+4) (rl++vs)/\(∀g,gJ.ownBlock=some g->iv.ownBlock=some g\/wX.heap.size<=g)/\(∀g,xP.ownBlock=some g->rv.ownBlock=some g\/wX.heap.size<=g)/\Kp (Mk W iv vn gs++rv.ownBlock.toList) wX w' /\
 (∀j v,ns[j]?=some v->∃n,ic w' 3 1 (QI (ae il+j)) v n/\∀g,v.ownBlock=some g->g∈gs.map (·.1)\/wX.heap.size<=g)/\∀v∈vs,∃n,EC w' gJ (ae rl) v n
theorem aeB(h:(gs.map (·.1)).Nodup){i j:Nat}(hi:i<ae gs)(hj:j<ae gs)(vN:i≠j):(gs.getD i (0,0)).1≠(gs.getD j (0,0)).1:=fun e=>by
 have key:∀k,k<ae gs->(gs.map (·.1))[k]?=some (gs.getD k (0,0)).1:=fun k hk=>by simp[List.getD,hk]
 have q:=(key i hi).trans ((congrArg some e).trans (key j hj).symm)
 exact vN ((List.getElem?_inj (by simpa using hi) h).1 q)
theorem aeA{i:Nat}(hi:i<ae gs):(gs.getD i (0,0)).1∈gs.map (·.1):=kY.2 ⟨gs.getD i (0,0),by rw[aO,bD hi];exact List.getElem_mem hi,rfl⟩
section
variable{wX wr w2:ay}{W:Nat}{lv tv iv rv vn:aq}{il:List aq}{C:Nat}{gs:List (Nat×Nat)}{mk:Int}{i:Nat}{gJ:aq}{ns us:List aq}
theorem Ka.mid(h:Ka wX wr W lv tv iv rv vn il C gs mk i gJ ns us){e:Ending}(hi:i<ae gs){gv cv:Nat}(hv:vn=.slice (some ⟨gv,0,none⟩) (ae gs) cv)(lv_:gv<wX.heap.size)(xB:iv.ownBlock≠some gv)(p:aas wr W lv tv gJ rv (rq C (gs.getD i (0,0))) (il++ns) e w2):w2.ownsRow 0 61 1 (.slice (some ⟨gv,0,none⟩) (ae gs) cv) (ae gs) us:=by
 obtain⟨_,mA,vs,b2,IF,o2,ib2,k2,s2⟩:=p;subst hv;obtain⟨cw,N0⟩:=fC h.ov (g:=gv) rfl;obtain⟨l0,or0⟩:=h.row i (aH _) hi;obtain⟨cr,hcr⟩:=fC or0 (g:=(gs.getD i (0,0)).1) rfl;refine aJ h.ov k2 (fun g hg hm=>?_);simp only[aK,aV]at hg;subst hg;have:gv=W\/gJ.ownBlock=some gv\/gv=(gs.getD i (0,0)).1:=by
  revert hm;cases gJ.ownBlock<;>simp[aK,eq_comm]
 rcases this with q|q|q
 .exact gQ N0 h.blk (by decide) q
 .rcases h.ib _ q with z|z
  .exact xB z
  .omega
 .exact gQ N0 hcr (by decide) q
theorem Ka.step(h:Ka wX wr W lv tv iv rv vn il C gs mk i gJ ns us){e:Ending}(hi:i<ae gs)(i4:(ae il) % 4=0)(eZ:(gs.map (·.1)).Nodup)(hg:∀j,j<ae gs->(gs.getD j (0,0)).1<wX.heap.size){gv cv:Nat}(hv:vn=.slice (some ⟨gv,0,none⟩) (ae gs) cv)(lv_:gv<wX.heap.size)(xB:iv.ownBlock≠some gv)(p:aas wr W lv tv gJ rv (rq C (gs.getD i (0,0))) (il++ns) e w2):∃mA mD,Ka wX ((w2.setCell ⟨gv,i,none⟩ (.slice (some ⟨w2.heap.size,0,none⟩) 1 1)).alloc (iO [mk])) W lv tv iv rv vn il C gs mk (i+1) mA mD (us.set i (.slice (some ⟨w2.heap.size,0,none⟩) 1 1)):=by
 have om:=h.mid hi hv lv_ xB p;obtain⟨_,mA,vs,b2,IF,o2,ib2,k2,s2⟩:=p;subst hv;have zX:=h.k.size;have z2:=k2.size;obtain⟨cw,N0⟩:=fC h.ov (g:=gv) rfl;obtain⟨cm,KU⟩:=fC om (g:=gv) rfl;have lw:=aE N0;have qx:=hg i hi;have kS:Kp [gv] w2 ((w2.setCell ⟨gv,i,none⟩ (.slice (some ⟨w2.heap.size,0,none⟩) 1 1)).alloc (iO [mk])):=((Kp.refl _ w2).set (.inl (by simp)) _ _).alloc _;have kA:=(k2.mono (ys:=gv::W::(gJ.ownBlock.toList++(rq C (gs.getD i (0,0))).ownBlock.toList)) (fun y hy=>vq _ hy)).trans kS (fun y hy=>.inl (by rw[bQ.1 hy];simp));have inA:∀g,g∈gv::W::(gJ.ownBlock.toList++(rq C (gs.getD i (0,0))).ownBlock.toList)->g=gv\/g=W\/gJ.ownBlock=some g\/g=(gs.getD i (0,0)).1:=fun g=>by
  cases gJ.ownBlock<;>simp[aK,eq_comm]
 have nin:∀g c,wr.heap[g]?=some (.cells c 3 (0,0))->g≠(gs.getD i (0,0)).1->g∉gv::W::(gJ.ownBlock.toList++(rq C (gs.getD i (0,0))).ownBlock.toList):=fun g c hc cP hm=>by
  rcases inA g hm with q|q|q|q
  .exact gQ hc N0 (by decide) q
  .exact gQ hc h.blk (by decide) q
  .obtain⟨c',hc'⟩:=fC h.oi q;exact gQ hc hc' (by decide) rfl
  .exact cP q
 have hl:(il++ns).length=ae il+4*i:=(by rw[cx,h.len]);refine⟨mA,ns++vs,kS.keep b2 (fun hm=>gQ h.blk N0 (by decide) (bQ.1 hm)),by rw[cx,h.len,IF];omega,?_,fun g hg=>(ib2 g hg).elim (h.ib g) (fun q=>.inr (by omega)),h.k.trans kA (fun y hy=>?_),fun j h1 h2=>?_,fun j v hj=>?_,aJ (ago om) ((Kp.refl [] _).alloc _) (by simp),fun j u hj aN=>?_,fun j hj=>by rw[List.getElem?_set_ne (by omega)];exact h.u2 j (by omega)⟩
 .rw[<-List.append_assoc,cx,IF];refine aJ o2 kS (fun g hg hm=>?_);rw[bQ.1 hm]at hg;rcases ib2 gv hg with q|q
  .rcases h.ib _ q with z|z
   .exact xB z
   .omega
  .omega
 .rw[O0];rcases inA y hy with q|q|q|q
  .exact .inl (.inr (.inr (.inl (by rw[q];rfl))))
  .exact .inl (.inl q)
  .rcases h.ib y q with z|z
   .exact .inl (.inr (.inl z))
   .exact .inr z
  .exact .inl (.inr (.inr (.inr (by rw[q];exact aeA hi))))
 .obtain⟨l,o⟩:=h.row j (by omega) h2;refine⟨l,aJ o kA (fun g hg=>?_)⟩;obtain⟨c,hc⟩:=fC o hg;simp only[aK,aV]at hg;exact nin g c hc (by rw[<-hg];exact aeB eZ h2 hi (by omega))
 .rcases V3 hj with q|⟨q1,q2,q3⟩
  .obtain⟨n,s,p⟩:=h.sa j v q;refine⟨n,s.kp kA (fun g hg'=>?_),fun g hg'=>(p g hg').imp (fun⟨i',a,b⟩=>⟨i',by omega,b⟩) id⟩;obtain⟨xs,o,_⟩:=s;obtain⟨c,hc⟩:=fC o hg';refine nin g c hc ?_;rcases p g hg' with⟨i',a,b⟩|b
   .rw[b];exact aeB eZ (by omega) hi (by omega)
   .omega
  .obtain⟨n,s,p⟩:=s2 v q1;have em:lC (ae il+j)=lC (il++ns).length:=by
    rw[hl,show (ae il)+j=ae il+4*i+(j-4*i) by have:=h.len;omega];exact X0 (by omega) (by have:=h.len;omega)
   rw[<-adp em]at s;refine⟨n,s.kp kS (fun g hg' hm=>?_),fun g hg'=>(p g hg').imp (fun e=>⟨i,by omega,?_⟩) (fun q=>by omega)⟩
   .obtain⟨xs,o,_⟩:=s;obtain⟨c,hc⟩:=fC o hg';exact gQ hc KU (by decide) (bQ.1 hm)
   .simp only[aK,aV]at e;exact e.symm
 .rcases ag1 hj with q|⟨q1,q2⟩
  .exact⟨w2.heap.size,1,q,by rw[aC,aA (by simp)],by omega⟩
  .obtain⟨g,c,e1,e2,e3⟩:=h.u1 j u q2 (by omega);exact⟨g,c,e1,kA.keep e2 (nin g _ e2 (by omega)),e3⟩
end
theorem anK(wX:ay)(W:Nat)(lv tv iv rv:aq)(il rl:List aq)(blk:wX.heap[W]?=some (uf lv tv iv rv))(oi:wX.ownsRow 0 61 1 iv (ae il) il)(sN:wX.ownsRow 0 28 1 rv (ae rl) rl)(dx:(ae il)<=4500000000)(gB:(ae rl)<=8000000)(i4:(ae il) % 4=0)(gv cv C:Nat)(gs:List (Nat×Nat))(hC:C<=1000)(hN:(ae gs)<=1000)(ov:wX.ownsRow 0 61 1 (.slice (some ⟨gv,0,none⟩) (ae gs) cv) (ae gs) (gs.map (rq C)))(ij:∀j,j<ae gs->∃l,wX.ownsRow 0 3 1 (rq C (gs.getD j (0,0))) C l)(eZ:(gs.map (·.1)).Nodup)(xB:iv.ownBlock≠some gv):aI aB 32 #[.pointer (some ⟨W,0,none⟩),.slice (some ⟨gv,0,none⟩) (ae gs) cv] wX (ais wX W lv tv iv rv (.slice (some ⟨gv,0,none⟩) (ae gs) cv) il rl gs):=by
 obtain⟨at_,ct,rfl,_⟩:=jV sN;have c1:wX.cell? ⟨W,3,none⟩=some (.slice at_ (ae rl) ct):=by rw[aF blk];rfl
 have R0:ax (∀mk,Ka wX wX W lv tv iv (.slice at_ (ae rl) ct) (.slice (some ⟨gv,0,none⟩) (ae gs) cv) il C gs mk 0 iv [] (gs.map (rq C))):=fun mk=>⟨blk,rfl,by rw[Es];exact oi,fun g hg=>.inl hg,Kp.refl _ _,fun j _ hj=>ij j hj,fun j v hj=>by simp at hj,ov,fun j u _ hj=>by omega,fun j _=>rfl⟩
 have HG:ax (∀j,j<ae gs->(gs.getD j (0,0)).1<wX.heap.size):=fun j hj=>by
  obtain⟨l,o⟩:=ij j hj;exact(o.lt _ rfl).2
 have LV:ax (gv<wX.heap.size):=(ov.lt gv rfl).2;obtain⟨ORR,wF,Ql⟩:=cR sN eZ xB;have NR:ax (∀g,aK (.slice at_ (ae rl) ct)=some g->g∉Mk W iv (.slice (some ⟨gv,0,none⟩) (ae gs) cv) gs):=fun g hg hm=>by
  obtain⟨c,hc⟩:=fC sN hg;rcases O0.1 hm with q|q|q|q
  .exact gQ hc blk (by decide) q
  .obtain⟨c',hc'⟩:=fC oi q;exact gQ hc hc' (by decide) rfl
  .obtain⟨c',hc'⟩:=fC ov q;exact gQ hc hc' (by decide) rfl
  .obtain⟨p,hp,rfl⟩:=kY.1 q;obtain⟨j,hj,rfl⟩:=Vr.1 hp;obtain⟨l,o⟩:=ij j hj;obtain⟨c',hc'⟩:=fC o (g:=(gs.getD j (0,0)).1) rfl;rw[aO,bD hj]at hc';exact gQ hc hc' (by decide) rfl
 obtain⟨j0,nJ,mz,pB,pW⟩:=iw Lt;obtain⟨J0,Y0,Y1,Y2⟩:=dH nJ mz pB pW;obtain⟨i0,cS,dc,dm,cW⟩:=iw afC;obtain⟨I0,Z0,Z1,Z2⟩:=dH cS dc dm cW;clear blk oi sN ov ij eZ xB cS dc dm cW nJ mz pB pW;go_enter Tryz.func32,Tryz.ntmps32;go_wp2_with fail;refine(IK (ae rl) (by omega) wX).mono ?_;rintro _ w1 ⟨rfl,oU⟩;have iD:=oU.symm;subst iD;clear oU c1;generalize ig:lC (ae rl)=mk at *;have pL:=aj ig;clear ig;go_wp2_with fail;go_loopw [5] (fun s5 w'=>∃(i:Nat) (gJ:aq) (ns us:List aq),s5=.int .i64 i/\i<=ae gs/\Ka wX w' W lv tv iv (.slice at_ (ae rl) ct) (.slice (some ⟨gv,0,none⟩) (ae gs) cv) il C gs mk i gJ ns us)
  (fun s5 _=>ae gs-(aG s5).toNat)
 case atStart=>exact⟨0,iv,[],_,rfl,bU _,R0.o mk⟩
 case round =>
  clear R0;obtain⟨i,gJ,ns,us,rfl,hi,ri⟩:=hrel;have R:=aj ri;by_cases aN:i<ae gs
  .have gU:(i:Int)<ae gs:=(by omega);obtain⟨l,or_⟩:=ri.row i (aH _) aN;have ck:wr.cell? ⟨gv,i,none⟩=some (rq C (gs.getD i (0,0))):=I3 ri.ov rfl (by rw[ri.u2 i (aH _)];simp[List.getD,aN]);(have dD:(il++ns).length<=5000000000:=by rw[cx,ri.len];omega);have HC:=aj (agi wr W lv tv gJ _ _ ri.blk ri.oi dD _ C l or_ hC);have Vt:=aj (fun(e:Ending) (w2:ay)=>ri.mid (e:=e) (w2:=w2) aN rfl LV.o Ql.o);have VQ:=aj (fun(e:Ending) (w2:ay)=>ri.step (e:=e) (w2:=w2) aN i4 wF.o HG.o rfl LV.o Ql.o);unfold rq at ck HC Vt VQ;generalize gs.getD i (0,0)=pr at ck HC Vt VQ;clear or_ ri dD;go_wp2_with fail;refine HC.o.mono ?_;rintro e2 w2 hp;obtain⟨rfl,uG⟩:=id hp;have om:=Vt.o _ _ hp;obtain⟨mA,mD,r2⟩:=VQ.o _ _ hp;obtain⟨cm,KU⟩:=fC om (g:=gv) rfl;obtain⟨_,_,e1,f1⟩:=jV om;obtain⟨g9,e2,_,_,hc⟩:=f1 (by omega);simp only[fy]at e1;rw[<-e1.1]at e2;simp only[aV,Addr.mk.injEq,and_true]at e2;subst e2;(have m8:i<ae us:=by rw[om.1];omega);have cu:w2.cell? ⟨gv,i,none⟩=some us[i]:=(by rw[hc i (by omega),bD m8]);have fu:=cM KU i;have nv:gv≠w2.heap.size:=bY (aE KU);generalize us[i]=u0 at cu;have R2:=aj r2;clear om r2 hp uG KU e1 f1 hc m8 ck HC Vt VQ;go_wp2;exact⟨⟨i+1,mA,mD,_,by go_num,by omega,R2.o⟩,by simp[aG];omega⟩
  .have gU:¬(i:Int)<ae gs:=(by omega);have m7:i=ae gs:=(by omega);subst m7;have SV:ax (ic wr 61 1 (Qm wr mk) (.slice (some ⟨gv,0,none⟩) (ae gs) cv) (ae gs)):=⟨us,ri.ov,fun j u hu=>by
    obtain⟨g,c,e1,e2,_⟩:=ri.u1 j u hu (by have:=(fB.1 hu).1;have:=ri.ov.1;omega);exact⟨g,c,e1,e2⟩⟩
   have Vi:ax (∀g,gJ.ownBlock=some g->g≠gv/\g<wr.heap.size):=fun g hg=>by
    refine⟨fun e=>?_,(ri.oi.lt g hg).2⟩;subst e;rcases ri.ib g hg with q|q
    .exact Ql.o q
    .have:=LV.o;omega
   clear ri;go_upto_region 6 with fail;(go_upto_region 7 with(at_builtin;go_must (refine He rfl _ _ _ rfl 61 j0 _ 1 24 ES J0.o Y0.o Y1.o Y2.o rfl (by omega) (Qm _ mk) (.slice (some ⟨gv,0,none⟩) (ae gs) cv) (ae gs) rfl (Yw SV.o (((Kp.refl [] wr).alloc _).alloc _)) ⟨wr.heap.size+1,0,none⟩ 1 1 [.slice (some ⟨wr.heap.size,0,none⟩) 1 1] rfl rfl (gN (cs:=#[.slice (some ⟨wr.heap.size,0,none⟩) 1 1]) (t:=61) (fr:=(0,0)) (by rw[aC,aM,aA rfl])) (qm1 _ _) (by simp[dS]) (by omega) (by unfold eB;omega) (by omega) ?_);intro ga ca w5 sa Ix jO jY;have U5:=Yw SV.o (((Kp.refl [] wr).alloc (iO [mk])).alloc (.cells #[.slice (some ⟨wr.heap.size,0,none⟩) 1 1] 61 (0,0)));have SA:=aj (UB U5 sa jO);have wV:=aj (UB U5 (Ix _ _ U5 (by omega)) jO);have K5:ax (Kp [gv] wr w5):=(((Kp.refl [gv] wr).alloc _).alloc _).qt jO (fun g e=>.inl (by simp only[aK,aV]at e;simp[e]));have PA:ax (gJ.ownBlock≠some ga):=(fun e=>by have:=Vi.o ga e;rcases jY with q|q<;>simp only[aK,aV,aM]at q<;>omega);clear sa Ix jO jY U5));(go_upto_region 8 with(at_builtin;go_must (refine He rfl _ _ _ rfl 61 j0 _ 1 24 ES J0.o Y0.o Y1.o Y2.o rfl (by omega) (Qm _ mk) (.slice (some ⟨gv,0,none⟩) (ae gs) cv) (ae gs) rfl (Yw wV.o ((((Kp.refl [] w5).alloc _).alloc _).alloc _)) ⟨w5.heap.size+1+1,0,none⟩ 2 2 [.slice (some ⟨w5.heap.size,0,none⟩) 1 1,.slice (some ⟨w5.heap.size+1,0,none⟩) 1 1] rfl rfl (gN (cs:=#[.slice (some ⟨w5.heap.size,0,none⟩) 1 1,.slice (some ⟨w5.heap.size+1,0,none⟩) 1 1]) (t:=61) (fr:=(0,0)) (by rw[aC,aM,aM,aA rfl])) (qm2 _ _) (by simp[dS]) (by omega) (by unfold eB;omega) (by omega) ?_);intro gb cb w6 sb Cv zK yy;have U6:=(fun {u:aq} {n:Nat} (s:ic w5 61 1 (Qm w5 mk) u n)=>Yw s ((((Kp.refl [] w5).alloc (iO [mk])).alloc (iO [mk])).alloc (.cells #[.slice (some ⟨w5.heap.size,0,none⟩) 1 1,.slice (some ⟨w5.heap.size+1,0,none⟩) 1 1] 61 (0,0))));have SB:=aj (UB (U6 wV.o) sb zK);have EG:=aj (UB (U6 wV.o) (Cv _ _ (U6 wV.o) (by omega)) zK);have GY:=aj (UB (U6 wV.o) (Cv _ _ (U6 SA.o) (by omega)) zK);have K6:ax (Kp [gv] wr w6):=(((K5.o.alloc _).alloc _).alloc _).qt zK (fun g e=>.inl (by simp only[aK,aV]at e;simp[e]));have PB:ax (gJ.ownBlock≠some gb):=(fun e=>by have:=Vi.o gb e;have:=K5.o.size;rcases yy with q|q<;>simp only[aK,aV,aM]at q<;>omega);clear sb Cv zK yy U6));clear K5 SV wV SA;obtain⟨cg,hcg⟩:=fC R.o.ov (g:=gv) rfl;have HCG:=aj hcg;have W6:ax (w6.heap[W]?=some (uf lv tv gJ (.slice at_ (ae rl) ct))):=K6.o.keep R.o.blk (fun hm=>gQ R.o.blk hcg (by decide) (bQ.1 hm));have OI6:ax (w6.ownsRow 0 61 1 gJ (il++ns).length (il++ns)):=aJ R.o.oi K6.o (fun g hg hm=>(Vi.o g hg).1 (bQ.1 hm));have OR0:ax (wr.ownsRow 0 28 1 (.slice at_ (ae rl) ct) (ae rl) rl):=aJ ORR.o R.o.k NR.o;have J6:ax (w6.ownsRow 0 28 1 (.slice at_ (ae rl) ct) (ae rl) rl):=aJ OR0.o K6.o (fun g hg hm=>by
    obtain⟨c,hc⟩:=fC OR0.o hg;exact gQ hc HCG.o (by decide) (bQ.1 hm))
   (have c17:w6.cell? ⟨W,3,none⟩=some (.slice at_ (ae rl) ct):=by rw[aF W6.o];rfl);have nW:W≠w6.heap.size:=bY (aE W6.o);have TW:ax (aK (.slice at_ (ae rl) ct)≠some W):=fun e=>by
    obtain⟨c,hc⟩:=fC J6.o e;exact gQ hc W6.o (by decide) rfl
   clear hcg;(go_wp2_with (at_builtin;go_must (refine qU rfl _ _ _ rfl 28 i0 _ 1 24 Tryz.underlying29 I0.o Z0.o Z1.o Z2.o rfl (by omega) (.slice at_ (ae rl) ct) (ae rl) rl rfl (J6.o.alloc _) ⟨w6.heap.size,0,none⟩ 4 4 [.slice (some ⟨gv,0,none⟩) (ae gs) cv,.slice (some ⟨ga,0,none⟩) (ae gs+1) ca,.slice (some ⟨gb,0,none⟩) (ae gs+2) cb,.slice (some ⟨ga,0,none⟩) (ae gs+1) ca] rfl rfl (gN (cs:=#[.slice (some ⟨gv,0,none⟩) (ae gs) cv,.slice (some ⟨ga,0,none⟩) (ae gs+1) ca,.slice (some ⟨gb,0,none⟩) (ae gs+2) cb,.slice (some ⟨ga,0,none⟩) (ae gs+1) ca]) (t:=28) (fr:=(0,0)) (jS w6 _)) (by simp[dS]) (by omega) (by unfold eB;omega) (by omega) (w6.heap.size+1) (by simp) ?_);intro g1 aP w8 cT bj cy iz;have B8:w8.heap[W]?=some (uf lv tv gJ (.slice at_ (ae rl) ct)):=fY bj (b:=W) (by rw[aC,az nW];exact W6.o) (fun e=>TW.o e);have e1:w8.cell? ⟨W,3,none⟩=some (.slice at_ (ae rl) ct):=(by rw[aF B8];rfl);have f1:=cM B8 3));have K9:ax (Kp (W::(aK (.slice at_ (ae rl) ct)).toList) w6 (w8.setCell ⟨W,3,none⟩ (.slice (some ⟨g1,0,none⟩) (ae rl+4) aP))):=(((Kp.refl _ w6).alloc _).grown bj (fun k e=>.inl (by rw[e];simp))).set (.inl (by simp)) _ _;have B9:ax ((w8.setCell ⟨W,3,none⟩ (.slice (some ⟨g1,0,none⟩) (ae rl+4) aP)).heap[W]?=some (uf lv tv gJ (.slice (some ⟨g1,0,none⟩) (ae rl+4) aP))):=by
    show _=_;rw[aQ,aA rfl,B8];rfl
   have O9:ax ((w8.setCell ⟨W,3,none⟩ (.slice (some ⟨g1,0,none⟩) (ae rl+4) aP)).ownsRow 0 28 1 (.slice (some ⟨g1,0,none⟩) (ae rl+4) aP) (ae rl+4) (rl ++ [.slice (some ⟨gv,0,none⟩) (ae gs) cv,.slice (some ⟨ga,0,none⟩) (ae gs+1) ca,.slice (some ⟨gb,0,none⟩) (ae gs+2) cb,.slice (some ⟨ga,0,none⟩) (ae gs+1) ca])):=Yl cT (fun e=>by
    rcases cy with q|q
    .rw[e]at q;exact TW.o q
    .have:=aE W6.o;omega)
   have A9:ax (aK (.slice at_ (ae rl) ct)=some g1\/wX.heap.size<=g1):=cy.imp id (fun e=>by have:=K6.o.size;have:=R.o.k.size;omega);clear cT bj cy iz;go_wp2;go_end0;have n9:∀g c e,w6.heap[g]?=some (.cells c e (0,0))->e≠31->e≠28->g∉W::(aK (.slice at_ (ae rl) ct)).toList:=fun g c e hc h1 h2 hm=>by
    rcases gH.1 hm with q|q
    .rw[q]at hc;exact gQ hc W6.o h1 rfl
    .obtain⟨c',hc'⟩:=fC J6.o (by simpa using q);exact gQ hc hc' h2 rfl
   have Yq:∀v n,ic w6 61 1 (Qm w6 mk) v n->(∀g,v.ownBlock=some g->gJ.ownBlock≠some g)->∃n,EC (w8.setCell ⟨W,3,none⟩ (.slice (some ⟨g1,0,none⟩) (ae rl+4) aP)) gJ (ae rl) v n:=fun v n s p=>by
    refine⟨n,?_,p⟩;rw[pL.o];exact agT s K9.o (fun g hg=>by obtain⟨c,hc⟩:=O1 s hg;exact n9 g c _ hc (by decide) (by decide)) (fun g hg=>n9 g _ _ hg (by decide) (by decide))
   refine⟨rfl,gJ,_,ns,_,B9.o,R.o.len,rfl,aJ OI6.o K9.o (fun g hg=>by obtain⟨c,hc⟩:=fC OI6.o hg;exact n9 g c _ hc (by decide) (by decide)),O9.o,R.o.ib,fun g hg=>?_,((R.o.k.mono (fun y hy=>Qy _ hy)).trans K6.o (fun y hy=>.inl ?_)).trans K9.o (fun y hy=>.inl ?_),fun j v hj=>?_,fun v hv=>?_⟩
   .simp only[aK,aV]at hg;rw[<-hg];exact A9.o
   .rw[bQ.1 hy];exact Qy _ (O0.2 (.inr (.inr (.inl rfl))))
   .rcases gH.1 hy with q|q
    .exact Qy _ (O0.2 (.inl q))
    .exact List.mem_append_right _ q
   .obtain⟨n,s,p⟩:=R.o.sa j v hj;have s6:=s.kp K6.o (fun g hg hm=>by obtain⟨c,hc⟩:=O1 s hg;exact gQ hc HCG.o (by decide) (bQ.1 hm));refine⟨n,s6.kp K9.o (fun g hg=>by obtain⟨c,hc⟩:=O1 s6 hg;exact n9 g c _ hc (by decide) (by decide)),fun g hg=>(p g hg).imp (fun⟨i',a,b⟩=>?_) id⟩;rw[b];exact aeA a
   .simp only[gH,Ev,or_false]at hv;rcases hv with rfl|rfl|rfl|rfl
    .exact Yq _ _ EG.o (fun g hg e=>(Vi.o g e).1 (by simpa [aK]using hg.symm))
    .exact Yq _ _ GY.o (fun g hg=>by simp only[aK,aV]at hg;rw[<-hg];exact PA.o)
    .exact Yq _ _ SB.o (fun g hg=>by simp only[aK,aV]at hg;rw[<-hg];exact PB.o)
    .exact Yq _ _ GY.o (fun g hg=>by simp only[aK,aV]at hg;rw[<-hg];exact PA.o)
end
section
open Go.RowKit Go.ChangeMaps
abbrev acV(U:bw):=iv (zC U)
abbrev rwV(U:bw)(i:Nat):=iv (Au U i)
theorem Nh.kp{B:Nat}{w w':ay}{vn va:aq}{U:bw}(h:Nh B w vn va U)(hk:Kp [] w w'):Nh B w' vn va U:=by
 obtain⟨gs,h1,h2,h3,h4,h5,h6,h7,h8⟩:=h;exact⟨gs,h1,h2,h3,h4,h5,aJ h6 hk (by simp),aJ h7 hk (by simp),fun i hi=>aJ (h8 i hi) hk (by simp)⟩
section
variable{wS w wr w5 w6:ay}{W:Nat}{lv tv iv rv vn va:aq}{ps:List (Nat×Nat)}{tl il rl:List aq}{m:Nat}{gs:List (Nat×Nat)}{U:bw}
theorem eI.f5(h:eI wS wr W lv tv iv rv ps tl il rl m)(h6:wr.ownsRow 0 61 1 vn (ae gs) (gs.map (rq U.C)))(h8:∀i,i<ae gs->wr.ownsRow 0 3 1 (rq U.C (gs.getD i (0,0))) U.C (rwV U i)){f e:Nat}{c:Array aq}(hf:wr.heap[f]?=some (.cells c e (0,0)))(n1:e≠31)(n2:e≠61)(n3:f∉gs.map (·.1))(n4:e≠28):f∉Mk W iv vn gs++rv.ownBlock.toList:=fun hm=>by
 rcases jr.1 hm with q|q
 .rcases O0.1 q with q|q|q|q
  .rw[q]at hf;exact gQ hf h.blk n1 rfl
  .obtain⟨c',hc⟩:=fC h.oi q;exact gQ hf hc n2 rfl
  .obtain⟨c',hc⟩:=fC h6 q;exact gQ hf hc n2 rfl
  .exact n3 q
 .obtain⟨c',hc⟩:=fC h.sN (by simpa using q);exact gQ hf hc n4 rfl
theorem aez(h8:∀i,i<ae gs->wr.ownsRow 0 3 1 (rq U.C (gs.getD i (0,0))) U.C (rwV U i)){f e:Nat}{c:Array aq}(hf:wr.heap[f]?=some (.cells c e (0,0)))(n3:e≠3):f∉gs.map (·.1):=fun hm=>by
 obtain⟨p,hp,rfl⟩:=kY.1 hm
 obtain⟨j,hj,rfl⟩:=Vr.1 hp
 obtain⟨c',hc'⟩:=fC (h8 j hj) (g:=(gs.getD j (0,0)).1) rfl
 rw[aO,bD hj]at hc'
 exact gQ hf hc' n3 rfl
theorem eI.aox{tY CG mA:aq}{ns vs vs2:List aq}(h:eI wS w W lv tv iv rv ps tl il rl m)(k:Kp [] w wr)(ko:(ae gs)=U.N)(hN:U.N<=250)(pS:0<U.N)(eP:U.ac 0=-1)(h3:∀p∈gs,w.heap.size<=p.1/\va.ownBlock≠some p.1)(h4:∀g,vn.ownBlock=some g->w.heap.size<=g)(h5:∀g,va.ownBlock=some g->w.heap.size<=g)(h6:wr.ownsRow 0 61 1 vn (ae gs) (gs.map (rq U.C)))(h7:wr.ownsRow 0 3 1 va U.N (acV U))(h8:∀i,i<ae gs->wr.ownsRow 0 3 1 (rq U.C (gs.getD i (0,0))) U.C (rwV U i))(b5:w5.heap[W]?=some (uf lv tv tY CG))(T8:(ae ns)=4*ae gs)(IF:(ae vs)=4)(IW:w5.ownsRow 0 61 1 tY (il++ns).length (il++ns))(FO:w5.ownsRow 0 28 1 CG (ae rl+4) (rl++vs))(Ty:∀g,tY.ownBlock=some g->iv.ownBlock=some g\/wr.heap.size<=g)(Yo:∀g,CG.ownBlock=some g->rv.ownBlock=some g\/wr.heap.size<=g)(k5:Kp (Mk W iv vn gs++rv.ownBlock.toList) wr w5)(Yu:∀j v,ns[j]?=some v->∃n,ic w5 3 1 (QI (ae il+j)) v n/\∀g,v.ownBlock=some g->g∈gs.map (·.1)\/wr.heap.size<=g)(nj:∀v∈vs,∃n,EC w5 tY (ae rl) v n)(IU:w5.ownsRow 0 3 1 va U.N (acV U))(b6:w6.heap[W]?=some (uf lv tv mA CG))(XX:(ae vs2)=4)(Ye:w6.ownsRow 0 61 1 mA ((il++ns).length+4) ((il++ns)++vs2))(Tz:∀g,mA.ownBlock=some g->tY.ownBlock=some g\/w5.heap.size<=g)(k6:Kp (W::(tY.ownBlock.toList++va.ownBlock.toList)) w5 w6)(s6:∀v∈vs2,∃n,ic w6 3 1 (QI (il++ns).length) v n/\∀g,v.ownBlock=some g->va.ownBlock=some g\/w5.heap.size<=g):(∃gJ xP zZ wg,eI wS w6 W lv tv gJ xP ps tl zZ wg (m+1))/\Kp (jL W lv tv iv rv) w w6:=by
 have L:=h.jA k;have z0:=k.size;have z5:=k5.size;have in6:∀g,g∈W::(tY.ownBlock.toList++va.ownBlock.toList)↔g=W\/tY.ownBlock=some g\/va.ownBlock=some g:=fun g=>by
  cases tY.ownBlock<;>cases va.ownBlock<;>simp[eq_comm]
 have f6:∀ {f e:Nat} {c:Array aq},w5.heap[f]?=some (.cells c e (0,0))->e≠31->tY.ownBlock≠some f->va.ownBlock≠some f->f∉W::(tY.ownBlock.toList++va.ownBlock.toList):=fun {f e c} hf n1 n2 n3 hm=>by
  rcases(in6 f).1 hm with q|q|q
  .rw[q]at hf;exact gQ hf b5 n1 rfl
  .exact n2 q
  .exact n3 q
 have kF:Kp (jL W lv tv iv rv) w w6:=by
  refine((k.mono (by simp)).trans k5 (fun y hy=>?_)).trans k6 (fun y hy=>?_)
  .rcases jr.1 hy with q|q
   .rcases O0.1 q with q|q|q|q
    .exact .inl (uL.2 (.inl q))
    .exact .inl (uL.2 (.inr (.inr (.inr (.inl q)))))
    .exact .inr (h4 y q)
    .obtain⟨p,hp,rfl⟩:=kY.1 q;exact .inr (h3 p hp).1
   .exact .inl (uL.2 (.inr (.inr (.inr (.inr (by simpa using q))))))
  .rcases(in6 y).1 hy with q|q|q
   .exact .inl (uL.2 (.inl q))
   .rcases Ty y q with z|z
    .exact .inl (uL.2 (.inr (.inr (.inr (.inl z)))))
    .exact .inr (by omega)
   .exact .inr (h5 y q)
 have keep:∀ {e sz n:Nat} {v:aq} {xs:List aq},wr.ownsRow 0 e sz v n xs->e≠31->e≠61->e≠3->e≠28->w6.ownsRow 0 e sz v n xs:=fun {e sz n v xs} o n1 n2 n3 n4=>by
  have o5:=aJ o k5 (fun g hg=>by obtain⟨c,hc⟩:=fC o hg;exact L.f5 h6 h8 hc n1 n2 (aez h8 hc n3) n4);refine aJ o5 k6 (fun g hg=>?_);obtain⟨c,hc⟩:=fC o5 hg;exact f6 hc n1 (fun q=>by obtain⟨c',hc'⟩:=fC IW q;exact gQ hc hc' n2 rfl) (fun q=>by obtain⟨c',hc'⟩:=fC IU q;exact gQ hc hc' n3 rfl)
 have l1:(il++ns).length=ae il+4*U.N:=(by rw[cx,T8,ko]);have l2:((il++ns)++vs2).length=(il++ns).length+4:=(by rw[cx,XX]);have l3:(rl++vs).length=ae rl+4:=(by rw[cx,IF]);have YY:∀k g,va.ownBlock=some g->w5.heap[g]?≠some (iO [lC k]):=fun k g hg e=>by
  have c1:=I3 IU hg (j:=0) (u:=.int .i64 (-1)) (by rw[<-eP];simp[acV,zC,pS]);have c2:=jK e 0 (by simp);rw[c1]at c2;simp[lC]at c2;omega
 refine⟨⟨mA,CG,(il++ns)++vs2,rl++vs,h.next kF b6 (keep L.ol (by decide) (by decide) (by decide) (by decide)) (keep L.ot (by decide) (by decide) (by decide) (by decide)) (by rw[l2];exact Ye) (by rw[l3];exact aJ FO k6 (fun g hg=>by obtain⟨c,hc⟩:=fC FO hg;exact f6 hc (by decide) (fun q=>by obtain⟨c',hc'⟩:=fC IW q;exact gQ hc hc' (by decide) rfl) (fun q=>by obtain⟨c',hc'⟩:=fC IU q;exact gQ hc hc' (by decide) rfl)))
  (fun f hf=>?_) (by have:=h.nl;omega) (by have:=h.nt;omega) (by have:=h.ni;omega) (by have:=h.nr;omega) h.t4 (by have:=h.i4;omega) (by have:=h.r4;omega) (fun p hp=>.inl hp) (fun k v hv=>.inl hv) (fun j v hv=>?_) (fun j v hv=>?_)⟩,kF⟩
 .rw[uL]at hf |-
  rcases hf with q|q|q|q|q
  .exact .inl (.inl q)
  .exact .inl (.inr (.inl q))
  .exact .inl (.inr (.inr (.inl q)))
  .rcases Tz f q with q|q
   .rcases Ty f q with q|q
    .exact .inl (.inr (.inr (.inr (.inl q))))
    .exact .inr (by omega)
   .exact .inr (by omega)
  .rcases Yo f q with q|q
   .exact .inl (.inr (.inr (.inr (.inr q))))
   .exact .inr (by omega)
 .rcases V3 hv with q|⟨q1,q2,q3⟩
  .rcases eK j (ae il) with z|z
   .rw[List.getElem?_append_left z]at q;exact .inl q
   .rw[List.getElem?_append_right z]at q;obtain⟨n,s,p⟩:=Yu _ v q;rw[show (ae il)+(j-(ae il))=j by omega]at s;refine .inr ⟨n,s.kp k6 (fun g hg=>?_)⟩;obtain⟨c,hc⟩:=O1 s hg;refine f6 hc (by decide) (fun q=>by obtain⟨c',hc'⟩:=fC IW q;exact gQ hc hc' (by decide) rfl) (fun q=>?_);rcases p g hg with z|z
    .obtain⟨p,hp,rfl⟩:=kY.1 z;exact(h3 p hp).2 q
    .have:=(h7.lt g q).2;omega
  .obtain⟨n,s,_⟩:=s6 v q1;rw[<-adp (X0 (j:=j-(il++ns).length) (by have:=h.i4;omega) (by omega)),show(il++ns).length+(j-(il++ns).length)=j by omega]at s;exact .inr ⟨n,s⟩
 .rcases V3 hv with q|⟨q1,q2,q3⟩
  .exact .inl q
  .obtain⟨n,s⟩:=nj v q1;obtain⟨s1,s2⟩:=s.kp k6 (fun g hg=>by
    obtain⟨c,hc⟩:=O1 s.1 hg;exact f6 hc (by decide) (s.2 g hg) (fun q=>by obtain⟨c',hc'⟩:=fC IU q;exact gQ hc hc' (by decide) rfl)) (fun g hg=>f6 hg (by decide) (fun q=>by obtain⟨c',hc'⟩:=fC IW q;exact gQ hg hc' (by decide) rfl) (fun q=>YY _ g q hg))
   have em:=X0 (j:=j-(ae rl)) h.r4 (by omega);rw[show (ae rl)+(j-(ae rl))=j by omega]at em;refine .inr ⟨n,by rw[em];exact s1,fun g hg e=>?_⟩;rcases Tz g e with z|z
   .exact s.2 g hg z
   .obtain⟨⟨xs,o,_⟩,_⟩:=s;have:=(o.lt g hg).2;omega
end
end
section
variable{b:Nat}
section
open Go.RowKit Go.ChangeMaps
theorem kz.congr{w:ay}{vn va:aq}{T U:bw}(h:kz w vn va T)(hN:T.N=U.N)(hC:T.C=U.C)(hx:∀i k,i<U.N->k<U.C->T.nx i k=U.nx i k)(ha:∀i,i<U.N->T.ac i=U.ac i):kz w vn va U:=by
 obtain⟨⟨gn,cap,e,l,hr⟩,⟨ga,ki,ea,la,hq⟩⟩:=h;refine⟨⟨gn,cap,by rw[e,hN],l,fun i hi=>?_⟩,⟨ga,ki,by rw[ea,hN],la,fun i hi=>by rw[hq i (by omega),ha i hi]⟩⟩;obtain⟨g,c,q1,q2,q3⟩:=hr i (by omega);exact⟨g,c,by rw[q1,hC],q2,fun k hk=>by rw[q3 k (by omega),hx i k hi hk]⟩
theorem ajz{f g:Nat->Nat}(h:∀c,c<256->f c=g c):cI f 256=cI g 256:=by
 apply Array.ext_getElem?;intro i;rcases eK i 256 with q|q
 .rw[Bu _ _ _ q,Bu _ _ _ q,aA q,aA q,h i q]
 .rw[Array.getElem?_eq_none (by rw[fU];exact q),Array.getElem?_eq_none (by rw[fU];exact q)]
structure zA(w:ay)(b:Nat)(U:bw):Prop where
 val:∃vn va,w.heap[b]?=some (.cells (aY (cI U.cls 256) vn va) 91 (0,0))/\kz w vn va U
theorem zA.kp{w w':ay}{U:bw}(h:zA w b U)(hk:Kp [] w w'):zA w' b U:=by
 obtain⟨vn,va,q1,q2⟩:=h.val;exact⟨vn,va,hk.keep q1 (by simp),q2.kp hk⟩
theorem zA.cl{w:ay}{U:bw}(h:zA w b U)(c:Nat)(hc:c<256):w.cell? ⟨b,c,none⟩=some (.int .i64 (U.cls c)):=by
 obtain⟨vn,va,q1,_⟩:=h.val;rw[aF q1,uQ (fU _ _) _ _ hc,Bu _ _ _ hc,aA hc]
theorem zA.next{w:ay}{U:bw}(h:zA w b U):∃gn cn,w.cell? ⟨b,256,none⟩=some (.slice (some ⟨gn,0,none⟩) U.N cn)/\∀i,i<U.N->∃g c,w.cell? ⟨gn,i,none⟩=some (.slice (some ⟨g,0,none⟩) U.C c)/\∀k,k<U.C->w.cell? ⟨g,k,none⟩=some (.int .i64 (U.nx i k)):=by
 obtain⟨vn,va,q1,⟨⟨gn,cap,rfl,ID,ij⟩,_⟩⟩:=h.val;refine⟨gn,cap,by rw[aF q1,oW (fU _ _)],fun i hi=>?_⟩;obtain⟨g,c,a1,a2,a3⟩:=ij i hi;exact⟨g,c,a1,a3⟩
theorem zA.acc{w:ay}{U:bw}(h:zA w b U):∃ga ca,w.cell? ⟨b,257,none⟩=some (.slice (some ⟨ga,0,none⟩) U.N ca)/\∀i,i<U.N->w.cell? ⟨ga,i,none⟩=some (.int .i64 (U.ac i)):=by
 obtain⟨vn,va,q1,⟨_,⟨ga,cap,rfl,IC,uE⟩⟩⟩:=h.val;exact⟨ga,cap,by rw[aF q1,rM (fU _ _)],uE⟩
theorem ahh:adt:=by
 intro wS w W x r lv tv iv rv ps tl il rl m h lp hm;obtain⟨B,L,n,U,V,ts,hBx,ll,rlx,cU,cV,yS,hn6,hlg,hN,hC⟩:=lp.at;obtain⟨eN,eC,RH,Wr,eac⟩:=aji cV cU;have akE:U.ac 0=-1:=by
  have:=cU.sem [] (fun c hc=>by cases hc);rw[told,aA rfl]at this;rw[<-this];exact(U.L1 0).symm
 have pS:=cU.pos;have xn:0<U.C:=Nat.lt_of_le_of_lt (bU _) (cU.cl 0 (by omega));obtain⟨lvn,lva,lb,Uf,llo⟩:=ll;have LX:ax (∃vn va,w.heap[x]?=some (.cells (aY (cI U.cls 256) vn va) 115 (0,0))/\kz w vn va U):=⟨_,_,lb,Uf⟩;obtain⟨rtv,Mj,Mi,rb,_,_,rtr,_⟩:=rlx.ex;have RB:ax (w.heap[r]?=some (.cells (mP rtv (cI U.cls 256) Mj Mi) 95 (0,0))):=by
  show _=_;rw[<-ajz RH];exact rb
 have RT:ax (kz w Mj Mi U):=rtr.congr eN eC (fun i k hi hk=>Wr i k (by omega) (by omega)) (fun i hi=>eac i (by omega));have H:=aj h;have eY:(cI U.cls 256).size=256:=fU _ _;clear h lp rlx cU cV yS hn6 hlg eN eC RH Wr eac lb Uf llo rb rtr;go_enter Tryz.func18,Tryz.ntmps18;go_upto_region 1 with fail;have kA:Kp [] w (w.alloc (.cells #[.pointer (some ⟨x,0,none⟩),.pointer (some ⟨r,0,none⟩)] 53)):=(Kp.refl _ _).alloc _;have bP:(w.alloc (.cells #[.pointer (some ⟨x,0,none⟩),.pointer (some ⟨r,0,none⟩)] 53)).heap[w.heap.size]?=some (.cells #[.pointer (some ⟨x,0,none⟩),.pointer (some ⟨r,0,none⟩)] 53 (0,0)):=(by rw[aC,aA rfl]);generalize w.alloc (.cells #[.pointer (some ⟨x,0,none⟩),.pointer (some ⟨r,0,none⟩)] 53)=WA at *;have p0:WA.cell? ⟨w.heap.size,0,none⟩=some (.pointer (some ⟨x,0,none⟩)):=by rw[aF bP];rfl
 obtain⟨_,_,lb,Uf⟩:=LX.o;have LA:ax (∃vn va,WA.heap[x]?=some (.cells (aY (cI U.cls 256) vn va) 115 (0,0))/\kz WA vn va U):=⟨_,_,kA.keep lb (by simp),Uf.kp kA⟩;have BP:=aj bP;have KA:=aj kA;clear bP kA lb Uf LX;go_wp2_with fail;refine(alW x U WA LA.o pS hN xn hC).mono ?_;rintro _ w2 ⟨b2,vn,va,rfl,sI,rm⟩;have k2:Kp [] WA w2:=(Kp.refl [] WA).below b2;have pV:(aY (cI U.cls 256) vn va).size=258:=fG eY _ _;dsimp only;go_step;refine qT rfl _ rfl _ xD ?_;refine mR rfl _ _ _ rfl (b:=w2.heap.size) (c:=aY dR cE cE) (e:=91) (by rw[aC,aA rfl];rfl) rfl rfl (by rw[pV,fG kG]) (by rw[pV];exact m9) (CL (vJ _ _) (by obtain⟨_,_,e,_⟩:=sI.next;rw[e];rfl) (by obtain⟨_,_,e,_⟩:=sI.acc;rw[e];rfl)) ?_;intro w3 b3 k3 s3;clear s3;simp only[fj,fx,eX,eU];have k23:Kp [] w2 w3:=(((Kp.refl [] w2).alloc _).trans k3 (by simp));have T1:ax (zA w3 w2.heap.size U):=⟨vn,va,b3,sI.kp k23⟩;have B3:=aj b3;have NW:ax (Nh w.heap.size w3 vn va U):=by
  obtain⟨gs,h1,h2,h3,h4,h5,h6⟩:=rm.kp k23;have s:=KA.o.size;exact⟨gs,h1,h2,fun p hp=>⟨by have:=(h3 p hp).1;omega,(h3 p hp).2⟩,fun g hg=>by have:=h4 g hg;omega,fun g hg=>by have:=h5 g hg;omega,h6⟩
 have K3:ax (Kp [] w w3):=(KA.o.trans k2 (by simp)).trans k23 (by simp);have p1:w3.cell? ⟨w.heap.size,1,none⟩=some (.pointer (some ⟨r,0,none⟩)):=by rw[aF ((k2.trans k23 (by simp)).keep BP.o (by simp))];rfl
 have R3:ax (w3.heap[r]?=some (.cells (mP rtv (cI U.cls 256) Mj Mi) 95 (0,0))):=K3.o.keep RB.o (by simp);have S3:ax (kz w3 Mj Mi U):=RT.o.kp K3.o;generalize w2.heap.size=t1 at *;clear b2 b3 k2 k3 k23 sI rm p0 BP LA RB RT KA pV;go_upto_region 2 with fail;apply fD
 iterate 12 go_step
 have pV:(aY (cI U.cls 256) Mj Mi).size=258:=fG eY _ _;refine LF rfl _ _ rfl (b:=r) (o:=1) (aY (cI U.cls 256) Mj Mi) (fun j hj=>by rw[aF R3.o,Nat.add_comm,Ux]) rfl _ zB rfl (by rw[pV];exact m9) ?_;refine qT rfl _ rfl _ xD ?_;refine mR rfl _ _ _ rfl (b:=w3.heap.size) (c:=aY dR cE cE) (e:=91) (by rw[aC,aA rfl];rfl) rfl rfl (by rw[pV,fG kG]) (by rw[pV];exact m9) (CL (vJ _ _) (by obtain⟨_,_,e,_⟩:=S3.o.next;rw[e];rfl) (by obtain⟨_,_,e,_⟩:=S3.o.acc;rw[e];rfl)) ?_;intro w4 b4 k4 s4;clear s4;simp only[fj,fx,eX,eU];have DS:Kp [] w3 w4:=(((Kp.refl [] w3).alloc _).trans k4 (by simp));have T2:ax (zA w4 w3.heap.size U):=⟨Mj,Mi,b4,S3.o.kp DS⟩;have Ng:ax (zA w4 t1 U):=T1.o.kp DS;have Dh:ax (Nh w.heap.size w4 vn va U):=NW.o.kp DS;have B4:ax (w4.heap[t1]?=some (.cells (aY (cI U.cls 256) vn va) 91 (0,0))):=DS.keep B3.o (by simp);have K4:ax (Kp [] w w4):=K3.o.trans DS (by simp);generalize w3.heap.size=t2 at *;clear b4 k4 DS pV p1 T1 B3 NW K3 R3 S3;obtain⟨gn,cn,n1,_⟩:=Ng.o.next;obtain⟨gn',Rw,n2,_⟩:=T2.o.next;obtain⟨ga,ca,a1,_⟩:=Ng.o.acc;obtain⟨ga',ca',a2,_⟩:=T2.o.acc;have eN:((U.N:Int) == (U.N:Int))=true:=by simp
 go_wp2_with fail;clear n1 n2 a1 a2;go_loopw [8,7] (fun s8 s7 w'=>∃c:Nat,s8=.int .i64 c/\c<=256/\s7=.bool true/\Kp [] w4 w')
  (fun s8 _ _=>257-(aG s8).toNat)
 case atStart=>exact⟨0,rfl,by omega,by simp,Kp.refl _ _⟩
 case round =>
  obtain⟨c,rfl,hc,rfl,kp⟩:=hrel;have KP:=aj kp;clear kp;by_cases aN:c<256
  .have gU:(c:Int)<256:=(by omega);have c1:=(Ng.o.kp KP.o).cl c aN;have c2:=(T2.o.kp KP.o).cl c aN;(have ec:((U.cls c:Int) == (U.cls c:Int))=true:=by simp);generalize (U.cls c:Int)=z at c1 c2 ec;go_upto_region 7 with fail;(go_quiet (fail));clear c1 c2;go_wp2_with fail;refine⟨⟨c+1,by go_num,by omega,by simp,KP.o.drewN nq⟩,by simp[aG];omega⟩
  .have gU:¬(c:Int)<256:=(by omega);go_wp2_with fail;go_loopw [9,7,10] (fun s9 s7 _ w'=>∃i:Nat,s9=.int .i64 i/\i<=U.N/\s7=.bool true/\Kp [] w4 w')
    (fun s9 _ _ _=>U.N+1-(aG s9).toNat)
   case atStart=>exact⟨0,rfl,by omega,rfl,KP.o⟩
   case round =>
    clear KP;obtain⟨i,rfl,hi,rfl,kp⟩:=hrel;have KP:=aj kp;clear kp;obtain⟨gn,cn,n1,sH⟩:=(Ng.o.kp KP.o).next;obtain⟨gn',Rw,n2,zU⟩:=(T2.o.kp KP.o).next;obtain⟨ga,ca,a1,hq1⟩:=(Ng.o.kp KP.o).acc;obtain⟨ga',ca',a2,hq2⟩:=(T2.o.kp KP.o).acc;by_cases iL:i<U.N
    .have abn:(i:Int)<U.N:=(by omega);obtain⟨g1,x1,r1,_⟩:=sH i iL;obtain⟨g2,x2,r2,_⟩:=zU i iL;have q1:=hq1 i iL;have q2:=hq2 i iL;(have ea:(U.ac i == U.ac i)=true:=by simp);(have eC:((U.C:Int) == (U.C:Int))=true:=by simp);generalize U.ac i=z at q1 q2 ea;clear sH zU hq1 hq2;go_upto_region 11 with fail;(go_quiet (fail));clear n1 n2 a1 a2 r1 r2 q1 q2;have KN:=aj (KP.o.drewN nq);generalize wr.drewN nq=wn at *;clear KP;go_wp2_with fail;go_loopw [10,7] (fun s10 s7 w'=>∃k:Nat,s10=.int .i64 k/\k<=U.C/\s7=.bool true/\Kp [] w4 w')
      (fun s10 _ _=>U.C+1-(aG s10).toNat)
     case atStart=>exact⟨0,rfl,by omega,by simp,KN.o⟩
     case round =>
      clear KN;obtain⟨k,rfl,hk,rfl,kp⟩:=hrel;have KP:=aj kp;clear kp;obtain⟨gn,cn,n1,sH⟩:=(Ng.o.kp KP.o).next;obtain⟨gn',Rw,n2,zU⟩:=(T2.o.kp KP.o).next;obtain⟨g1,x1,r1,xC⟩:=sH i iL;obtain⟨g2,x2,r2,sL⟩:=zU i iL;by_cases Cg:k<U.C
      .have akS:(k:Int)<U.C:=(by omega);have y1:=xC k Cg;have y2:=sL k Cg;(have ey:(U.nx i k == U.nx i k)=true:=by simp);generalize U.nx i k=z at y1 y2 ey;clear sH zU xC sL;go_upto_region 15 with fail;(go_quiet (fail));clear n1 n2 r1 r2 y1 y2;go_wp2_with fail;refine⟨⟨k+1,by go_num,by omega,by simp,KP.o.drewN nq⟩,by simp[aG];omega⟩
      .have akS:¬(k:Int)<U.C:=(by omega);clear sH zU xC sL;go_wp2_with fail;refine⟨⟨i+1,by go_num,by omega,rfl,KP.o⟩,by simp[aG];omega⟩
    .have abn:¬(i:Int)<U.N:=(by omega);clear sH zU hq1 hq2;have kw:Kp [] w wr:=K4.o.trans KP.o (by simp);have L:=H.o.jA kw;have bt:=KP.o.keep B4.o (by simp);have ev:vn=.slice (some ⟨gn,0,none⟩) U.N cn:=by
      rw[aF bt,oW eY]at n1;exact Na n1
     have ea:va=.slice (some ⟨ga,0,none⟩) U.N ca:=by
      rw[aF bt,rM eY]at a1;exact Na a1
     obtain⟨gs,ko,eZ,h3,h4,h5,h6,h7,h8⟩:=Dh.o.kp KP.o;subst ev;subst ea;have xB:iv.ownBlock≠some gn:=fun e=>by
      have:=H.o.pos gn (uL.2 (.inr (.inr (.inr (.inl e)))));have:=h4 gn rfl;omega
     have rc:=anK wr W lv tv iv rv il rl L.blk L.oi L.sN (by have:=H.o.ni;omega) (by have:=H.o.nr;omega) H.o.i4 gn cn U.C gs (by omega) (by omega) (by rw[ko]at h6 |-;exact h6) (fun j hj=>⟨_,h8 j hj⟩) eZ xB;rw[ko]at rc;have TBS:=aj (fun w5 w6 tY CG mA ns vs vs2=>H.o.aox (wr:=wr) (w5:=w5) (w6:=w6) (tY:=tY) (CG:=CG) (mA:=mA) (ns:=ns) (vs:=vs) (vs2:=vs2) kw ko hN pS akE h3 h4 h5 h6 h7 h8);have F5:=aj (fun f e c=>L.f5 (f:=f) (e:=e) (c:=c) h6 h8);have GI:=aj (fun f e c=>aez (f:=f) (e:=e) (c:=c) h8);obtain⟨H3,H7,BT,RC,Gq⟩:=jd h3 h7 bt rc ko;clear rc kw L bt eZ h3 h4 h5 h6 h7 h8 xB a2 ko;go_wp2_with fail;refine RC.o.mono ?_;rintro _ w5 ⟨rfl,tY,CG,ns,vs,b5,T8,IF,IW,FO,Ty,Yo,k5,Yu,nj⟩;have IU:=aJ H7.o k5 (fun g hg=>by
      obtain⟨c,hc⟩:=fC H7.o hg;exact F5.o _ _ _ hc (by decide) (by decide) (fun hm=>by obtain⟨p,hp,rfl⟩:=kY.1 hm;exact(H3.o p hp).2 hg) (by decide))
     have Ht:=k5.keep BT.o (F5.o _ _ _ BT.o (by decide) (by decide) (GI.o _ _ _ BT.o (by decide)) (by decide));have a5:w5.cell? ⟨t1,257,none⟩=some (.slice (some ⟨ga,0,none⟩) U.N ca):=(by rw[aF Ht,rM eY]);have NC:=aj (agi w5 W lv tv tY CG (il++ns) b5 IW (by rw[cx,T8,Gq.o];have:=H.o.ni;omega) _ U.N _ IU (by omega));have T5:=aj (fun w6 mA vs2=>TBS.o w5 w6 tY CG mA ns vs vs2 b5 T8 IF IW FO Ty Yo k5 Yu nj IU);clear b5 T8 IF IW FO Ty Yo k5 Yu nj IU Ht TBS F5 GI H3 H7 BT RC n1 n2 a1;go_wp2_with fail;refine NC.o.mono ?_;rintro _ w6 ⟨rfl,mA,vs2,b6,XX,Ye,Tz,k6,s6⟩;have FIN:=aj (T5.o w6 mA vs2 b6 XX Ye Tz k6 s6);clear b6 XX Ye Tz k6 s6 T5 NC a5;go_wp2;go_ret;exact⟨rfl,FIN.o⟩
end
end
theorem ic.form{w:ay}{e:cL}{size:Nat}{Q:Nat->aq->Prop}{u:aq}{n:Nat}(h:ic w e size Q u n):∃a c,u=.slice a n c/\n<=eB/\(0<n->∃g,a=some ⟨g,0,none⟩/\∀j,j<n*size->∃v,w.cell? ⟨g,j,none⟩=some v/\Q j v):=by
 obtain⟨xs,o,q⟩:=h;obtain⟨a,c,e1,f⟩:=jV o;refine⟨a,c,e1,?_,fun h0=>?_⟩
 .rcases o.2 with⟨_,e⟩|⟨_,_,_,_,_,_,h1,h2,_⟩
  .rw[e];exact bU _
  .omega
 obtain⟨g,e2,_,_,hc⟩:=f h0;refine⟨g,e2,fun j hj=>?_⟩;have hl:j<ae xs:=by rw[o.1];exact hj
 exact⟨xs[j],by rw[hc j hj,bD hl],q j _ (bD hl)⟩
theorem XT(wS w:ay)(W:Nat)(lv tv iv rv:aq)(ps:List (Nat×Nat))(tl il rl:List aq)(m:Nat)(h:eI wS w W lv tv iv rv ps tl il rl m)(hm:m<=2000000):aI aB 8 #[.pointer (some ⟨W,0,none⟩)] w fun e w'=>e=.returned (.bool true)/\Kp [] w w':=by
 obtain⟨at_,ct,rfl,_⟩:=jV h.ot;obtain⟨ai,ci,rfl,_⟩:=jV h.oi;obtain⟨ar,cr,rfl,_⟩:=jV h.sN;have yS:(ae tl)<=8000000:=by have:=h.nt;omega
 have dx:(ae il)<=4000000000:=by have:=h.ni;omega
 have gB:(ae rl)<=8000000:=by have:=h.nr;omega
 have H:=aj h;have hq:=fun(a b c a' b' c':Int) (W:ay)=>acn a b c a' b' c' W
 clear h;go_enter Tryz.func8,Tryz.ntmps8;go_upto_region 2 with fail;go_loopw [3] (fun s3 w'=>∃k:Nat,s3=.int .i64 k/\k<=ae tl/\Kp [] w w') (fun s3 _=>ae tl-(aG s3).toNat)
 case atStart=>exact⟨0,rfl,bU _,Kp.refl _ _⟩
 case round =>
  obtain⟨k,rfl,hk,kw⟩:=hrel;have KW:=aj kw;have L:=H.o.jA kw;have c1:wr.cell? ⟨W,1,none⟩=some (.slice at_ (ae tl) ct):=by rw[aF L.blk];rfl
  by_cases dI:k<ae tl
  .have j3:(k:Int)<ae tl:=(by omega);clear L kw;generalize wr=wA at *;go_upto_region 5 with fail;have ir:tl[k]?=some tl[k]:=bD dI;obtain⟨n,hs⟩:=H.o.tk k _ ir;generalize tl[k]=v at ir hs;obtain⟨av,cv,rfl,sG,_⟩:=hs.form;unfold eB at sG;have HS:=aj hs;have HG:=aj ir;clear hs ir c1;go_loopw [4] (fun s4 w'=>∃i:Nat,s4=.int .i64 i/\i<=n/\Kp [] w w') (fun s4 _=>n-(aG s4).toNat)
   case atStart=>exact⟨0,rfl,bU _,KW.o⟩
   case round =>
    clear KW;obtain⟨i,rfl,hi,kw⟩:=hrel;have KW:=aj kw;have L:=H.o.jA kw;(have c1:wr.cell? ⟨W,1,none⟩=some (.slice at_ (ae tl) ct):=by rw[aF L.blk];rfl);obtain⟨_,_,e1,f1⟩:=jV L.ot;obtain⟨Ff,e2,_,_,hc⟩:=f1 (by omega);simp only[fy]at e1;rw[<-e1.1]at e2;subst e2;(have ck:wr.cell? ⟨Ff,k,none⟩=some (.slice av n cv):=by rw[hc k (by omega)];exact HG.o);by_cases SG:i<n
    .have gZ:(i:Int)<n:=(by omega);obtain⟨_,_,e3,_,f3⟩:=(HS.o.kp kw (by simp)).form;obtain⟨g,e4,od⟩:=f3 (by omega);simp only[fy]at e3;rw[<-e3.1]at e4;subst e4;obtain⟨v0,a0,q0⟩:=od (i*3) (by omega);obtain⟨v1,a1,q1⟩:=od (i*3+1) (by omega);obtain⟨v2,a2,q2⟩:=od (i*3+2) (by omega);unfold QT at q0 q1 q2;rw[aA (by omega)]at q0;rw[az (by omega)]at q1 q2;subst q0;subst q1;subst q2;generalize ig:lC k=mk at *;have pL:=aj ig;clear L kw e1 f1 hc e3 f3 od ig;go_upto_region 7 with fail;go_region_law ((go_simp;go_at_call 19;refine(IK k (by omega) _).mono ?_;rintro _ w5 ⟨rfl,tU⟩;have Fx:=tU.symm;subst Fx;clear tU;rw[pL.o]))
     all_goals
      go_wp2;exact⟨⟨i+1,by go_num,by omega,KW.o.drew⟩,by simp[aG];omega⟩
    .have gZ:¬(i:Int)<n:=(by omega);clear L kw hc e1 f1;go_wp2;exact⟨⟨k+1,by go_num,by omega,KW.o⟩,by simp[aG];omega⟩
  .have j3:¬(k:Int)<ae tl:=(by omega);clear L kw;go_upto_region 10 with fail;generalize wr=wB at *;go_loopw [5] (fun s5 w'=>∃k:Nat,s5=.int .i64 k/\k<=ae il/\Kp [] w w') (fun s5 _=>ae il-(aG s5).toNat)
   case atStart=>exact⟨0,rfl,bU _,KW.o⟩
   case round =>
    clear KW c1;obtain⟨k2,rfl,jk,kw⟩:=hrel;have KW:=aj kw;have L:=H.o.jA kw;(have c2:wr.cell? ⟨W,2,none⟩=some (.slice ai (ae il) ci):=by rw[aF L.blk];rfl);by_cases Xc:k2<ae il
    .have abo:(k2:Int)<ae il:=(by omega);clear L kw;generalize wr=wA at *;go_upto_region 13 with fail;have ir:il[k2]?=some il[k2]:=bD Xc;obtain⟨n,hs⟩:=H.o.it k2 _ ir;generalize il[k2]=v at ir hs;obtain⟨av,cv,rfl,sG,_⟩:=hs.form;unfold eB at sG;have HS:=aj hs;have HG:=aj ir;clear hs ir c2;go_loopw [6] (fun s6 w'=>∃i:Nat,s6=.int .i64 i/\i<=n/\Kp [] w w') (fun s6 _=>n-(aG s6).toNat)
     case atStart=>exact⟨0,rfl,bU _,KW.o⟩
     case round =>
      clear KW;obtain⟨i,rfl,hi,kw⟩:=hrel;have KW:=aj kw;have L:=H.o.jA kw;(have c2:wr.cell? ⟨W,2,none⟩=some (.slice ai (ae il) ci):=by rw[aF L.blk];rfl);obtain⟨_,_,e1,f1⟩:=jV L.oi;obtain⟨Ff,e2,_,_,hc⟩:=f1 (by omega);simp only[fy]at e1;rw[<-e1.1]at e2;subst e2;(have ck:wr.cell? ⟨Ff,k2,none⟩=some (.slice av n cv):=by rw[hc k2 (by omega)];exact HG.o);by_cases SG:i<n
      .have gZ:(i:Int)<n:=(by omega);obtain⟨_,_,e3,_,f3⟩:=(HS.o.kp kw (by simp)).form;obtain⟨g,e4,od⟩:=f3 (by omega);simp only[fy]at e3;rw[<-e3.1]at e4;subst e4;obtain⟨v0,a0,q0⟩:=od i (by omega);unfold QI at q0;subst q0;generalize ig:lC k2=mk at *;have pL:=aj ig;clear L kw e1 f1 hc e3 f3 od ig;go_upto_region 15 with fail;go_region_law ((go_simp;go_at_call 19;refine(IK k2 (by omega) _).mono ?_;rintro _ w5 ⟨rfl,tU⟩;have Fx:=tU.symm;subst Fx;clear tU;rw[pL.o]))
       all_goals
        go_wp2;exact⟨⟨i+1,by go_num,by omega,KW.o.drew⟩,by simp[aG];omega⟩
      .have gZ:¬(i:Int)<n:=(by omega);clear L kw hc e1 f1;go_wp2;exact⟨⟨k2+1,by go_num,by omega,KW.o⟩,by simp[aG];omega⟩
    .have abo:¬(k2:Int)<ae il:=(by omega);clear L kw;go_upto_region 18 with fail;generalize wr=wC at *;go_loopw [7] (fun s7 w'=>∃k:Nat,s7=.int .i64 k/\k<=ae rl/\Kp [] w w') (fun s7 _=>ae rl-(aG s7).toNat)
     case atStart=>exact⟨0,rfl,bU _,KW.o⟩
     case round =>
      clear KW c2;obtain⟨k3,rfl,rh,kw⟩:=hrel;have KW:=aj kw;have L:=H.o.jA kw;(have c3:wr.cell? ⟨W,3,none⟩=some (.slice ar (ae rl) cr):=by rw[aF L.blk];rfl);by_cases Ci:k3<ae rl
      .have Ob:(k3:Int)<ae rl:=(by omega);clear L kw;generalize wr=wA at *;go_upto_region 21 with fail;have ir:rl[k3]?=some rl[k3]:=bD Ci;obtain⟨n,hs⟩:=H.o.rw k3 _ ir;generalize rl[k3]=v at ir hs;obtain⟨av,cv,rfl,sG,_⟩:=hs.1.form;unfold eB at sG;have HS:=aj hs;have HG:=aj ir;clear hs ir c3;go_loopw [8] (fun s8 w'=>∃i:Nat,s8=.int .i64 i/\i<=n/\Kp [] w w') (fun s8 _=>n-(aG s8).toNat)
       case atStart=>exact⟨0,rfl,bU _,KW.o⟩
       case round =>
        clear KW;obtain⟨i,rfl,hi,kw⟩:=hrel;have KW:=aj kw;have L:=H.o.jA kw;(have c3:wr.cell? ⟨W,3,none⟩=some (.slice ar (ae rl) cr):=by rw[aF L.blk];rfl);obtain⟨_,_,e1,f1⟩:=jV L.sN;obtain⟨Ff,e2,_,_,hc⟩:=f1 (by omega);simp only[fy]at e1;rw[<-e1.1]at e2;subst e2;(have ck:wr.cell? ⟨Ff,k3,none⟩=some (.slice av n cv):=by rw[hc k3 (by omega)];exact HG.o);by_cases SG:i<n
        .have gZ:(i:Int)<n:=(by omega);obtain⟨_,_,e3,_,f3⟩:=(HS.o.kp kw (by simp) (by simp)).1.form;obtain⟨g,e4,od⟩:=f3 (by omega);simp only[fy]at e3;rw[<-e3.1]at e4;subst e4;obtain⟨v0,a0,g9,c9,q0,q1⟩:=od i (by omega);subst q0;(have a9:wr.cell? ⟨g9,0,none⟩=some (.int .i64 (lC k3)):=by rw[aF q1];rfl);generalize ig:lC k3=mk at *;have pL:=aj ig;clear L kw e1 f1 hc e3 f3 od ig q1;go_upto_region 23 with fail;(have MK:ax (∀w',aI aB 19 #[.int .i64 k3] w' fun e w''=>e=.returned (.int .i64 mk)/\w''=w'):=fun w'=>by rw[<-pL.o];exact IK k3 (by omega) w');(go_quiet ((go_at_call 19;exact Calls.quiet_of_same (MK.o _))));go_wp2;exact⟨⟨i+1,by go_num,by omega,KW.o.drewN nq⟩,by simp[aG];omega⟩
        .have gZ:¬(i:Int)<n:=(by omega);clear L kw hc e1 f1;go_wp2;exact⟨⟨k3+1,by go_num,by omega,KW.o⟩,by simp[aG];omega⟩
      .have Ob:¬(k3:Int)<ae rl:=(by omega);clear L kw;go_wp2;go_ret;exact⟨rfl,KW.o⟩
theorem step_run{ops:Array Oper}{rest:List Oper}{o:Oper}{a:Act}{Q:Exit->Act->ay->Prop}{w w':ay}{v':aq}(iK:o.guard=none)(s x:Operand)(t:cL)(ho:o.op=.call { callee:=.builtin .append,args:=#[s,x],argTypes:=#[t,t] })(v u:aq)(hs:a.eval s=v)(hx:a.eval x=u)(Cp:(Builtin.append_ #[t,t] o.type #[v,u]).run aB w=.ok v' w')(h:wpList aB ops Q rest (a.put o.dst v') w'):wpList aB ops Q (o::rest) a w:=by
 refine wpList_plain iK fun K hK=>?_
 unfold Oper.wp;simp[execOp,ho,resolve,invoke,builtin,hs,hx,Cp,Result.andThen];exact hK _ _ h
theorem am2(a0:Option Addr)(n cap:Nat)(ops:List se)(w:ay)(h:Kc w a0 n ops)(hr:∀d∈ops,wP w d)(hn:n<=1100000):aI aB 6 #[.slice a0 n cap,.int .i64 5] w fun x w'=>x=.returned (.bool true)/\dA w.heap.size w w':=by
 have HS:=aj h;have jC:=aj hr;have hb:(n+3)*72<=140737488355328:=(by omega);clear hr;obtain⟨i0,cS,dc,dm,cW⟩:=iw afy;clear h;go_enter Tryz.func6,Tryz.ntmps6;go_upto_region 3 with fail;have kW:Kp [] w (((w.alloc ue).alloc (.cells #[.string ⟨#[105,102]⟩,.string ⟨#[91,97,45,122,93,43]⟩,.string ⟨#[32,43]⟩] 9)).alloc (.cells #[.int .i64 2,.int .i64 0,.string ⟨#[97,43,98]⟩,.string ⟨#[97,97,98]⟩,.slice none 0 0,.int .i64 3,.int .i64 0,.string ⟨#[]⟩,.string ⟨#[]⟩,.slice (some ⟨w.heap.size+1,0,none⟩) 3 3,.int .i64 4,.int .i64 0,.string ⟨#[]⟩,.string ⟨#[105,102,32,105,102,102,121,32,57]⟩,.slice none 0 0] 34)):=(((Kp.refl _ _).alloc _).alloc _).alloc _;have bO:(((w.alloc ue).alloc (.cells #[.string ⟨#[105,102]⟩,.string ⟨#[91,97,45,122,93,43]⟩,.string ⟨#[32,43]⟩] 9)).alloc (.cells #[.int .i64 2,.int .i64 0,.string ⟨#[97,43,98]⟩,.string ⟨#[97,97,98]⟩,.slice none 0 0,.int .i64 3,.int .i64 0,.string ⟨#[]⟩,.string ⟨#[]⟩,.slice (some ⟨w.heap.size+1,0,none⟩) 3 3,.int .i64 4,.int .i64 0,.string ⟨#[]⟩,.string ⟨#[105,102,32,105,102,102,121,32,57]⟩,.slice none 0 0] 34)).heap[w.heap.size]?=some ue:=by
  rw[aC,aM,aM,az (by omega),aC,aM,az (by omega),aC,aA rfl]
 have bA:(((w.alloc ue).alloc (.cells #[.string ⟨#[105,102]⟩,.string ⟨#[91,97,45,122,93,43]⟩,.string ⟨#[32,43]⟩] 9)).alloc (.cells #[.int .i64 2,.int .i64 0,.string ⟨#[97,43,98]⟩,.string ⟨#[97,97,98]⟩,.slice none 0 0,.int .i64 3,.int .i64 0,.string ⟨#[]⟩,.string ⟨#[]⟩,.slice (some ⟨w.heap.size+1,0,none⟩) 3 3,.int .i64 4,.int .i64 0,.string ⟨#[]⟩,.string ⟨#[105,102,32,105,102,102,121,32,57]⟩,.slice none 0 0] 34)).heap[w.heap.size+1+1]?=some (.cells (ja (lD (w.heap.size+1))).toArray 34 (0,0)):=by
  rw[aC,aM,aM,aA rfl];rfl
 have bS:(((w.alloc ue).alloc (.cells #[.string ⟨#[105,102]⟩,.string ⟨#[91,97,45,122,93,43]⟩,.string ⟨#[32,43]⟩] 9)).alloc (.cells #[.int .i64 2,.int .i64 0,.string ⟨#[97,43,98]⟩,.string ⟨#[97,97,98]⟩,.slice none 0 0,.int .i64 3,.int .i64 0,.string ⟨#[]⟩,.string ⟨#[]⟩,.slice (some ⟨w.heap.size+1,0,none⟩) 3 3,.int .i64 4,.int .i64 0,.string ⟨#[]⟩,.string ⟨#[105,102,32,105,102,102,121,32,57]⟩,.slice none 0 0] 34)).heap[w.heap.size+1]?=some xT:=by
  rw[aC,aM,aM,az (by omega),aC,aM,aA rfl]
 generalize (((w.alloc ue).alloc (.cells #[.string ⟨#[105,102]⟩,.string ⟨#[91,97,45,122,93,43]⟩,.string ⟨#[32,43]⟩] 9)).alloc (.cells #[.int .i64 2,.int .i64 0,.string ⟨#[97,43,98]⟩,.string ⟨#[97,97,98]⟩,.slice none 0 0,.int .i64 3,.int .i64 0,.string ⟨#[]⟩,.string ⟨#[]⟩,.slice (some ⟨w.heap.size+1,0,none⟩) 3 3,.int .i64 4,.int .i64 0,.string ⟨#[]⟩,.string ⟨#[105,102,32,105,102,102,121,32,57]⟩,.slice none 0 0] 34))=W at *;have own:W.ownsRow 0 34 5 (.slice (some ⟨w.heap.size+1+1,0,none⟩) 3 3) 3 (ja (lD (w.heap.size+1))):=⟨rfl,.inr ⟨_,3,_,rfl,bU _,bA,by decide,by decide,rfl,rfl⟩⟩;obtain⟨KW,BO,BA,BS,OWN⟩:=jd kW bO bA bS own;have h1:ax (∀u∈ja ops,u.oneCell'=true):=fun u hu=>by
  obtain⟨d,hd,hu⟩:=List.mem_flatMap.1 hu;simp only[pX,gH,Ev,or_false]at hu;rcases hu with rfl|rfl|rfl|rfl|rfl
  .rfl
  .rfl
  .rfl
  .rfl
  .exact HS.o.one d hd
 clear kW bO bA bS own;obtain⟨g9,oO,w9,qu,jM,k9,b9,bs9⟩:∃(g9 oO:Nat) (w9:ay),(Builtin.append_ #[22,22] 22 #[.slice (some ⟨w.heap.size+1+1,0,none⟩) 3 3,.slice a0 n cap]).run aB W=.ok (.slice (some ⟨g9,0,none⟩) (3+n) oO) w9/\w9.ownsRow 0 34 5 (.slice (some ⟨g9,0,none⟩) (3+n) oO) (3+n) (ja (lD (w.heap.size+1)++ops))/\Kp [] w w9/\w9.heap[w.heap.size]?=some ue/\w9.heap[w.heap.size+1]?=some xT:=by
  by_cases Cj:n=0
  .have Li:ops=[]:=List.eq_nil_of_length_eq_zero (by rw[HS.o.len];exact Cj);subst Cj;exact⟨w.heap.size+1+1,3,W,run_append_nothing W 22 22 22 34 i0 Dp cS _ 3 3 (by decide) _ (by cases a0 with|none=>exact Src.ofNil W Dp cap|some ad=>exact Src.ofSlice W Dp ad 0 cap [] (by simp) (by simp) (by simp)),by rw[Li,Es];exact OWN.o,KW.o,BO.o,BS.o⟩
  .obtain⟨ad,rfl,Tp⟩:∃ad,a0=some ad/\∀j u,(ja ops)[j]?=some u->w.cell? (ad.add j)=some u:=by
    rcases HS.o.src with e|e
    .exact absurd e Cj
    .exact e
   obtain⟨g9,oO,w9,hr,jM,jH,_,_⟩:=run_append_lies (P:=aB) W 22 22 0 34 i0 _ 5 72 Dp cS dc dm cW rfl (by omega) (.slice (some ⟨w.heap.size+1+1,0,none⟩) 3 3) 3 (ja (lD (w.heap.size+1))) OWN.o ad n cap (ja ops) (by rw[aa9,HS.o.len]) (fun j u hu=>ad1 KW.o (Tp j u hu)) h1.o (by omega) (by unfold eB;omega) (by omega) (bU _) _ rfl;exact⟨g9,oO,w9,hr,by rw[aeo];exact jM,KW.o.grown jH (fun k hk=>by simp[aK]at hk;right;omega),fY jH BO.o (by simp[aK];omega),fY jH BS.o (by simp[aK])⟩
 have hl9:(lD (w.heap.size+1)++ops).length=3+n:=by rw[cx,HS.o.len];rfl
 obtain⟨sZ,O9,K9,B9,Zn⟩:=jd qu jM k9 b9 bs9;clear qu jM k9 b9 bs9;go_wp2_with (at_builtin;go_must (refine step_run rfl _ _ _ rfl _ _ rfl rfl (by exact sZ.o) ?_))
 clear sZ;have JH:ax (∀(w':ay),Kp [] w w'->w'.heap[w.heap.size+1]?=some xT->∀j d,(lD (w.heap.size+1)++ops)[j]?=some d->(∃a n cap rs,d.v=.slice a n cap/\vy w' a n rs/\n<=2000000/\(a=none->n=0)/\(j=1->d.k=3/\zg rs n))/\-9223372036854775808<=d.o/\d.o<=9223372036854775807):=fun w' k' b'=>Yg jC.o k' b'
 generalize lD (w.heap.size+1)++ops=A at *;clear HS h1 OWN BA;go_loopw [7] (fun c w'=>∃j:Nat,j<=3+n/\c=.int .i64 j/\w'.ownsRow 0 34 5 (.slice (some ⟨g9,0,none⟩) (3+n) oO) (3+n) (ja A)/\∃(lv tv iv rv:aq) (ps:List (Nat×Nat)) (tl il rl:List aq),eI w w' w.heap.size lv tv iv rv ps tl il rl j/\(2<=j->0<ae ps)/\w'.heap[w.heap.size+1]?=some xT) (fun c _=>3+n-(aG c).toNat)
 case atStart=>exact⟨0,by omega,rfl,O9.o,_,_,_,_,[],[],[],[],eI.start K9.o B9.o,fun q=>by omega,Zn.o⟩
 case round =>
  obtain⟨j,hj,rfl,ow,lv,tv,iv,rv,ps,tl,il,rl,ls,uG,vH⟩:=hrel;have xo:=JH.o wr ls.k vH;obtain⟨OW,LS,th,oG,JA⟩:=jd ow ls uG vH xo;clear ow ls uG vH xo;by_cases aN:j<3+n
  .have ir:A[j]?=some A[j]:=bD (by omega);have hc:∀i,i<5->wr.cell? ⟨g9,j*5+i,none⟩=(pX A[j])[i]?:=fun i hi=>by
    rw[OW.o.cellAt (j*5+i) (by omega)];exact RM A j _ ir i hi
   have e0:=hc 0 (by omega);have e1:=hc 1 (by omega);have e2:=hc 2 (by omega);have e3:=hc 3 (by omega);have e4:=hc 4 (by omega);simp only[pX,List.getElem?_cons_zero,List.getElem?_cons_succ,Nat.add_zero]at e0 e1 e2 e3 e4;generalize A[j]=d at *;obtain⟨⟨ra,rn,rc,rs,ev,yR,xx,Lk,jI⟩,ho⟩:=JA.o j d ir;obtain⟨dk,dO,dp,dt,dv⟩:=d;simp only at ev ho jI;subst ev;have Ek:=aj yR;have AS:=aj jI;clear yR jI;simp only at e0 e1 e2 e3 e4;have gU:(j:Int)<((3+n:Nat):Int):=(by omega);have Xh:(j:Int)<3+(n:Int):=(by omega);have DP:=Ph j (by omega);clear hc ir;by_cases hk:5<dk
   .have AX:ax (2<=j+1->0<ae ps):=fun q=>by
     by_cases e:j=1
     .have:=(AS.o e).1;omega
     .exact th.o (by omega)
    clear e1 e2 e3 e4 ho;go_wp2;refine⟨⟨j+1,by omega,by go_num,OW.o,lv,tv,iv,rv,ps,tl,il,rl,LS.o.more,AX.o,oG.o⟩,by simp[aG];omega⟩
   .have hk':dk<=5:=(by omega);go_wp2_with fail;refine(YI w wr w.heap.size lv tv iv rv ps tl il rl j dk dO dp dt ra rn rc rs LS.o (by omega) Ek.o xx Lk ho (fun _=>ahh)).mono ?_;rintro _ w5 ⟨rfl,kf,lv5,rQ,rB,rJ,ia,rO,rA,nj,l5,KE,B0,_⟩;have Bf:=aj (aJ OW.o kf (fun g hg=>by
     obtain⟨c,hc⟩:=fC OW.o hg;exact LS.o.beside hc (by decide) (by decide) (by decide) (by decide) (by decide)))
    have uzb:=aj (kf.keep oG.o (LS.o.beside oG.o (by decide) (by decide) (by decide) (by decide) (by decide)));have AY:ax (1<=j->0<ae ia):=fun q=>by
     by_cases e:j=1
     .have:=B0 (AS.o e);omega
     .have:=th.o (by omega);omega
    obtain⟨Kh,Ku,rfl,_⟩:=jV l5.ol;(have Bt:w5.cell? ⟨w.heap.size,0,none⟩=some (.slice Kh (ae ia) Ku):=by rw[aF l5.blk];rfl);have L5:=aj l5;clear l5 kf KE B0 e0 e1 e2 e3 e4 ho LS OW oG th;(have vh:ax (2<=j+1->0<ae ia):=fun q=>AY.o (by omega));by_cases nJ:j=0
    case' pos=>have Lb:¬((0:Int)<j):=by omega
    case' neg =>
     have Lb:(0:Int)<j:=(by omega);have hp5:0<ae ia:=AY.o (by omega);have abv:(((ae ia:Nat):Int) == 0)=false:=by
      have:((ae ia:Nat):Int)≠0:=(by omega);simpa using this
    all_goals
     clear nJ;go_wp2_with fail;refine(XT w w5 w.heap.size _ rQ rB rJ ia rO rA nj (j+1) L5.o (by omega)).mono ?_;rintro _ w6 ⟨rfl,k6⟩;have L6:=aj (L5.o.jA k6);have vw:=aj (aJ Bf.o k6 (by simp));have qI:=aj (k6.keep uzb.o (by simp));clear k6 Bt;go_wp2;refine⟨⟨j+1,by omega,by go_num,vw.o,_,rQ,rB,rJ,ia,rO,rA,nj,L6.o,vh.o,qI.o⟩,by simp[aG];omega⟩
  .have yM:j=3+n:=(by omega);subst yM;clear aN;go_wp2;go_ret;exact⟨rfl,LS.o.k.toBelow⟩
theorem aiG(a0:Option Addr)(n cap:Nat)(ops:List se)(w:ay)(h:Kc w a0 n ops)(hr:∀d∈ops,wP w d)(hn:n<=1100000):aI aB 5 #[.slice a0 n cap] w fun x w'=>x=.returned (.bool true)/\dA w.heap.size w w':=by
 have H:=aj h;have HR:=aj hr;clear h hr;go_enter Tryz.func5,Tryz.ntmps5;go_wp2_with fail;refine(am2 a0 n cap ops w H.o HR.o hn).mono ?_;rintro _ w1 ⟨rfl,h1⟩;have H1:=aj h1;clear h1;go_wp2;go_ret;exact⟨rfl,H1.o⟩
section
open Go.ChangeShapes Go.WideShapes Go.ChangeAt Go.RowKit
open Go.ChangeMaps (open_string shut_string)
theorem alM(os:Os)(started:os.Started)(H:Type)(enc:cL×aq->H)(F:Stop.Interp):ReturnsInHanded {} QV os 5 .any ((Rows.OpenSpec.upto Rows.allSpec).pre6 enc aB Tryz.f5 Rows.allUptoRow.domain false) (((Rows.OpenSpec.upto Rows.allSpec).at F).post enc aB Tryz.f5 false true false false):=by
 refine returnsInHanded_of_cond (C:=QV) (s:=Rows.OpenSpec.upto Rows.allSpec) (k:=Rows.uptoSmall) rfl own started (by kernel_rfl) Tryz.func5
  (OpenSpec.witness (enc:=enc) (C:=QV) (s:=Rows.OpenSpec.upto Rows.allSpec) (k:=Rows.uptoSmall) rfl false ⟨#[],#[.slice none 0 0],[]⟩ 8 (by kernel_rfl) (by kernel_rfl) (by kernel_rfl)
   (x:=([.nil],[],[])) (by kernel_rfl) rfl (by kernel_rfl)) ?_
 intro W base args ds gs before Tu hW _ hk _;have Tt:∀(j:Nat) t v,Tryz.f5.params[j]?=some t->args[j]?=some v->Value.okWide aB W .any base t v:=Tu
 have hW':=hW;obtain⟨p,q,Sh,hV,rfl,Sz,eZ⟩:=hW;have hA:DataW.TrodAll enc aB W 0 (fun _=>true) true Tryz.f5.params.toList args.toList ds p:=Sh;rw[Tryz.params5]at hA Tt;obtain⟨v0,vs0,d0,ds0,p0,q0,akF,rfl,rfl,h0,r0⟩:=trodAll_cons hA;obtain⟨rfl,rfl,rfl⟩:=trodAll_nil r0;obtain rfl:args=#[v0]:=by cases args;simp_all
 obtain⟨rfl,rfl⟩:=trodVars_none hV;obtain⟨a0,mC,E9,rfl⟩:=okWide_slice Dp (Tt 0 22 v0 rfl rfl);have k0:=h0;have lt0:∀x∈p0,x.block<W.heap.size:=by obtain⟨m,hm⟩:=k0;exact DataW.trod_lt m _ _ _ hm
 have abh:Rows.uptoBulk d0<=1048576:=by
  have h:Rows.uptoBulkAll ([d0] ++ [])<=1048576:=of_decide_eq_true hk;simp only[Es,Rows.uptoBulkAll]at h;omega
 obtain⟨ops,abE,abD,dD⟩:∃ops,Kc W a0 mC ops/\(∀d∈ops,wP W d)/\mC<=1100000:=by
  obtain⟨fuel,hf⟩:=h0;exact agU hf abh
 clear Sh Tu;refine(aiG a0 mC E9 ops W abE abD dD).mono fun e W' ⟨he,Re⟩=>?_
 subst he;exact⟨_,rfl,_,_,_,[],_,[],hW',trodAll_mk1 (shut_bool Tryz.underlying4 _),(trodAll_cons_mk (Below.trod afI (by kernel_rfl) (of_decide_eq_true (by kernel_rfl)) k0 Re lt0) trodAll_mk0),rfl,Re.frame _,fun h=>by cases h⟩
theorem all_proved:Rows.AllUptoSaid :=
 OpenClaim.holds_of_cond 5 Tryz.f5 rfl rfl rfl rfl rfl rfl rfl ⟨rfl,rfl,rfl,rfl,rfl⟩ rfl rfl rfl rfl rfl (by kernel_rfl) Tryz.func5 (by kernel_rfl)
  (of_decide_eq_true (by kernel_rfl)) (by unfold Func.isWrapper;first|(rw[aA (by decide +kernel)];kernel_rfl)|(rw[az (by decide +kernel)];exact⟨rfl,rfl⟩))
  (fun os started H enc _ F=>alM os started H enc F)
#print axioms all_proved
end
end Go.Proofs.YtbjdkbcfpmeneaaGreat
