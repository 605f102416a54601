/- What is proved here: what smallest.Table answers: the smallest table by which all texts lead to the same rules. -/
import Derived.Test.YtbjdkbcfpmeneaaGreatM02
import Derived.Test.YtbjdkbcfpmeneaaGreatM03
import Derived.Lib.OwnKind
import Derived.Deep.CutRange
open Array renaming all_append->acP,ext_getElem?->xY,foldl_toList->acQ,getElem?_append_left->Zd,getElem?_append_right->Gg,getElem?_eq_none->kP,getElem?_eq_some_iff->AF,getElem?_setIfInBounds->Mx,getElem?_setIfInBounds_ne->iH,getElem?_setIfInBounds_self_of_lt->xZ,getElem?_toList->uk,replicate->x9
open Array.mk renaming injEq->Pj
open Bool renaming and_eq_true->MB,or_eq_true->pJ
open Classical renaming byContradiction->ur,choose->Zt,choose_spec->Zu
open Go renaming Calls->aI,TypeId->cL,Value->aq,World->ay,bodyPost_ret->cF,heap_alloc_new->jS,info_parts->iw,maxLen->eB,results->eG,run_eql_map_nil->Mg,run_underlying->At,step_append_lies->wm,wp_region_lit->fD
open Go.Act renaming put->fj
open Go.Instr renaming fill->oZ,lookup->rX
open Go.IntKind renaming bits->qa,i64->GA,signed->qc,u8->MR,wrap->tA
open Go.Proofs.Tryz renaming prog->aB,underlying127->Nk,underlying141->yw,underlying28->ES,underlying61->qR,underlying65->QZ,underlying67->aaI,underlying89->VZ,underlying91->zB,underlying98->No
open Go.RowKit renaming Below->dA,intOf->aG
open Go.Value renaming cells->uA,oneCell'->dS,ownBlock->aK,slice->uB
open Go.Value.int renaming injEq->Np
open Go.World renaming news_of_block->gN,ownsRow_nil->j9
open Int renaming max_eq_left->aae,max_eq_right->aaf,min_eq_left->aag,min_eq_right->aah,toNat_natCast->mj,toNat_of_nonneg->JR
open List renaming append_nil->Es,eq_nil_of_length_eq_zero->Et,ext_getElem?->JW,foldl_append->MV,getD_eq_getElem?_getD->aO,getElem?_append->aal,getElem?_append_left->iI,getElem?_eq_getElem->bD,getElem?_eq_none->iY,getElem?_eq_some_iff->fB,getElem?_map->kx,getElem?_of_mem->MW,getElem_inj->Vo,getElem_mem->nE,length->ae,length_append->cx,length_map->mX,length_nil->MX,length_set->mq,length_singleton->iq,length_take->GJ,mapM_cons->adb,map_append->uv,map_set->Vq,mem_append->jr,mem_append_left->Qy,mem_cons->gH,mem_cons_of_mem->vq,mem_iff_getElem->Vr,mem_map->kY,mem_of_getElem?->qL,mem_of_mem_take->aao,mem_singleton->bQ,nodup_append->GO,range->lU,replicate->gM,setIfInBounds_toArray->fx,set_cons_succ->eU,set_cons_zero->eX
open List.cons renaming injEq->zn
open Nat renaming add_mul->J1,add_zero->yl,div_eq_of_lt->Vx,le_of_lt->GR,le_refl->aH,le_trans->j8,lt_of_lt_of_le->tC,lt_or_ge->eK,lt_pow_two_of_testBit->M1,lt_succ_self->GS,lt_trichotomy->ym,mul_add_div->aaq,mul_le_mul_right->Ez,ne_of_lt->bY,one_shiftLeft->qM,pow_le_pow_right->EA,testBit_and->GU,testBit_lt_two_pow->QC,testBit_or->jD,testBit_two_pow->ux,zero_add->yn
open Option.some renaming inj->Na,injEq->aV
namespace Go.Proofs.YtbjdkbcfpmeneaaGreat
set_option linter.unusedVariables false
set_option linter.unusedSimpArgs false
set_option maxRecDepth 100000
set_option maxHeartbeats 16000000
open Go.RowKit
section
variable{bs:List Nat}
def eW(bs:List Nat)(c:Nat):Nat->Nat
 |0=>0
 | k+1=>if (bs.getD k 0).testBit c=true then eW bs c k ||| (1 <<< k) else eW bs c k
def ke(fs:List Nat)(h:Nat):Nat->Nat
 |0=>0
 | k+1=>if h.testBit k=true then ke fs h k ||| fs.getD k 0 else ke fs h k
theorem YP(bs:List Nat)(c q:Nat):∀k,(eW bs c k).testBit q=true↔q<k/\(bs.getD q 0).testBit c=true:=by
 intro k;induction k with
 |zero=>simp[eW]
 |succ k ih =>
  rw[eW];have one:(1 <<< k).testBit q=true↔q=k:=by rw[qM,ux,decide_eq_true_eq];exact eq_comm
  by_cases h:(bs.getD k 0).testBit c=true
  .rw[aA h,jD,pJ,ih,one];constructor
   .rintro(⟨a,b⟩|rfl)
    .exact⟨by omega,b⟩
    .exact⟨by omega,h⟩
   .rintro⟨a,b⟩;by_cases e:q=k
    .exact .inr e
    .exact .inl ⟨by omega,b⟩
  .rw[az h,ih];constructor
   .rintro⟨a,b⟩;exact⟨by omega,b⟩
   .rintro⟨a,b⟩;(have:q≠k:=by rintro rfl;exact h b);exact⟨by omega,b⟩
theorem Hl(fs:List Nat)(h r:Nat):∀k,(ke fs h k).testBit r=true↔∃q,q<k/\h.testBit q=true/\(fs.getD q 0).testBit r=true:=by
 intro k;induction k with
 |zero=>simp[ke]
 |succ k ih =>
  rw[ke];by_cases hk:h.testBit k=true
  .rw[aA hk,jD,pJ,ih];constructor
   .rintro(⟨q,a,b⟩|b)
    .exact⟨q,by omega,b⟩
    .exact⟨k,by omega,hk,b⟩
   .rintro⟨q,a,b,c⟩;by_cases e:q=k
    .subst e;exact .inr c
    .exact .inl ⟨q,by omega,b,c⟩
  .rw[az hk,ih];constructor
   .rintro⟨q,a,b⟩;exact⟨q,by omega,b⟩
   .rintro⟨q,a,b,c⟩;(have:q≠k:=by rintro rfl;exact hk b);exact⟨q,by omega,b,c⟩
def wj(bs fs:List Nat)(last:Nat):Nat->Bool->List Nat->Bool
 |_,done,[]=>done
 |op,_,c::cs=>if op &&& eW bs c (ae bs)=0 then false else wj bs fs last (ke fs (op &&& eW bs c (ae bs)) (ae fs)) ((op &&& eW bs c (ae bs)) &&& last != 0) cs
theorem RZ{l:List Nat}{q c:Nat}(h:(l.getD q 0).testBit c=true):q<ae l:=by
 rcases eK q (ae l) with a|a
 .exact a
 .rw[aO,iY a,Option.getD_none]at h;simp at h
theorem Ul{x:Nat}(h:x≠0):∃q,x.testBit q=true:=Nat.exists_testBit_of_ne_zero h
theorem aon(bs fs:List Nat)(last:Nat):∀(x:List Nat) (op:Nat) (done:Bool),wj bs fs last op done x=true↔(x=[]/\done=true)\/∃q,op.testBit q=true/\rd (fun q=>bs.getD q 0) (fun q=>fs.getD q 0) last q x:=by
 intro x;induction x with
 |nil =>
  intro op done;rw[wj];constructor
  .intro h;exact .inl ⟨rfl,h⟩
  .rintro(⟨_,h⟩|⟨q,_,h⟩)
   .exact h
   .exact h.elim
 |cons c cs ih =>
  intro op done;rw[wj];have N8:∀q,(op &&& eW bs c (ae bs)).testBit q=true↔op.testBit q=true/\(bs.getD q 0).testBit c=true:=by
   intro q;rw[GU,MB,YP];constructor
   .rintro⟨a,_,b⟩;exact⟨a,b⟩
   .rintro⟨a,b⟩;exact⟨a,RZ b,b⟩
  generalize op &&& eW bs c (ae bs)=cz at N8;by_cases h0:cz=0
  .rw[aA h0];constructor
   .intro h;cases h
   .rintro(⟨h,_⟩|⟨q,a,b,_⟩)
    .cases h
    .have:=(N8 q).2 ⟨a,b⟩;rw[h0]at this;simp at this
  .rw[az h0,ih];constructor
   .rintro(⟨a,b⟩|⟨r,a,b⟩)
    .obtain⟨q,hq⟩:=Ul (bne_iff_ne.1 b);rw[GU,MB]at hq;have:=(N8 q).1 hq.1;exact .inr ⟨q,this.1,this.2,.inl ⟨a,hq.2⟩⟩
    .obtain⟨q,hq,h1,h2⟩:=(Hl fs cz r _).1 a;have:=(N8 q).1 h1;exact .inr ⟨q,this.1,this.2,.inr ⟨r,h2,b⟩⟩
   .rintro(⟨h,_⟩|⟨q,a,b,⟨e,g⟩|⟨r,e,g⟩⟩)
    .cases h
    .refine .inl ⟨e,bne_iff_ne.2 fun z=>?_⟩;(have:(cz &&& last).testBit q=true:=by rw[GU,(N8 q).2 ⟨a,b⟩,g];rfl);rw[z]at this;simp at this
    .exact .inr ⟨r,(Hl fs cz r _).2 ⟨q,RZ e,(N8 q).2 ⟨a,b⟩,e⟩,g⟩
theorem jE.wj{fs:List Nat}{lo hi:Nat}{e:Bool}{first last:Nat}{L:cC}(h:jE (fun q=>bs.getD q 0) (fun q=>fs.getD q 0) lo hi e first last L)(x:List Nat):Go.Proofs.YtbjdkbcfpmeneaaGreat.wj bs fs last first e x=true↔L x:=by
 rw[aon,<-h.eq x];exact Iff.rfl
abbrev dX(s:Nat):Obj:=.cells #[.int .u64 (wd s 0),.int .u64 (wd s 1),.int .u64 (wd s 2),.int .u64 (wd s 3)] 65 (0,0)
theorem dN.anJ{w:ay}{p g N cap:Nat}{L:List Nat}{vf:aq}(h:dN w p bs L (.slice (some ⟨g,0,none⟩) N cap) vf)(hl:(ae bs)=N)(k:Nat)(hk:k<N):w.cell? ⟨g,k*4,none⟩=some (.int .u64 (wd (bs.getD k 0) 0))/\w.cell? ⟨g,k*4+1,none⟩=some (.int .u64 (wd (bs.getD k 0) 1))/\w.cell? ⟨g,k*4+2,none⟩=some (.int .u64 (wd (bs.getD k 0) 2))/\w.cell? ⟨g,k*4+3,none⟩=some (.int .u64 (wd (bs.getD k 0) 3)):=by
 have ho:w.ownsRow 0 65 4 (.slice (some ⟨g,0,none⟩) N cap) N (iZ bs):=by have:=h.ob;rw[hl]at this;exact this
 have c:∀i<4,w.cell? ⟨g,k*4+i,none⟩=some (.int .u64 (wd (bs.getD k 0) i)):=fun i hi=>by
  rw[ho.cellAt (k*4+i) (by omega)];exact BH bs k (by omega) i hi
 exact⟨c 0 (by omega),c 1 (by omega),c 2 (by omega),c 3 (by omega)⟩
theorem ai4(p cz g cap:Nat)(bs fs:List Nat)(vb:aq)(w:ay)(h:dN w p bs fs vb (.slice (some ⟨g,0,none⟩) (ae fs) cap))(hn:(ae fs)<=200):aI aB 39 #[.pointer (some ⟨p,0,none⟩),cG cz] w fun x w'=>x=.returned (cG (ke fs cz (ae fs)))/\dA w.heap.size w w':=by
 have hp:=aE h.blk;have Tf:p≠w.heap.size:=(by omega);have abx:p≠w.heap.size+1:=(by omega);have ap4:p≠w.heap.size+1+1:=(by omega);have ap5:p≠w.heap.size+2:=(by omega);obtain⟨c0,c1,f0,f1⟩:=two h.blk;have HP:ax _:=h;have hg:g<w.heap.size:=h.lt g (n7.2 (.inr (.inr rfl)));generalize hN:(ae fs)=N at *;have HN:=aj hN;clear h hN;go_enter Tryz.func39,Tryz.ntmps39;go_upto_region 2 with fail;have kW:Kp [] w (((w.alloc (dX cz)).alloc dg).alloc dg):=(((Kp.refl _ w).alloc _).alloc _).alloc _;have bE:(((w.alloc (dX cz)).alloc dg).alloc dg).heap[w.heap.size]?=some (dX cz):=by simp only[aC,aM];simp;omega
 have bZ:(((w.alloc (dX cz)).alloc dg).alloc dg).heap[w.heap.size+1]?=some dg:=by simp only[aC,aM];simp
 have bO:(((w.alloc (dX cz)).alloc dg).alloc dg).heap[w.heap.size+1+1]?=some dg:=by simp only[aC,aM];simp
 generalize ((w.alloc (dX cz)).alloc dg).alloc dg=W at *;clear c0 c1 f0 f1;obtain⟨c0,c1,f0,f1⟩:=two (HP.o.kp kW (by simp)).blk;obtain⟨KW,BE,BZ,BO⟩:=dH kW bE bZ bO;clear kW bE bZ bO;go_wp2_with fail;go_loopw [13] (fun i w'=>∃k:Nat,k<=N/\i=.int .i64 k/\Kp [] w w'/\w'.heap[w.heap.size]?=some (dX cz)/\w'.heap[w.heap.size+1]?=some dg/\w'.heap[w.heap.size+1+1]?=some (dX (ke fs cz k)))
  (fun i _=>N-(aG i).toNat)
 case atStart =>
  refine⟨0,by omega,rfl,KW.o,BE.o,BZ.o,?_⟩;simp only[ke,dX,xV];exact BO.o
 case round =>
  obtain⟨k,hk,rfl,kp,be,bz,bo⟩:=hrel;have P:=HP.o.kp kp (by simp);obtain⟨KP,BE,BZ,BO⟩:=dH kp be bz bo;have lr:w.heap.size+1+1<wr.heap.size:=aE bo;have lr0:w.heap.size<wr.heap.size:=(by omega);have Cz:w.heap.size+1<wr.heap.size:=(by omega);obtain⟨ec0,ec1,ec2,ec3,_⟩:=dB be;obtain⟨Ac,Ad,Ae,Af,Ag,Ah,vW,xM⟩:=dB bo;obtain⟨oy,oz,oB,oC,pF,pG,pH,pI⟩:=dB bz;clear c0 c1 f0 f1 be bz bo kp;by_cases aN:k<N
  ·(have Lp:MR.wrap (k:Int)=k:=by simp[tA,qa,qc];omega);have gU:(k:Int)<N:=(by omega);obtain⟨g0,g1,g2,g3,_⟩:=P.row HN.o k aN;have dL:ax (ke fs cz (k+1)=if cz.testBit k=true then ke fs cz k ||| fs.getD k 0 else ke fs cz k):=rfl;generalize fs.getD k 0=X at *;generalize hO:ke fs cz k=O at *;clear P hO;go_wp2_with fail;refine(WQ cz k _ (by omega)).mono ?_;rintro _ w1 ⟨rfl,h1⟩;have K1:=aj ((KP.o.alloc (dX X)).below h1);have Km:ax (w1.heap[w.heap.size]?=some (dX cz)):=bV h1 (by rw[aC,az (by omega)];exact BE.o);have E8:ax (w1.heap[w.heap.size+1]?=some dg):=bV h1 (by rw[aC,az (by omega)];exact BZ.o);have Hr:w1.heap[w.heap.size+1+1]?=some (dX O):=bV h1 (by rw[aC,az (by omega)];exact BO.o);have Dv:w1.heap[wr.heap.size]?=some (dX X):=bV h1 (by rw[aC,aA rfl]);have lx1:=aE Dv;have Pt:=aj Hr;clear Ac Ad Ae Af Ag Ah vW xM;obtain⟨Ac,Ad,Ae,Af,Ag,Ah,vW,xM⟩:=dB Hr;obtain⟨xc0,xc1,xc2,xc3,_⟩:=dB Dv;clear h1 Hr Dv ec0 ec1 ec2 ec3 oy oz oB oC pF pG pH pI;by_cases hb:cz.testBit k=true
   .rw[hb];have HB:=aj hb;clear hb;go_wp2_with fail;refine(UH O X _ _ (by rw[aC,aA rfl])).mono ?_;rintro _ w2 ⟨rfl,h2⟩;have K2:=aj ((K1.o.alloc (.cells #[.int .u64 (wd O 0),.int .u64 (wd O 1),.int .u64 (wd O 2),.int .u64 (wd O 3),.int .u64 (wd X 0),.int .u64 (wd X 1),.int .u64 (wd X 2),.int .u64 (wd X 3)] 65)).below h2);have be2:ax (w2.heap[w.heap.size]?=some (dX cz)):=bV h2 (by rw[aC,az (by omega)];exact Km.o);have Br:ax (w2.heap[w.heap.size+1]?=some dg):=bV h2 (by rw[aC,az (by omega)];exact E8.o);have Bq:w2.heap[w.heap.size+1+1]?=some (dX O):=bV h2 (by rw[aC,az (by omega)];exact Pt.o);clear Ac Ad Ae Af Ag Ah vW xM xc0 xc1 xc2 xc3 h2;obtain⟨Ac,Ad,Ae,Af,Ag,Ah,vW,xM⟩:=dB Bq;have Jm:=aj Bq;clear Bq;go_wp2;refine⟨⟨k+1,by omega,by go_num,K2.o.nu (.inr (by omega)) _ _ _ _,?_,?_,?_⟩,by simp[aG];omega⟩
    .simp only[aQ,az (show w.heap.size≠w.heap.size+1+1 by omega)];exact be2.o
    .simp only[aQ,az (show w.heap.size+1≠w.heap.size+1+1 by omega)];exact Br.o
    .simp only[aQ,Jm.o];rw[dL.o,aA HB.o];simp[eD]
   .have hb':cz.testBit k=false:=(by simpa using hb);rw[hb'];have HB:=aj hb;clear hb hb';go_wp2;refine⟨⟨k+1,by omega,by go_num,K1.o,Km.o,E8.o,?_⟩,by simp[aG];omega⟩;rw[dL.o,az HB.o];exact Pt.o
  .have jZ:k=N:=(by omega);subst jZ;clear P;go_wp2;refine cF (v:=cG (ke fs cz k)) ?_ rfl ⟨rfl,(KP.o.nu (.inr (by omega)) _ _ _ _).toBelow⟩;have e0:((((wr.setCell ⟨w.heap.size+1,0,none⟩ (.int .u64 (wd (ke fs cz k) 0))).setCell ⟨w.heap.size+1,1,none⟩ (.int .u64 (wd (ke fs cz k) 1))).setCell ⟨w.heap.size+1,2,none⟩ (.int .u64 (wd (ke fs cz k) 2))).setCell ⟨w.heap.size+1,3,none⟩ (.int .u64 (wd (ke fs cz k) 3))).heap[w.heap.size+1]?=some (dX (ke fs cz k)):=by
    simp only[aQ,BZ.o];simp[eD]
   obtain⟨x0,x1,x2,x3,_⟩:=dB e0;simp[eG,Tryz.results39,go_sem,x0,x1,x2,x3]
theorem ai3(p cz cap:Nat)(a:Option Addr)(bs:List Nat)(vb:aq)(w:ay)(h:dN w p bs [] vb (.slice a 0 cap)):aI aB 39 #[.pointer (some ⟨p,0,none⟩),cG cz] w fun x w'=>x=.returned (cG (ke [] cz 0))/\dA w.heap.size w w':=by
 have HP:ax _:=h;clear h;go_enter Tryz.func39,Tryz.ntmps39;go_upto_region 2 with fail;have kW:Kp [] w (((w.alloc (dX cz)).alloc dg).alloc dg):=(((Kp.refl _ w).alloc _).alloc _).alloc _;have bZ:(((w.alloc (dX cz)).alloc dg).alloc dg).heap[w.heap.size+1]?=some dg:=by simp only[aC,aM];simp
 have bO:(((w.alloc (dX cz)).alloc dg).alloc dg).heap[w.heap.size+1+1]?=some dg:=by simp only[aC,aM];simp
 generalize ((w.alloc (dX cz)).alloc dg).alloc dg=W at *;obtain⟨c0,c1,f0,f1⟩:=two (HP.o.kp kW (by simp)).blk;obtain⟨Ac,Ad,Ae,Af,Ag,Ah,vW,xM⟩:=dB bO;obtain⟨oy,oz,oB,oC,pF,pG,pH,pI⟩:=dB bZ;have KW:=aj kW;have BZ:=aj bZ;clear kW bZ bO;go_wp2_with fail;go_rounds 1
 refine cF (v:=cG 0) ?_ rfl ⟨rfl,(KW.o.nu (.inr (by omega)) _ _ _ _).toBelow⟩;have e0:((((W.setCell ⟨w.heap.size+1,0,none⟩ (.int .u64 0)).setCell ⟨w.heap.size+1,1,none⟩ (.int .u64 0)).setCell ⟨w.heap.size+1,2,none⟩ (.int .u64 0)).setCell ⟨w.heap.size+1,3,none⟩ (.int .u64 0)).heap[w.heap.size+1]?=some dg:=by
  simp only[aQ,BZ.o];simp[eD]
 obtain⟨x0,x1,x2,x3,_⟩:=dB e0;simp[eG,Tryz.results39,go_sem,x0,x1,x2,x3,xV]
theorem adO(p cz:Nat)(bs fs:List Nat)(vb vf:aq)(w:ay)(h:dN w p bs fs vb vf)(hn:(ae fs)<=200):aI aB 39 #[.pointer (some ⟨p,0,none⟩),cG cz] w fun x w'=>x=.returned (cG (ke fs cz (ae fs)))/\dA w.heap.size w w':=by
 rcases h.of.2 with⟨rfl,e0⟩|⟨g,cap,cur,rfl,_⟩
 .have:fs=[]:=Et e0;subst this;exact ai3 p cz 0 none bs vb w h
 .exact ai4 p cz g cap bs fs vb w h hn
theorem aoH(p c g cap:Nat)(bs fs:List Nat)(vf:aq)(w:ay)(h:dN w p bs fs (.slice (some ⟨g,0,none⟩) (ae bs) cap) vf)(hn:(ae bs)<=200)(hc:c<256):aI aB 38 #[.pointer (some ⟨p,0,none⟩),.int .u8 c] w fun x w'=>x=.returned (cG (eW bs c (ae bs)))/\dA w.heap.size w w':=by
 have HP:ax _:=h;have hg:g<w.heap.size:=h.lt g (n7.2 (.inr (.inl rfl)));generalize hN:(ae bs)=N at *;have HN:=aj hN;clear h hN;go_enter Tryz.func38,Tryz.ntmps38;go_upto_region 2 with fail;have kW:Kp [] w ((w.alloc dg).alloc dg):=((Kp.refl _ w).alloc _).alloc _;have bZ:((w.alloc dg).alloc dg).heap[w.heap.size]?=some dg:=by simp only[aC,aM];simp
 have bO:((w.alloc dg).alloc dg).heap[w.heap.size+1]?=some dg:=by simp only[aC,aM];simp
 generalize (w.alloc dg).alloc dg=W at *;obtain⟨c0,c1,f0,f1⟩:=two (HP.o.kp kW (by simp)).blk;obtain⟨KW,BZ,BO⟩:=cR kW bZ bO;clear kW bZ bO;go_wp2_with fail;go_loopw [13] (fun i w'=>∃k:Nat,k<=N/\i=.int .i64 k/\Kp [] w w'/\w'.heap[w.heap.size]?=some dg/\w'.heap[w.heap.size+1]?=some (dX (eW bs c k)))
  (fun i _=>N-(aG i).toNat)
 case atStart =>
  refine⟨0,by omega,rfl,KW.o,BZ.o,?_⟩;simp only[eW,dX,xV];exact BO.o
 case round =>
  obtain⟨k,hk,rfl,kp,bz,bo⟩:=hrel;have P:=HP.o.kp kp (by simp);obtain⟨KP,BZ,BO⟩:=cR kp bz bo;have lr:w.heap.size+1<wr.heap.size:=aE bo;have lr0:w.heap.size<wr.heap.size:=(by omega);obtain⟨Ac,Ad,Ae,Af,Ag,Ah,vW,xM⟩:=dB bo;obtain⟨oy,oz,oB,oC,pF,pG,pH,pI⟩:=dB bz;clear c0 c1 f0 f1 bz bo kp;by_cases aN:k<N
  ·(have Lp:MR.wrap (k:Int)=k:=by simp[tA,qa,qc];omega);have gU:(k:Int)<N:=(by omega);obtain⟨g0,g1,g2,g3⟩:=P.anJ HN.o k aN;have dL:ax (eW bs c (k+1)=if (bs.getD k 0).testBit c=true then eW bs c k ||| (1 <<< k) else eW bs c k):=rfl;generalize bs.getD k 0=X at *;generalize hO:eW bs c k=O at *;clear P hO;go_wp2_with fail;refine(WQ X c _ hc).mono ?_;rintro _ w1 ⟨rfl,h1⟩;have K1:=aj ((KP.o.alloc (dX X)).below h1);have E8:ax (w1.heap[w.heap.size]?=some dg):=bV h1 (by rw[aC,az (by omega)];exact BZ.o);have Hr:w1.heap[w.heap.size+1]?=some (dX O):=bV h1 (by rw[aC,az (by omega)];exact BO.o);have lo1:=aE Hr;have Pt:=aj Hr;clear Ac Ad Ae Af Ag Ah vW xM;obtain⟨Ac,Ad,Ae,Af,Ag,Ah,vW,xM⟩:=dB Hr;clear h1 Hr oy oz oB oC pF pG pH pI g0 g1 g2 g3;by_cases hb:X.testBit c=true
   .rw[hb];have HB:=aj hb;clear hb;go_wp2_with fail;go_region_with (first|(go_at_call 53;refine(L0 k _ (by omega)).mono ?_;rintro _ w2 ⟨rfl,h2⟩;have K2:=aj (K1.o.drew.below h2);have Br:ax (w2.heap[w.heap.size]?=some dg):=bV h2 (by exact E8.o);have Bq:w2.heap[w.heap.size+1]?=some (dX O):=bV h2 (by exact Pt.o);have Jm:=aj Bq;have lo2:=aE Bq;obtain⟨Ac,Ad,Ae,Af,Ag,Ah,vW,xM⟩:=dB Bq;clear Bq h2)|(go_at_call 52;refine(UH O (1 <<< k) _ _ (by rw[aC,aA rfl])).mono ?_;rintro _ w3 ⟨rfl,h3⟩;have K3:=aj ((K2.o.alloc (.cells #[.int .u64 (wd O 0),.int .u64 (wd O 1),.int .u64 (wd O 2),.int .u64 (wd O 3),.int .u64 (wd (1 <<< k) 0),.int .u64 (wd (1 <<< k) 1),.int .u64 (wd (1 <<< k) 2),.int .u64 (wd (1 <<< k) 3)] 65)).below h3);have Ro:ax (w3.heap[w.heap.size]?=some dg):=bV h3 (by rw[aC,az (by omega)];exact Br.o);have Du:w3.heap[w.heap.size+1]?=some (dX O):=bV h3 (by rw[aC,az (by omega)];exact Jm.o);have D7:=aj Du;obtain⟨Ac,Ad,Ae,Af,Ag,Ah,vW,xM⟩:=dB Du;clear Du h3))
    all_goals
     go_wp2;refine⟨⟨k+1,by omega,by go_num,K3.o.nu (.inr (by omega)) _ _ _ _,?_,?_⟩,by simp[aG];omega⟩
     .simp only[aQ,az (show w.heap.size≠w.heap.size+1 by omega)];exact Ro.o
     .simp only[aQ,D7.o];rw[dL.o,aA HB.o];simp[eD]
   .have hb':X.testBit c=false:=(by simpa using hb);rw[hb'];have HB:=aj hb;clear hb hb';go_wp2;refine⟨⟨k+1,by omega,by go_num,K1.o,E8.o,?_⟩,by simp[aG];omega⟩;rw[dL.o,az HB.o];exact Pt.o
  .have jZ:k=N:=(by omega);subst jZ;clear P;go_wp2;refine cF (v:=cG (eW bs c k)) ?_ rfl ⟨rfl,(KP.o.nu (.inr (by omega)) _ _ _ _).toBelow⟩;have e0:((((wr.setCell ⟨w.heap.size,0,none⟩ (.int .u64 (wd (eW bs c k) 0))).setCell ⟨w.heap.size,1,none⟩ (.int .u64 (wd (eW bs c k) 1))).setCell ⟨w.heap.size,2,none⟩ (.int .u64 (wd (eW bs c k) 2))).setCell ⟨w.heap.size,3,none⟩ (.int .u64 (wd (eW bs c k) 3))).heap[w.heap.size]?=some (dX (eW bs c k)):=by
    simp only[aQ,BZ.o];simp[eD]
   obtain⟨x0,x1,x2,x3,_⟩:=dB e0;simp[eG,Tryz.results38,go_sem,x0,x1,x2,x3]
theorem aoG(p c cap:Nat)(a:Option Addr)(fs:List Nat)(vf:aq)(w:ay)(h:dN w p [] fs (.slice a 0 cap) vf):aI aB 38 #[.pointer (some ⟨p,0,none⟩),.int .u8 c] w fun x w'=>x=.returned (cG (eW [] c 0))/\dA w.heap.size w w':=by
 have HP:ax _:=h;clear h;go_enter Tryz.func38,Tryz.ntmps38;go_upto_region 2 with fail;have kW:Kp [] w ((w.alloc dg).alloc dg):=((Kp.refl _ w).alloc _).alloc _;have bZ:((w.alloc dg).alloc dg).heap[w.heap.size]?=some dg:=by simp only[aC,aM];simp
 have bO:((w.alloc dg).alloc dg).heap[w.heap.size+1]?=some dg:=by simp only[aC,aM];simp
 generalize (w.alloc dg).alloc dg=W at *;obtain⟨c0,c1,f0,f1⟩:=two (HP.o.kp kW (by simp)).blk;obtain⟨Ac,Ad,Ae,Af,Ag,Ah,vW,xM⟩:=dB bO;obtain⟨oy,oz,oB,oC,pF,pG,pH,pI⟩:=dB bZ;have KW:=aj kW;have BZ:=aj bZ;clear kW bZ bO;go_wp2_with fail;go_rounds 1
 refine cF (v:=cG 0) ?_ rfl ⟨rfl,(KW.o.nu (.inr (by omega)) _ _ _ _).toBelow⟩;have e0:((((W.setCell ⟨w.heap.size,0,none⟩ (.int .u64 0)).setCell ⟨w.heap.size,1,none⟩ (.int .u64 0)).setCell ⟨w.heap.size,2,none⟩ (.int .u64 0)).setCell ⟨w.heap.size,3,none⟩ (.int .u64 0)).heap[w.heap.size]?=some dg:=by
  simp only[aQ,BZ.o];simp[eD]
 obtain⟨x0,x1,x2,x3,_⟩:=dB e0;simp[eG,Tryz.results38,go_sem,x0,x1,x2,x3,xV]
theorem ahj(p c:Nat)(bs fs:List Nat)(vb vf:aq)(w:ay)(h:dN w p bs fs vb vf)(hn:(ae bs)<=200)(hc:c<256):aI aB 38 #[.pointer (some ⟨p,0,none⟩),.int .u8 c] w fun x w'=>x=.returned (cG (eW bs c (ae bs)))/\dA w.heap.size w w':=by
 rcases h.ob.2 with⟨rfl,e0⟩|⟨g,cap,cur,rfl,_⟩
 .have:bs=[]:=Et e0;subst this;exact aoG p c 0 none fs vf w h
 .exact aoH p c g cap bs fs vf w h hn hc
end
section
open Go.RowKit Go.ChangeMaps
theorem amD(B off:Nat)(c:Array aq)(tB:cL)(vm vs:aq)(ks:List aq)(s:Nat)(i:Nat)(w:ay)(hB:w.heap[B]?=some (.cells c tB (0,0)))(h0:c[off]?=some vm)(h1:c[off+1]?=some vs)(hN:gy w 65 4 vm vs ks)(hi:ks[i]?=some (cG s)):aI aB 79 #[.pointer (some ⟨B,off,none⟩),cG s] w fun e w'=>e=.returned (.int .i64 i)/\dA w.heap.size w w':=by
 obtain⟨mb,rfl,hm⟩:∃mb,vm=.map (some mb)/\jW w mb ks:=by
  rcases hN.map with⟨_,q⟩|q
  .rw[q]at hi;simp at hi
  .exact q
 have c0:w.cell? ⟨B,off,none⟩=some (.map (some mb)):=by rw[aF hB];exact h0
 have lB:=aE hB;have lm:=hm.lt;have hl:∀o,(rX 127 (.map (some mb)) (cG s) true).run aB (w.alloc o).drew=.ok (.tuple #[.int .i64 i,.bool true]) (w.alloc o).drew:=fun o =>
  T9 TL Nk _ (hm.keep (by rw[eO,aC,az (bY lm)])) hN.key hN.nodup hi
 clear hm hN hi h0 h1 hB;go_enter Tryz.func79,Tryz.ntmps79;go_wp2_with fail;go_region
 all_goals
  go_wp2;go_ret;exact⟨rfl,((Below.refl _ _).alloc (aH _) _).drew⟩
theorem amF(B off:Nat)(c:Array aq)(tB:cL)(mb:Nat)(vs:aq)(ks:List aq)(s:Nat)(w:ay)(hB:w.heap[B]?=some (.cells c tB (0,0)))(h0:c[off]?=some (.map (some mb)))(h1:c[off+1]?=some vs)(hN:gy w 65 4 (.map (some mb)) vs ks)(hx:cG s∉ks)(hk:ji aB 65 (cG s))(iC:B∉dV (.map (some mb)) vs)(dD:(ae ks)<100000):aI aB 79 #[.pointer (some ⟨B,off,none⟩),cG s] w fun e w'=>e=.returned (.int .i64 (ae ks))/\∃vs',rZ B off c tB 65 4 (.map (some mb)) vs ks w (.map (some mb)) vs' (ks ++ [cG s]) w':=by
 have hm:jW w mb ks:=by
  rcases hN.map with⟨q,_⟩|⟨m,q,r⟩
  .cases q
  .cases q;exact r
 have c0:w.cell? ⟨B,off,none⟩=some (.map (some mb)):=by rw[aF hB];exact h0
 have lB:=aE hB;have lm:=hm.lt;have mB:mb≠B:=fun e=>iC (ju.2 (.inl (by rw[e])))
 have hl:∀o,(rX 127 (.map (some mb)) (cG s) true).run aB (w.alloc o).drew=.ok (.tuple #[.int .i64 0,.bool false]) (w.alloc o).drew:=fun o =>
  Ua TL Nk _ (D5 _) (hm.keep (by rw[eO,aC,az (bY lm)])) hN.key hk hx
 obtain⟨HN,HB,HM,H0,H1⟩:=jd hN hB hm h0 h1;have uK:∃a cap,vs=.slice a (ae ks) cap:=by
  rcases hN.row.2 with⟨rfl,e⟩|⟨g,cap,cur,rfl,_⟩
  .rw[e];exact⟨_,_,rfl⟩
  .exact⟨_,_,rfl⟩
 obtain⟨av,dG,rfl⟩:=uK;obtain⟨i0,cS,dc,dm,cW⟩:=iw Oo;clear hm hN h0 h1 hB;go_enter Tryz.func79,Tryz.ntmps79;go_upto_region 1 with fail;go_region
 all_goals
  have kW:Kp [] w (w.alloc (dX s)).drew:=((Kp.refl [] w).alloc _).drew;have bX:(w.alloc (dX s)).drew.heap[w.heap.size]?=some (dX s):=(by rw[eO,aC,aA rfl]);generalize (w.alloc (dX s)).drew=W at *;have lX:=aE bX;have bB:=kW.keep HB.o (by simp);have mW:jW W mb ks:=HM.o.keep (kW.block mb lm (by simp));have b0:W.cell? ⟨B,off,none⟩=some (.map (some mb)):=by rw[aF bB];exact H0.o
  have b1:W.cell? ⟨B,off+1,none⟩=some (.slice av (ae ks) dG):=by rw[aF bB];exact H1.o
  obtain⟨x0,x1,x2,x3,_⟩:=dB bX;have tS:=fun w r=>Mg (P:=aB) w 127 _ _ r Nk
  obtain⟨o,hu,mN⟩:=I7 TL Nk W.drew (show jW W.drew mb ks from mW) HN.o.key hk hx;obtain⟨KW,BX,BB,MN⟩:=dH kW bX bB mN;clear c0 hl mW kW bX bB mN;go_upto_region 7 with fail;go_region
  all_goals
   have T0:mb<W.heap.size:=tC lm KW.o.size;have k2:Kp [mb] W (setBlock W.drew mb o):=(Kp.refl [mb] W).drew.trans (Ja (w:=W.drew) (b:=mb) (o:=o) T0) (by simp);have mN:=MN.o;generalize setBlock W.drew mb o=W2 at *;have bB:=k2.keep BB.o (by simp;exact fun e=>mB e.symm);have bX:=k2.keep BX.o (by simp;omega);have oV:W2.ownsRow 0 65 4 (.slice av (ae ks) dG) (ae ks) (n6 ks):=aJ (aJ HN.o.row KW.o (by simp)) k2 (by
    intro g e hm;simp at hm;subst hm;exact HN.o.apart e)
   obtain⟨K2,Jo,mS,RW,vu⟩:=jd k2 bX bB oV mN;clear b0 b1 x0 x1 x2 x3 hu MN BB BX tS;(have b1:W2.cell? ⟨B,off+1,none⟩=some (.slice av (ae ks) dG):=by rw[aF bB];exact H1.o);obtain⟨x0,x1,x2,x3,_⟩:=dB bX;have TU:=aE bX;have oe:=aE bB;have Sz:∀o,(W2.alloc o).drew.frozen? ⟨B,off+1,none⟩=false:=fun o=>by
    (have:(W2.alloc o).drew.heap[B]?=some (.cells c tB (0,0)):=by rw[eO,aC,az (bY oe)];exact bB);exact cM this _
   clear bB bX oV k2 mN;go_wp2_with fail;go_region_law
    ((refine wm _ (by rfl) _ _ _ (by rfl) 0 65 i0 _ 4 32 No cS dc dm cW rfl (by omega) (.slice av (ae ks) dG) (ae ks) (n6 ks) (by rfl) ((RW.o.alloc _).drew) ⟨W2.heap.size,0,none⟩ 1 1 [.int .u64 (wd s 0),.int .u64 (wd s 1),.int .u64 (wd s 2),.int .u64 (wd s 3)] (by rfl) (by rfl) (gN (cs:=#[.int .u64 (wd s 0),.int .u64 (wd s 1),.int .u64 (wd s 2),.int .u64 (wd s 3)]) (t:=65) (fr:=(0,0)) (jS W2 _)) (by simp[dS]) (by omega) (by unfold eB;omega) (by omega) (by simp) (W2.heap.size+1) (by simp) ?_;intro g1 aP w3 cT bj cy iz;have LM:w3.frozen? ⟨B,off+1,none⟩=false:=(cM (fY bj (b:=B) (by rw[eO,aC,az (bY oe)];exact mS.o) (fun e=>iC (ju.2 (.inr e)))) _);have nc:w3.cell? ⟨B,off+1,none⟩=some (.slice av (ae ks) dG):=(by rw[aF (fY bj (b:=B) (by rw[eO,aC,az (bY oe)];exact mS.o) (fun e=>iC (ju.2 (.inr e))))];exact H1.o)))
   all_goals
    go_wp2;go_ret;exact⟨rfl,_,IT lB ((KW.o.mono (by simp)).trans K2.o (by intro y hy;simp at hy;subst hy;exact .inl (vq _ (ju.2 (.inl rfl))))) (.inl rfl) mS.o (fun v=>by rw[D4,YC H0.o]) HN.o.nodup HN.o.key HN.o.sizes rfl vu.o hx hk
     (fun g e=>HN.o.lt g (ju.2 (.inr e))) (fun e=>iC (ju.2 (.inr e))) HN.o.apart mB cT bj cy⟩
theorem amE(B off:Nat)(c:Array aq)(tB:cL)(vs:aq)(s:Nat)(w:ay)(hB:w.heap[B]?=some (.cells c tB (0,0)))(h0:c[off]?=some (.map none))(h1:c[off+1]?=some vs)(hN:gy w 65 4 (.map none) vs [])(hk:ji aB 65 (cG s))(iC:B∉dV (.map none) vs):aI aB 79 #[.pointer (some ⟨B,off,none⟩),cG s] w fun e w'=>e=.returned (.int .i64 0)/\∃mb vs',rZ B off c tB 65 4 (.map none) vs [] w (.map (some mb)) vs' [cG s] w':=by
 have c0:w.cell? ⟨B,off,none⟩=some (.map none):=by rw[aF hB];exact h0
 have lB:=aE hB;have hl:∀w',(rX 127 (.map none) (cG s) true).run aB w'=.ok (.tuple #[.int .i64 0,.bool false]) w':=fun w' =>
  Ub TL Nk _ (D5 _) hk
 obtain⟨HN,HB,H0,H1⟩:=dH hN hB h0 h1;have uK:∃a cap,vs=.slice a 0 cap:=by
  rcases hN.row.2 with⟨rfl,e⟩|⟨g,cap,cur,rfl,_⟩
  .exact⟨_,_,rfl⟩
  .exact⟨_,_,rfl⟩
 obtain⟨av,dG,rfl⟩:=uK;obtain⟨i0,cS,dc,dm,cW⟩:=iw Oo;clear hN h0 h1 hB;go_enter Tryz.func79,Tryz.ntmps79;go_upto_region 1 with fail;go_region
 all_goals
  have kW:Kp [] w (w.alloc (dX s)).drew:=((Kp.refl [] w).alloc _).drew;have bX:(w.alloc (dX s)).drew.heap[w.heap.size]?=some (dX s):=(by rw[eO,aC,aA rfl]);generalize (w.alloc (dX s)).drew=W at *;have lX:=aE bX;have bB:=kW.keep HB.o (by simp);have IA:=aE bB;have b0:W.cell? ⟨B,off,none⟩=some (.map none):=by rw[aF bB];exact H0.o
  have f0:=cM bB off;have tS:=fun w r=>Mg (P:=aB) w 127 _ _ r Nk
  obtain⟨KW,BX,BB⟩:=cR kW bX bB;have ig:(Instr.makeMap 127 none).run aB W=.ok (.map (some W.heap.size)) (W.alloc (.map #[] 0)):=run_makeMap _ W;have qi:(W.alloc (.map #[] 0)).heap[B]?=some (.cells c tB (0,0)):=by rw[aC,az (bY IA)];exact bB
  have d0:(W.alloc (.map #[] 0)).cell? ⟨B,off,none⟩=some (.map none):=by rw[aF qi];exact H0.o
  have d1:=cM qi off;clear c0 hl kW bX bB qi;go_upto_region 6 with fail;have kM:Kp [B] W ((W.setCell ⟨B,off,none⟩ (.map (some W.heap.size))).alloc (.map #[] 0)):=((Kp.refl [B] W).set (by simp) _ _).alloc _;have bB:((W.setCell ⟨B,off,none⟩ (.map (some W.heap.size))).alloc (.map #[] 0)).heap[B]?=some (.cells (c.setIfInBounds off (.map (some W.heap.size))) tB (0,0)):=by
   rw[aC,iA,az (bY IA),aQ,aA rfl,BB.o];rfl
  have mW:jW ((W.setCell ⟨B,off,none⟩ (.map (some W.heap.size))).alloc (.map #[] 0)) W.heap.size []:=by
   have:=Yb (W.setCell ⟨B,off,none⟩ (.map (some W.heap.size)));rw[iA]at this;exact this
  generalize (W.setCell ⟨B,off,none⟩ (.map (some W.heap.size))).alloc (.map #[] 0)=W1 at *;generalize Od:W.heap.size=mb at *;have bX:=kM.keep BX.o (by simp;omega);obtain⟨o,hu,mN⟩:=I7 TL Nk W1.drew (show jW W1.drew mb [] from mW) (by simp) hk (by simp);have hu:(Instr.mapUpdate 127 (.map (some mb)) (cG s) (.int .i64 0)).run aB W1.drew=.ok () (setBlock W1.drew mb o):=hu;have l0:=(AF.1 H0.o).1;have l1:=(AF.1 H1.o).1;have Ki:W1.cell? ⟨B,off,none⟩=some (.map (some mb)):=(by rw[aF bB,xZ l0]);have b1':W1.cell? ⟨B,off+1,none⟩=some (.slice av 0 dG):=by rw[aF bB,iH (by omega)];exact H1.o
  obtain⟨x0,x1,x2,x3,_⟩:=dB bX;obtain⟨KM,Gj,p8,MN⟩:=dH kM bX bB mN;have LD:=mW.lt;clear b0 f0 d0 d1 ig kM bX bB mW mN BX BB;go_upto_region 7 with fail;go_region
  all_goals
   have k2:Kp [mb] W1 (setBlock W1.drew mb o):=(Kp.refl [mb] W1).drew.trans (Ja (w:=W1.drew) (b:=mb) (o:=o) LD) (by simp);have mN:=MN.o;generalize setBlock W1.drew mb o=W2 at *;have bB:=k2.keep p8.o (by simp;omega);have bX:=k2.keep Gj.o (by simp;omega);(have fl:∀g,aK (.slice av 0 dG)=some g->g<w.heap.size:=fun g e=>HN.o.lt g (ju.2 (.inr e)));(have nB:aK (.slice av 0 dG)≠some B:=fun e=>iC (ju.2 (.inr e)));have oV:W2.ownsRow 0 65 4 (.slice av 0 dG) 0 []:=aJ (aJ (aJ HN.o.row KW.o (by simp)) KM.o (by intro g e hm;simp at hm;subst hm;exact nB e)) k2 (by
    intro g e hm;simp at hm;have:=fl g e;omega)
   obtain⟨K2,Jo,mS,RW,vu⟩:=jd k2 bX bB oV mN;clear Ki b1' x0 x1 x2 x3 hu MN p8 Gj tS;(have b1:W2.cell? ⟨B,off+1,none⟩=some (.slice av 0 dG):=by rw[aF bB,iH (by omega)];exact H1.o);obtain⟨x0,x1,x2,x3,_⟩:=dB bX;have TU:=aE bX;have oe:=aE bB;clear bB bX oV k2 mN;go_wp2_with fail;go_region_law
    ((refine wm _ (by rfl) _ _ _ (by rfl) 0 65 i0 _ 4 32 No cS dc dm cW rfl (by omega) (.slice av 0 dG) 0 [] (by rfl) ((RW.o.alloc _).drew) ⟨W2.heap.size,0,none⟩ 1 1 [.int .u64 (wd s 0),.int .u64 (wd s 1),.int .u64 (wd s 2),.int .u64 (wd s 3)] (by rfl) (by rfl) (gN (cs:=#[.int .u64 (wd s 0),.int .u64 (wd s 1),.int .u64 (wd s 2),.int .u64 (wd s 3)]) (t:=65) (fr:=(0,0)) (jS W2 _)) (by simp[dS]) (by omega) (by unfold eB;omega) (by omega) (by simp) (W2.heap.size+1) (by simp) ?_;intro g1 aP w3 cT bj cy iz;have q3:=fY bj (b:=B) (by rw[eO,aC,az (bY oe)];exact mS.o) nB;have LM:w3.frozen? ⟨B,off+1,none⟩=false:=cM q3 _;have nc:w3.cell? ⟨B,off+1,none⟩=some (.slice av 0 dG):=(by rw[aF q3,iH (by omega)];exact H1.o);clear q3))
   all_goals
    go_wp2;go_ret;refine⟨rfl,mb,_,IT (ks:=[]) (x:=cG s) lB (((KW.o.mono (by simp)).trans KM.o (by intro y hy;simp at hy;subst hy;exact .inl (by simp))).trans K2.o (by intro y hy;simp at hy;subst hy;exact .inr (by omega))) (.inr (by omega)) mS.o (fun v=>rfl) (by simp) (by simp) (by simp) rfl vu.o (by simp) hk fl nB (fun e=>by have:=fl _ e;omega) (by omega) cT bj cy⟩
theorem amC(B off:Nat)(c:Array aq)(tB:cL)(vm vs:aq)(ks:List aq)(s:Nat)(w:ay)(hB:w.heap[B]?=some (.cells c tB (0,0)))(h0:c[off]?=some vm)(h1:c[off+1]?=some vs)(hN:gy w 65 4 vm vs ks)(hk:ji aB 65 (cG s))(iC:B∉dV vm vs)(dD:(ae ks)<100000):aI aB 79 #[.pointer (some ⟨B,off,none⟩),cG s] w fun e w'=>∃(i:Nat) (gK vs':aq),e=.returned (.int .i64 i)/\(jF ks (cG s))[i]?=some (cG s)/\rZ B off c tB 65 4 vm vs ks w gK vs' (jF ks (cG s)) w':=by
 by_cases hx:cG s∈ks
 .obtain⟨i,hi⟩:=MW hx;rw[uC hx];exact(amD B off c tB vm vs ks s i w hB h0 h1 hN hi).mono fun e w' h=>⟨i,vm,vs,h.1,hi,Yc hB h0 h1 hN h.2⟩
 .rw[sj hx];rcases hN.map with⟨rfl,rfl⟩|⟨mb,rfl,_⟩
  .exact(amE B off c tB vs s w hB h0 h1 hN hk iC).mono fun e w' ⟨h,mb,vs',p⟩=>⟨0,_,vs',h,rfl,p⟩
  .exact(amF B off c tB mb vs ks s w hB h0 h1 hN hx hk iC dD).mono fun e w' ⟨h,vs',p⟩=>⟨(ae ks),_,vs',h,by simp,p⟩
end
section
open Go.RowKit Go.ChangeMaps
theorem ajC(B off:Nat)(c:Array aq)(tB:cL)(vm vs:aq)(ks:List aq)(w:ay)(hB:w.heap[B]?=some (.cells c tB (0,0)))(h1:c[off+1]?=some vs)(hN:gy w 65 4 vm vs ks):aI aB 83 #[.pointer (some ⟨B,off,none⟩)] w fun e w'=>e=.returned (.int .i64 (ae ks))/\w'=w:=by
 obtain⟨av,dG,rfl⟩:=O2 hN;have b1:w.cell? ⟨B,off+1,none⟩=some (.slice av (ae ks) dG):=by rw[aF hB];exact h1
 clear hB h1 hN;go_enter Tryz.func83,Tryz.ntmps83;go_wp2;go_ret;exact⟨rfl,rfl⟩
theorem ame(B off:Nat)(c:Array aq)(tB:cL)(vm vs:aq)(ks:List aq)(w:ay)(hB:w.heap[B]?=some (.cells c tB (0,0)))(h1:c[off+1]?=some vs)(hN:gy w 65 4 vm vs ks)(i s:Nat)(hi:ks[i]?=some (cG s)):aI aB 86 #[.pointer (some ⟨B,off,none⟩),.int .i64 i] w fun e w'=>e=.returned (cG s)/\dA w.heap.size w w':=by
 have dx:i<ae ks:=(fB.1 hi).1;obtain⟨g,cap,rfl,lg,_,hc⟩:=X4 hN hi;have lB:=aE hB;have hi':(i:Int)<ae ks:=(by omega);have HB:=aj hB;have HC:=aj hc;clear hB hN hi hc;go_enter Tryz.func86,Tryz.ntmps86;go_upto_region 1 with fail;have kW:Kp [] w (w.alloc dg):=(Kp.refl _ w).alloc _;have bR:(w.alloc dg).heap[w.heap.size]?=some dg:=(by rw[aC,aA rfl]);generalize (w.alloc dg)=W at *;have b1:W.cell? ⟨B,off+1,none⟩=some (.slice (some ⟨g,0,none⟩) (ae ks) cap):=by rw[aF (kW.keep HB.o (by simp))];exact h1
 have KW:=aj kW;have BR:=aj bR;clear kW bR;apply fD
 iterate 18 go_step
 refine LF rfl _ _ rfl (b:=g) (o:=i*4) (cG s).cells (fun j hj=>?_) rfl _ QZ rfl TH ?_
 .rw[<-HC.o j hj];exact(o8 KW.o.toBelow lg)
 refine mR rfl _ _ _ rfl BR.o rfl rfl rfl TH (by simp[dS,uA]) ?_;intro w2 b2 k2 s2;go_wp2;refine cF (v:=cG s) (D0 Tryz.results86 rfl b2 _ QZ rfl TH) rfl ⟨rfl,(KW.o.trans k2 (by simp)).toBelow⟩
end
section
variable{B F lo f l:Nat->Nat}{n last:Nat}{e:Nat->Bool}{bs fs:List Nat}
def IX(bs fs:List Nat):Nat->List Nat->Nat
 |op,[]=>op
 |op,c::cs=>IX bs fs (ke fs (op &&& eW bs c (ae bs)) (ae fs)) cs
theorem SJ(bs:List Nat)(op c q:Nat):(op &&& eW bs c (ae bs)).testBit q=true↔op.testBit q=true/\(bs.getD q 0).testBit c=true:=by
 rw[GU,MB,YP];constructor
 .rintro⟨a,_,b⟩;exact⟨a,b⟩
 .rintro⟨a,b⟩;exact⟨a,RZ b,b⟩
theorem agH(bs fs:List Nat)(last:Nat)(z:List Nat)(hz:z≠[]):∀(y:List Nat) (op:Nat),(∃q,op.testBit q=true/\rd (fun q=>bs.getD q 0) (fun q=>fs.getD q 0) last q (y++z))↔∃q,(IX bs fs op y).testBit q=true/\rd (fun q=>bs.getD q 0) (fun q=>fs.getD q 0) last q z:=by
 intro y;induction y with
 |nil=>intro op;exact Iff.rfl
 |cons c y ih =>
  intro op;rw[IX,<-ih];constructor
  .rintro⟨q,a,b,⟨e,_⟩|⟨r,e,g⟩⟩
   .exact absurd (List.append_eq_nil_iff.1 e).2 hz
   .exact⟨r,(Hl fs _ r _).2 ⟨q,RZ e,(SJ bs op c q).2 ⟨a,b⟩,e⟩,g⟩
  .rintro⟨r,a,g⟩;obtain⟨q,hq,h1,h2⟩:=(Hl fs _ r _).1 a;have:=(SJ bs op c q).1 h1;exact⟨q,this.1,this.2,.inr ⟨r,h2,g⟩⟩
theorem agG{q c:Nat}:rd B F last q [c]↔(B q).testBit c=true/\last.testBit q=true:=by
 constructor
 .rintro⟨a,⟨_,b⟩|⟨r,_,b⟩⟩
  .exact⟨a,b⟩
  .exact b.elim
 .rintro⟨a,b⟩;exact⟨a,.inl ⟨rfl,b⟩⟩
theorem agE(bs fs:List Nat)(last:Nat)(y:List Nat)(c op:Nat):(∃q,op.testBit q=true/\rd (fun q=>bs.getD q 0) (fun q=>fs.getD q 0) last q (y ++ [c]))↔(IX bs fs op y &&& eW bs c (ae bs)) &&& last≠0:=by
 rw[agH bs fs last [c] (by simp)];constructor
 .rintro⟨q,a,b⟩ e;have b':=agG.1 b;have:((IX bs fs op y &&& eW bs c (ae bs)) &&& last).testBit q=true:=by rw[GU,(SJ bs _ c q).2 ⟨a,b'.1⟩,b'.2];rfl
  rw[e]at this;simp at this
 .intro h;obtain⟨q,hq⟩:=Ul h;rw[GU,MB]at hq;have:=(SJ bs _ c q).1 hq.1;exact⟨q,this.1,agG.2 ⟨this.2,hq.2⟩⟩
structure ED(B F:Nat->Nat)(n:Nat)(lo:Nat->Nat)(e:Nat->Bool)(f l:Nat->Nat)(L:Nat->cC):Prop where
 part:∀i,i<n->jE B F (lo i) (lo (i+1)) (e i) (f i) (l i) (L i)
 mono:∀i j,i<=j->j<=n->lo i<=lo j
def cH(f:Nat->Nat):Nat->Nat
 |0=>0
 | n+1=>cH f n ||| f n
def qF(l:Nat->Nat)(h:Nat):Nat->Nat
 |0=>0
 | n+1=>if h &&& l n≠0 then qF l h n ||| (1 <<< n) else qF l h n
theorem Fa(f:Nat->Nat)(q:Nat):∀n,(cH f n).testBit q=true↔∃i,i<n/\(f i).testBit q=true:=by
 intro n;induction n with
 |zero=>simp[cH]
 |succ n ih =>
  rw[cH,jD,pJ,ih];constructor
  .rintro(⟨i,a,b⟩|b)
   .exact⟨i,by omega,b⟩
   .exact⟨n,by omega,b⟩
  .rintro⟨i,a,b⟩;by_cases e:i=n
   .subst e;exact .inr b
   .exact .inl ⟨i,by omega,b⟩
theorem UK(l:Nat->Nat)(h q:Nat):∀n,(qF l h n).testBit q=true↔q<n/\h &&& l q≠0:=by
 intro n;induction n with
 |zero=>simp[qF]
 |succ n ih =>
  rw[qF];have one:(1 <<< n).testBit q=true↔q=n:=by rw[qM,ux,decide_eq_true_eq];exact eq_comm
  by_cases g:h &&& l n≠0
  .rw[aA g,jD,pJ,ih,one];constructor
   .rintro(⟨a,b⟩|rfl)
    .exact⟨by omega,b⟩
    .exact⟨by omega,g⟩
   .rintro⟨a,b⟩;by_cases e:q=n
    .exact .inr e
    .exact .inl ⟨by omega,b⟩
  .rw[az g,ih];constructor
   .rintro⟨a,b⟩;exact⟨by omega,b⟩
   .rintro⟨a,b⟩;(have:q≠n:=by rintro rfl;exact g b);exact⟨by omega,b⟩
theorem anp{lo hi:Nat}(ho:∀q,lo<=q->q<hi->In lo hi (F q)):∀(x:List Nat) (q:Nat),lo<=q->q<hi->rd B F last q x->∃p,lo<=p/\p<hi/\last.testBit p=true:=by
 intro x;induction x with
 |nil=>intro q _ _ h;exact h.elim
 |cons c cs ih =>
  rintro q h1 h2 ⟨_,⟨_,b⟩|⟨r,e,g⟩⟩
  .exact⟨q,h1,h2,b⟩
  .have:=ho q h1 h2 r e;exact ih r this.1 this.2 g
theorem ED.rd{L:Nat->cC}(h:ED B F n lo e f l L)(i:Nat)(hi:i<n)(x:List Nat)(hx:x≠[]):(∃q,(cH f n).testBit q=true/\rd B F (l i) q x)↔L i x:=by
 rw[<-(h.part i hi).eq x];constructor
 .rintro⟨q,a,b⟩;obtain⟨j,hj,hq⟩:=(Fa f q n).1 a;have pj:=h.part j hj;have hr:=pj.fi q hq;obtain⟨p,p1,p2,p3⟩:=anp pj.fo x q hr.1 hr.2 b;have pi:=(h.part i hi).la p p3;have:i=j:=by
   rcases ym i j with c|c|c
   .have:=h.mono (i+1) j (by omega) (by omega);omega
   .exact c
   .have:=h.mono (j+1) i (by omega) (by omega);omega
  subst this;exact .inr ⟨q,hq,b⟩
 .rintro(⟨a,_⟩|⟨q,a,b⟩)
  .exact absurd a hx
  .exact⟨q,(Fa f q n).2 ⟨i,hi,a⟩,b⟩
def sP(bs fs:List Nat)(l:Nat->Nat)(n:Nat)(s:Nat×Nat)(c:Nat):Nat×Nat:=(ke fs (s.1 &&& eW bs c (ae bs)) (ae fs),qF l (s.1 &&& eW bs c (ae bs)) n)
def wu(bs fs:List Nat)(l:Nat->Nat)(n:Nat)(s:Nat×Nat)(x:List Nat):Nat×Nat:=x.foldl (sP bs fs l n) s
theorem aho(bs fs:List Nat)(l:Nat->Nat)(n:Nat):∀(x:List Nat) (s:Nat×Nat),(wu bs fs l n s x).1=IX bs fs s.1 x:=by
 intro x;induction x with
 |nil=>intro s;rfl
 |cons c x ih=>intro s;exact ih _
theorem Y4(bs fs:List Nat)(l:Nat->Nat)(n:Nat)(s:Nat×Nat)(y:List Nat)(c:Nat):wu bs fs l n s (y ++ [c])=sP bs fs l n (wu bs fs l n s y) c:=by
 unfold wu;rw[MV];rfl
theorem acw{x:List Nat}(h:x≠[]):∃y c,x=y ++ [c]:=⟨x.dropLast,x.getLast h,(List.dropLast_concat_getLast h).symm⟩
theorem Y5{L:Nat->cC}(h:ED (fun q=>bs.getD q 0) (fun q=>fs.getD q 0) n lo e f l L)(x:List Nat)(hx:x≠[])(i:Nat):(wu bs fs l n (cH f n,0) x).2.testBit i=true↔i<n/\L i x:=by
 obtain⟨y,c,rfl⟩:=acw hx;rw[Y4,sP,aho];show(qF l (IX bs fs (cH f n) y &&& eW bs c (ae bs)) n).testBit i=true↔_;rw[UK];constructor
 .rintro⟨a,b⟩;exact⟨a,(h.rd i a _ hx).1 ((agE bs fs (l i) y c _).2 b)⟩
 .rintro⟨a,b⟩;exact⟨a,(agE bs fs (l i) y c _).1 ((h.rd i a _ hx).2 b)⟩
theorem aoR{L:Nat->cC}(h:ED (fun q=>bs.getD q 0) (fun q=>fs.getD q 0) n lo e f l L)(x:List Nat)(hx:x≠[])(h0:wu bs fs l n (cH f n,0) x=(0,0))(z:List Nat)(i:Nat)(hi:i<n):¬L i (x++z):=by
 intro hL;by_cases hz:z=[]
 .rw[hz,Es]at hL;have:=(Y5 h x hx i).2 ⟨hi,hL⟩;rw[h0]at this;simp at this
 .have h1:=(h.rd i hi (x++z) (by simp[hx])).2 hL;obtain⟨q,a,_⟩:=(agH bs fs (l i) z hz x _).1 h1;have e1:IX bs fs (cH f n) x=0:=by have:=aho bs fs l n x (cH f n,0);rw[h0]at this;exact this.symm
  rw[e1]at a;simp at a
end
section
variable{ps:List (Bool×Nat×Nat)}
section
open Go.RowKit Go.ChangeMaps
abbrev pv(x:Bool×Nat×Nat):aq:=dQ x.1 x.2.1 x.2.2
def yu(w:ay)(vr:aq)(ps:List (Bool×Nat×Nat)):Prop:=w.ownsRow 0 67 9 vr (ae ps) (n6 (ps.map pv))
def fR(ps:List (Bool×Nat×Nat))(i:Nat):Nat:=(ps.getD i (false,0,0)).2.1
def lR(ps:List (Bool×Nat×Nat))(i:Nat):Nat:=(ps.getD i (false,0,0)).2.2
def eR(ps:List (Bool×Nat×Nat))(i:Nat):Bool:=(ps.getD i (false,0,0)).1
theorem yu.kp{w w':ay}{vr:aq}{xs:List Nat}(h:yu w vr ps)(hk:Kp xs w w')(hx:∀g,vr.ownBlock=some g->g∉xs):yu w' vr ps:=aJ h hk hx
theorem yu.slice{w:ay}{vr:aq}(h:yu w vr ps):∃a cap,vr=.slice a (ae ps) cap:=by
 rcases h.2 with⟨rfl,e⟩|⟨g,cap,cur,rfl,_⟩
 .rw[e];exact⟨_,_,rfl⟩
 .exact⟨_,_,rfl⟩
theorem yu.at{w:ay}{vr:aq}(h:yu w vr ps){i:Nat}(hi:i<ae ps):∃g cap,vr=.slice (some ⟨g,0,none⟩) (ae ps) cap/\g<w.heap.size/\∀j,j<9->w.cell? ⟨g,i*9+j,none⟩=(dQ (eR ps i) (fR ps i) (lR ps i)).cells[j]?:=by
 have hr:w.ownsRow 0 67 9 vr (ae ps) (n6 (ps.map pv)):=h;rcases hr.2 with⟨_,e⟩|⟨g,cap,cur,rfl,_⟩
 .omega
 .refine⟨g,cap,rfl,(hr.lt g rfl).2,fun j hj=>?_⟩;rw[hr.cellAt (i*9+j) (by omega)];have e:ps.getD i (false,0,0)=ps[i]:=by rw[aO,bD hi];rfl
  refine aaT (n:=9) ?_ (x:=dQ (eR ps i) (fR ps i) (lR ps i)) ?_ hj
  .intro v hv;obtain⟨x,_,rfl⟩:=kY.1 hv;rfl
  .rw[kx,bD hi];simp only[eR,fR,lR,e];rfl
theorem afA:(aB.info? 67).map (fun i=>i.zero)=some (some (.agg #[.bool false,.int .u64 0,.int .u64 0,.int .u64 0,.int .u64 0,.int .u64 0,.int .u64 0,.int .u64 0,.int .u64 0])):=by kernel_rfl
theorem aiX(B:Nat)(c:Array aq)(tB:cL)(vr:aq)(ps:List (Bool×Nat×Nat))(w:ay)(hB:w.heap[B]?=some (.cells c tB (0,0)))(h1:c[1]?=some vr)(hR:yu w vr ps)(hn:(ae ps)<=6):aI aB 56 #[.pointer (some ⟨B,0,none⟩)] w fun e w'=>e=.returned (dJ (cH (fR ps) (ae ps)) 0)/\dA w.heap.size w w':=by
 have lB:=aE hB;obtain⟨av,dG,zY⟩:=hR.slice;obtain⟨HB,HR,H1,JQ⟩:=dH hB hR h1 zY;clear hB hR h1 zY;go_enter Tryz.func56,Tryz.ntmps56;go_upto_region 2 with fail;have kW:Kp [] w ((w.alloc jq).alloc jq):=((Kp.refl _ w).alloc _).alloc _;have bR:((w.alloc jq).alloc jq).heap[w.heap.size]?=some jq:=by simp only[aC,aM];simp
 have bS:((w.alloc jq).alloc jq).heap[w.heap.size+1]?=some jq:=by simp only[aC,aM];simp
 generalize (w.alloc jq).alloc jq=W at *;have c1:W.cell? ⟨B,1,none⟩=some (.slice av (ae ps) dG):=(by rw[aF (kW.keep HB.o (by simp)),H1.o,JQ.o]);obtain⟨KW,BR,BS⟩:=cR kW bR bS;clear kW bR bS;go_wp2_with fail;go_loopw [11] (fun i w'=>∃k:Nat,k<=ae ps/\i=.int .i64 k/\Kp [] w w'/\w'.heap[w.heap.size]?=some jq/\w'.heap[w.heap.size+1]?=some (dZ (cH (fR ps) k) 0))
  (fun i _=>ae ps-(aG i).toNat)
 case atStart=>exact⟨0,by omega,rfl,KW.o,BR.o,by simp only[cH,dZ,xV];exact BS.o⟩
 case round =>
  obtain⟨k,hk,rfl,kp,br,bs⟩:=hrel;have KP:=aj kp;have lS:=aE bs;have lr0:w.heap.size<wr.heap.size:=(by omega);by_cases aN:k<ae ps
  .obtain⟨g,cap,e,lg,hc⟩:=HR.o.at aN;(have hs:av=some ⟨g,0,none⟩/\dG=cap:=by rw[JQ.o]at e;cases e;exact⟨rfl,rfl⟩);obtain⟨rfl,rfl⟩:=hs;have gU:(k:Int)<ae ps:=(by omega);have dL:ax (cH (fR ps) (k+1)=cH (fR ps) k ||| fR ps k):=rfl;generalize cH (fR ps) k=O at *;generalize hX:fR ps k=X at *;generalize lR ps k=Y at *;generalize eR ps k=Z at *;obtain⟨D9,oG,HC⟩:=cR br bs hc;clear hX br bs kp hc e c1;go_upto_region 4 with fail;apply fD
   iterate 3 go_step
   refine LF rfl _ _ rfl (b:=g) (o:=k*9) (dQ Z X Y).cells (fun j hj=>?_) rfl _ aaI rfl Iw ?_
   .rw[<-HC.o j hj];exact o8 KP.o.toBelow lg
   refine qT rfl _ rfl _ afA ?_;refine mR rfl _ _ _ rfl (b:=wr.heap.size) (c:=#[.bool false,.int .u64 0,.int .u64 0,.int .u64 0,.int .u64 0,.int .u64 0,.int .u64 0,.int .u64 0,.int .u64 0]) (e:=67) (by rw[aC,aA rfl];rfl) rfl rfl rfl Iw (by simp[dS,uA]) ?_;intro w5 b5 k5 s5;have K5:ax (Kp [] w w5):=(KP.o.alloc _).trans k5 (by simp;omega);have UN:ax (w5.heap[w.heap.size]?=some jq):=k5.keep (by rw[aC,az (by omega)];exact D9.o) (by simp;omega);have uzb:w5.heap[w.heap.size+1]?=some (dZ O 0):=k5.keep (by rw[aC,az (by omega)];exact oG.o) (by simp;omega);clear k5 s5;have HS5:=aj uzb;have l5:=aE b5;obtain⟨y0,y1,y2,y3,_⟩:=pe uzb;have Rb:w5.heap[wr.heap.size]?=some (cZ Z X Y):=b5;obtain⟨⟨x0,x1,x2,x3,x4,_⟩,_⟩:=gC Rb;clear b5 Rb uzb;go_wp2_with fail;refine(UH O X _ _ (by rw[aC,aA rfl])).mono ?_;rintro _ w6 ⟨rfl,h6⟩;have K6:ax (Kp [] w w6):=(K5.o.alloc _).below h6;have oY:ax (w6.heap[w.heap.size]?=some jq):=bV h6 (by rw[aC,az (by omega)];exact UN.o);have qI:w6.heap[w.heap.size+1]?=some (dZ O 0):=bV h6 (by rw[aC,az (by omega)];exact HS5.o);have HS6:=aj qI;clear y0 y1 y2 y3 x0 x1 x2 x3 x4 h6;obtain⟨y0,y1,y2,y3,y4,y5,y6,y7,f0,f1,f2,f3,_⟩:=pe qI;clear qI;go_wp2;refine⟨⟨k+1,by omega,by go_num,K6.o.nu (.inr (by omega)) _ _ _ _,?_,?_⟩,by simp[aG];omega⟩
   .simp only[aQ,az (show w.heap.size≠w.heap.size+1 by omega)];exact oY.o
   .simp only[aQ,HS6.o];rw[dL.o];simp[eD]
  .have jZ:k=ae ps:=(by omega);subst jZ;have D9:=aj br;have oG:=aj bs;clear br bs kp c1;go_upto_region 7 with fail;apply fD;refine xH rfl _ _ rfl oG.o rfl _ yw rfl vU ?_;refine mR rfl _ _ _ rfl D9.o rfl rfl rfl vU (by simp[dS]) ?_;intro w2 b2 k2 s2;go_wp2;exact cF (v:=dJ (cH (fR ps) (ae ps)) 0) (D0 Tryz.results56 rfl b2 _ yw rfl vU) rfl ⟨rfl,(KP.o.trans k2 (by simp)).toBelow⟩
def C5(b n:Nat)(r:Int):Prop:=(r=-1/\∀i,i<n->b.testBit i=false)\/(∃i:Nat,r=i/\i<n/\b.testBit i=true/\∀k,k<i->b.testBit k=false)
theorem aiV(B a b:Nat)(c:Array aq)(tB:cL)(vr:aq)(ps:List (Bool×Nat×Nat))(w:ay)(hB:w.heap[B]?=some (.cells c tB (0,0)))(h1:c[1]?=some vr)(hR:yu w vr ps)(hn:(ae ps)<=6):aI aB 59 #[.pointer (some ⟨B,0,none⟩),dJ a b] w fun e w'=>∃r:Int,e=.returned (.int .i64 r)/\C5 b (ae ps) r/\dA w.heap.size w w':=by
 have lB:=aE hB;obtain⟨av,dG,zY⟩:=hR.slice;obtain⟨HB,H1,JQ⟩:=cR hB h1 zY;clear hB hR h1 zY;go_enter Tryz.func59,Tryz.ntmps59;go_upto_region 1 with fail;have kW:Kp [] w (w.alloc (dZ a b)):=(Kp.refl _ w).alloc _;have bX:(w.alloc (dZ a b)).heap[w.heap.size]?=some (dZ a b):=(by rw[aC,aA rfl]);generalize w.alloc (dZ a b)=W at *;have c1:W.cell? ⟨B,1,none⟩=some (.slice av (ae ps) dG):=(by rw[aF (kW.keep HB.o (by simp)),H1.o,JQ.o]);have KW:=aj kW;have BX:=aj bX;clear kW bX;go_wp2_with fail;go_loopw [11] (fun i w'=>∃k:Nat,k<=ae ps/\i=.int .i64 k/\Kp [] w w'/\w'.heap[w.heap.size]?=some (dZ a b)/\∀j,j<k->b.testBit j=false)
  (fun i _=>ae ps-(aG i).toNat)
 case atStart=>exact⟨0,by omega,rfl,KW.o,BX.o,fun j hj=>by omega⟩
 case round =>
  obtain⟨k,hk,rfl,kp,bx,hz⟩:=hrel;obtain⟨KP,HZ,Jp⟩:=cR kp hz bx;clear c1 kp hz;by_cases aN:k<ae ps
  .have gU:(k:Int)<ae ps:=(by omega);(have Lp:MR.wrap (k:Int)=k:=by simp[tA,qa,qc];omega);obtain⟨x0,x1,x2,x3,x4,x5,x6,x7,_⟩:=pe bx;clear bx;go_wp2_with fail;refine(WQ b k _ (by omega)).mono ?_;rintro _ w1 ⟨rfl,h1⟩;have K1:=aj (KP.o.below h1);have B1:=aj (bV h1 Jp.o);clear h1 x0 x1 x2 x3 x4 x5 x6 x7;cases hb:b.testBit k with
   |true =>
    have ZK:=aj hb;clear hb;go_wp2;go_ret;exact⟨k,rfl,.inr ⟨k,rfl,aN,ZK.o,HZ.o⟩,K1.o.toBelow⟩
   |false =>
    have ZK:=aj hb;clear hb;go_wp2;refine⟨⟨k+1,by omega,by go_num,K1.o,B1.o,fun j hj=>?_⟩,by simp[aG];omega⟩;by_cases e:j=k
    .rw[e];exact ZK.o
    .exact HZ.o j (by omega)
  .have jZ:k=ae ps:=(by omega);subst jZ;clear bx;go_wp2;go_ret;exact⟨-1,rfl,.inl ⟨rfl,HZ.o⟩,KP.o.toBelow⟩
end
end
section
variable{B tk x y:Nat}{F:List Nat}
section
open Go.RowKit Go.ChangeMaps
structure Zr(w:ay)(B:Nat)(vp vr jg jh iR iT:aq)(ks ss:List aq)(tk:Nat):Prop where
 blk:w.heap[B]?=some (.cells #[vp,vr,jg,jh,iR,iT,.int .i64 tk] 137 (0,0))
 kinds:gy w 65 4 jg jh ks
 work:gy w 141 8 iR iT ss
 bK:B∉dV jg jh
 bS:B∉dV iR iT
 dj:∀g∈dV jg jh,g∉dV iR iT
def Bl(w:ay)(B:Nat)(vp vr:aq)(F:List Nat)(ks ss:List aq)(tk:Nat):Prop :=
 ∃jg jh iR iT,Zr w B vp vr jg jh iR iT ks ss tk/\F=B::(dV jg jh++dV iR iT)
theorem Bl.kp{w w':ay}{vp vr:aq}{ks ss:List aq}{xs:List Nat}(h:Bl w B vp vr F ks ss tk)(hk:Kp xs w w')(hx:∀x∈xs,x∉F):Bl w' B vp vr F ks ss tk:=by
 obtain⟨jg,jh,iR,iT,b,rfl⟩:=h;exact⟨jg,jh,iR,iT,⟨hk.keep b.blk (fun e=>hx _ e (by simp)),b.kinds.kp hk (fun k hm hf=>hx k hm (by simp[hf])),b.work.kp hk (fun k hm hf=>hx k hm (by simp[hf])),b.bK,b.bS,b.dj⟩,rfl⟩
theorem Bl.lt{w:ay}{vp vr:aq}{ks ss:List aq}(h:Bl w B vp vr F ks ss tk):∀g∈F,g<w.heap.size:=by
 obtain⟨jg,jh,iR,iT,b,rfl⟩:=h;intro g hg;rcases gH.1 hg with rfl|hg
 .exact aE b.blk
 .rcases jr.1 hg with q|q
  .exact b.kinds.lt g q
  .exact b.work.lt g q
theorem Bl.mem{w:ay}{vp vr:aq}{ks ss:List aq}(h:Bl w B vp vr F ks ss tk):B∈F:=by
 obtain⟨jg,jh,iR,iT,b,rfl⟩:=h;simp
theorem Bl.blk{w:ay}{vp vr:aq}{ks ss:List aq}(h:Bl w B vp vr F ks ss tk):∃c:Array aq,w.heap[B]?=some (.cells c 137 (0,0))/\c[0]?=some vp/\c[1]?=some vr:=by
 obtain⟨jg,jh,iR,iT,b,rfl⟩:=h;exact⟨_,b.blk,rfl,rfl⟩
theorem acN(hx:x<2 ^ 256)(hy:y<2 ^ 256)(h0:wd x 0=wd y 0)(h1:wd x 1=wd y 1)(h2:wd x 2=wd y 2)(h3:wd x 3=wd y 3):x=y:=by
 unfold wd at *;simp only[Nat.mul_zero,Nat.pow_zero,Nat.div_one,Nat.mul_one,Nat.reduceMul,Nat.reducePow]at *;omega
theorem aod(hx:x<2 ^ 256)(hy:y<2 ^ 256)(h:cG x=cG y):x=y:=by
 simp only[cG,Value.agg.injEq,Pj,zn,Np,true_and,and_true]at h;exact acN hx hy h.1 h.2.1 h.2.2.1 h.2.2.2
theorem ag5{a b c d:Nat}(ha:a<2 ^ 256)(hb:b<2 ^ 256)(hc:c<2 ^ 256)(hd:d<2 ^ 256)(h:dJ a b=dJ c d):a=c/\b=d:=by
 simp only[dJ,Value.agg.injEq,Pj,zn,Np,true_and,and_true]at h;exact⟨acN ha hc h.1 h.2.1 h.2.2.1 h.2.2.2.1,acN hb hd h.2.2.2.2.1 h.2.2.2.2.2.1 h.2.2.2.2.2.2.1 h.2.2.2.2.2.2.2⟩
open Classical in
theorem anX(a b c d:Nat)(w:ay):(Op.equalIn 10000 141 (dJ a b) (dJ c d)).run aB w=.ok (decide (dJ a b=dJ c d)) w:=by
 obtain⟨lx,hx⟩:=acy a b;obtain⟨ly,hy⟩:=acy c d;obtain⟨r,hr,Xa⟩:=run_equal_deep (P:=aB) w (m:=3) (by omega) (k:=141) (by kernel_rfl) (by rw[yw]) hx hy;have e:(Op.equal 141 (dJ a b) (dJ c d))=Op.equalIn 10000 141 (dJ a b) (dJ c d):=rfl;have Xx:r=decide (dJ a b=dJ c d):=by
  by_cases h:dJ a b=dJ c d
  .rw[decide_eq_true h];rw[h,hy]at hx;exact Xa.2 (Na hx).symm
  .rw[decide_eq_false h];cases r with
   |false=>rfl
   |true=>exact absurd (Ov.inj (l:=lx) hx (by rw[hy,Xa.1 rfl])) h
 rw[<-e,hr,Xx]
open Classical in
theorem anY(a b:Nat)(w:ay)(ha:a<2 ^ 256)(hb:b<2 ^ 256):(Op.equalIn 10000 141 (dJ a b) (.agg #[.int .u64 0,.int .u64 0,.int .u64 0,.int .u64 0,.int .u64 0,.int .u64 0,.int .u64 0,.int .u64 0])).run aB w=.ok (decide (a=0/\b=0)) w:=by
 have h:=anX a b 0 0 w;have e0:dJ 0 0=.agg #[.int .u64 0,.int .u64 0,.int .u64 0,.int .u64 0,.int .u64 0,.int .u64 0,.int .u64 0,.int .u64 0]:=(by simp only[dJ,xV]);have hd:decide (dJ a b=dJ 0 0)=decide (a=0/\b=0):=by
  by_cases q:a=0/\b=0
  .rw[decide_eq_true q,decide_eq_true (by rw[q.1,q.2])]
  .rw[decide_eq_false q,decide_eq_false fun e=>q (ag5 ha hb (by decide) (by decide) e)]
 rw[<-e0,h,hd]
def DW(ss:List aq)(a b:Nat)(r:Int):Prop:=(a=0/\b=0/\r=-1)\/(¬(a=0/\b=0)/\∃i:Nat,r=i/\ss[i]?=some (dJ a b))
theorem aiZ(B a b:Nat)(vp vr:aq)(F:List Nat)(ks ss:List aq)(tk:Nat)(w:ay)(h:Bl w B vp vr F ks ss tk)(ha:a<2 ^ 256)(hb:b<2 ^ 256)(dD:(ae ss)<100000):aI aB 84 #[.pointer (some ⟨B,0,none⟩),dJ a b] w fun e w'=>∃(r:Int) (F':List Nat) (ss':List aq),e=.returned (.int .i64 r)/\DW ss' a b r/\(ss'=ss\/(ss'=ss ++ [dJ a b]/\¬(a=0/\b=0)))/\Bl w' B vp vr F' ks ss' tk/\Kp F w w'/\∀g∈F',g∈F\/w.heap.size<=g:=by
 have HH:=aj h;have hq:=fun w=>anY a b w ha hb
 clear h;by_cases hz:a=0/\b=0
 .have hz':decide (a=0/\b=0)=true:=decide_eq_true hz;rw[hz']at hq;have HZ:=aj hz;clear hz hz';go_enter Tryz.func84,Tryz.ntmps84;go_upto_region 1 with fail;have kW:Kp [] w (w.alloc (dZ a b)):=(Kp.refl _ w).alloc _;have bX:(w.alloc (dZ a b)).heap[w.heap.size]?=some (dZ a b):=(by rw[aC,aA rfl]);generalize (w.alloc (dZ a b))=W at *;obtain⟨x0,x1,x2,x3,x4,x5,x6,x7,xr⟩:=pe bX;have KW:=aj kW;clear kW bX xr;go_wp2;go_ret;exact⟨-1,F,ss,rfl,.inl ⟨HZ.o.1,HZ.o.2,rfl⟩,.inl rfl,HH.o.kp KW.o (by simp),KW.o.mono (by simp),fun g hg=>.inl hg⟩
 .have hz':decide (a=0/\b=0)=false:=decide_eq_false hz;rw[hz']at hq;have HZ:=aj hz;clear hz hz';obtain⟨jg,jh,iR,iT,bl,hF⟩:=HH.o;have BL:=aj bl;have HF:=aj hF;clear bl hF;go_enter Tryz.func84,Tryz.ntmps84;go_upto_region 1 with fail;have kW:Kp [] w (w.alloc (dZ a b)):=(Kp.refl _ w).alloc _;have bX:(w.alloc (dZ a b)).heap[w.heap.size]?=some (dZ a b):=(by rw[aC,aA rfl]);generalize (w.alloc (dZ a b))=W at *;obtain⟨x0,x1,x2,x3,x4,x5,x6,x7,xr⟩:=pe bX;have KW:=aj kW;clear kW bX xr;go_upto_region 3 with fail;go_region_with ((go_at_call 55;refine(agB B 4 _ 137 iR iT ss a b _ ((KW.o.drew).keep BL.o.blk (by simp)) rfl rfl (BL.o.work.kp KW.o.drew (by simp)) BL.o.bS dD).mono ?_;rintro _ w2 ⟨i,gK,vs',rfl,hi,hp⟩))
  all_goals
   go_wp2;go_ret;have jk:Kp F w w2:=(KW.o.drew.mono (by simp)).trans hp.kp (by
    intro y hy;rw[HF.o];rcases gH.1 hy with rfl|q
    .exact .inl (by simp)
    .exact .inl (by simp[q]))
   have fresh:∀g∈dV gK vs',g∈dV iR iT\/w.heap.size<=g:=fun g hg=>by
    rcases hp.foot g hg with e|e
    .exact .inl e
    .exact .inr (j8 KW.o.size e)
   refine⟨i,B::(dV jg jh++dV gK vs'),jF ss (dJ a b),rfl,.inr ⟨HZ.o,i,rfl,hi⟩,?_,⟨jg,jh,gK,vs',⟨?_,?_,hp.ok,BL.o.bK,?_,?_⟩,rfl⟩,jk,?_⟩
   .by_cases hm:dJ a b∈ss
    .exact .inl (uC hm)
    .exact .inr ⟨sj hm,HZ.o⟩
   .exact hp.blk
   .refine BL.o.kinds.kp ((KW.o.drew.mono (ys:=B::dV iR iT) (by simp)).trans hp.kp (fun y hy=>.inl hy)) ?_;intro k hk hf;rcases gH.1 hk with rfl|q
    .exact BL.o.bK hf
    .exact BL.o.dj k hf q
   .intro hm;rcases fresh B hm with e|e
    .exact BL.o.bS e
    .have:=aE BL.o.blk;omega
   .intro g hg hm;rcases fresh g hm with e|e
    .exact BL.o.dj g hg e
    .have:=BL.o.kinds.lt g hg;omega
   .intro g hg;rw[HF.o];rcases gH.1 hg with rfl|q
    .exact .inl (by simp)
    .rcases jr.1 q with q|q
     .exact .inl (by simp[q])
     .rcases fresh g q with e|e
      .exact .inl (by simp[e])
      .exact .inr e
end
end
section
open Go.RowKit Go.ChangeMaps
structure zc(x:Nat->aq)(k:Nat)(ks:List aq)(cl:Nat->Nat):Prop where
 at_:∀c,c<k->ks[cl c]?=some (x c)
 za:∀i,i<ae ks->∃c,c<k/\cl c=i
 ord:∀c i,c<k->i<cl c->∃d,d<c/\cl d=i
theorem zc.step{x:Nat->aq}{k:Nat}{ks:List aq}{cl:Nat->Nat}(h:zc x k ks cl){i:Nat}(hi:(jF ks (x k))[i]?=some (x k)):zc x (k+1) (jF ks (x k)) (fun c=>if c=k then i else cl c):=by
 by_cases hm:x k∈ks
 .rw[uC hm]at hi |-
  have dx:=(fB.1 hi).1;refine⟨fun c hc=>?_,fun j hj=>?_,fun c j hc hj=>?_⟩
  .by_cases e:c=k
   .subst e;rw[aA rfl];exact hi
   .rw[az e];exact h.at_ c (by omega)
  .obtain⟨c,hc,e⟩:=h.za j hj;exact⟨c,by omega,by rw[az (by omega)];exact e⟩
  .by_cases e:c=k
   .subst e;rw[aA rfl]at hj;obtain⟨d,hd,e⟩:=h.za j (by omega);exact⟨d,hd,by rw[az (by omega)];exact e⟩
   .rw[az e]at hj;obtain⟨d,hd,e2⟩:=h.ord c j (by omega) hj;exact⟨d,hd,by rw[az (by omega)];exact e2⟩
 .rw[sj hm]at hi |-
  have dx:i=ae ks:=by
   rw[aal]at hi;split at hi
   .exact absurd (qL hi) hm
   .have:=(fB.1 hi).1;simp at this;omega
  subst dx;refine⟨fun c hc=>?_,fun j hj=>?_,fun c j hc hj=>?_⟩
  .by_cases e:c=k
   .subst e;rw[aA rfl];simp
   .rw[az e];have:=h.at_ c (by omega);rw[iI (fB.1 this).1];exact this
  .rw[cx,iq]at hj;by_cases e:j=ae ks
   .exact⟨k,by omega,by rw[aA rfl,e]⟩
   .obtain⟨c,hc,e⟩:=h.za j (by omega);exact⟨c,by omega,by rw[az (by omega)];exact e⟩
  .by_cases e:c=k
   .subst e;rw[aA rfl]at hj;obtain⟨d,hd,e⟩:=h.za j hj;exact⟨d,hd,by rw[az (by omega)];exact e⟩
   .rw[az e]at hj;obtain⟨d,hd,e2⟩:=h.ord c j (by omega) hj;exact⟨d,hd,by rw[az (by omega)];exact e2⟩
def cI(cl:Nat->Nat)(k:Nat):Array aq:=(Array.range 256).map fun c=>.int .i64 (if c<k then cl c else 0:Nat)
theorem fU(cl:Nat->Nat)(k:Nat):(cI cl k).size=256:=by simp[cI]
theorem Bu(cl:Nat->Nat)(k c:Nat)(hc:c<256):(cI cl k)[c]?=some (.int .i64 (if c<k then cl c else 0:Nat)):=by
 simp[cI,hc]
theorem Rv(cl:Nat->Nat):cI cl 0=x9 256 (.int .i64 0):=by
 apply xY;intro i;rcases eK i 256 with h|h
 .rw[Bu _ _ _ h];simp[h]
 .rw[kP (by rw[fU];exact h),kP (by simpa using h)]
theorem aaW(cl:Nat->Nat)(k i:Nat)(hk:k<256):(cI cl k).setIfInBounds k (.int .i64 i)=cI (fun c=>if c=k then i else cl c) (k+1):=by
 apply xY;intro j;rcases eK j 256 with h|h
 .rw[Bu _ _ _ h,Mx,fU];by_cases e:k=j
  .subst e;rw[aA rfl,aA hk,aA (by omega),aA rfl]
  .rw[az e,Bu _ _ _ h];by_cases q:j<k
   .rw[aA q,aA (by omega),az (by omega)]
   .rw[az q,az (by omega)]
 .rw[kP (by rw[Array.size_setIfInBounds,fU];exact h),kP (by rw[fU];exact h)]
theorem vJ(cl:Nat->Nat)(k:Nat):(cI cl k).all (·.oneCell')=true:=by
 rw[Array.all_eq_true_iff_forall_mem];intro v hv;simp only[cI,Array.mem_map]at hv;obtain⟨c,_,rfl⟩:=hv;rfl
theorem adI(ks:List aq)(x:aq):(jF ks x).length<=ae ks+1:=by
 by_cases h:x∈ks
 .rw[uC h];omega
 .rw[sj h];simp
theorem afw:(aB.info? 89).map (fun i=>i.zero)=some (some (.agg (x9 256 (.int .i64 0)))):=by kernel_rfl
theorem TG:(aB.info? 89).map (·.size)=some 256:=by kernel_rfl
abbrev clO(cl:Nat->Nat)(k:Nat):Obj:=.cells (cI cl k) 89 (0,0)
theorem Zr.amx{wr w2 w3:ay}{B:Nat}{vp vr jg jh iR iT gK vs':aq}{ks ks' ss:List aq}{tk:Nat}(b:Zr wr B vp vr jg jh iR iT ks ss tk)(k2:Kp [] wr w2)(hp:rZ B 2 #[vp,vr,jg,jh,iR,iT,.int .i64 tk] 137 65 4 jg jh ks w2 gK vs' ks' w3):Bl w3 B vp vr (B::(dV gK vs' ++ dV iR iT)) ks' ss tk/\Kp (B::(dV jg jh++dV iR iT)) wr w3/\∀g∈B::(dV gK vs' ++ dV iR iT),g∈B::(dV jg jh++dV iR iT)\/wr.heap.size<=g:=by
 have k3:Kp (B::dV jg jh) wr w3:=(k2.mono (by simp)).trans hp.kp (fun y hy=>.inl hy);have fresh:∀g∈dV gK vs',g∈dV jg jh\/wr.heap.size<=g:=fun g hg=>by
  rcases hp.foot g hg with e|e
  .exact .inl e
  .exact .inr (j8 k2.size e)
 refine⟨⟨gK,vs',iR,iT,⟨hp.blk,hp.ok,?_,?_,b.bS,?_⟩,rfl⟩,k3.mono ?_,?_⟩
 .refine b.work.kp k3 ?_;intro k hk hf;rcases gH.1 hk with rfl|q
  .exact b.bS hf
  .exact b.dj k q hf
 .intro hm;rcases fresh B hm with e|e
  .exact b.bK e
  .have:=aE b.blk;omega
 .intro g hg hm;rcases fresh g hg with e|e
  .exact b.dj g e hm
  .have:=b.work.lt g hm;omega
 .intro x hx;rcases gH.1 hx with rfl|q
  .simp
  .simp[q]
 .intro g hg;rcases gH.1 hg with rfl|q
  .exact .inl (by simp)
  .rcases jr.1 q with q|q
   .rcases fresh g q with e|e
    .exact .inl (by simp[e])
    .exact .inr e
   .exact .inl (by simp[q])
theorem ajo{w:ay}{b b' i j:Nat}{v:aq}(h:b≠b'):(w.setCell ⟨b',j,none⟩ v).cell? ⟨b,i,none⟩=w.cell? ⟨b,i,none⟩ :=
 World.cell?_setCell_other _ _ _ _ (by intro e;apply h;cases e;rfl)
theorem aiW(B p:Nat)(vr vb vf:aq)(F:List Nat)(bs fs:List Nat)(ss:List aq)(tk:Nat)(w:ay)(h:Bl w B (.pointer (some ⟨p,0,none⟩)) vr F [] ss tk)(hP:∀w',Kp F w w'->dN w' p bs fs vb vf)(pU:(ae bs)<=200):aI aB 54 #[.pointer (some ⟨B,0,none⟩)] w fun e w'=>∃(F':List Nat) (ks:List aq) (cl:Nat->Nat),e=.returned (.agg (cI cl 256))/\(ae ks)<=256/\zc (fun c=>cG (eW bs c (ae bs))) 256 ks cl/\Bl w' B (.pointer (some ⟨p,0,none⟩)) vr F' ks ss tk/\Kp F w w'/\∀g∈F',g∈F\/w.heap.size<=g:=by
 have HH:=aj h;have HP:=aj hP;have lF:=aj h.lt;clear h hP;go_enter Tryz.func54,Tryz.ntmps54;go_upto_region 0 with fail;apply fD;refine qT rfl _ rfl _ afw ?_;go_upto_region 1 with fail;apply fD;refine qT rfl _ rfl _ afw ?_;simp only[fj,fx,eX,eU,aM,uA];have kW:Kp [] w ((w.alloc (.cells (x9 256 (.int .i64 0)) 89 (0,0))).alloc (.cells (x9 256 (.int .i64 0)) 89 (0,0))):=((Kp.refl _ w).alloc _).alloc _;have bR:((w.alloc (.cells (x9 256 (.int .i64 0)) 89 (0,0))).alloc (.cells (x9 256 (.int .i64 0)) 89 (0,0))).heap[w.heap.size]?=some (.cells (x9 256 (.int .i64 0)) 89 (0,0)):=by
  rw[aC,aM,az (by omega),aC,aA rfl]
 have bC:((w.alloc (.cells (x9 256 (.int .i64 0)) 89 (0,0))).alloc (.cells (x9 256 (.int .i64 0)) 89 (0,0))).heap[w.heap.size+1]?=some (.cells (x9 256 (.int .i64 0)) 89 (0,0)):=by
  rw[aC,aM,aA rfl]
 generalize ((w.alloc (.cells (x9 256 (.int .i64 0)) 89 (0,0))).alloc (.cells (x9 256 (.int .i64 0)) 89 (0,0)))=W at *;generalize hz:(x9 256 (.int .i64 0):Array aq)=zs at *;obtain⟨HZ,KW,BR,BC⟩:=dH hz kW bR bC;clear kW bR bC hz;go_wp2_with fail;go_loopw [5] (fun i w'=>∃(k:Nat) (F':List Nat) (ks:List aq) (cl:Nat->Nat),k<=256/\i=.int .i64 k/\(ae ks)<=k/\zc (fun c=>cG (eW bs c (ae bs))) k ks cl/\Bl w' B (.pointer (some ⟨p,0,none⟩)) vr F' ks ss tk/\Kp F w w' /\
   (∀g∈F',g∈F\/w.heap.size+2<=g)/\w'.heap[w.heap.size]?=some (.cells zs 89 (0,0))/\w'.heap[w.heap.size+1]?=some (clO cl k))
  (fun i _=>256-(aG i).toNat)
 case atStart =>
  refine⟨0,F,[],fun _=>0,by omega,rfl,by simp,⟨fun c hc=>by omega,fun i hi=>by simp at hi,fun c i hc=>by omega⟩,HH.o.kp KW.o (by simp),KW.o.mono (by simp),fun g hg=>.inl hg,BR.o,?_⟩;rw[clO,Rv,HZ.o];exact BC.o
 case round =>
  obtain⟨k,F',ks,cl,hk,rfl,dI,inv,bl,kp,fr,br,bc⟩:=hrel;by_cases aN:k<256
  .have gU:(k:Int)<256:=(by omega);(have Lp:MR.wrap (k:Int)=k:=by simp[tA,qa,qc];omega);obtain⟨jg,jh,iR,iT,b,hF⟩:=bl;(have nR:w.heap.size∉F':=fun hm=>by rcases fr _ hm with e|e;have:=lF.o _ e;omega;omega);(have nC:w.heap.size+1∉F':=fun hm=>by rcases fr _ hm with e|e;have:=lF.o _ e;omega;omega);(have nCB:w.heap.size+1≠B:=fun e=>nC (by rw[hF,e];simp));obtain⟨BL,HF,KP,D9,Zg,Vh,FR⟩:=DG b hF kp br bc inv fr;(have Tr:∀w',dN w' p bs fs vb vf->aI aB 38 #[.pointer (some ⟨p,0,none⟩),.int .u8 (k:Int)] w' fun x w''=>x=.returned (cG (eW bs k (ae bs)))/\dA w'.heap.size w' w'':=fun w' h'=>ahj p k bs fs vb vf w' h' pU aN);(have eM:∀i,(jF ks (cG (eW bs k (ae bs))))[i]?=some (cG (eW bs k (ae bs)))->zc (fun c=>cG (eW bs c (ae bs))) (k+1) (jF ks (cG (eW bs k (ae bs)))) (fun c=>if c=k then i else cl c):=fun i hi=>inv.step hi);generalize eW bs k (ae bs)=T at *;have mT:=aj eM;have HT:=aj Tr;have lBr:=aE b.blk;(have c0:wr.drew.cell? ⟨B,0,none⟩=some (.pointer (some ⟨p,0,none⟩)):=by show wr.cell? _=_;rw[aF b.blk];rfl);have lCr:=aE bc;clear eM Tr inv fr bc br kp b hF;go_upto_region 5 with fail;go_region_held3 (fun w':ay=>w'.cell? ⟨B,0,none⟩=some (.pointer (some ⟨p,0,none⟩)))
    (first|with_reducible exact c0|with_reducible exact C2|with_reducible exact C3|(rw[ajo nCB.symm];with_reducible exact C3))
    (first|(go_at_call 38;refine(HT.o _ (HP.o _ (KP.o.drew))).mono ?_;rintro _ w2 ⟨rfl,h2⟩;have k2:=(Kp.refl [] wr).drew.below h2;have C2:w2.cell? ⟨B,0,none⟩=some (.pointer (some ⟨p,0,none⟩)):=(by rw[o8 h2 (by exact lBr)];exact c0))|(go_at_call 79;refine(amC B 2 _ 137 jg jh ks T _ (k2.keep BL.o.blk (by simp)) rfl rfl (BL.o.kinds.kp k2 (by simp)) (aoh T) BL.o.bK (by omega)).mono ?_;rintro _ w3 ⟨i,gK,vs',rfl,hi,hp⟩;have C3:w3.cell? ⟨B,0,none⟩=some (.pointer (some ⟨p,0,none⟩)):=(by rw[aF hp.blk];rfl);have k3:Kp (B::dV jg jh) wr w3:=(k2.mono (by simp)).trans hp.kp (fun y hy=>.inl hy);have V6:w3.heap[w.heap.size+1]?=some (clO cl k):=k3.keep Zg.o (fun hm=>nC (by rw[HF.o];rcases gH.1 hm with e|e;simp[e];simp[e]));have Rq:w3.cell? ⟨w.heap.size+1,k,none⟩=some (.int .i64 (0:Nat)):=(by rw[aF V6,Bu _ _ _ aN,az (by omega)]);have ff3:=cM V6 k))
   all_goals
    obtain⟨bl3,kk3,gA⟩:=BL.o.amx k2 hp;(have vj:ax (Kp F' wr w3):=by rw[HF.o];exact kk3);(have sY:ax (∀g∈B::(dV gK vs' ++ dV iR iT),g∈F'\/wr.heap.size<=g):=by rw[HF.o];exact gA);obtain⟨Pr,BC3,HI⟩:=cR bl3 V6 hi;rename_i fQ;clear fQ bl3 kk3 gA V6 Rq ff3 k3 C3 C2 hp hi k2 h2 c0;go_wp2;have sr:=KP.o.size;have sr2:=lCr;have nC3:w.heap.size+1∉B::(dV gK vs' ++ dV iR iT):=fun hm=>by
     rcases sY.o _ hm with e|e
     .exact nC e
     .omega
    refine⟨⟨k+1,B::(dV gK vs' ++ dV iR iT),jF ks (cG T),fun c=>if c=k then i else cl c,by omega,by go_num,j8 (adI _ _) (by omega),mT.o i HI.o,Pr.o.kp ((Kp.refl [w.heap.size+1] w3).set (by simp) _ _) (by simpa using nC3),?_,?_,?_,?_⟩,by simp[aG];omega⟩
    .refine(KP.o.trans vj.o ?_).set (.inr (by omega)) _ _;intro y hy;rcases FR.o y hy with e|e
     .exact .inl e
     .exact .inr (by omega)
    .intro g hg;rcases sY.o g hg with e|e
     .exact FR.o g e
     .exact .inr (by omega)
    .rw[aQ,az (by omega)];exact vj.o.keep D9.o nR
    .rw[aQ,aA rfl,BC3.o];show some (Obj.cells ((cI cl k).setIfInBounds k _) _ _)=_;rw[aaW _ _ _ aN]
  .have jZ:k=256:=(by omega);subst jZ;obtain⟨D9,Zg,My,Vh,FR,KP⟩:=DF br bc bl inv fr kp;clear br bc bl inv fr kp;go_upto_region 7 with fail;apply fD;refine xH rfl _ _ rfl Zg.o rfl _ VZ rfl (by rw[fU];exact TG) ?_;refine mR rfl _ _ _ rfl D9.o rfl rfl (by rw[fU,<-HZ.o];simp) (by rw[fU];exact TG) (vJ _ _) ?_;intro w2 b2 k2 s2;go_wp2;refine cF (v:=.agg (cI cl 256)) (D0 Tryz.results54 rfl b2 _ VZ rfl (by rw[fU];exact TG)) rfl ⟨F',ks,cl,rfl,dI,Vh.o,My.o.kp k2 ?_,KP.o.trans k2 (by simp),?_⟩
   .intro x hx hm;rw[bQ.1 hx]at hm;rcases FR.o _ hm with e|e
    .have:=lF.o _ e;omega
    .omega
   .intro g hg;rcases FR.o g hg with e|e
    .exact .inl e
    .exact .inr (by omega)
end
section
variable{B tk:Nat}{F:List Nat}
section
open Go.RowKit Go.ChangeMaps
theorem aoY(B off:Nat)(c:Array aq)(tB:cL)(vm vs:aq)(ks:List aq)(w:ay)(hB:w.heap[B]?=some (.cells c tB (0,0)))(h1:c[off+1]?=some vs)(hN:gy w 141 8 vm vs ks):aI aB 60 #[.pointer (some ⟨B,off,none⟩)] w fun e w'=>e=.returned (.int .i64 (ae ks))/\w'=w:=by
 obtain⟨HB,HN,H1⟩:=cR hB hN h1;clear hB hN h1;go_enter Tryz.func60,Tryz.ntmps60;go_wp2_with fail;refine(aaY B off c tB vm vs ks _ (by exact HB.o) H1.o (by exact HN.o)).mono ?_;rintro _ w ⟨rfl,rfl⟩;go_wp2;go_ret;exact⟨rfl,rfl⟩
theorem Bl.cnt{w:ay}{vp vr:aq}{ks ss:List aq}(h:Bl w B vp vr F ks ss tk):aI aB 60 #[.pointer (some ⟨B,4,none⟩)] w fun e w'=>e=.returned (.int .i64 (ae ss))/\w'=w:=by
 obtain⟨jg,jh,iR,iT,b,rfl⟩:=h;exact aoY B 4 _ 137 iR iT ss w b.blk rfl b.work
theorem Bl.put{w:ay}{vp vr:aq}{ks ss:List aq}(h:Bl w B vp vr F ks ss tk)(a b:Nat)(dD:(ae ss)<100000):aI aB 55 #[.pointer (some ⟨B,4,none⟩),dJ a b] w fun e w'=>∃(i:Nat) (F':List Nat),e=.returned (.int .i64 i)/\(jF ss (dJ a b))[i]?=some (dJ a b)/\Bl w' B vp vr F' ks (jF ss (dJ a b)) tk/\Kp F w w'/\∀g∈F',g∈F\/w.heap.size<=g:=by
 obtain⟨jg,jh,iR,iT,bl,rfl⟩:=h;refine(agB B 4 _ 137 iR iT ss a b w bl.blk rfl rfl bl.work bl.bS dD).mono ?_;rintro _ w2 ⟨i,gK,vs',rfl,hi,hp⟩;refine⟨i,B::(dV jg jh++dV gK vs'),rfl,hi,⟨jg,jh,gK,vs',⟨hp.blk,?_,hp.ok,bl.bK,?_,?_⟩,rfl⟩,hp.kp.mono ?_,?_⟩
 .refine bl.kinds.kp hp.kp ?_;intro k hk hf;rcases gH.1 hk with rfl|q
  .exact bl.bK hf
  .exact bl.dj k hf q
 .intro hm;rcases hp.foot B hm with e|e
  .exact bl.bS e
  .have:=aE bl.blk;omega
 .intro g hg hm;rcases hp.foot g hm with e|e
  .exact bl.dj g hg e
  .have:=bl.kinds.lt g hg;omega
 .intro x hx;rcases gH.1 hx with rfl|q
  .simp
  .simp[q]
 .intro g hg;rcases gH.1 hg with rfl|q
  .exact .inl (by simp)
  .rcases jr.1 q with q|q
   .exact .inl (by simp[q])
   .rcases hp.foot g q with e|e
    .exact .inl (by simp[e])
    .exact .inr e
theorem Bl.CO{w:ay}{vp vr:aq}{ks ss:List aq}(h:Bl w B vp vr F ks ss (ae ss)):aI aB 57 #[.pointer (some ⟨B,4,none⟩)] w fun e w'=>e=.returned (.tuple #[dJ 0 0,.bool false])/\dA w.heap.size w w':=by
 obtain⟨jg,jh,iR,iT,b,rfl⟩:=h;exact aoE B 4 _ 137 iR iT ss w b.blk rfl b.work rfl
theorem Bl.Pb{w:ay}{vp vr:aq}{ks ss:List aq}(h:Bl w B vp vr F ks ss tk){x y:Nat}(hk:ss[tk]?=some (dJ x y))(dD:(ae ss)<100000):aI aB 57 #[.pointer (some ⟨B,4,none⟩)] w fun e w'=>e=.returned (.tuple #[dJ x y,.bool true])/\Bl w' B vp vr F ks ss (tk+1)/\Kp [B] w w':=by
 obtain⟨jg,jh,iR,iT,b,rfl⟩:=h;refine(aoF B 4 _ 137 iR iT ss tk x y w b.blk rfl b.work rfl hk dD).mono ?_;rintro _ w2 ⟨rfl,hb,kp⟩;refine⟨rfl,⟨jg,jh,iR,iT,⟨hb,b.kinds.kp kp ?_,b.work.kp kp ?_,b.bK,b.bS,b.dj⟩,rfl⟩,kp⟩
 .intro k hk hm;rw[bQ.1 hk]at hm;exact b.bK hm
 .intro k hk hm;rw[bQ.1 hk]at hm;exact b.bS hm
theorem Bl.nodup{w:ay}{vp vr:aq}{ks ss:List aq}(h:Bl w B vp vr F ks ss tk):ss.Nodup/\ks.Nodup:=by
 obtain⟨jg,jh,iR,iT,b,rfl⟩:=h;exact⟨b.work.nodup,b.kinds.nodup⟩
theorem aoz(bs:List Nat)(c k:Nat):eW bs c k<2 ^ k:=by
 apply M1;intro i hi;cases h:(eW bs c k).testBit i with
 |false=>rfl
 |true=>have:=(YP bs c i k).1 h;omega
theorem zc.kinds{bs:List Nat}{ks:List aq}{cl:Nat->Nat}(h:zc (fun c=>cG (eW bs c (ae bs))) 256 ks cl)(pU:(ae bs)<=200):∃Ks:List Nat,ks=Ks.map cG/\(∀K∈Ks,K<2 ^ 256)/\(∀c,c<256->cl c<ae Ks/\Ks.getD (cl c) 0=eW bs c (ae bs))/\0<ae Ks:=by
 have lt:∀c,eW bs c (ae bs)<2 ^ 256:=fun c=>tC (aoz bs c _) (EA (by decide) (by omega))
 have:∃f:Nat->Nat,∀i,i<ae ks->f i<256/\cl (f i)=i:=by
  refine⟨fun i=>if q:i<ae ks then Zt (h.za i q) else 0,fun i hi=>?_⟩;simp only[dif_pos hi];exact Zu (h.za i hi)
 obtain⟨f,hf⟩:=this;have e:ks=((lU (ae ks)).map fun i=>eW bs (f i) (ae bs)).map cG:=by
  apply JW;intro i;rcases eK i (ae ks) with q|q
  .obtain⟨a,b⟩:=hf i q;have:=h.at_ (f i) a;rw[b]at this;rw[this];simp[q]
  .rw[iY q,iY (by simpa using q)]
 refine⟨_,e,?_,?_,?_⟩
 .intro K hK;obtain⟨i,_,rfl⟩:=kY.1 hK;exact lt _
 .intro c hc;have h1:=h.at_ c hc;have hl:cl c<ae ks:=(fB.1 h1).1;refine⟨by simpa using hl,?_⟩;obtain⟨a,b⟩:=hf (cl c) hl;have h2:=h.at_ _ a;rw[b,h1]at h2;have:=aod (lt c) (lt (f (cl c))) (Na h2);rw[aO];simp[hl,this]
 .have h1:=h.at_ 0 (by omega);have:=(fB.1 h1).1;simp;omega
end
end
section
open Go.RowKit Go.ChangeMaps
theorem aiY(B a b K p:Nat)(c:Array aq)(tB:cL)(vr vb vf:aq)(bs fs:List Nat)(ps:List (Bool×Nat×Nat))(w:ay)(hB:w.heap[B]?=some (.cells c tB (0,0)))(h0:c[0]?=some (.pointer (some ⟨p,0,none⟩)))(h1:c[1]?=some vr)(hR:yu w vr ps)(hn:(ae ps)<=6)(hP:dN w p bs fs vb vf)(pU:(ae bs)<=200)(hK:K<2 ^ 256):aI aB 85 #[.pointer (some ⟨B,0,none⟩),dJ a b,cG K] w fun e w'=>e=.returned (dJ (ke fs (a &&& K) (ae fs)) (qF (lR ps) (a &&& K) (ae ps)))/\dA w.heap.size w w':=by
 have lB:=aE hB;obtain⟨av,dG,zY⟩:=hR.slice;obtain⟨HB,HR,H0,H1,JQ,HP,HK⟩:=DG hB hR h0 h1 zY hP hK;clear hB hR h0 h1 zY hP hK;go_enter Tryz.func85,Tryz.ntmps85;go_upto_region 1 with fail;have kW:Kp [] w (((w.alloc (dZ a b)).alloc (dX K)).alloc jq):=(((Kp.refl _ w).alloc _).alloc _).alloc _;have bE:(((w.alloc (dZ a b)).alloc (dX K)).alloc jq).heap[w.heap.size]?=some (dZ a b):=by simp only[aC,aM];simp;omega
 have bF:(((w.alloc (dZ a b)).alloc (dX K)).alloc jq).heap[w.heap.size+1]?=some (dX K):=by simp only[aC,aM];simp
 have bZ:(((w.alloc (dZ a b)).alloc (dX K)).alloc jq).heap[w.heap.size+1+1]?=some jq:=by simp only[aC,aM];simp
 generalize (((w.alloc (dZ a b)).alloc (dX K)).alloc jq)=W at *;obtain⟨x0,x1,x2,x3,xr⟩:=pe bE;obtain⟨y0,y1,y2,y3,yr⟩:=dB bF;clear xr yr;have KW:=aj kW;have BZ:=aj bZ;have lZ:=aE bZ;clear kW bE bF bZ;go_wp2_with fail;refine(aaZ a K _).mono ?_;rintro _ w1 ⟨rfl,h1⟩;have SI:a &&& K<2 ^ 256:=Nat.lt_of_le_of_lt Nat.and_le_right HK.o;have UY:=aj SI;clear SI;generalize hh:a &&& K=cz at *;have HH:=aj hh;clear hh;have k1:=KW.o.below h1;have E8:=bV h1 BZ.o;clear x0 x1 x2 x3 y0 y1 y2 y3 h1;go_upto_region 2 with fail;have Fz:Kp [] w (w1.alloc (dX cz)):=k1.alloc _;have bH:(w1.alloc (dX cz)).heap[w1.heap.size]?=some (dX cz):=(by rw[aC,aA rfl]);have IG:=aE E8;have bZ2:(w1.alloc (dX cz)).heap[w.heap.size+1+1]?=some jq:=by rw[aC,az (by omega)];exact E8
 have hH:w.heap.size+1+1<w1.heap.size:=IG;clear k1 E8 IG;generalize w1.alloc (dX cz)=W2 at *;generalize w1.heap.size=H at *;have zE:=Fz.keep HB.o (by simp);have lH:=aE bH;have oe:=aE zE;have DB:∀w':ay,dN w' p bs fs vb vf->aI aB 39 #[.pointer (some ⟨p,0,none⟩),cG cz] w' fun x w''=>x=.returned (cG (ke fs cz (ae fs)))/\dA w'.heap.size w' w'':=fun w' h'=>adO p cz bs fs vb vf w' h' (by rw[h'.len];exact pU)
 generalize hO:ke fs cz (ae fs)=O at *;have HO:=aj hO;have HBE:=aj DB;clear hO DB;have WT:∀w':ay,w'.heap[B]?=some (.cells c tB (0,0))/\w'.heap[H]?=some (dX cz)->w'.cell? ⟨B,0,none⟩=some (.pointer (some ⟨p,0,none⟩)) /\
   w'.cell? ⟨H,0,none⟩=some (.int .u64 (wd cz 0))/\w'.cell? ⟨H,1,none⟩=some (.int .u64 (wd cz 1))/\w'.cell? ⟨H,2,none⟩=some (.int .u64 (wd cz 2))/\w'.cell? ⟨H,3,none⟩=some (.int .u64 (wd cz 3)):=fun w' h'=>by
  obtain⟨p0,p1,p2,p3,_⟩:=dB h'.2;exact⟨by rw[aF h'.1];exact H0.o,p0,p1,p2,p3⟩
 have hd:W2.drew.heap[B]?=some (.cells c tB (0,0))/\W2.drew.heap[H]?=some (dX cz):=⟨zE,bH⟩;have vM:W2.heap[B]?=some (.cells c tB (0,0))/\W2.heap[H]?=some (dX cz):=⟨zE,bH⟩;have X5:B≠W2.heap.size:=bY oe;have X6:H≠W2.heap.size:=bY lH;obtain⟨GF,BZ2,BH2⟩:=cR Fz bZ2 bH;clear Fz bZ2 bH zE;go_region_held3 (fun w':ay=>w'.heap[B]?=some (.cells c tB (0,0))/\w'.heap[H]?=some (dX cz))
  (first|with_reducible exact hd|with_reducible exact R3|(simp only[eO,aC,az X5,az X6];with_reducible exact vM)|(simp only[aQ,az X5,az X6];with_reducible exact R3)|(rw[aC,aC,az (bY (aE R3.1)),az (bY (aE R3.2))];with_reducible exact R3))
  ((go_at_call 39;refine(HBE.o _ (HP.o.kp (xs:=[]) ?hk (by simp))).mono ?_;(case hk=>first|with_reducible exact GF.o.drew|exact(GF.o.alloc _).drew);rintro _ w3 ⟨rfl,h3⟩;have R3:w3.heap[B]?=some (.cells c tB (0,0))/\w3.heap[H]?=some (dX cz):=(by first|exact⟨bV h3 hd.1,bV h3 hd.2⟩|exact⟨bV h3 (by simp only[eO,aC,az X5];exact vM.1),bV h3 (by simp only[eO,aC,az X6];exact vM.2)⟩);have k3:Kp [] W2 w3:=(by first|exact((Kp.refl [] W2).drew).below h3|exact(((Kp.refl [] W2).alloc _).drew).below h3);(first|(refine(fun(A3:w3.heap[W2.heap.size]?=some jq)=>?_) ?hx;(case hx=>(refine bV h3 ?_;rw[eO,aC,aA rfl];done));obtain⟨z0,z1,z2,z3,z4,z5,z6,z7,g0,g1,g2,g3,g4,g5,g6,g7⟩:=pe A3;have HA3:=aj A3;clear A3)|skip)))
 all_goals
  first
   |(have kX:Kp [] W2 ((((((((w3.setCell ⟨W2.heap.size,0,none⟩ (.int .u64 (wd O 0))).setCell ⟨W2.heap.size,1,none⟩ (.int .u64 (wd O 1))).setCell ⟨W2.heap.size,2,none⟩ (.int .u64 (wd O 2))).setCell ⟨W2.heap.size,3,none⟩ (.int .u64 (wd O 3))).setCell ⟨W2.heap.size,4,none⟩ (.int .u64 0)).setCell ⟨W2.heap.size,5,none⟩ (.int .u64 0)).setCell ⟨W2.heap.size,6,none⟩ (.int .u64 0)).setCell ⟨W2.heap.size,7,none⟩ (.int .u64 0)):=k3.YA (.inr (aH _)) _ _ _ _ _ _ _ _
     have bX:((((((((w3.setCell ⟨W2.heap.size,0,none⟩ (.int .u64 (wd O 0))).setCell ⟨W2.heap.size,1,none⟩ (.int .u64 (wd O 1))).setCell ⟨W2.heap.size,2,none⟩ (.int .u64 (wd O 2))).setCell ⟨W2.heap.size,3,none⟩ (.int .u64 (wd O 3))).setCell ⟨W2.heap.size,4,none⟩ (.int .u64 0)).setCell ⟨W2.heap.size,5,none⟩ (.int .u64 0)).setCell ⟨W2.heap.size,6,none⟩ (.int .u64 0)).setCell ⟨W2.heap.size,7,none⟩ (.int .u64 0)).heap[W2.heap.size]?=some (.cells #[.int .u64 (wd O 0),.int .u64 (wd O 1),.int .u64 (wd O 2),.int .u64 (wd O 3),.int .u64 0,.int .u64 0,.int .u64 0,.int .u64 0] 141 (0,0)):=Wa HA3.o _ _ _ _ _ _ _ _;generalize ((((((((w3.setCell ⟨W2.heap.size,0,none⟩ (.int .u64 (wd O 0))).setCell ⟨W2.heap.size,1,none⟩ (.int .u64 (wd O 1))).setCell ⟨W2.heap.size,2,none⟩ (.int .u64 (wd O 2))).setCell ⟨W2.heap.size,3,none⟩ (.int .u64 (wd O 3))).setCell ⟨W2.heap.size,4,none⟩ (.int .u64 0)).setCell ⟨W2.heap.size,5,none⟩ (.int .u64 0)).setCell ⟨W2.heap.size,6,none⟩ (.int .u64 0)).setCell ⟨W2.heap.size,7,none⟩ (.int .u64 0))=W3 at *;clear z0 z1 z2 z3 z4 z5 z6 z7 g0 g1 g2 g3 g4 g5 g6 g7;clear HA3;have sA:W2.heap.size<=W2.heap.size:=aH _;generalize hX:W2.heap.size=X at *)
   |(have kX:Kp [] W2 (w3.alloc (.cells #[.int .u64 (wd O 0),.int .u64 (wd O 1),.int .u64 (wd O 2),.int .u64 (wd O 3),.int .u64 0,.int .u64 0,.int .u64 0,.int .u64 0] 141 (0,0))):=k3.alloc _
     have bX:(w3.alloc (.cells #[.int .u64 (wd O 0),.int .u64 (wd O 1),.int .u64 (wd O 2),.int .u64 (wd O 3),.int .u64 0,.int .u64 0,.int .u64 0,.int .u64 0] 141 (0,0))).heap[w3.heap.size]?=some (.cells #[.int .u64 (wd O 0),.int .u64 (wd O 1),.int .u64 (wd O 2),.int .u64 (wd O 3),.int .u64 0,.int .u64 0,.int .u64 0,.int .u64 0] 141 (0,0)):=(by rw[aC,aA rfl]);have sA:W2.heap.size<=w3.heap.size:=k3.size;generalize (w3.alloc (.cells #[.int .u64 (wd O 0),.int .u64 (wd O 1),.int .u64 (wd O 2),.int .u64 (wd O 3),.int .u64 0,.int .u64 0,.int .u64 0,.int .u64 0] 141 (0,0)))=W3 at *;generalize w3.heap.size=X at *)
  have K3:=aj (GF.o.trans kX (by simp));have Jr:=aj (kX.keep BZ2.o (by simp));have BH3:=aj (kX.keep BH2.o (by simp));have bX':W3.heap[X]?=some (dZ O 0):=by simp only[dZ,xV];exact bX
  have BX3:=aj bX';have c1:W3.cell? ⟨B,1,none⟩=some (.slice av (ae ps) dG):=(by rw[aF (K3.o.keep HB.o (by simp)),H1.o,JQ.o]);have hXH:H<X:=(by omega);clear WT hd vM k3 h3 R3 kX bX bX' X5 X6;rename_i fQ;try clear fQ
  clear sA lH oe;try clear hX
  go_wp2_with fail;go_loopw [27] (fun i w'=>∃k:Nat,k<=ae ps/\i=.int .i64 k/\Kp [] w w'/\w'.heap[w.heap.size+1+1]?=some jq/\w'.heap[H]?=some (dX cz)/\w'.heap[X]?=some (dZ O (qF (lR ps) cz k)))
   (fun i _=>ae ps-(aG i).toNat)
  case atStart=>exact⟨0,by omega,rfl,K3.o,Jr.o,BH3.o,BX3.o⟩
  case round =>
   obtain⟨k,hk,rfl,kp,bz,bh,bx⟩:=hrel;have KP:=aj kp;have lX:=aE bx;have lH:=aE bh;have lz:=aE bz;obtain⟨BZr,BHr,Jp⟩:=cR bz bh bx;clear bz bh bx kp c1;by_cases aN:k<ae ps
   .obtain⟨g,cap,e,lg,hc⟩:=HR.o.at aN;(have hs:av=some ⟨g,0,none⟩/\dG=cap:=by rw[JQ.o]at e;cases e;exact⟨rfl,rfl⟩);obtain⟨rfl,rfl⟩:=hs;have gU:(k:Int)<ae ps:=(by omega);(have Lp:MR.wrap (k:Int)=k:=by simp[tA,qa,qc];omega);have dL:ax (qF (lR ps) cz (k+1)=if cz &&& lR ps k≠0 then qF (lR ps) cz k ||| (1 <<< k) else qF (lR ps) cz k):=rfl;generalize qF (lR ps) cz k=V at *;generalize hY:lR ps k=Y at *;generalize fR ps k=F at *;generalize eR ps k=Z at *;have HC:=aj hc;clear hY hc e;go_upto_region 5 with fail;apply fD
    iterate 6 go_step
    refine LF rfl _ _ rfl (b:=g) (o:=k*9) (dQ Z F Y).cells (fun j hj=>?_) rfl _ aaI rfl Iw ?_
    .rw[<-HC.o j hj];exact o8 KP.o.toBelow lg
    refine qT rfl _ rfl _ afA ?_
    iterate 3 go_step
    refine mR rfl _ _ _ rfl (b:=wr.heap.size) (c:=#[.bool false,.int .u64 0,.int .u64 0,.int .u64 0,.int .u64 0,.int .u64 0,.int .u64 0,.int .u64 0,.int .u64 0]) (e:=67) (by rw[aC,aA rfl]<;>rfl) rfl rfl rfl Iw (by simp[dS,uA]) ?_;intro w5 b5 k5 s5;have K5:ax (Kp [] w w5):=(KP.o.alloc _).trans k5 (by simp<;>omega);have Js:ax (w5.heap[w.heap.size+1+1]?=some jq):=k5.keep (by rw[aC,az (by omega)];exact BZr.o) (by simp<;>omega);have Zh:w5.heap[H]?=some (dX cz):=k5.keep (by rw[aC,az (by omega)];exact BHr.o) (by simp<;>omega);have BX5:ax (w5.heap[X]?=some (dZ O V)):=k5.keep (by rw[aC,az (by omega)];exact Jp.o) (by simp<;>omega);have HH5:=aj Zh;clear k5 s5;obtain⟨y0,y1,y2,y3,yr⟩:=dB Zh;have Rb:w5.heap[wr.heap.size]?=some (cZ Z F Y):=b5;obtain⟨⟨x0,x1,x2,x3,x4,x5,x6,x7,x8⟩,xr⟩:=gC Rb;clear b5 Rb Zh xr yr x0 x1 x2 x3 x4;go_wp2_with fail;refine(afX cz Y _ UY.o).mono ?_;rintro _ w6 ⟨rfl,h6⟩;have K6:ax (Kp [] w w6):=K5.o.below h6;have BZ6:ax (w6.heap[w.heap.size+1+1]?=some jq):=bV h6 Js.o;have Po:ax (w6.heap[H]?=some (dX cz)):=bV h6 HH5.o;have Zq:ax (w6.heap[X]?=some (dZ O V)):=bV h6 BX5.o;clear x5 x6 x7 x8 y0 y1 y2 y3 h6;cases hm:(cz &&& Y != 0)with
    |true =>
     have hm':ax (cz &&& Y≠0):=bne_iff_ne.1 hm;clear hm;obtain⟨y0,y1,y2,y3,y4,y5,y6,y7,f0,f1,f2,f3,f4,f5,f6,f7⟩:=pe Zq.o;clear y0 y1 y2 y3 f0 f1 f2 f3;go_upto_region 7 with fail;go_region_with ((first|(go_at_call 53;refine(L0 k _ (by omega)).mono ?_;rintro _ w7 ⟨rfl,h7⟩;have k7:=K6.o.drew.below h7;have Wd:=bV h7 Zq.o;have bz7:=bV h7 BZ6.o;have bh7:=bV h7 Po.o;obtain⟨q0,q1,q2,q3,q4,q5,q6,q7,qr⟩:=pe Wd;clear qr q0 q1 q2 q3)|(go_at_call 52;refine(UH V (1 <<< k) _ _ (by rw[aC,aA rfl])).mono ?_;rintro _ w8 ⟨rfl,h8⟩;have k8:=(k7.alloc _).below h8;have bx8:w8.heap[X]?=some (dZ O V):=bV h8 (by rw[aC,az (bY (aE Wd))];exact Wd);have bz8:w8.heap[w.heap.size+1+1]?=some jq:=bV h8 (by rw[aC,az (bY (aE bz7))];exact bz7);have bh8:w8.heap[H]?=some (dX cz):=bV h8 (by rw[aC,az (bY (aE bh7))];exact bh7);obtain⟨p0,p1,p2,p3,p4,p5,p6,p7,r0,r1,r2,r3,r4,r5,r6,r7⟩:=pe bx8)))
     all_goals
      have K8:ax (Kp [] w w8):=k8;have BX8:ax (w8.heap[X]?=some (dZ O V)):=bx8;have BZ8:ax (w8.heap[w.heap.size+1+1]?=some jq):=bz8;have BH8:ax (w8.heap[H]?=some (dX cz)):=bh8;clear p0 p1 p2 p3 p4 p5 p6 p7 r0 r1 r2 r3 r4 r5 r6 r7 h8 k8 bx8 bz8 bh8 q4 q5 q6 q7 h7 k7 Wd bz7 bh7 y4 y5 y6 y7 f4 f5 f6 f7;go_wp2;refine⟨⟨k+1,by omega,by go_num,(((K8.o.set (.inr (by omega)) _ _).set (.inr (by omega)) _ _).set (.inr (by omega)) _ _).set (.inr (by omega)) _ _,?_,?_,?_⟩,by simp[aG];omega⟩
      .simp only[aQ,az (show w.heap.size+1+1≠X by omega)];exact BZ8.o
      .simp only[aQ,az (show H≠X by omega)];exact BH8.o
      .simp only[aQ,BX8.o];rw[dL.o,aA hm'.o];simp[eD]
    |false =>
     (have hm':ax (¬(cz &&& Y≠0)):=fun h=>by rw[bne_iff_ne.2 h]at hm;cases hm);clear hm;go_wp2;refine⟨⟨k+1,by omega,by go_num,K6.o,BZ6.o,Po.o,?_⟩,by simp[aG];omega⟩;rw[dL.o,az hm'.o];exact Zq.o
   .have jZ:k=ae ps:=(by omega);subst jZ;go_upto_region 9 with fail;apply fD;refine xH rfl _ _ rfl Jp.o rfl _ yw rfl vU ?_;refine mR rfl _ _ _ rfl BZr.o rfl rfl rfl vU (by simp[dS]) ?_;intro w2 b2 k2 s2;go_wp2;exact cF (v:=dJ O (qF (lR ps) cz (ae ps))) (D0 Tryz.results85 rfl b2 _ yw rfl vU) rfl ⟨by rw[HH.o,HO.o],(KP.o.trans k2 (by simp<;>omega)).toBelow⟩
end
section
open Go.RowKit Go.ChangeMaps
def jl(fs:List Nat)(ps:List (Bool×Nat×Nat))(a K:Nat):Nat×Nat:=(ke fs (a &&& K) (ae fs),qF (lR ps) (a &&& K) (ae ps))
theorem adN{fs:List Nat}(pz:∀q,fs.getD q 0<2 ^ 256)(h k:Nat):ke fs h k<2 ^ 256:=by
 apply M1;intro i hi;cases e:(ke fs h k).testBit i with
 |false=>rfl
 |true =>
  obtain⟨q,_,_,h3⟩:=(Hl fs h i k).1 e;rw[QC (tC (pz q) (EA (by decide) hi))]at h3;cases h3
theorem ao5(l:Nat->Nat)(h n:Nat):qF l h n<2 ^ n:=by
 apply M1;intro i hi;cases e:(qF l h n).testBit i with
 |false=>rfl
 |true=>have:=(UK l h i n).1 e;omega
theorem DW.mono{ss ss':List aq}{a b:Nat}{r:Int}(h:DW ss a b r)(hp:ss <+: ss'):DW ss' a b r:=by
 rcases h with h|⟨h,i,e,hi⟩
 .exact .inl h
 .obtain⟨t,rfl⟩:=hp;exact .inr ⟨h,i,e,by rw[iI (fB.1 hi).1];exact hi⟩
theorem ai0(B p a b:Nat)(vr vb vf:aq)(F:List Nat)(bs fs Ks:List Nat)(ps:List (Bool×Nat×Nat))(ss:List aq)(tk:Nat)(w:ay)(h:Bl w B (.pointer (some ⟨p,0,none⟩)) vr F (Ks.map cG) ss tk)(hP:∀w',Kp F w w'->dN w' p bs fs vb vf)(hR:∀w',Kp F w w'->yu w' vr ps)(pU:(ae bs)<=200)(hn:(ae ps)<=6)(Si:∀K∈Ks,K<2 ^ 256)(pz:∀q,fs.getD q 0<2 ^ 256)(dD:(ae ss)+ae Ks<90000)(hK0:0<ae Ks):aI aB 58 #[.pointer (some ⟨B,0,none⟩),dJ a b] w fun e w'=>∃(F':List Nat) (ss':List aq) (g:Nat) (rs:List Int),e=.returned (.slice (some ⟨g,0,none⟩) (ae Ks) (ae Ks))/\w.heap.size<=g/\g∉F'/\w'.heap[g]?=some (iO rs)/\(ae rs)=ae Ks/\(∀k,k<ae Ks->DW ss' (jl fs ps a (Ks.getD k 0)).1 (jl fs ps a (Ks.getD k 0)).2 (rs.getD k 0))/\ss <+: ss'/\(∀x∈ss',x∈ss\/∃k,k<ae Ks/\x=dJ (jl fs ps a (Ks.getD k 0)).1 (jl fs ps a (Ks.getD k 0)).2/\¬((jl fs ps a (Ks.getD k 0)).1=0/\(jl fs ps a (Ks.getD k 0)).2=0))/\(ae ss')<=ae ss+ae Ks/\Bl w' B (.pointer (some ⟨p,0,none⟩)) vr F' (Ks.map cG) ss' tk/\Kp F w w'/\∀g∈F',g∈F\/w.heap.size<=g:=by
 obtain⟨HH,HP,HR⟩:=cR h hP hR;have lF:=aj h.lt;have HKs:=aj Si;have HFs:=aj pz;clear h hP hR Si pz;go_enter Tryz.func58,Tryz.ntmps58;go_upto_region 1 with fail;have kW:Kp [] w (w.alloc (dZ a b)):=(Kp.refl _ w).alloc _;have bX:(w.alloc (dZ a b)).heap[w.heap.size]?=some (dZ a b):=(by rw[aC,aA rfl]);have sW:(w.alloc (dZ a b)).heap.size=w.heap.size+1:=aM _ _;generalize (w.alloc (dZ a b))=W at *;obtain⟨KW,BX,SW⟩:=cR kW bX sW;clear kW bX sW;obtain⟨jg,jh,iR,iT,bl,hF⟩:=HH.o;have Cc:∀w',Kp [] w w'->aI aB 83 #[.pointer (some ⟨B,2,none⟩)] w' fun e w''=>e=.returned (.int .i64 (ae Ks))/\w''=w':=fun w' k'=>by
  have:=ajC B 2 _ 137 jg jh (Ks.map cG) w' (k'.keep bl.blk (by simp)) rfl (bl.kinds.kp k' (by simp));rw[mX]at this;exact this
 have HC:=aj Cc;clear Cc bl hF;go_wp2_with fail;refine(HC.o _ KW.o).mono ?_;rintro _ w1 ⟨rfl,rfl⟩;have ig:=fun w=>Mh (ae Ks) (by omega) w
 go_upto_region 2 with fail;have Fz:Kp [] w (w1.alloc (iO (gM (ae Ks) 0))):=KW.o.alloc _;have bG:(w1.alloc (iO (gM (ae Ks) 0))).heap[w1.heap.size]?=some (iO (gM (ae Ks) 0)):=(by rw[aC,aA rfl]);have bX2:(w1.alloc (iO (gM (ae Ks) 0))).heap[w.heap.size]?=some (dZ a b):=by rw[aC,az (bY (aE BX.o))];exact BX.o
 have hG:w1.heap.size=w.heap.size+1:=SW.o;generalize (w1.alloc (iO (gM (ae Ks) 0)))=W2 at *;rw[hG]at bG |-
 obtain⟨GF,Gh,Jo⟩:=cR Fz bG bX2;clear Fz bG bX2 hG ig BX SW KW;go_wp2_with fail;go_loopw [14] (fun i w'=>∃(k:Nat) (F':List Nat) (ss':List aq) (rs:List Int),k<=ae Ks/\i=.int .i64 k/\(ae rs)=ae Ks /\
   (∀j,j<k->DW ss' (jl fs ps a (Ks.getD j 0)).1 (jl fs ps a (Ks.getD j 0)).2 (rs.getD j 0))/\ss <+: ss'/\(∀x∈ss',x∈ss\/∃j,j<ae Ks/\x=dJ (jl fs ps a (Ks.getD j 0)).1 (jl fs ps a (Ks.getD j 0)).2/\¬((jl fs ps a (Ks.getD j 0)).1=0/\(jl fs ps a (Ks.getD j 0)).2=0)) /\
   (ae ss')<=ae ss+k/\Bl w' B (.pointer (some ⟨p,0,none⟩)) vr F' (Ks.map cG) ss' tk/\Kp F w w'/\(∀g∈F',g∈F\/w.heap.size+2<=g)/\w'.heap[w.heap.size]?=some (dZ a b)/\w'.heap[w.heap.size+1]?=some (iO rs))
  (fun i _=>ae Ks-(aG i).toNat)
 case atStart =>
  exact⟨0,F,ss,gM (ae Ks) 0,by omega,rfl,by simp,fun j hj=>by omega,⟨[],by simp⟩,fun x hx=>.inl hx,by omega,HH.o.kp GF.o (by simp),GF.o.mono (by simp),fun g hg=>.inl hg,Jo.o,Gh.o⟩
 case round =>
  obtain⟨k,F',ss',rs,hk,rfl,gB,zR,Lj,mO,Ll,bl,kp,fr,bx,bg⟩:=hrel;have nX:w.heap.size∉F':=fun hm=>by rcases fr _ hm with e|e;have:=lF.o _ e;omega;omega
  have nG:w.heap.size+1∉F':=fun hm=>by rcases fr _ hm with e|e;have:=lF.o _ e;omega;omega
  obtain⟨NUM,PRE,MEM,My,KP,FR,Jp,AH⟩:=KZ zR Lj mO bl kp fr bx bg;have lG:=aE bg;clear zR Lj mO bl kp fr bx bg;by_cases aN:k<ae Ks
  .have gU:(k:Int)<ae Ks:=(by omega);(have hKk:(Ks.map cG)[k]?=some (cG (Ks.getD k 0)):=by rw[kx,bD aN,aO,bD aN];rfl);(have hK2:Ks.getD k 0<2 ^ 256:=by rw[aO,bD aN];exact HKs.o _ (nE aN));have hA2:(jl fs ps a (Ks.getD k 0)).1<2 ^ 256:=adN HFs.o _ _;have KH:(jl fs ps a (Ks.getD k 0)).2<2 ^ 256:=tC (ao5 _ _ _) (EA (by decide) (by omega));have ae6:∀w',Kp [] wr w'->aI aB 86 #[.pointer (some ⟨B,2,none⟩),.int .i64 k] w' fun e w''=>e=.returned (cG (Ks.getD k 0))/\dA w'.heap.size w' w'':=fun w' k'=>by
    obtain⟨jg,jh,iR,iT,b0,_⟩:=My.o;exact ame B 2 _ 137 jg jh (Ks.map cG) w' (k'.keep b0.blk (by simp)) rfl (b0.kinds.kp k' (by simp)) k _ hKk
   have afc:∀w',Kp [] wr w'->aI aB 85 #[.pointer (some ⟨B,0,none⟩),dJ a b,cG (Ks.getD k 0)] w' fun e w''=>e=.returned (dJ (jl fs ps a (Ks.getD k 0)).1 (jl fs ps a (Ks.getD k 0)).2)/\dA w'.heap.size w' w'':=fun w' k'=>by
    obtain⟨c0,q0,q1,q2⟩:=(My.o.kp k' (by simp)).blk;have kk:Kp F w w':=KP.o.trans k' (by simp);exact aiY B a b (Ks.getD k 0) p c0 137 vr vb vf bs fs ps w' q0 q1 q2 (HR.o w' kk) hn (HP.o w' kk) pU hK2
   have afe:∀w',Kp [] wr w'->aI aB 84 #[.pointer (some ⟨B,0,none⟩),dJ (jl fs ps a (Ks.getD k 0)).1 (jl fs ps a (Ks.getD k 0)).2] w' fun e w''=>∃(r:Int) (F2:List Nat) (ss2:List aq),e=.returned (.int .i64 r)/\DW ss2 (jl fs ps a (Ks.getD k 0)).1 (jl fs ps a (Ks.getD k 0)).2 r/\(ss2=ss'\/(ss2=ss' ++ [dJ (jl fs ps a (Ks.getD k 0)).1 (jl fs ps a (Ks.getD k 0)).2]/\¬((jl fs ps a (Ks.getD k 0)).1=0/\(jl fs ps a (Ks.getD k 0)).2=0))) /\
     Bl w'' B (.pointer (some ⟨p,0,none⟩)) vr F2 (Ks.map cG) ss2 tk/\Kp F' w' w''/\∀g∈F2,g∈F'\/w'.heap.size<=g:=fun w' k' =>
    aiZ B _ _ (.pointer (some ⟨p,0,none⟩)) vr F' (Ks.map cG) ss' tk w' (My.o.kp k' (by simp)) hA2 KH (by omega)
   generalize hX:(jl fs ps a (Ks.getD k 0)).1=X at *;generalize hY:(jl fs ps a (Ks.getD k 0)).2=Y at *;generalize hZ:Ks.getD k 0=Z at *;obtain⟨HX,HY,HZ,H1,H2,H3⟩:=DF hX hY hZ ae6 afc afe;have WT:∀w':ay,w'.heap[w.heap.size]?=some (dZ a b)->w'.cell? ⟨w.heap.size,0,none⟩=some (.int .u64 (wd a 0))/\w'.cell? ⟨w.heap.size,1,none⟩=some (.int .u64 (wd a 1))/\w'.cell? ⟨w.heap.size,2,none⟩=some (.int .u64 (wd a 2))/\w'.cell? ⟨w.heap.size,3,none⟩=some (.int .u64 (wd a 3)) /\
     w'.cell? ⟨w.heap.size,4,none⟩=some (.int .u64 (wd b 0))/\w'.cell? ⟨w.heap.size,5,none⟩=some (.int .u64 (wd b 1))/\w'.cell? ⟨w.heap.size,6,none⟩=some (.int .u64 (wd b 2))/\w'.cell? ⟨w.heap.size,7,none⟩=some (.int .u64 (wd b 3)):=fun w' h'=>by
    obtain⟨y0,y1,y2,y3,y4,y5,y6,y7,_⟩:=pe h';exact⟨y0,y1,y2,y3,y4,y5,y6,y7⟩
   have hd:wr.drew.heap[w.heap.size]?=some (dZ a b):=Jp.o;clear hX hY hZ ae6 afc afe hKk hK2 hA2 KH;go_upto_region 5 with fail;go_region_held3 (fun w':ay=>w'.heap[w.heap.size]?=some (dZ a b))
    (first|with_reducible exact hd|with_reducible exact S2|with_reducible exact S3|with_reducible exact S4|(rw[aQ,az (bY (GS _))];with_reducible exact S4))
    (first|(go_at_call 86;refine(H1.o _ ((Kp.refl [] wr).drew)).mono ?_;rintro _ w2 ⟨rfl,h2⟩;have k2:=(Kp.refl [] wr).drew.below h2;have S2:w2.heap[w.heap.size]?=some (dZ a b):=bV h2 hd)|(go_at_call 85;refine(H2.o _ k2).mono ?_;rintro _ w3 ⟨rfl,h3⟩;have k3:=k2.below h3;have S3:w3.heap[w.heap.size]?=some (dZ a b):=bV h3 S2)|(go_at_call 84;refine(H3.o _ k3).mono ?_;rintro _ w4 ⟨r,F2,ss2,rfl,hr,Ft,Ri,kp4,sx⟩;have k4:Kp F' wr w4:=(k3.mono (by simp)).trans kp4 (fun y hy=>.inl hy);have S4:w4.heap[w.heap.size]?=some (dZ a b):=k4.keep Jp.o nX;have V7:w4.heap[w.heap.size+1]?=some (iO rs):=k4.keep AH.o nG;have cc4:=jK V7 k (by omega);have ff4:=rz V7 k))
   all_goals
    have Jx:ax (∀g∈F2,g∈F'\/wr.heap.size<=g):=fun g hg=>by
     rcases sx g hg with e|e
     .exact .inl e
     .exact .inr (j8 k3.size e)
    obtain⟨K4,Jl,BG4⟩:=cR k4 Ri V7;have S4':=aj S4;have HR4:=aj hr;have A0:=aj Ft;rename_i fQ;clear fQ WT hd S2 S3 S4 k2 k3 k4 Ri kp4 sx V7 cc4 ff4 hr Ft h2 h3;go_wp2;have sr:=KP.o.size;have agz:ss' <+: ss2:=by
     rcases A0.o with e|e
     .rw[e];exact⟨[],by simp⟩
     .rw[e.1];exact⟨_,rfl⟩
    have nG2:w.heap.size+1∉F2:=fun hm=>by
     rcases Jx.o _ hm with e|e
     .exact nG e
     .omega
    refine⟨⟨k+1,F2,ss2,rs.set k r,by omega,by go_num,by simp[gB],?_,PRE.o.trans agz,?_,?_,Jl.o.kp ((Kp.refl [w.heap.size+1] w4).set (by simp) _ _) (by simpa using nG2),?_,?_,?_,tV BG4.o k r⟩,by simp[aG];omega⟩
    .intro j hj;by_cases e:j=k
     .subst e;rw[HZ.o,HX.o,HY.o,qV _ _ _ (by omega)];exact HR4.o
     .rw[tJ _ _ _ _ (fun q=>e q.symm)];exact(NUM.o j (by omega)).mono agz
    .intro x hx;have:x∈ss'\/(x=dJ X Y/\¬(X=0/\Y=0)):=by
      rcases A0.o with e|e
      .rw[e]at hx;exact .inl hx
      .rw[e.1]at hx;rcases jr.1 hx with q|q
       .exact .inl q
       .exact .inr ⟨bQ.1 q,e.2⟩
     rcases this with q|q
     .exact MEM.o x q
     .exact .inr ⟨k,aN,by rw[HZ.o,HX.o,HY.o];exact q⟩
    .rcases A0.o with e|e
     .rw[e];omega
     .rw[e.1,cx,iq];omega
    .refine(KP.o.trans K4.o ?_).set (.inr (by omega)) _ _;intro y hy;rcases FR.o y hy with e|e
     .exact .inl e
     .exact .inr (by omega)
    .intro g hg;rcases Jx.o g hg with e|e
     .exact FR.o g e
     .exact .inr (by omega)
    .rw[aQ,az (by omega)];exact S4'.o
  .have jZ:k=ae Ks:=(by omega);subst jZ;go_wp2;go_ret;refine⟨F',ss',w.heap.size+1,rs,rfl,by omega,nG,AH.o,gB,NUM.o,PRE.o,MEM.o,Ll,My.o,KP.o,?_⟩;intro g hg;rcases FR.o g hg with e|e
   .exact .inl e
   .exact .inr (by omega)
end
def aY(c:Array aq)(vn va:aq):Array aq:=c ++ #[vn,va]
theorem fG{c:Array aq}(h:c.size=256)(vn va:aq):(aY c vn va).size=258:=by simp[aY,h]
theorem uQ{c:Array aq}(h:c.size=256)(vn va:aq){i:Nat}(hi:i<256):(aY c vn va)[i]?=c[i]?:=by
 unfold aY;rw[Zd (by omega)]
theorem oW{c:Array aq}(h:c.size=256)(vn va:aq):(aY c vn va)[256]?=some vn:=by
 unfold aY;rw[Gg (by omega),h];rfl
theorem rM{c:Array aq}(h:c.size=256)(vn va:aq):(aY c vn va)[257]?=some va:=by
 unfold aY;rw[Gg (by omega),h];rfl
theorem ahf{c:Array aq}(h:c.size=256)(vn va v:aq):(aY c vn va).setIfInBounds 256 v=aY c v va:=by
 apply xY;intro i;rw[Mx];by_cases e:256=i
 .subst e;rw[aA rfl,aA (by rw[fG h];omega),oW h]
 .rw[az e];rcases eK i 256 with q|q
  .rw[uQ h _ _ q,uQ h _ _ q]
  .by_cases e2:i=257
   .subst e2;rw[rM h,rM h]
   .rw[kP (by rw[fG h];omega),kP (by rw[fG h];omega)]
theorem ahg{c:Array aq}(h:c.size=256)(vn va v:aq):(aY c vn va).setIfInBounds 257 v=aY c vn v:=by
 apply xY;intro i;rw[Mx];by_cases e:257=i
 .subst e;rw[aA rfl,aA (by rw[fG h];omega),rM h]
 .rw[az e];rcases eK i 256 with q|q
  .rw[uQ h _ _ q,uQ h _ _ q]
  .by_cases e2:i=256
   .subst e2;rw[oW h,oW h]
   .rw[kP (by rw[fG h];omega),kP (by rw[fG h];omega)]
theorem acC{c:Array aq}(h:c.size=256)(vn va v:aq){i:Nat}(hi:i<256):(aY c vn va).setIfInBounds i v=aY (c.setIfInBounds i v) vn va:=by
 apply xY;intro j;have h':(c.setIfInBounds i v).size=256:=(by simp[h]);rw[Mx];by_cases e:i=j
 .subst e;rw[aA rfl,aA (by rw[fG h];omega),uQ h' _ _ hi,xZ (by omega)]
 .rw[az e];rcases eK j 256 with q|q
  .rw[uQ h _ _ q,uQ h' _ _ q,iH e]
  .by_cases e2:j=256
   .subst e2;rw[oW h,oW h']
   .by_cases e3:j=257
    .subst e3;rw[rM h,rM h']
    .rw[kP (by rw[fG h];omega),kP (by rw[fG h'];omega)]
abbrev dR:Array aq:=x9 256 (.int .i64 0)
theorem kG:dR.size=256:=by simp[dR]
theorem xD:(aB.info? 91).map (fun i=>i.zero)=some (some (.agg (aY dR (.slice none 0 0) (.slice none 0 0)))):=by kernel_rfl
theorem m9:(aB.info? 91).map (·.size)=some 258:=by kernel_rfl
theorem Wv(off:Nat):∀(l:List aq) (k:Nat) (cs:Array aq),(l.zipIdx k).foldl (fun(cs:Array aq) (p:aq×Nat)=>cs.setIfInBounds (off+p.2) p.1) cs=pC cs (off+k) l
 |[],_,_=>rfl
 |v::r,k,cs=>by
  rw[List.zipIdx_cons,List.foldl_cons,Wv off r (k+1),pC,Nat.add_assoc]
theorem alF{c d:Array aq}(h:c.size=256)(hd:d.size=256)(vn va:aq):pC (aY d vn va) 0 c.toList=aY c vn va:=by
 apply xY;intro i;rcases eK i 256 with q|q
 .have:=Lx c.toList 0 (aY d vn va) i (by simpa [h]using q) (by rw[fG hd];simp[h]);rw[yn]at this;rw[this,uQ h _ _ q,uk]
 .rw[FG _ _ _ _ (.inr (by simpa [h]using q))];by_cases e2:i=256
  .subst e2;rw[oW h,oW hd]
  .by_cases e3:i=257
   .subst e3;rw[rM h,rM hd]
   .rw[kP (by rw[fG hd];omega),kP (by rw[fG h];omega)]
def wo:Nat->Option (Nat×Nat)
 |0=>some (0,256)
 |1=>some (256,1)
 |2=>some (257,1)
 |_=>none
theorem Rl(parts:List (Nat×aq)):aB.built 91 parts=oZ wo (aY dR (.slice none 0 0) (.slice none 0 0)) parts:=by
 have hz:=xD;obtain⟨i,hi⟩:∃i,aB.info? 91=some i:=by
  cases h:aB.info? 91 with
  |none=>rw[h]at hz;cases hz
  |some i=>exact⟨i,rfl⟩
 rw[hi]at hz;have hz':i.zero=some (.agg (aY dR (.slice none 0 0) (.slice none 0 0))):=(by simpa using hz);unfold Program.built;simp only[hi,zB,hz'];have hp:([(aB.info? 89).map fun i=>(0,i.size),(aB.info? 28).map fun i=>(256,i.size),(aB.info? 61).map fun i=>(257,i.size)]:List (Option (Nat×Nat)))=[some (0,256),some (256,1),some (257,1)]:=by kernel_rfl
 simp only[zn,and_true]at hp;obtain⟨p0,p1,p2⟩:=hp;simp only[adb,List.mapM_nil,p0,p1,p2];have e:(fun x=>([(0,256),(256,1),(257,1)]:List (Nat×Nat)).toArray[x]?)=wo:=by
  funext x
  match x with
  |0=>rfl
  |1=>rfl
  |2=>rfl
  |n+3=>rfl
 rw[<-e];rfl
theorem aa6{c d:Array aq}(h:c.size=256)(hd:d.size=256)(vn va:aq)(rest:List (Nat×aq)):oZ wo (aY d vn va) ((0,.agg c)::rest)=oZ wo (aY c vn va) rest:=by
 rw[oZ];simp only[wo,uA,h,fG hd];have:=Wv 0 c.toList 0 (aY d vn va);simp only[yl]at this;rw[alF h hd]at this;rw[az (by simp)];congr 1;rw[<-this,<-acQ];simp
theorem aa5{c:Array aq}(h:c.size=256)(vn va v:aq)(hv:v.cells=#[v])(rest:List (Nat×aq)):oZ wo (aY c vn va) ((2,v)::rest)=oZ wo (aY c vn v) rest:=by
 rw[oZ];simp only[wo,hv,fG h];rw[az (by simp)];congr 1;simp[ahg h]
section
variable{ops:Array Oper}{rest:List Oper}{op:Oper}{a:Act}{w:ay}{Q:Exit->Act->ay->Prop}
theorem aaO(iK:op.guard=none)(parts:List (Nat×Operand))(ho:op.op=.build 91 parts.toArray)(cells:Array aq)(hf:oZ wo (aY dR (.slice none 0 0) (.slice none 0 0)) (parts.map fun q=>(q.1,a.eval q.2))=some cells)(h:wpList aB ops Q rest (a.put op.dst (.agg cells)) w):wpList aB ops Q (op::rest) a w:=by
 have e:(parts.toArray.map fun(i,x)=>(i,a.eval x)).toList=parts.map fun q=>(q.1,a.eval q.2):=(by simp)
 refine wpList_plain iK fun _ hK=>wp_build 91 parts.toArray ho ?_ (hK _ _ ?_)
 .rw[Rl,e,hf];rfl
 .rw[Rl,e,hf];exact h
end
section
variable{tb C g g1 aP:Nat}{gs xs:List Nat}{rows:List (List Int)}{aL:List Int}{α:Type}{l:List α}{x d:α}{o:Obj}
section
open Go.RowKit Go.ChangeMaps
abbrev rv(C g:Nat):aq:=.slice (some ⟨g,0,none⟩) C C
structure jX(w:ay)(tb:Nat)(c:Array aq)(vn va:aq)(C:Nat)(gs:List Nat)(rows:List (List Int))(aL:List Int):Prop where
 cs:c.size=256
 blk:w.heap[tb]?=some (.cells (aY c vn va) 91 (0,0))
 next:w.ownsRow 0 61 1 vn (ae gs) (gs.map (rv C))
 acc:w.ownsRow 0 3 1 va (ae aL) (iv aL)
 len:(ae rows)=ae gs
 row:∀i,i<ae gs->w.heap[gs.getD i 0]?=some (iO (rows.getD i []))/\(rows.getD i []).length=C
 dj:∀g∈gs,va.ownBlock≠some g
def jf(tb:Nat)(vn va:aq)(gs:List Nat):List Nat:=tb::(vn.ownBlock.toList++(va.ownBlock.toList++gs))
theorem mc{vn va:aq}:g∈jf tb vn va gs↔g=tb\/vn.ownBlock=some g\/va.ownBlock=some g\/g∈gs:=by
 unfold jf;cases vn.ownBlock<;>cases va.ownBlock<;>simp[eq_comm]
theorem jX.kp{w w':ay}{c:Array aq}{vn va:aq}(h:jX w tb c vn va C gs rows aL)(hk:Kp xs w w')(hx:∀x∈xs,x∉jf tb vn va gs):jX w' tb c vn va C gs rows aL:=by
 refine⟨h.cs,hk.keep h.blk (fun e=>hx _ e (mc.2 (.inl rfl))),aJ h.next hk (fun g e hm=>hx g hm (mc.2 (.inr (.inl e)))),aJ h.acc hk (fun g e hm=>hx g hm (mc.2 (.inr (.inr (.inl e))))),h.len,fun i hi=>?_,h.dj⟩;obtain⟨a,b⟩:=h.row i hi;refine⟨hk.keep a (fun e=>hx _ e (mc.2 (.inr (.inr (.inr ?_))))),b⟩;rw[aO,bD hi];exact nE hi
theorem jX.lt{w:ay}{c:Array aq}{vn va:aq}(h:jX w tb c vn va C gs rows aL):∀g∈jf tb vn va gs,g<w.heap.size:=by
 intro g hg;rcases mc.1 hg with rfl|e|e|e
 .exact aE h.blk
 .exact(h.next.lt g e).2
 .exact(h.acc.lt g e).2
 .obtain⟨i,hi,rfl⟩:=Vr.1 e;have:=(h.row i hi).1;rw[aO,bD hi]at this;exact aE this
theorem uO{w:ay}{b:Nat}{c c':Array aq}{e e':cL}{f f':Nat×Nat}(h1:w.heap[b]?=some (.cells c e f))(h2:w.heap[g]?=some (.cells c' e' f'))(cP:e≠e'):b≠g:=by
 rintro rfl;rw[h1]at h2;cases h2;exact cP rfl
theorem rG{w:ay}{e:cL}{sz:Nat}{v:aq}{n:Nat}{xs:List aq}(h:w.ownsRow 0 e sz v n xs){g:Nat}(hg:v.ownBlock=some g):∃c fz,w.heap[g]?=some (.cells c e fz):=Go.Lib.ownsRow_kind h g hg
theorem jX.wq{w:ay}{c:Array aq}{vn va:aq}(h:jX w tb c vn va C gs rows aL):vn.ownBlock≠some tb:=by
 intro e;obtain⟨c',f,q⟩:=rG h.next e;exact uO h.blk q (by decide) rfl
theorem jX.F8{w:ay}{c:Array aq}{vn va:aq}(h:jX w tb c vn va C gs rows aL):va.ownBlock≠some tb:=by
 intro e;obtain⟨c',f,q⟩:=rG h.acc e;exact uO h.blk q (by decide) rfl
theorem jX.gn{w:ay}{c:Array aq}{vn va:aq}(h:jX w tb c vn va C gs rows aL){i:Nat}(hi:i<ae gs):vn.ownBlock≠some (gs.getD i 0)/\gs.getD i 0≠tb:=by
 refine⟨fun e=>?_,?_⟩
 .obtain⟨c',f,q⟩:=rG h.next e;exact uO (h.row i hi).1 q (by decide) rfl
 .exact uO (h.row i hi).1 h.blk (by decide)
theorem jX.na{w:ay}{c:Array aq}{vn va:aq}(h:jX w tb c vn va C gs rows aL){g:Nat}(e:vn.ownBlock=some g):va.ownBlock≠some g:=by
 intro e2;obtain⟨c1,f1,q1⟩:=rG h.next e;obtain⟨c2,f2,q2⟩:=rG h.acc e2;exact uO q1 q2 (by decide) rfl
theorem qY{i:Nat}(h:i<ae l):(l ++ [x]).getD i d=l.getD i d:=by
 rw[aO,iI h,<-aO]
theorem qX:(l ++ [x]).getD (ae l) d=x:=by
 rw[aO];simp
theorem Kp.qt{w w1 w2:ay}{r:Option Nat}(h:Kp xs w w1)(hg:w1.grownBy w2 r)(hr:∀k,r=some k->k∈xs\/w.heap.size<=k):Kp xs w w2:=h.grown hg hr
theorem jX.Kg{w w3:ay}{c:Array aq}{vn va:aq}{r:List Int}(h:jX w tb c vn va C gs rows aL)(hg:w.heap[g]?=some (iO r))(hr:(ae r)=C)(sJ:va.ownBlock≠some g)(cT:w3.ownsRow 0 61 1 (.slice (some ⟨g1,0,none⟩) (ae gs+1) aP) (ae gs+1) (gs.map (rv C) ++ [rv C g]))(bj:(w.alloc o).grownBy w3 vn.ownBlock)(cy:vn.ownBlock=some g1\/g1=w.heap.size+1):jX (w3.setCell ⟨tb,256,none⟩ (.slice (some ⟨g1,0,none⟩) (ae gs+1) aP)) tb c (.slice (some ⟨g1,0,none⟩) (ae gs+1) aP) va C (gs ++ [g]) (rows ++ [r]) aL/\Kp (jf tb vn va gs) w (w3.setCell ⟨tb,256,none⟩ (.slice (some ⟨g1,0,none⟩) (ae gs+1) aP))/\∀x∈jf tb (.slice (some ⟨g1,0,none⟩) (ae gs+1) aP) va (gs ++ [g]),x∈jf tb vn va gs\/x=g\/w.heap.size<=x:=by
 have kA:Kp vn.ownBlock.toList w w3:=(((Kp.refl _ w).alloc o).qt bj (fun k e=>.inl (by simp[e])));have kS:Kp [tb] w3 (w3.setCell ⟨tb,256,none⟩ (.slice (some ⟨g1,0,none⟩) (ae gs+1) aP)):=(Kp.refl _ _).set (by simp) _ _;have wq:=h.wq;have OB:=aE h.blk;have b3:w3.heap[tb]?=some (.cells (aY c vn va) 91 (0,0)):=kA.keep h.blk (by simp;exact fun e=>wq e);have abb:g1≠tb:=by
  rintro rfl;rcases cy with e|e
  .exact wq e
  .omega
 refine⟨⟨h.cs,?_,?_,?_,?_,?_,?_⟩,?_,?_⟩
 .rw[aQ,aA rfl,b3];show some (Obj.cells ((aY c vn va).setIfInBounds 256 _) _ _)=_;rw[ahf h.cs]
 .rw[cx,iq,uv];exact aJ cT kS (by intro x e;simp only[aK,aV]at e;subst e;simp[abb])
 .refine aJ (aJ h.acc kA ?_) kS ?_
  .intro x e hm;simp at hm;exact h.na hm e
  .intro x e hm;rw[bQ]at hm;subst hm;exact h.F8 e
 .simp[h.len]
 .intro i hi;rw[cx,iq]at hi;by_cases e:i=ae gs
  .subst e;have e2:(ae rows)=ae gs:=h.len;rw[qX,<-e2,qX];refine⟨?_,hr⟩;have q:w3.heap[g]?=some (iO r):=kA.keep hg (by
    intro hm;simp at hm;obtain⟨c',f,q⟩:=rG h.next hm;exact uO hg q (by decide) rfl)
   rw[aQ,az (uO hg h.blk (by decide))];exact q
  .rw[qY (by omega),qY (by rw[h.len];omega)];obtain⟨a,b⟩:=h.row i (by omega);obtain⟨n1,n2⟩:=h.gn (i:=i) (by omega);refine⟨?_,b⟩;rw[aQ,az n2];exact kA.keep a (by intro hm;simp at hm;exact n1 hm)
 .intro x hx;rcases jr.1 hx with q|q
  .exact h.dj x q
  .rw[bQ.1 q];exact sJ
 .exact(kA.mono (ys:=jf tb vn va gs) (fun x hx=>by simp at hx;exact mc.2 (.inr (.inl hx)))).trans kS (fun y hy=>.inl (by rw[bQ.1 hy];exact mc.2 (.inl rfl)))
 .intro x hx;rcases mc.1 hx with rfl|e|e|e
  .exact .inl (mc.2 (.inl rfl))
  .simp only[aK,aV]at e;subst e;rcases cy with q|q
   .exact .inl (mc.2 (.inr (.inl q)))
   .exact .inr (.inr (by omega))
  .exact .inl (mc.2 (.inr (.inr (.inl e))))
  .rcases jr.1 e with q|q
   .exact .inl (mc.2 (.inr (.inr (.inr q))))
   .exact .inr (.inl (bQ.1 q))
theorem jX.V2{w w3:ay}{c:Array aq}{vn va:aq}{r:Int}(h:jX w tb c vn va C gs rows aL)(cT:w3.ownsRow 0 3 1 (.slice (some ⟨g1,0,none⟩) (ae aL+1) aP) (ae aL+1) (iv aL ++ [.int .i64 r]))(bj:(w.alloc o).grownBy w3 va.ownBlock)(cy:va.ownBlock=some g1\/g1=w.heap.size+1):jX (w3.setCell ⟨tb,257,none⟩ (.slice (some ⟨g1,0,none⟩) (ae aL+1) aP)) tb c vn (.slice (some ⟨g1,0,none⟩) (ae aL+1) aP) C gs rows (aL ++ [r])/\Kp (jf tb vn va gs) w (w3.setCell ⟨tb,257,none⟩ (.slice (some ⟨g1,0,none⟩) (ae aL+1) aP))/\∀x∈jf tb vn (.slice (some ⟨g1,0,none⟩) (ae aL+1) aP) gs,x∈jf tb vn va gs\/w.heap.size<=x:=by
 have kA:Kp va.ownBlock.toList w w3:=(((Kp.refl _ w).alloc o).qt bj (fun k e=>.inl (by simp[e])));have kS:Kp [tb] w3 (w3.setCell ⟨tb,257,none⟩ (.slice (some ⟨g1,0,none⟩) (ae aL+1) aP)):=(Kp.refl _ _).set (by simp) _ _;have F8:=h.F8;have OB:=aE h.blk;have b3:w3.heap[tb]?=some (.cells (aY c vn va) 91 (0,0)):=kA.keep h.blk (by simp;exact fun e=>F8 e);have abb:g1≠tb:=by
  rintro rfl;rcases cy with e|e
  .exact F8 e
  .omega
 refine⟨⟨h.cs,?_,?_,?_,h.len,?_,?_⟩,?_,?_⟩
 .rw[aQ,aA rfl,b3];show some (Obj.cells ((aY c vn va).setIfInBounds 257 _) _ _)=_;rw[ahg h.cs]
 .refine aJ (aJ h.next kA ?_) kS ?_
  .intro x e hm;simp at hm;exact h.na e hm
  .intro x e hm;rw[bQ]at hm;subst hm;exact h.wq e
 .rw[cx,iq,show iv (aL ++ [r])=iv aL ++ [.int .i64 r] by simp[iv]];exact aJ cT kS (by intro x e;simp only[aK,aV]at e;subst e;simp[abb])
 .intro i hi;obtain⟨a,b⟩:=h.row i hi;obtain⟨n1,n2⟩:=h.gn (i:=i) hi;refine⟨?_,b⟩;rw[aQ,az n2];refine kA.keep a (by
   intro hm;simp at hm;refine h.dj (gs.getD i 0) ?_ hm;rw[aO,bD hi];exact nE hi)
 .intro x hx e;simp only[aK,aV]at e;subst e;rcases cy with q|q
  .exact h.dj _ hx q
  .have:=h.lt g1 (mc.2 (.inr (.inr (.inr hx))));omega
 .exact(kA.mono (ys:=jf tb vn va gs) (fun x hx=>by simp at hx;exact mc.2 (.inr (.inr (.inl hx))))).trans kS (fun y hy=>.inl (by rw[bQ.1 hy];exact mc.2 (.inl rfl)))
 .intro x hx;rcases mc.1 hx with rfl|e|e|e
  .exact .inl (mc.2 (.inl rfl))
  .exact .inl (mc.2 (.inr (.inl e)))
  .simp only[aK,aV]at e;subst e;rcases cy with q|q
   .exact .inl (mc.2 (.inr (.inr (.inl q))))
   .exact .inr (by omega)
  .exact .inl (mc.2 (.inr (.inr (.inr e))))
end
end
section
variable{n p:Nat}{x:List Nat}
section
open Classical
noncomputable def oP (L:Nat->cC):Nat->List Nat->Int
 |0,_=>-1
 |n+1,x=>if oP L n x≠-1 then oP L n x else if L n x then n else -1
theorem Wt(L:Nat->cC)(x:List Nat):∀n,(oP L n x=-1/\∀i,i<n->¬L i x)\/(∃i:Nat,oP L n x=i/\i<n/\L i x/\∀k,k<i->¬L k x):=by
 intro n;induction n with
 |zero=>exact .inl ⟨rfl,fun i h=>by omega⟩
 |succ n ih =>
  rw[oP];rcases ih with⟨a,b⟩|⟨i,a,b,c,d⟩
  .rw[az (fun h=>h a)];by_cases h:L n x
   .rw[aA h];exact .inr ⟨n,rfl,by omega,h,b⟩
   .rw[az h];refine .inl ⟨rfl,fun i hi=>?_⟩;by_cases e:i=n
    .rw[e];exact h
    .exact b i (by omega)
  .rw[aA (by rw[a];omega)];exact .inr ⟨i,a,by omega,c,d⟩
theorem aa7{L:Nat->cC}(h:∀i,i<n->¬L i x):oP L n x=-1:=by
 rcases Wt L x n with⟨a,_⟩|⟨i,_,b,c,_⟩
 .exact a
 .exact absurd c (h i b)
theorem aem{L:Nat->cC}{i:Nat}(hi:i<n)(h:L i x)(hk:∀k,k<i->¬L k x):oP L n x=i:=by
 rcases Wt L x n with⟨_,b⟩|⟨j,a,b,c,d⟩
 .exact absurd h (b i hi)
 .rcases ym i j with e|e|e
  .exact absurd h (d i e)
  .rw[a,e]
  .exact absurd c (hk j e)
theorem aj8(L:Nat->cC)(n:Nat)(x:List Nat):-1<=oP L n x/\oP L n x<n:=by
 rcases Wt L x n with⟨a,_⟩|⟨j,a,b,_⟩
 .omega
 .omega
noncomputable def jG (L:Nat->cC) (n:Nat) (x:List Nat):Nat->Int×Nat
 |0=>(-1,0)
 |m+1=>if oP L n (x.take (m+1))≠-1 then(oP L n (x.take (m+1)),m+1) else jG L n x m
theorem ai8{L:Nat->cC}{k:Nat}:∀m,k<=m->(∀j,k<j->j<=m->oP L n (x.take j)=-1)->jG L n x m=jG L n x k:=by
 intro m;induction m with
 |zero=>intro h _;rw[show k=0 by omega]
 |succ m ih =>
  intro h hj;by_cases e:k=m+1
  .rw[e]
  .rw[jG,az (fun c=>c (hj (m+1) (by omega) (by omega)))];exact ih (by omega) fun j a b=>hj j a (by omega)
theorem Rf(L:Nat->cC)(n:Nat)(x:List Nat):∀m,(∀j,(jG L n x m).2<j->j<=m->oP L n (x.take j)=-1)/\(jG L n x m).2<=m/\(((jG L n x m).1=-1/\(jG L n x m).2=0)\/(0<=(jG L n x m).1/\0<(jG L n x m).2/\oP L n (x.take (jG L n x m).2)=(jG L n x m).1)):=by
 intro m;induction m with
 |zero=>exact⟨fun j a b=>by simp[jG]at a;omega,aH _,.inl ⟨rfl,rfl⟩⟩
 |succ m ih =>
  rw[jG];by_cases h:oP L n (x.take (m+1))≠-1
  .rw[aA h];have:=aj8 L n (x.take (m+1));exact⟨fun j a b=>by simp only at a;omega,aH _,.inr ⟨by simp only;omega,by simp only;omega,rfl⟩⟩
  .rw[az h];refine⟨fun j a b=>?_,by have:=ih.2.1;omega,ih.2.2⟩;by_cases e:j=m+1
   .rw[e];exact Classical.not_not.1 h
   .exact ih.1 j a (by omega)
def ya(L:Nat->cC)(n:Nat)(x:List Nat):Nat->List (Int×Nat×Nat)->Nat->Prop
 |at',[],end'=>end'=at'/\∀j,0<j->j<=ae x-at'->oP L n ((x.drop at').take j)=-1
 |at',(r,f,t)::ts,end'=>f=at'/\at' < t/\t<=ae x/\0<=r/\oP L n ((x.drop at').take (t-at'))=r/\(∀j,t-at' < j->j<=ae x-at'->oP L n ((x.drop at').take j)=-1)/\ya L n x t ts end'
theorem ajI{L:Nat->cC}:∀(ts us:List (Int×Nat×Nat)) (p e e':Nat),ya L n x p ts e->ya L n x p us e'->ts=us/\e=e':=by
 intro ts;induction ts with
 |nil =>
  intro us p e e' h k;cases us with
  |nil=>exact⟨rfl,by rw[h.1,k.1]⟩
  |cons u us =>
   obtain⟨r,f,t⟩:=u;obtain⟨_,k1,k2,k3,k4,_⟩:=k;have:=h.2 (t-p) (by omega) (by omega);omega
 |cons a ts ih =>
  intro us p e e' h k;obtain⟨r,f,t⟩:=a;obtain⟨h0,h1,h2,h3,h4,h5,h6⟩:=h;cases us with
  |nil =>
   have:=k.2 (t-p) (by omega) (by omega);omega
  |cons u us =>
   obtain⟨r',f',t'⟩:=u;obtain⟨k0,k1,k2,k3,k4,k5,k6⟩:=k;have et:t=t':=by
    rcases ym t t' with c|c|c
    .have:=h5 (t' - p) (by omega) (by omega);omega
    .exact c
    .have:=k5 (t-p) (by omega) (by omega);omega
   subst et;have:=ih us t e e' h6 k6;refine⟨?_,this.2⟩;rw[h0,k0,<-h4,<-k4,this.1]
theorem ajG{L:Nat->cC}(hp:p<=ae x)(h:(jG L n (x.drop p) (ae x-p)).1=-1):ya L n x p [] p:=by
 have hs:=Rf L n (x.drop p) (ae x-p);refine⟨rfl,fun j a b=>hs.1 j ?_ b⟩;rcases hs.2.2 with c|c
 .rw[c.2];exact a
 .omega
theorem ajH{L:Nat->cC}(hp:p<=ae x){r:Int}{k:Nat}(h:jG L n (x.drop p) (ae x-p)=(r,k))(hr:r≠-1){ts:List (Int×Nat×Nat)}{e:Nat}(hc:ya L n x (p+k) ts e):ya L n x p ((r,p,p+k)::ts) e:=by
 have hs:=Rf L n (x.drop p) (ae x-p);rw[h]at hs;obtain⟨s1,s2,s3⟩:=hs;simp only at s1 s2 s3;rcases s3 with c|⟨c1,c2,c3⟩
 .exact absurd c.1 hr
 .refine⟨rfl,by omega,by omega,c1,?_,fun j a b=>s1 j (by omega) b,hc⟩;rw[show p+k-p=k by omega];exact c3
end
end
section
variable{n C N:Nat}{cls f l:Nat->Nat}{nx:Nat->Nat->Int}{ac:Nat->Int}{bs fs:List Nat}{S:List (Nat×Nat)}
def qE(cls:Nat->Nat)(nx:Nat->Nat->Int)(s:Int)(c:Nat):Int:=if s=-1 then -1 else nx s.toNat (cls c)
def uT(cls:Nat->Nat)(nx:Nat->Nat->Int)(x:List Nat):Int:=x.foldl (qE cls nx) 0
theorem ahp(cls:Nat->Nat)(nx:Nat->Nat->Int)(y:List Nat)(c:Nat):uT cls nx (y ++ [c])=qE cls nx (uT cls nx y) c:=by
 unfold uT;rw[MV];rfl
structure uz(L:Nat->cC)(n:Nat)(cls:Nat->Nat)(nx:Nat->Nat->Int)(ac:Nat->Int)(N C:Nat):Prop where
 pos:0<N
 cl:∀c,c<256->cls c<C
 ik:∀s k,s<N->k<C->-1<=nx s k/\nx s k<N
 some:∀x,x≠[]->(∀c∈x,c<256)->uT cls nx x≠-1->ac (uT cls nx x).toNat=oP L n x
 none:∀x,x≠[]->(∀c∈x,c<256)->uT cls nx x=-1->∀z,(∀c∈z,c<256)->oP L n (x++z)=-1
theorem uz.at{L:Nat->cC}(h:uz L n cls nx ac N C):∀(y:List Nat),(∀c∈y,c<256)->-1<=uT cls nx y/\uT cls nx y<N:=by
 have key:∀(y:List Nat) (s:Int),-1<=s->s<N->(∀c∈y,c<256)->-1<=y.foldl (qE cls nx) s/\y.foldl (qE cls nx) s<N:=by
  intro y;induction y with
  |nil=>intro s h1 h2 _;exact⟨h1,h2⟩
  |cons c y ih =>
   intro s h1 h2 hy;have hc:=hy c (by simp);(have hy':∀c∈y,c<256:=fun d hd=>hy d (by simp[hd]));have hs:-1<=qE cls nx s c/\qE cls nx s c<N:=by
    unfold qE;by_cases e:s=-1
    .rw[aA e];omega
    .rw[az e];exact h.ik s.toNat (cls c) (by omega) (h.cl c hc)
   exact ih _ hs.1 hs.2 hy'
 intro y hy;have:=h.pos;exact key y 0 (by omega) (by omega) hy
structure Ea(bs fs:List Nat)(f l:Nat->Nat)(n:Nat)(S:List (Nat×Nat))(cls:Nat->Nat)(nx:Nat->Nat->Int)(ac:Nat->Int)(C:Nat):Prop where
 pos:0<ae S
 cl:∀c,c<256->cls c<C
 ik:∀s k,s<ae S->k<C->-1<=nx s k/\nx s k<ae S
 zero:S.getD 0 (0,0)=(cH f n,0)
 next:∀s c,s<ae S->c<256->(sP bs fs l n (S.getD s (0,0)) c=(0,0)/\nx s (cls c)=-1)\/(∃k:Nat,nx s (cls c)=k/\k<ae S/\S.getD k (0,0)=sP bs fs l n (S.getD s (0,0)) c)
 acc:∀s,s<ae S->(ac s=-1/\∀i,i<n->(S.getD s (0,0)).2.testBit i=false)\/(∃i:Nat,ac s=i/\i<n/\(S.getD s (0,0)).2.testBit i=true/\∀k,k<i->(S.getD s (0,0)).2.testBit k=false)
theorem Ea.walk(h:Ea bs fs f l n S cls nx ac C):∀(m:Nat) (x:List Nat),ae x=m->(∀c∈x,c<256)->(uT cls nx x=-1/\∃y z,x=y++z/\y≠[]/\wu bs fs l n (cH f n,0) y=(0,0))\/(∃s:Nat,uT cls nx x=s/\s<ae S/\S.getD s (0,0)=wu bs fs l n (cH f n,0) x):=by
 intro m;induction m with
 |zero =>
  intro x hx _;have e:x=[]:=List.length_eq_zero_iff.1 hx;subst e;exact .inr ⟨0,rfl,h.pos,h.zero⟩
 |succ m ih =>
  intro x hx hb;have cP:x≠[]:=by intro e;rw[e]at hx;simp at hx
  obtain⟨y,c,rfl⟩:=acw cP;have hc:c<256:=hb c (by simp);rw[ahp,Y4];rcases ih y (by simp at hx;exact hx) (fun d hd=>hb d (by simp[hd]))with⟨a,p,z,e,hp,h0⟩|⟨s,a,hs,b⟩
  .refine .inl ⟨?_,p,z ++ [c],by rw[e];simp,hp,h0⟩;unfold qE;rw[aA a]
  .unfold qE;rw[a,az (by omega),mj,<-b];rcases h.next s c hs hc with⟨e1,e2⟩|⟨k,e1,e2,e3⟩
   .refine .inl ⟨e2,y ++ [c],[],by simp,by simp,?_⟩;rw[Y4,<-b];exact e1
   .exact .inr ⟨k,e1,e2,e3⟩
theorem Ea.ok{lo:Nat->Nat}{e:Nat->Bool}{L:Nat->cC}(h:Ea bs fs f l n S cls nx ac C)(r:ED (fun q=>bs.getD q 0) (fun q=>fs.getD q 0) n lo e f l L):uz L n cls nx ac (ae S) C:=by
 refine⟨h.pos,h.cl,h.ik,fun x hx hb hw=>?_,fun x hx hb hw z _=>?_⟩
 .rcases h.walk (ae x) x rfl hb with⟨a,_⟩|⟨s,a,hs,b⟩
  .exact absurd a hw
  .rw[a,mj];rcases h.acc s hs with⟨c,d⟩|⟨i,c,hi,d,g⟩
   .rw[c];refine(aa7 fun i hi hL=>?_).symm;have:=d i hi;rw[b,(Y5 r x hx i).2 ⟨hi,hL⟩]at this;cases this
   .rw[c];rw[b]at d;refine(aem hi ((Y5 r x hx i).1 d).2 fun k hk hL=>?_).symm;have:=g k hk;rw[b,(Y5 r x hx k).2 ⟨by omega,hL⟩]at this;cases this
 .rcases h.walk (ae x) x rfl hb with⟨_,p,q,e,hp,h0⟩|⟨s,a,_⟩
  ·(refine aa7 fun i hi hL=>?_);rw[e,List.append_assoc]at hL;exact aoR r p hp h0 (q++z) i hi hL
  .omega
theorem uz.ai7{L:Nat->cC}(h:uz L n cls nx ac N C)(x:List Nat)(hx:∀c∈x,c<256)(m:Nat)(hm:m<ae x)(s:Int)(hs:uT cls nx (x.take (m+1))=s)(h1:s≠-1):jG L n x (m+1)=if ac s.toNat≠-1 then(ac s.toNat,m+1) else jG L n x m:=by
 have cP:x.take (m+1)≠[]:=by intro e;have:=congrArg ae e;rw[GJ,MX]at this;omega
 have:=h.some (x.take (m+1)) cP (fun c hc=>hx c (aao hc)) (by rw[hs];exact h1);rw[hs]at this;rw[jG,this]
theorem uz.ai5{L:Nat->cC}(h:uz L n cls nx ac N C)(x:List Nat)(hx:∀c∈x,c<256)(m:Nat)(hm:m<ae x)(hs:uT cls nx (x.take (m+1))=-1):jG L n x (ae x)=jG L n x m:=by
 have cP:x.take (m+1)≠[]:=by intro e;have:=congrArg ae e;rw[GJ,MX]at this;omega
 refine ai8 (ae x) (by omega) fun j a b=>?_
 have:=h.none (x.take (m+1)) cP (fun c hc=>hx c (aao hc)) hs ((x.take j).drop (m+1)) (fun c hc=>hx c (aao (List.mem_of_mem_drop hc)));have e:x.take (m+1)++(x.take j).drop (m+1)=x.take j:=by
  have e2:(x.take j).take (m+1)=x.take (m+1):=(by rw[List.take_take,Nat.min_eq_left (by omega)]);rw[<-e2,List.take_append_drop]
 rw[e]at this;exact this
end
section
variable{bs fs Ks F gs:List Nat}{ps:List (Bool×Nat×Nat)}{B tb tk g1 aP sb:Nat}{cl:Nat->Nat}{S:List (Nat×Nat)}{rows:List (List Int)}{aL:List Int}{x:Nat×Nat}{o:Obj}
section
open Go.RowKit Go.ChangeMaps
abbrev sv(x:Nat×Nat):aq:=dJ x.1 x.2
def yp(bs fs:List Nat)(ps:List (Bool×Nat×Nat))(y:Nat×Nat):Prop:=(∃x:List Nat,(∀c∈x,c<256)/\y=wu bs fs (lR ps) (ae ps) (cH (fR ps) (ae ps),0) x)/\(y=(cH (fR ps) (ae ps),0)\/y≠(0,0))
abbrev fZ:aq:=.slice none 0 0
abbrev ahw:Obj:=.cells (aY dR fZ fZ) 91 (0,0)
structure vA(w:ay)(B tb:Nat)(vp vr:aq)(bs fs:List Nat)(ps:List (Bool×Nat×Nat))(Ks:List Nat)(cl:Nat->Nat)(F:List Nat)(S:List (Nat×Nat))(tk:Nat)(gs:List Nat)(rows:List (List Int))(aL:List Int)(vn va:aq)(w':ay):Prop where
 bl:Bl w' B vp vr F (Ks.map cG) (S.map sv) tk
 tab:jX w' tb (cI cl 256) vn va (ae Ks) gs rows aL
 old:Kp [] w w'
 bR:w'.heap[w.heap.size]?=some ahw
 Fb:∀g∈F,w.heap.size<g
 qp:∀g∈jf tb vn va gs,w.heap.size<g/\g∉F
 ok:∀i,i<ae gs->∀k,k<ae Ks->DW (S.map sv) (jl fs ps (S.getD i (0,0)).1 (Ks.getD k 0)).1 (jl fs ps (S.getD i (0,0)).1 (Ks.getD k 0)).2 ((rows.getD i []).getD k 0)
 Dq:∀i,i<ae aL->C5 (S.getD i (0,0)).2 (ae ps) (aL.getD i 0)
 al:(ae aL)<=ae S
 nK:∀y∈S,yp bs fs ps y
 zero:S[0]?=some (cH (fR ps) (ae ps),0)
theorem vA.kp{w:ay}{vp vr:aq}{vn va:aq}{w1 w2:ay}{xs:List Nat}(t:vA w B tb vp vr bs fs ps Ks cl F S tk gs rows aL vn va w1)(hk:Kp xs w1 w2)(hx:∀x∈xs,w.heap.size<x/\x∉F/\x∉jf tb vn va gs):vA w B tb vp vr bs fs ps Ks cl F S tk gs rows aL vn va w2 :=
 ⟨t.bl.kp hk (fun x h=>(hx x h).2.1),t.tab.kp hk (fun x h=>(hx x h).2.2),t.old.trans hk (fun y hy=>.inr (GR (hx y hy).1)),hk.keep t.bR (fun h=>by have:=(hx _ h).1;omega),t.Fb,t.qp,t.ok,t.Dq,t.al,t.nK,t.zero⟩
theorem ag6{P:Nat×Nat->Prop}:∀(l:List aq),(∀x∈l,∃y,P y/\x=sv y)->∃T:List (Nat×Nat),l=T.map sv/\∀y∈T,P y
 |[],_=>⟨[],rfl,by simp⟩
 |a::l,h=>by
  obtain⟨y,hy,rfl⟩:=h a (by simp)
  obtain⟨T,rfl,hT⟩:=ag6 l (fun x hx=>h x (by simp[hx]))
  exact⟨y::T,rfl,fun z hz=>by rcases gH.1 hz with rfl|q;exact hy;exact hT z q⟩
theorem yp.step{y:Nat×Nat}(h:yp bs fs ps y){c:Nat}(hc:c<256)(hn:sP bs fs (lR ps) (ae ps) y c≠(0,0)):yp bs fs ps (sP bs fs (lR ps) (ae ps) y c):=by
 obtain⟨⟨x,hx,rfl⟩,_⟩:=h;refine⟨⟨x ++ [c],fun d hd=>?_,?_⟩,.inr hn⟩
 .rcases jr.1 hd with q|q
  .exact hx d q
  .rw[bQ.1 q];exact hc
 .unfold wu;rw[MV];rfl
theorem vA.row{w:ay}{vp vr:aq}{vn va:aq}{wr w2 w3:ay}{g:Nat}{r:List Int}{F2:List Nat}{ss2:List aq}(t:vA w B tb vp vr bs fs ps Ks cl F S tk gs rows aL vn va wr)(hx:S[ae gs]?=some x)(dw:∀k,k<ae Ks->∃c,c<256/\Ks.getD k 0=eW bs c (ae bs))(hg:wr.heap.size<=g)(WY:g∉F2)(Ik:w2.heap[g]?=some (iO r))(hr:(ae r)=ae Ks)(zR:∀k,k<ae Ks->DW ss2 (jl fs ps x.1 (Ks.getD k 0)).1 (jl fs ps x.1 (Ks.getD k 0)).2 (r.getD k 0))(Lj:S.map sv <+: ss2)(mO:∀v∈ss2,v∈S.map sv\/∃k,k<ae Ks/\v=dJ (jl fs ps x.1 (Ks.getD k 0)).1 (jl fs ps x.1 (Ks.getD k 0)).2/\¬((jl fs ps x.1 (Ks.getD k 0)).1=0/\(jl fs ps x.1 (Ks.getD k 0)).2=0))(kD:Bl w2 B vp vr F2 (Ks.map cG) ss2 tk)(gV:Kp F wr w2)(gw:∀q∈F2,q∈F\/wr.heap.size<=q)(cT:w3.ownsRow 0 61 1 (.slice (some ⟨g1,0,none⟩) (ae gs+1) aP) (ae gs+1) (gs.map (rv (ae Ks)) ++ [rv (ae Ks) g]))(bj:(w2.alloc o).grownBy w3 vn.ownBlock)(cy:vn.ownBlock=some g1\/g1=w2.heap.size+1)(zV:sb<wr.heap.size/\sb∉F/\sb∉jf tb vn va gs):∃T:List (Nat×Nat),ss2=(S++T).map sv/\vA w B tb vp vr bs fs ps Ks cl F2 (S++T) tk (gs ++ [g]) (rows ++ [r]) aL (.slice (some ⟨g1,0,none⟩) (ae gs+1) aP) va (w3.setCell ⟨tb,256,none⟩ (.slice (some ⟨g1,0,none⟩) (ae gs+1) aP))/\(w3.setCell ⟨tb,256,none⟩ (.slice (some ⟨g1,0,none⟩) (ae gs+1) aP)).heap[sb]?=wr.heap[sb]?/\sb∉F2/\sb∉jf tb (.slice (some ⟨g1,0,none⟩) (ae gs+1) aP) va (gs ++ [g]):=by
 have kO:jX w2 tb (cI cl 256) vn va (ae Ks) gs rows aL:=t.tab.kp gV (fun q hq hm=>(t.qp q hm).2 hq);have sJ:va.ownBlock≠some g:=by
  intro e;have:=t.tab.lt g (mc.2 (.inr (.inr (.inl e))));omega
 obtain⟨Pa,xE,gA⟩:=kO.Kg Ik hr sJ cT bj cy;have lw:w.heap.size<wr.heap.size:=aE t.bR;have s2:=gV.size;obtain⟨l,hl⟩:=Lj;have hxS:x∈S:=qL hx;obtain⟨T,hT,hTr⟩:=ag6 (P:=yp bs fs ps) l (fun v hv=>by
  rcases mO v (by rw[<-hl];simp[hv])with q|⟨k,hk,e,ez⟩
  .obtain⟨y,hy,rfl⟩:=kY.1 q;exact⟨y,t.nK y hy,rfl⟩
  .obtain⟨c,hc,e2⟩:=dw k hk;refine⟨sP bs fs (lR ps) (ae ps) x c,(t.nK x hxS).step hc (fun z=>ez (by rw[e2];exact⟨congrArg Prod.fst z,congrArg Prod.snd z⟩)),?_⟩;rw[e,e2];rfl)
 have XB:ss2=(S++T).map sv:=(by rw[<-hl,hT,uv]);subst XB;have fF2:∀q∈F2,w.heap.size<q:=fun q hq=>by
  rcases gw q hq with e|e
  .exact t.Fb q e
  .omega
 have fT3:∀q∈jf tb (.slice (some ⟨g1,0,none⟩) (ae gs+1) aP) va (gs ++ [g]),w.heap.size<q/\q∉F2:=fun q hq=>by
  rcases gA q hq with e|e|e
  .refine⟨(t.qp q e).1,fun hm=>?_⟩;rcases gw q hm with e2|e2
   .exact(t.qp q e).2 e2
   .have:=t.tab.lt q e;omega
  .subst e;exact⟨by omega,WY⟩
  .exact⟨by omega,fun hm=>by have:=kD.lt q hm;omega⟩
 have blF:∀q∈jf tb vn va gs,q∉F2:=fun q hq hm=>by
  rcases gw q hm with e|e
  .exact(t.qp q hq).2 e
  .have:=t.tab.lt q hq;omega
 refine⟨T,rfl,⟨kD.kp xE (fun q hq=>blF q hq),Pa,?_,?_,fF2,fT3,?_,?_,by rw[cx];have:=t.al;omega,?_,?_⟩,?_,?_,?_⟩
 .refine(t.old.trans gV (fun y hy=>.inr (GR (t.Fb y hy)))).trans xE (fun y hy=>.inr (GR (t.qp y hy).1))
 .refine xE.keep (gV.keep t.bR ?_) ?_
  .intro hm;have:=t.Fb _ hm;omega
  .intro hm;have:=(t.qp _ hm).1;omega
 .intro i hi k hk;rw[cx,iq]at hi;by_cases e:i=ae gs
  .subst e;have N6:(ae gs)<ae S:=(fB.1 hx).1;have e1:(S++T).getD (ae gs) (0,0)=x:=by
    rw[aO,iI N6,hx];rfl
   have e2:(rows ++ [r]).getD (ae gs) []=r:=(by rw[<-t.tab.len,qX]);rw[e1,e2];exact zR k hk
  .have dx:i<ae gs:=(by omega);have N6:(ae gs)<ae S:=(fB.1 hx).1;have e1:(S++T).getD i (0,0)=S.getD i (0,0):=by
    rw[aO,iI (by omega),<-aO]
   rw[e1,qY (by rw[t.tab.len];exact dx)];exact(t.ok i dx k hk).mono ⟨T.map sv,by rw[uv]⟩
 .intro i hi;by_cases hiS:i<ae S
  .have e1:(S++T).getD i (0,0)=S.getD i (0,0):=by
    rw[aO,iI hiS,<-aO]
   rw[e1];exact t.Dq i hi
  .have:=t.al;omega
 .intro y hy;rcases jr.1 hy with q|q
  .exact t.nK y q
  .exact hTr y q
 .have h0:=t.zero;rw[iI (fB.1 h0).1];exact h0
 .have q2:w2.heap[sb]?=wr.heap[sb]?:=gV.block sb zV.1 zV.2.1;rw[xE.block sb (by omega) zV.2.2,q2]
 .intro hm;rcases gw _ hm with e|e
  .exact zV.2.1 e
  .omega
 .intro hm;rcases gA _ hm with e|e|e
  .exact zV.2.2 e
  .omega
  .omega
theorem vA.acc{w:ay}{vp vr:aq}{vn va:aq}{wr w2 w3:ay}{r:Int}(t:vA w B tb vp vr bs fs ps Ks cl F S tk gs rows aL vn va wr)(hx:S[ae aL]?=some x)(hr:C5 x.2 (ae ps) r)(gV:Kp [] wr w2)(cT:w3.ownsRow 0 3 1 (.slice (some ⟨g1,0,none⟩) (ae aL+1) aP) (ae aL+1) (iv aL ++ [.int .i64 r]))(bj:(w2.alloc o).grownBy w3 va.ownBlock)(cy:va.ownBlock=some g1\/g1=w2.heap.size+1)(zV:sb<wr.heap.size/\sb∉F/\sb∉jf tb vn va gs):vA w B tb vp vr bs fs ps Ks cl F S tk gs rows (aL ++ [r]) vn (.slice (some ⟨g1,0,none⟩) (ae aL+1) aP) (w3.setCell ⟨tb,257,none⟩ (.slice (some ⟨g1,0,none⟩) (ae aL+1) aP))/\(w3.setCell ⟨tb,257,none⟩ (.slice (some ⟨g1,0,none⟩) (ae aL+1) aP)).heap[sb]?=wr.heap[sb]?/\sb∉jf tb vn (.slice (some ⟨g1,0,none⟩) (ae aL+1) aP) gs:=by
 have t2:=t.kp gV (by simp);obtain⟨Pa,xE,gA⟩:=t2.tab.V2 cT bj cy;have lw:w.heap.size<wr.heap.size:=aE t.bR;have s2:=gV.size;have m8:=(fB.1 hx).1;refine⟨⟨t2.bl.kp xE (fun q hq=>(t.qp q hq).2),Pa,?_,?_,t.Fb,?_,t.ok,?_,?_,t.nK,t.zero⟩,?_,?_⟩
 .exact t2.old.trans xE (fun y hy=>.inr (GR (t.qp y hy).1))
 .refine xE.keep t2.bR ?_;intro hm;have:=(t.qp _ hm).1;omega
 .intro q hq;rcases gA q hq with e|e
  .exact t.qp q e
  .exact⟨by omega,fun hm=>by have:=t2.bl.lt q hm;omega⟩
 .intro i hi;rw[cx,iq]at hi;by_cases e:i=ae aL
  .subst e;rw[qX];(have e1:S.getD (ae aL) (0,0)=x:=by rw[aO,hx];rfl);rw[e1];exact hr
  .rw[qY (by omega)];exact t.Dq i (by omega)
 .rw[cx,iq];omega
 .rw[xE.block sb (by omega) zV.2.2,gV.block sb zV.1 (by simp)]
 .intro hm;rcases gA _ hm with e|e
  .exact zV.2.2 e
  .omega
end
end
section
open Go.RowKit Go.ChangeMaps
structure qg(w:ay)(bs fs:List Nat)(ps:List (Bool×Nat×Nat))(Ks:List Nat)(cl:Nat->Nat)(S:List (Nat×Nat))(tb:Nat)(gs:List Nat)(rows:List (List Int))(aL:List Int)(vn va:aq)(w':ay):Prop where
 inv:zc (fun c=>cG (eW bs c (ae bs))) 256 (Ks.map cG) cl
 XM:∀c,c<256->cl c<ae Ks/\Ks.getD (cl c) 0=eW bs c (ae bs)
 kpos:0<ae Ks
 abO:(ae Ks)<=256
 tab:jX w' tb (cI cl 256) vn va (ae Ks) gs rows aL
 fr:∀g∈jf tb vn va gs,w.heap.size<g
 lg:(ae gs)=ae S
 la:(ae aL)=ae S
 few:(ae S)<=250
 nodup:(S.map sv).Nodup
 ok:∀i,i<ae S->∀k,k<ae Ks->DW (S.map sv) (jl fs ps (S.getD i (0,0)).1 (Ks.getD k 0)).1 (jl fs ps (S.getD i (0,0)).1 (Ks.getD k 0)).2 ((rows.getD i []).getD k 0)
 Dq:∀i,i<ae S->C5 (S.getD i (0,0)).2 (ae ps) (aL.getD i 0)
 nK:∀y∈S,yp bs fs ps y
 zero:S[0]?=some (cH (fR ps) (ae ps),0)
theorem acB{c:Array aq}{vn va:aq}(h:c.all (·.oneCell')=true)(h1:vn.oneCell'=true)(h2:va.oneCell'=true):(aY c vn va).all (·.oneCell')=true:=by
 unfold aY;rw[acP,h];simp[h1,h2]
theorem Lt:(aB.info? 61).map (fun i=>(i.zero,i.size,i.bytes))=some (some (.slice none 0 0),1,24):=by kernel_rfl
theorem apf:dR.all (·.oneCell')=true:=by
 have:=vJ (fun _=>0) 0;rw[Rv]at this;exact this
theorem agn{w:ay}{e:cL}{sz:Nat}{v:aq}{n:Nat}{xs:List aq}(h:w.ownsRow 0 e sz v n xs):v.oneCell'=true:=by
 rcases h.2 with⟨rfl,_⟩|⟨g,cap,cur,rfl,_⟩
 .rfl
 .rfl
def abY:aq->Nat
 |.bool true=>1
 |_=>0
theorem aor(p:Nat)(vr vb vf:aq)(bs fs:List Nat)(ps:List (Bool×Nat×Nat))(w:ay)(hP:dN w p bs fs vb vf)(hR:yu w vr ps)(pU:(ae bs)<=200)(hn:(ae ps)<=6)(pz:∀q,fs.getD q 0<2 ^ 256)(hf:cH (fR ps) (ae ps)<2 ^ 256):aI aB 42 #[.pointer (some ⟨p,0,none⟩),vr] w fun e w'=>dA w.heap.size w w'/\((∃Ks cl S tb gs rows aL vn va,e=.returned (.tuple #[.agg (aY (cI cl 256) vn va),.bool true])/\qg w bs fs ps Ks cl S tb gs rows aL vn va w')\/(∃S:List (Nat×Nat),e=.returned (.tuple #[.agg (aY dR fZ fZ),.bool false])/\(S.map sv).Nodup/\250<ae S/\∀y∈S,yp bs fs ps y)):=by
 obtain⟨av,dG,rfl⟩:=hR.slice;obtain⟨HP,HR,ZP,HF⟩:=dH hP hR pz hf;clear hP hR pz hf;go_enter Tryz.func42,Tryz.ntmps42;go_upto_region 0 with fail;apply fD;refine qT rfl _ rfl _ xD ?_;simp only[fj,fx,eX,eU,aM,uA];have kW:Kp [] w (w.alloc (.cells (aY dR fZ fZ) 91 (0,0))):=(Kp.refl _ w).alloc _;have bR:(w.alloc (.cells (aY dR fZ fZ) 91 (0,0))).heap[w.heap.size]?=some (.cells (aY dR fZ fZ) 91 (0,0)):=(by rw[aC,aA rfl]);have sW:(w.alloc (.cells (aY dR fZ fZ) 91 (0,0))).heap.size=w.heap.size+1:=aM _ _;generalize (w.alloc (.cells (aY dR fZ fZ) 91 (0,0)))=W at *;obtain⟨KW,BR,SW⟩:=cR kW bR sW;clear kW bR sW;go_upto_region 2 with fail;have Nt:Bl (W.alloc (.cells #[.pointer (some ⟨p,0,none⟩),.slice av (ae ps) dG,.map none,fZ,.map none,fZ,.int .i64 0] 137 (0,0))) W.heap.size (.pointer (some ⟨p,0,none⟩)) (.slice av (ae ps) dG) [W.heap.size] [] [] 0 :=
  ⟨.map none,fZ,.map none,fZ,⟨by rw[aC,aA rfl];rfl,⟨.inl ⟨rfl,rfl⟩,j9 _ _ _ _,by simp,by simp,by simp⟩,⟨.inl ⟨rfl,rfl⟩,j9 _ _ _ _,by simp,by simp,by simp⟩,by simp[dV,CB,aK],by simp[dV,CB,aK],by simp[dV,CB,aK]⟩,rfl⟩
 have k1:Kp [] w (W.alloc (.cells #[.pointer (some ⟨p,0,none⟩),.slice av (ae ps) dG,.map none,fZ,.map none,fZ,.int .i64 0] 137 (0,0))):=KW.o.alloc _;have Rd:(W.alloc (.cells #[.pointer (some ⟨p,0,none⟩),.slice av (ae ps) dG,.map none,fZ,.map none,fZ,.int .i64 0] 137 (0,0))).heap[w.heap.size]?=some (.cells (aY dR fZ fZ) 91 (0,0)):=by
  rw[aC,az (bY (aE BR.o))];exact BR.o
 generalize (W.alloc (.cells #[.pointer (some ⟨p,0,none⟩),.slice av (ae ps) dG,.map none,fZ,.map none,fZ,.int .i64 0] 137 (0,0)))=W1 at *;have hB:W.heap.size=w.heap.size+1:=SW.o;generalize W.heap.size=B at *;have HB:=aj hB;have XD:w.heap.size<B:=(by omega);clear hB;obtain⟨Pq,K1,rU⟩:=cR Nt k1 Rd;have Iz:=aj (Nt.lt B (by simp));clear Nt k1 Rd KW BR SW;go_wp2_with fail;refine(aiW B p (.slice av (ae ps) dG) vb vf [B] bs fs [] 0 W1 Pq.o (fun w' k'=>HP.o.kp (K1.o.trans k' (by simp;omega)) (by simp)) pU).mono ?_;rintro _ w2 ⟨F,ks,cl,rfl,dI,inv,kD,gV,gw⟩;obtain⟨Ks,rfl,Si,dw,hK0⟩:=inv.kinds pU;rw[mX]at dI;have Ih:∀k,k<ae Ks->∃c,c<256/\Ks.getD k 0=eW bs c (ae bs):=fun k hk=>by
  obtain⟨c,hc,e⟩:=inv.za k (by rw[mX];exact hk);exact⟨c,hc,by rw[<-e];exact(dw c hc).2⟩
 obtain⟨Vh,ZR,ZL,ahQ,Zi⟩:=jd inv Si dw Ih kD;have K2:ax (Kp [] w w2):=K1.o.trans gV (by simp;omega);have qH:ax (w2.heap[w.heap.size]?=some ahw):=gV.keep rU.o (by simp;omega);have jN:ax (∀g∈F,w.heap.size<g):=fun g hg=>by
  rcases gw g hg with e|e
  .simp at e;omega
  .have:=aE rU.o;omega
 clear inv Si dw Ih kD gV gw Pq K1 rU Iz;dsimp only;go_step;refine aaO rfl [(0,.tmp 13)] rfl (aY (cI cl 256) fZ fZ) (by show oZ wo (aY dR fZ fZ) [(0,.agg (cI cl 256))]=some _;rw[aa6 (fU cl 256) kG];rfl) ?_;refine qT rfl _ rfl _ xD ?_;refine mR rfl _ _ _ rfl (b:=w2.heap.size) (c:=aY dR fZ fZ) (e:=91) (by rw[aC,aA rfl];rfl) rfl rfl (by rw[fG (fU cl 256),fG kG]) (by rw[fG (fU cl 256)];exact m9) (acB (vJ cl 256) rfl rfl) ?_;intro w3 b3 k3 s3;simp only[fj,fx,eX,eU];have XK:Kp [] w2 w3:=(((Kp.refl [] w2).alloc _).trans k3 (by simp));have l2:w.heap.size<w2.heap.size:=aE qH.o;have Pa:jX w3 w2.heap.size (cI cl 256) fZ fZ (ae Ks) [] [] [] :=
  ⟨fU _ _,b3,j9 _ _ _ _,j9 _ _ _ _,rfl,fun i hi=>by simp at hi,fun g hg=>by simp at hg⟩
 have Cq:∀g∈F,g<w2.heap.size:=Zi.o.lt
 have Gy:=aj Cq;have hwT:w.heap.size<w2.heap.size:=l2;generalize w2.heap.size=tb at *;have T3:=aj Pa;have K3:ax (Kp [] w w3):=K2.o.trans XK (by simp);have Pr:=aj (Zi.o.kp XK (by simp));have oE:=aj (XK.keep qH.o (by simp));clear k3 s3 b3 XK Pa Cq l2 Zi qH K2;go_wp2_with fail;obtain⟨c0,q0,q1,q2⟩:=Pr.o.blk;refine(aiX B c0 137 (.slice av (ae ps) dG) ps _ q0 q2 (HR.o.kp K3.o (by simp)) hn).mono ?_;rintro _ w4 ⟨rfl,h4⟩;have k4:Kp [] w3 w4:=(Kp.refl [] w3).below h4;have T4:=aj (T3.o.kp k4 (by simp));have K4:ax (Kp [] w w4):=K3.o.below h4;have Jl:=aj (Pr.o.kp k4 (by simp));have nP:=aj (k4.keep oE.o (by simp));clear h4 k4 q0 q1 q2 T3 Pr oE K3;go_wp2_with fail;refine(Jl.o.put _ _ (by simp)).mono ?_;rintro _ w5 ⟨i5,F5,rfl,SE,bl5,rC,sy⟩;rw[sj (by simp)]at bl5;have UT:∀g∈F5,w.heap.size<g:=fun g hg=>by
  rcases sy g hg with e|e
  .exact jN.o g e
  .have:=aE nP.o;omega
 have tbF:tb∉F:=fun hm=>by have:=Gy.o tb hm;omega
 have T5:vA w B tb (.pointer (some ⟨p,0,none⟩)) (.slice av (ae ps) dG) bs fs ps Ks cl F5 [(cH (fR ps) (ae ps),0)] 0 [] [] [] fZ fZ w5:=by
  refine⟨bl5,T4.o.kp rC ?_,K4.o.trans rC (fun y hy=>.inr (GR (jN.o y hy))),rC.keep nP.o (fun hm=>by have:=jN.o _ hm;omega),UT,?_,fun i hi=>by simp at hi,fun i hi=>by simp at hi,by simp,?_,rfl⟩
  .intro x hx hm;simp[jf,aK]at hm;subst hm;exact tbF hx
  .intro g hg;simp[jf,aK]at hg;subst hg;refine⟨hwT,fun hm=>?_⟩;rcases sy _ hm with e|e
   .exact tbF e
   .have:=aE T4.o.blk;omega
  .intro y hy;rw[bQ.1 hy];exact⟨⟨[],by simp,rfl⟩,.inl rfl⟩
 have MO:=aj T5;clear T5 T4 K4 Jl nP bl5 rC sy SE UT;go_wp2_with fail;refine(MO.o.bl.Pb (x:=cH (fR ps) (ae ps)) (y:=0) rfl (by simp)).mono ?_;rintro _ w6 ⟨rfl,bl6,XO⟩;have T6:vA w B tb (.pointer (some ⟨p,0,none⟩)) (.slice av (ae ps) dG) bs fs ps Ks cl F5 [(cH (fR ps) (ae ps),0)] 1 [] [] [] fZ fZ w6:=by
  have t:=MO.o;have hBF:∀x ∈ [B],x∉jf tb fZ fZ []:=fun x hx hm=>by rw[bQ.1 hx]at hm;exact(t.qp _ hm).2 t.bl.mem
  exact⟨bl6,t.tab.kp XO hBF,t.old.trans XO (by simp;omega),XO.keep t.bR (by simp;omega),t.Fb,t.qp,t.ok,t.Dq,t.al,t.nK,t.zero⟩
 have Qh:=aj T6;clear T6 bl6 XO MO;go_upto_region 5 with fail;have kW7:Kp [] w6 (w6.alloc (dZ (cH (fR ps) (ae ps)) 0)):=(Kp.refl [] w6).alloc _;have bW7:(w6.alloc (dZ (cH (fR ps) (ae ps)) 0)).heap[w6.heap.size]?=some (dZ (cH (fR ps) (ae ps)) 0):=(by rw[aC,aA rfl]);have T7:=aj (Qh.o.kp kW7 (by simp));have afm:w.heap.size<w6.heap.size/\w6.heap.size∉F5/\w6.heap.size∉jf tb fZ fZ []:=⟨aE Qh.o.bR,fun hm=>by have:=Qh.o.bl.lt _ hm;omega,fun hm=>by have:=Qh.o.tab.lt _ hm;omega⟩;generalize (w6.alloc (dZ (cH (fR ps) (ae ps)) 0))=W7 at *;generalize w6.heap.size=Yx at *;have BW7:=aj bW7;have aaa:=aj afm;clear bW7 kW7 afm Qh;go_loopw [8,9] (fun s8 s9 w'=>∃(sb:Nat) (more:Bool) (F:List Nat) (S:List (Nat×Nat)) (tk:Nat) (gs:List Nat) (rows:List (List Int)) (aL:List Int) (vn va:aq) (x:Nat×Nat),s8=.pointer (some ⟨sb,0,none⟩)/\s9=.bool more /\
   vA w B tb (.pointer (some ⟨p,0,none⟩)) (.slice av (ae ps) dG) bs fs ps Ks cl F S tk gs rows aL vn va w'/\(ae aL)=ae gs/\(ae S)<=250/\w.heap.size<sb/\sb∉F/\sb∉jf tb vn va gs/\w'.heap[sb]?=some (dZ x.1 x.2) /\
   ((more=true/\tk=ae gs+1/\S[ae gs]?=some x)\/(more=false/\tk=ae gs/\(ae gs)=ae S)))
  (fun _ s9 w'=>2*(300-(aG ((w'.cell? ⟨B,6,none⟩).getD undef)).toNat)+abY s9)
 case atStart=>exact⟨Yx,true,F5,_,1,[],[],[],fZ,fZ,(cH (fR ps) (ae ps),0),rfl,rfl,T7.o,rfl,by simp,aaa.o.1,aaa.o.2.1,aaa.o.2.2,BW7.o,.inl ⟨rfl,rfl,rfl⟩⟩
 case round =>
  obtain⟨sb,more,F,S,tk,gs,rows,aL,vn,va,x,rfl,rfl,t,dD,hS,aqk,Ti,uJ,E7,hm⟩:=hrel;obtain⟨TR,VO,SBT,MA⟩:=dH t Ti uJ E7;have lsb:=aE E7;have afo:wr.cell? ⟨B,6,none⟩=some (.int .i64 tk):=by
   obtain⟨jg,jh,iR,iT,b0,_⟩:=t.bl;rw[aF b0.blk];rfl
  have MP:=aj afo;clear t Ti uJ E7 afo;rcases hm with⟨rfl,Is,hx⟩|⟨rfl,Is,hg⟩
  .have HX:=aj hx;have Gz:=aj Is;have mh:=aj dD;have alh:(ae gs)<ae S:=(fB.1 hx).1;clear hx Is dD;go_upto_region 7 with fail;go_cut [] from 23 to 47 (fun wc=>∃(F2:List Nat) (T:List (Nat×Nat)) (g:Nat) (r:List Int) (CR:aq),vA w B tb (.pointer (some ⟨p,0,none⟩)) (.slice av (ae ps) dG) bs fs ps Ks cl F2 (S++T) tk (gs ++ [g]) (rows ++ [r]) aL CR va wc/\(S++T).length<=ae S+ae Ks/\sb∉F2/\sb∉jf tb CR va (gs ++ [g])/\wc.heap[sb]?=some (dZ x.1 x.2))
   case first =>
    have qm:wr.cell? ⟨tb,256,none⟩=some vn:=(by rw[aF TR.o.tab.blk,oW (fU _ _)]);obtain⟨y0,y1,y2,y3,y4,y5,y6,y7,yr⟩:=pe MA.o;clear yr;have hd:wr.drew.heap[sb]?=some (dZ x.1 x.2):=MA.o;(have nsb:sb≠tb:=fun e=>SBT.o (by rw[e];exact mc.2 (.inl rfl)));obtain⟨i0,cS,dc,dm,cW⟩:=iw Lt;obtain⟨I0,Z0,Z1,Z2⟩:=dH cS dc dm cW;clear cS dc dm cW;go_region_law ((first|(refine wm _ (by rfl) _ _ _ (by rfl) 0 61 i0 _ 1 24 ES I0.o Z0.o Z1.o Z2.o rfl (by omega) vn (ae gs) (gs.map (rv (ae Ks))) (by rfl) (wO.o.alloc _) ⟨w2.heap.size,0,none⟩ 1 1 [rv (ae Ks) g] (by rfl) (by rfl) (gN (cs:=#[rv (ae Ks) g]) (t:=61) (fr:=(0,0)) (jS w2 _)) (by simp[dS]) (by omega) (by unfold eB;omega) (by omega) (by simp) (w2.heap.size+1) (by simp) ?_;intro g1 aP w3 cT bj cy iz;have S3:w3.heap[sb]?=some (dZ x.1 x.2):=fY bj (b:=sb) (by rw[aC,az agf];exact S2) (fun e=>SBT.o (mc.2 (.inr (.inl e))));have B3:w3.heap[tb]?=some (.cells (aY (cI cl 256) vn va) 91 (0,0)):=fY bj (b:=tb) (by rw[aC,az xL];exact kO.blk) (fun e=>kO.wq e);have By:w3.cell? ⟨tb,256,none⟩=some vn:=(by rw[aF B3,oW (fU _ _)]);have Ky:=cM B3 256)|(go_simp;go_at_call 58;refine(ai0 B p x.1 x.2 (.slice av (ae ps) dG) vb vf F bs fs Ks ps (S.map sv) tk _ (TR.o.bl.kp ((Kp.refl [] wr).drew) (by simp)) (fun w' k'=>HP.o.kp (TR.o.old.drew.trans k' (fun y hy=>.inr (GR (TR.o.Fb y hy)))) (by simp)) (fun w' k'=>HR.o.kp (TR.o.old.drew.trans k' (fun y hy=>.inr (GR (TR.o.Fb y hy)))) (by simp)) pU hn ZR.o ZP.o (by rw[mX];omega) hK0).mono ?_;rintro _ w2 ⟨F2,ss2,g,r,rfl,yK,WY,Ik,gB,zR,Lj,mO,Ll,kD,gV,gw⟩;have XN:Kp F wr w2:=((Kp.refl F wr).drew).trans gV (fun y hy=>.inl hy);have kO:=TR.o.tab.kp XN (fun q hq hm=>(TR.o.qp q hm).2 hq);have Ny:w2.cell? ⟨tb,256,none⟩=some vn:=(by rw[aF kO.blk,oW (fU _ _)]);have xI:=aE kO.blk;have xL:tb≠w2.heap.size:=bY xI;have wO:=aj kO.next;have S2:w2.heap[sb]?=some (dZ x.1 x.2):=XN.keep MA.o VO.o;have agf:sb≠w2.heap.size:=bY (aE S2))))
    all_goals
     obtain⟨T,XB,t3,Tk,n1,n2⟩:=TR.o.row (sb:=sb) HX.o ahQ.o yK WY Ik gB zR Lj mO kD XN gw cT bj cy ⟨lsb,VO.o,SBT.o⟩;have hTl:(S++T).length<=ae S+ae Ks:=by
      have e:=congrArg ae XB;rw[mX]at e;rw[mX]at Ll;omega
     obtain⟨JO,aab,N1,N2,HTL⟩:=jd t3 Tk n1 n2 hTl;clear t3 Tk n1 n2 hTl XB yK WY Ik gB zR Lj mO Ll kD gV gw XN kO Ny xI xL wO S2 agf cT bj cy iz S3 B3 By Ky qm y0 y1 y2 y3 y4 y5 y6 y7 hd nsb I0 Z0 Z1 Z2;go_wp2_with fail;go_meet
     case rel=>exact⟨F2,T,g,r,_,JO.o,HTL.o,N1.o,N2.o,by rw[aab.o];exact MA.o⟩
   case rest =>
    obtain⟨F2,T,g,r,CR,t2,hTl,n1,n2,aaN⟩:=hcut;obtain⟨zx,ait,adr,Zo⟩:=dH t2 n1 n2 aaN;have afS:=aE aaN;clear t2 n1 n2 aaN;(have sL:(S++T)[ae aL]?=some x:=by rw[mh.o,iI alh];exact HX.o);have Vf:=aj sL;clear sL;go_upto_region 8 with fail;go_cut [] from 23 to 47 (fun wc2=>∃(q:Int) (Jf:aq),vA w B tb (.pointer (some ⟨p,0,none⟩)) (.slice av (ae ps) dG) bs fs ps Ks cl F2 (S++T) tk (gs ++ [g]) (rows ++ [r]) (aL ++ [q]) CR Jf wc2/\sb∉jf tb CR Jf (gs ++ [g])/\wc2.heap[sb]?=some (dZ x.1 x.2))
    case first =>
     have zG:wc.cell? ⟨tb,257,none⟩=some va:=(by rw[aF zx.o.tab.blk,rM (fU _ _)]);obtain⟨y0,y1,y2,y3,y4,y5,y6,y7,yr⟩:=pe Zo.o;clear yr;obtain⟨i0,cS,dc,dm,cW⟩:=iw DQ;obtain⟨I0,Z0,Z1,Z2⟩:=dH cS dc dm cW;(have pT:(ae aL)<=250:=by rw[mh.o];omega);clear cS dc dm cW;go_region_law ((first|(refine wm _ (by rfl) _ _ _ (by rfl) 0 3 i0 _ 1 8 qR I0.o Z0.o Z1.o Z2.o rfl (by omega) va (ae aL) (iv aL) (by rfl) (wO.o.alloc _) ⟨w2.heap.size,0,none⟩ 1 1 [.int .i64 q] (by rfl) (by rfl) (gN (cs:=#[.int .i64 q]) (t:=3) (fr:=(0,0)) (jS w2 _)) (by simp[dS]) (by omega) (by unfold eB;omega) (by omega) (by simp) (w2.heap.size+1) (by simp) ?_;intro g1 aP w3 cT bj cy iz;have B3:w3.heap[tb]?=some (.cells (aY (cI cl 256) CR va) 91 (0,0)):=fY bj (b:=tb) (by rw[aC,az xL];exact kO.blk) (fun e=>kO.F8 e);have Kx:w3.cell? ⟨tb,257,none⟩=some va:=(by rw[aF B3,rM (fU _ _)]);have aa3:=cM B3 257)|(go_simp;go_at_call 59;obtain⟨c0,p0,p1,p2⟩:=(zx.o.bl.kp ((Kp.refl [] wc).drew) (by simp)).blk;refine(aiV B x.1 x.2 c0 137 (.slice av (ae ps) dG) ps _ p0 p2 (HR.o.kp zx.o.old.drew (by simp)) hn).mono ?_;rintro _ w2 ⟨q,rfl,hq,h2⟩;have gV:Kp [] wc w2:=((Kp.refl [] wc).drew).below h2;have kO:=zx.o.tab.kp gV (by simp);have aa2:w2.cell? ⟨tb,257,none⟩=some va:=(by rw[aF kO.blk,rM (fU _ _)]);have xI:=aE kO.blk;have xL:tb≠w2.heap.size:=bY xI;have wO:=aj kO.acc)))
     all_goals
      obtain⟨t3,Tk,n2⟩:=zx.o.acc (sb:=sb) Vf.o hq gV cT bj cy ⟨afS,ait.o,adr.o⟩;obtain⟨JO,aab,N2⟩:=cR t3 Tk n2;clear t3 Tk n2 h2 gV kO aa2 xI xL wO cT bj cy iz B3 Kx aa3 zG y0 y1 y2 y3 y4 y5 y6 y7 I0 Z0 Z1 Z2 p0 p1 p2 hq;go_wp2_with fail;go_meet
      case rel=>exact⟨q,_,JO.o,N2.o,by rw[aab.o];exact Zo.o⟩
    case rest =>
     obtain⟨q,Jf,t3,n2,adS⟩:=hcut;obtain⟨vB,apq,acU⟩:=cR t3 n2 adS;clear t3 n2 zx adr Zo afS;generalize NQ:S++T=S2 at *;(have hgS:(ae gs)<ae S2:=by rw[<-NQ,cx];omega);have A0:=aj NQ;clear NQ;clear adS;go_wp2_with fail;refine(vB.o.bl.cnt).mono ?_;rintro _ w0 ⟨rfl,rfl⟩;rw[mX];by_cases BY:250<ae S2
     .have akw:(250:Int)<ae S2:=(by omega);go_upto_region 10 with fail;apply fD;refine aaO rfl [] rfl (aY dR fZ fZ) rfl ?_;refine mR rfl _ _ _ rfl vB.o.bR rfl rfl rfl (by rw[fG kG];exact m9) (acB apf rfl rfl) ?_;intro w9 b9 k9 s9;go_wp2;refine cF (v:=.tuple #[.agg (aY dR fZ fZ),.bool false]) (OZ Tryz.results42 rfl rfl b9 _ zB rfl (by rw[fG kG];exact m9)) rfl ⟨(vB.o.old.trans k9 (by simp)).toBelow,.inr ⟨S2,rfl,vB.o.bl.nodup.1,BY,vB.o.nK⟩⟩
     .have akw:¬(250:Int)<ae S2:=(by omega);obtain⟨y0,y1,y2,y3,y4,y5,y6,y7,yr⟩:=pe acU.o;clear yr;go_upto_region 6 with fail;have kA:Kp [] w0 (w0.alloc (dZ x.1 x.2)):=(Kp.refl [] w0).alloc _;have bA:(w0.alloc (dZ x.1 x.2)).heap[w0.heap.size]?=some (dZ x.1 x.2):=(by rw[aC,aA rfl]);have TA:=aj (vB.o.kp kA (by simp));have sA:w.heap.size<w0.heap.size/\w0.heap.size∉F2/\w0.heap.size∉jf tb CR Jf (gs ++ [g]):=⟨aE vB.o.bR,fun hm=>by have:=vB.o.bl.lt _ hm;omega,fun hm=>by have:=vB.o.tab.lt _ hm;omega⟩;generalize (w0.alloc (dZ x.1 x.2))=WA at *;generalize w0.heap.size=eA at *;have BA:=aj bA;have SA:=aj sA;clear kA bA sA y0 y1 y2 y3 y4 y5 y6 y7 acU vB;by_cases ak3:(ae gs)+1<ae S2
      ·(obtain⟨x2,sL⟩:∃x2,S2[ae gs+1]?=some x2:=⟨_,bD ak3⟩);(have afp:(S2.map sv)[tk]?=some (dJ x2.1 x2.2):=by rw[Gz.o,kx,sL];rfl);have Vg:=aj sL;have HX4:=aj afp;clear sL afp;go_wp2_with fail;refine(TA.o.bl.Pb HX4.o (by rw[mX];omega)).mono ?_;rintro _ wB ⟨rfl,blB,FC⟩;have TB:vA w B tb (.pointer (some ⟨p,0,none⟩)) (.slice av (ae ps) dG) bs fs ps Ks cl F2 S2 (tk+1) (gs ++ [g]) (rows ++ [r]) (aL ++ [q]) CR Jf wB:=by
        have t:=TA.o;(have hBF:∀y ∈ [B],y∉jf tb CR Jf (gs ++ [g]):=fun y hy hm=>by rw[bQ.1 hy]at hm;exact(t.qp _ hm).2 t.bl.mem);exact⟨blB,t.tab.kp FC hBF,t.old.trans FC (by simp;omega),FC.keep t.bR (by simp;omega),t.Fb,t.qp,t.ok,t.Dq,t.al,t.nK,t.zero⟩
       have aac:=aj TB;(have nB:eA≠B:=fun e=>SA.o.2.1 (by rw[e];exact TA.o.bl.mem));have Ds:wB.heap[eA]?=some (dZ x.1 x.2):=FC.keep BA.o (by simpa using nB);have ZJ:=aj Ds;obtain⟨y0,y1,y2,y3,y4,y5,y6,y7,f0,f1,f2,f3,f4,f5,f6,f7⟩:=pe Ds;clear TB blB FC Ds TA BA;go_wp2;have kS:Kp [eA] wB ((((((((wB.setCell ⟨eA,0,none⟩ (.int .u64 (wd x2.1 0))).setCell ⟨eA,1,none⟩ (.int .u64 (wd x2.1 1))).setCell ⟨eA,2,none⟩ (.int .u64 (wd x2.1 2))).setCell ⟨eA,3,none⟩ (.int .u64 (wd x2.1 3))).setCell ⟨eA,4,none⟩ (.int .u64 (wd x2.2 0))).setCell ⟨eA,5,none⟩ (.int .u64 (wd x2.2 1))).setCell ⟨eA,6,none⟩ (.int .u64 (wd x2.2 2))).setCell ⟨eA,7,none⟩ (.int .u64 (wd x2.2 3))):=(Kp.refl [eA] wB).YA (by simp) _ _ _ _ _ _ _ _;have bS:((((((((wB.setCell ⟨eA,0,none⟩ (.int .u64 (wd x2.1 0))).setCell ⟨eA,1,none⟩ (.int .u64 (wd x2.1 1))).setCell ⟨eA,2,none⟩ (.int .u64 (wd x2.1 2))).setCell ⟨eA,3,none⟩ (.int .u64 (wd x2.1 3))).setCell ⟨eA,4,none⟩ (.int .u64 (wd x2.2 0))).setCell ⟨eA,5,none⟩ (.int .u64 (wd x2.2 1))).setCell ⟨eA,6,none⟩ (.int .u64 (wd x2.2 2))).setCell ⟨eA,7,none⟩ (.int .u64 (wd x2.2 3))).heap[eA]?=some (dZ x2.1 x2.2):=Wa ZJ.o _ _ _ _ _ _ _ _;have tF:=aac.o.kp kS (by intro y hy;rw[bQ.1 hy];exact SA.o);have cB:((((((((wB.setCell ⟨eA,0,none⟩ (.int .u64 (wd x2.1 0))).setCell ⟨eA,1,none⟩ (.int .u64 (wd x2.1 1))).setCell ⟨eA,2,none⟩ (.int .u64 (wd x2.1 2))).setCell ⟨eA,3,none⟩ (.int .u64 (wd x2.1 3))).setCell ⟨eA,4,none⟩ (.int .u64 (wd x2.2 0))).setCell ⟨eA,5,none⟩ (.int .u64 (wd x2.2 1))).setCell ⟨eA,6,none⟩ (.int .u64 (wd x2.2 2))).setCell ⟨eA,7,none⟩ (.int .u64 (wd x2.2 3))).cell? ⟨B,6,none⟩=some (.int .i64 (tk+1:Nat)):=by
        obtain⟨jg,jh,iR,iT,b0,_⟩:=tF.bl;rw[aF b0.blk];rfl
       refine⟨⟨eA,true,F2,S2,tk+1,gs ++ [g],rows ++ [r],aL ++ [q],CR,Jf,x2,rfl,rfl,tF,by rw[cx,cx,mh.o];rfl,by omega,SA.o.1,SA.o.2.1,SA.o.2.2,bS,.inl ⟨rfl,by rw[Gz.o];simp,by simpa using Vg.o⟩⟩,?_⟩;have e1:=MP.o;have e2:=Gz.o;rw[cB,e1];simp[aG,abY];omega
      ·(have aeW:(ae S2)=ae gs+1:=by omega);have he:tk=(S2.map sv).length:=(by rw[Gz.o,mX,aeW]);have HE:=aj he;clear he;go_wp2_with fail;(have blA:Bl WA B (.pointer (some ⟨p,0,none⟩)) (.slice av (ae ps) dG) F2 (Ks.map cG) (S2.map sv) (S2.map sv).length:=by have:=TA.o.bl;rw[HE.o]at this;exact this);refine(blA.CO).mono ?_;rintro _ wB ⟨rfl,KH⟩;have FC:Kp [] WA wB:=(Kp.refl [] WA).below KH;have aac:=aj (TA.o.kp FC (by simp));have Ds:wB.heap[eA]?=some (dZ x.1 x.2):=FC.keep BA.o (by simp);have ZJ:=aj Ds;obtain⟨y0,y1,y2,y3,y4,y5,y6,y7,f0,f1,f2,f3,f4,f5,f6,f7⟩:=pe Ds;clear FC Ds TA BA blA KH;go_wp2;have kS:Kp [eA] wB ((((((((wB.setCell ⟨eA,0,none⟩ (.int .u64 (wd 0 0))).setCell ⟨eA,1,none⟩ (.int .u64 (wd 0 1))).setCell ⟨eA,2,none⟩ (.int .u64 (wd 0 2))).setCell ⟨eA,3,none⟩ (.int .u64 (wd 0 3))).setCell ⟨eA,4,none⟩ (.int .u64 (wd 0 0))).setCell ⟨eA,5,none⟩ (.int .u64 (wd 0 1))).setCell ⟨eA,6,none⟩ (.int .u64 (wd 0 2))).setCell ⟨eA,7,none⟩ (.int .u64 (wd 0 3))):=(Kp.refl [eA] wB).YA (by simp) _ _ _ _ _ _ _ _;have bS:((((((((wB.setCell ⟨eA,0,none⟩ (.int .u64 (wd 0 0))).setCell ⟨eA,1,none⟩ (.int .u64 (wd 0 1))).setCell ⟨eA,2,none⟩ (.int .u64 (wd 0 2))).setCell ⟨eA,3,none⟩ (.int .u64 (wd 0 3))).setCell ⟨eA,4,none⟩ (.int .u64 (wd 0 0))).setCell ⟨eA,5,none⟩ (.int .u64 (wd 0 1))).setCell ⟨eA,6,none⟩ (.int .u64 (wd 0 2))).setCell ⟨eA,7,none⟩ (.int .u64 (wd 0 3))).heap[eA]?=some (dZ 0 0):=Wa ZJ.o _ _ _ _ _ _ _ _;have tF:=aac.o.kp kS (by intro y hy;rw[bQ.1 hy];exact SA.o);have cB:((((((((wB.setCell ⟨eA,0,none⟩ (.int .u64 (wd 0 0))).setCell ⟨eA,1,none⟩ (.int .u64 (wd 0 1))).setCell ⟨eA,2,none⟩ (.int .u64 (wd 0 2))).setCell ⟨eA,3,none⟩ (.int .u64 (wd 0 3))).setCell ⟨eA,4,none⟩ (.int .u64 (wd 0 0))).setCell ⟨eA,5,none⟩ (.int .u64 (wd 0 1))).setCell ⟨eA,6,none⟩ (.int .u64 (wd 0 2))).setCell ⟨eA,7,none⟩ (.int .u64 (wd 0 3))).cell? ⟨B,6,none⟩=some (.int .i64 tk):=by
        obtain⟨jg,jh,iR,iT,b0,_⟩:=tF.bl;rw[aF b0.blk];rfl
       refine⟨⟨eA,false,F2,S2,tk,gs ++ [g],rows ++ [r],aL ++ [q],CR,Jf,(0,0),rfl,rfl,tF,by rw[cx,cx,mh.o];rfl,by omega,SA.o.1,SA.o.2.1,SA.o.2.2,bS,.inr ⟨rfl,by rw[Gz.o];simp,by simp[aeW]⟩⟩,?_⟩;have e1:=MP.o;rw[cB,e1];simp[aG,abY]
  .have hTE:qg w bs fs ps Ks cl S tb gs rows aL vn va wr:=by
    have t:=TR.o;refine⟨Vh.o,ZL.o,hK0,dI,t.tab,fun g hg=>(t.qp g hg).1,hg,by rw[dD,hg],hS,t.bl.nodup.1,fun i hi=>t.ok i (by omega),fun i hi=>t.Dq i (by omega),t.nK,t.zero⟩
   have HTE:=aj hTE;clear hTE;go_upto_region 13 with fail;apply fD;refine xH rfl _ _ rfl TR.o.tab.blk rfl _ zB rfl (by rw[fG (fU _ _)];exact m9) ?_;refine mR rfl _ _ _ rfl TR.o.bR rfl rfl (by rw[fG (fU _ _),fG kG]) (by rw[fG (fU _ _)];exact m9) (acB (vJ _ _) (agn TR.o.tab.next) (agn TR.o.tab.acc)) ?_;intro w9 b9 k9 s9;go_wp2;refine cF (v:=.tuple #[.agg (aY (cI cl 256) vn va),.bool true]) (OZ Tryz.results42 rfl rfl b9 _ zB rfl (by rw[fG (fU _ _)];exact m9)) rfl ⟨(TR.o.old.trans k9 (by simp)).toBelow,.inl ⟨Ks,cl,S,tb,gs,rows,aL,vn,va,rfl,?_⟩⟩;have e:=HTE.o;refine⟨e.inv,e.XM,e.kpos,e.abO,e.tab.kp k9 ?_,e.fr,e.lg,e.la,e.few,e.nodup,e.ok,e.Dq,e.nK,e.zero⟩;intro y hy hm;rw[bQ.1 hy]at hm;have:=e.fr _ hm;omega
end
section
variable{R:List Nat->Int}
structure bw where
 cls:Nat->Nat
 nx:Nat->Nat->Int
 ac:Nat->Int
 N:Nat
 C:Nat
def lQ(z:List Nat):Prop:=∀c∈z,c<256
def bw.go(T:bw)(s:Int)(z:List Nat):Int:=z.foldl (qE T.cls T.nx) s
def bw.o(T:bw)(s:Int)(z:List Nat):Int:=if T.go s z=-1 then -1 else T.ac (T.go s z).toNat
theorem bw.go_cons(T:bw)(s:Int)(c:Nat)(z:List Nat):T.go s (c::z)=T.go (qE T.cls T.nx s c) z:=rfl
theorem bw.go_none(T:bw):∀z,T.go (-1) z=-1:=by
 intro z;induction z with
 |nil=>rfl
 |cons c z ih=>rw[T.go_cons,qE,aA rfl];exact ih
theorem bw.Ai(T:bw)(z:List Nat):T.o (-1) z=-1:=by unfold bw.o;rw[aA (T.go_none z)]
theorem YH(cls:Nat->Nat)(nx:Nat->Nat->Int)(s c:Nat):qE cls nx s c=nx s (cls c):=by
 unfold qE;rw[az (by omega),mj]
theorem bw.OO(T:bw)(s c:Nat)(z:List Nat):T.o s (c::z)=T.o (T.nx s (T.cls c)) z:=by
 unfold bw.o;rw[T.go_cons,YH]
theorem bw.L1(T:bw)(s:Nat):T.o s []=T.ac s:=by
 unfold bw.o;have:T.go s []=s:=rfl;rw[this,az (by omega),mj]
theorem lQ.cons{c:Nat}{z:List Nat}(hc:c<256)(h:lQ z):lQ (c::z):=fun d hd=>by
 rcases gH.1 hd with rfl|hd
 .exact hc
 .exact h d hd
structure gL(T:bw)(R:List Nat->Int):Prop where
 pos:0<T.N
 cl:∀c,c<256->T.cls c<T.C
 ik:∀s k,s<T.N->k<T.C->-1<=T.nx s k/\T.nx s k<T.N
 sem:∀x,lQ x->T.o 0 x=R x
 reach:∀s,s<T.N->∃x,lQ x/\T.go 0 x=s
 alive:∀s k,s<T.N->k<T.C->T.nx s k≠-1->∃z,lQ z/\T.o (T.nx s k) z≠-1
 Wn:∀s t:Nat,s<T.N->t<T.N->(∀z,lQ z->T.o s z=T.o t z)->s=t
 Hu:∀k,k<T.C->∃c,c<256/\T.cls c=k
 aaS:∀c d,c<256->d<256->(∀s,s<T.N->T.nx s (T.cls c)=T.nx s (T.cls d))->T.cls c=T.cls d
 Nx:∀c k,c<256->k<T.cls c->∃d,d<c/\T.cls d=k
 xQ:∀t:Nat,0<t->t<T.N->∃s k,s<t/\k<T.C/\T.nx s k=t
 Ay:∀s k (t u:Nat),s<T.N->k<T.C->T.nx s k=t->0<u->u<t->∃s' k',s' < T.N/\k' < T.C/\(s' < s\/s'=s/\k' < k)/\T.nx s' k'=u
def qd(T U:bw)(s t:Int):Prop:=∀z,lQ z->T.o s z=U.o t z
theorem qd.symm{T U:bw}{s t:Int}(h:qd T U s t):qd U T t s:=fun z hz=>(h z hz).symm
theorem XR{T U:bw}(hT:gL T R)(hU:gL U R){s t:Nat}(hs:s<T.N)(ht:t<U.N)(h:qd T U s t)(c:Nat)(hc:c<256):qd T U (T.nx s (T.cls c)) (U.nx t (U.cls c))/\(T.nx s (T.cls c)=-1↔U.nx t (U.cls c)=-1):=by
 have h1:qd T U (T.nx s (T.cls c)) (U.nx t (U.cls c)):=fun z hz=>by
  have:=h (c::z) (hz.cons hc);rw[T.OO,U.OO]at this;exact this
 refine⟨h1,fun e=>?_,fun e=>?_⟩
 .apply ur;intro n;obtain⟨z,hz,ne⟩:=hU.alive t _ ht (hU.cl c hc) n;rw[<-h1 z hz,e,T.Ai]at ne;exact ne rfl
 .apply ur;intro n;obtain⟨z,hz,ne⟩:=hT.alive s _ hs (hT.cl c hc) n;rw[h1 z hz,e,U.Ai]at ne;exact ne rfl
theorem alO{T U:bw}(hT:gL T R)(hU:gL U R):∀(x:List Nat) (s t:Nat),lQ x->s<T.N->t<U.N->qd T U s t->(T.go s x=-1/\U.go t x=-1)\/∃s' t':Nat,T.go s x=s'/\U.go t x=t'/\s' < T.N/\t' < U.N/\qd T U s' t':=by
 intro x;induction x with
 |nil=>intro s t _ hs ht h;exact .inr ⟨s,t,rfl,rfl,hs,ht,h⟩
 |cons c x ih =>
  intro s t hx hs ht h;have hc:=hx c (by simp);obtain⟨l1,l2⟩:=XR hT hU hs ht h c hc;rw[T.go_cons,U.go_cons,YH,YH];have r1:=hT.ik s _ hs (hT.cl c hc);have r2:=hU.ik t _ ht (hU.cl c hc);by_cases e:T.nx s (T.cls c)=-1
  .rw[e,l2.1 e];exact .inl ⟨T.go_none x,U.go_none x⟩
  ·(have e':U.nx t (U.cls c)≠-1:=fun q=>e (l2.2 q));(obtain⟨a,ha⟩:∃a:Nat,T.nx s (T.cls c)=a:=⟨_,(JR (by omega)).symm⟩);(obtain⟨b,hb⟩:∃b:Nat,U.nx t (U.cls c)=b:=⟨_,(JR (by omega)).symm⟩);(rw[ha]at l1 r1 |-);(rw[hb]at l1 r2 |-);exact ih a b (fun d hd=>hx d (by simp[hd])) (by omega) (by omega) l1
theorem afL{T U:bw}(hT:gL T R)(hU:gL U R):qd T U (0:Nat) (0:Nat):=fun z hz=>(hT.sem z hz).trans (hU.sem z hz).symm
theorem afK{T U:bw}(hT:gL T R)(hU:gL U R)(s:Nat)(hs:s<T.N):∃t:Nat,t<U.N/\qd T U s t:=by
 obtain⟨x,hx,e⟩:=hT.reach s hs;rcases alO hT hU x 0 0 hx hT.pos hU.pos (afL hT hU)with⟨a,_⟩|⟨s',t',a,b,_,d,l⟩
 .have a':T.go 0 x=-1:=a;rw[e]at a';omega
 .have a':T.go 0 x=s':=a;rw[e]at a';have:s=s':=(by omega);rw[this];exact⟨t',d,l⟩
theorem TZ{T U:bw}(hU:gL U R){s:Int}{t t':Nat}(ht:t<U.N)(ht':t' < U.N)(h:qd T U s t)(k:qd T U s t'):t=t':=hU.Wn t t' ht ht' fun z hz=>(h z hz).symm.trans (k z hz)
theorem alP{T U:bw}(hT:gL T R){s s':Nat}{t:Int}(hs:s<T.N)(hs':s' < T.N)(h:qd T U s t)(k:qd T U s' t):s=s':=hT.Wn s s' hs hs' fun z hz=>(h z hz).trans (k z hz).symm
theorem adY{T U:bw}(hT:gL T R)(hU:gL U R)(c d:Nat)(hc:c<256)(hd:d<256)(h:T.cls c=T.cls d):U.cls c=U.cls d:=by
 refine hU.aaS c d hc hd fun t ht=>?_
 obtain⟨s,hs,l⟩:=afK hU hT t ht;obtain⟨l1,l2⟩:=XR hT hU hs ht l.symm c hc;obtain⟨k1,k2⟩:=XR hT hU hs ht l.symm d hd;rw[<-h]at k1 k2;have r1:=hU.ik t _ ht (hU.cl c hc);have r2:=hU.ik t _ ht (hU.cl d hd);by_cases e:T.nx s (T.cls c)=-1
 .rw[l2.1 e,k2.1 e]
 .have e1:U.nx t (U.cls c)≠-1:=fun q=>e (l2.2 q)
  have e2:U.nx t (U.cls d)≠-1:=fun q=>e (k2.2 q)
  obtain⟨a,ha⟩:∃a:Nat,U.nx t (U.cls c)=a:=⟨_,(JR (by omega)).symm⟩
  obtain⟨b,hb⟩:∃b:Nat,U.nx t (U.cls d)=b:=⟨_,(JR (by omega)).symm⟩
  rw[ha]at l1 r1 |-
  rw[hb]at k1 r2 |-
  rw[TZ hU (by omega) (by omega) l1 k1]
theorem aaQ{T U:bw}(hT:gL T R)(hU:gL U R):∀m c,c<m->c<256->T.cls c=U.cls c:=by
 intro m;induction m with
 |zero=>intro c h;omega
 |succ m ih =>
  intro c KU hc;by_cases he:∃d,d<c/\T.cls d=T.cls c
  .obtain⟨d,h1,h2⟩:=he;rw[<-adY hT hU d c (by omega) hc h2,<-h2];exact ih d (by omega) (by omega)
  .rcases ym (T.cls c) (U.cls c)with q|q|q
   .obtain⟨d,h1,h2⟩:=hU.Nx c _ hc q;exact absurd ⟨d,h1,by rw[ih d (by omega) (by omega)];exact h2⟩ he
   .exact q
   .obtain⟨d,h1,h2⟩:=hT.Nx c _ hc q;rw[ih d (by omega) (by omega)]at h2;exact absurd ⟨d,h1,adY hU hT d c (by omega) hc h2⟩ he
theorem aaP{T U:bw}(hT:gL T R)(hU:gL U R):T.C=U.C:=by
 have key:∀ {T U:bw},gL T R->gL U R->T.C<=U.C:=fun {T U} hT hU=>by
  rcases eK U.C T.C with h|h
  .obtain⟨c,hc,e⟩:=hT.Hu U.C h;have:=hU.cl c hc;rw[<-aaQ hT hU 256 c hc hc]at this;omega
  .exact h
 exact Nat.le_antisymm (key hT hU) (key hU hT)
theorem abR{T U:bw}(hT:gL T R)(hU:gL U R){s t:Nat}(hs:s<T.N)(ht:t<U.N)(h:qd T U s t)(k:Nat)(hk:k<T.C):qd T U (T.nx s k) (U.nx t k)/\(T.nx s k=-1↔U.nx t k=-1):=by
 obtain⟨c,hc,e⟩:=hT.Hu k hk;have:=XR hT hU hs ht h c hc;rw[<-aaQ hT hU 256 c hc hc,e]at this;exact this
theorem ajh{T U:bw}(hT:gL T R)(hU:gL U R)(m t:Nat)(hm:0<m)(hmT:m<T.N)(aN:m<t)(htU:t<U.N)(hl:qd T U m t)(below:∀s:Nat,s<m->s<U.N/\qd T U s s):∀(q s k:Nat),s*T.C+k<q->s<m->k<T.C->T.nx s k=m->False:=by
 intro q;induction q with
 |zero=>intro s k h;omega
 |succ q ih =>
  intro s k hq hs hk e;have hC:=aaP hT hU;obtain⟨Og,ls⟩:=below s hs;obtain⟨l1,l2⟩:=abR hT hU (by omega) Og ls k hk;have r:=hU.ik s k Og (by omega);have ne:U.nx s k≠-1:=fun z=>by have:=l2.2 z;omega
  obtain⟨b,hb⟩:∃b:Nat,U.nx s k=b:=⟨_,(JR (by omega)).symm⟩
  rw[e,hb]at l1;have eb:b=t:=TZ hU (by omega) htU l1 hl;obtain⟨s',k',h1,h2,h3,h4⟩:=hU.Ay s k t m Og (by omega) (by rw[hb,eb]) hm aN;have hs':s' < m:=(by omega);obtain⟨_,ls'⟩:=below s' hs';obtain⟨p1,p2⟩:=abR hT hU (by omega) h1 ls' k' (by omega);have r':=hT.ik s' k' (by omega) (by omega);have ne':T.nx s' k'≠-1:=fun z=>by have:=p2.1 z;omega
  obtain⟨a,ha⟩:∃a:Nat,T.nx s' k'=a:=⟨_,(JR (by omega)).symm⟩
  rw[ha,h4]at p1;have am:m<a:=by
   rcases ym a m with q|q|q
   .obtain⟨aU,la⟩:=below a q;have:=TZ hU aU (by omega) la p1;omega
   .rw[q]at p1;have:=TZ hU htU (by omega) hl p1;omega
   .exact q
  obtain⟨s2,k2,g1,g2,g3,g4⟩:=hT.Ay s' k' a m (by omega) (by omega) ha hm am;have iz:s2*T.C+k2<s' * T.C+k':=by
   rcases g3 with g|⟨g,g'⟩
   .have:(s2+1)*T.C<=s' * T.C:=Ez _ g;rw[J1,Nat.one_mul]at this;omega
   .rw[g];omega
  have lt2:s' * T.C+k' < s*T.C+k:=by
   rcases h3 with g|⟨g,g'⟩
   .have:(s'+1)*T.C<=s*T.C:=Ez _ g;rw[J1,Nat.one_mul]at this;omega
   .rw[g];omega
  exact ih s2 k2 (by omega) (by omega) g2 g4
theorem Wf{T U:bw}(hT:gL T R)(hU:gL U R):∀m s:Nat,s<m->s<T.N->s<U.N/\qd T U s s:=by
 intro m;induction m with
 |zero=>intro s h;omega
 |succ m ih =>
  intro s hs uJ;by_cases h0:s=0
  .subst h0;exact⟨hU.pos,afL hT hU⟩
  ·(have below:∀u:Nat,u<s->u<U.N/\qd T U u u:=fun u hu=>ih u (by omega) (by omega));obtain⟨t,ht,l⟩:=afK hT hU s uJ;rcases ym s t with c|c|c
   .obtain⟨p,k,h1,h2,h3⟩:=hT.xQ s (by omega) uJ;exact(ajh hT hU s t (by omega) uJ c ht l below _ p k (GS _) h1 h2 h3).elim
   .rw[<-c]at ht l;exact⟨ht,l⟩
   .obtain⟨_,lt⟩:=below t c;have:=alP hT uJ (by omega) l lt;omega
theorem ajg{T U:bw}(hT:gL T R)(hU:gL U R):T.N=U.N:=by
 have key:∀ {T U:bw},gL T R->gL U R->T.N<=U.N:=fun {T U} hT hU=>by
  rcases eK U.N T.N with h|h
  .have:=(Wf hT hU (U.N+1) U.N (by omega) h).1;omega
  .exact h
 exact Nat.le_antisymm (key hT hU) (key hU hT)
theorem aji{T U:bw}(hT:gL T R)(hU:gL U R):T.N=U.N/\T.C=U.C/\(∀c,c<256->T.cls c=U.cls c)/\(∀s k,s<T.N->k<T.C->T.nx s k=U.nx s k)/\(∀s,s<T.N->T.ac s=U.ac s):=by
 refine⟨ajg hT hU,aaP hT hU,fun c hc=>aaQ hT hU 256 c hc hc,fun s k hs hk=>?_,fun s hs=>?_⟩
 .obtain⟨Og,l⟩:=Wf hT hU (s+1) s (by omega) hs;obtain⟨l1,l2⟩:=abR hT hU hs Og l k hk;have hC:=aaP hT hU;have r1:=hT.ik s k hs hk;have r2:=hU.ik s k Og (by omega);by_cases e:T.nx s k=-1
  .rw[e,l2.1 e]
  ·(have e1:U.nx s k≠-1:=fun q=>e (l2.2 q));(obtain⟨a,ha⟩:∃a:Nat,T.nx s k=a:=⟨_,(JR (by omega)).symm⟩);(obtain⟨b,hb⟩:∃b:Nat,U.nx s k=b:=⟨_,(JR (by omega)).symm⟩);rw[ha,hb]at l1;(rw[ha]at r1 |-);(rw[hb]at r2 |-);obtain⟨aU,la⟩:=Wf hT hU (a+1) a (by omega) (by omega);rw[TZ hU aU (by omega) la l1]
 .obtain⟨_,l⟩:=Wf hT hU (s+1) s (by omega) hs;have:=l [] (fun c hc=>by cases hc);rw[T.L1,U.L1]at this;exact this
end
section
variable{a b:Int}{A:Int->Int->Prop}{n:Nat}
def bw.ku(T:bw)(s:Int)(k:Nat):Int:=if s=-1 then -1 else T.nx s.toNat k
def bw.qS(T:bw)(s:Int):Int:=if s=-1 then -1 else T.ac s.toNat
theorem bw.Yk(T:bw)(s:Int):T.o s []=T.qS s:=rfl
theorem bw.Yj(T:bw)(s:Int)(c:Nat)(z:List Nat):T.o s (c::z)=T.o (T.ku s (T.cls c)) z:=rfl
theorem bw.amL(T:bw)(s k:Nat):T.ku s k=T.nx s k:=by
 unfold bw.ku;rw[az (by omega),mj]
structure wQ(T:bw):Prop where
 pos:0<T.N
 cl:∀c,c<256->T.cls c<T.C
 ik:∀s k,s<T.N->k<T.C->-1<=T.nx s k/\T.nx s k<T.N
 Hu:∀k,k<T.C->∃c,c<256/\T.cls c=k
 Nx:∀c k,c<256->k<T.cls c->∃d,d<c/\T.cls d=k
theorem wQ.ack{T:bw}(h:wQ T){s:Int}{k:Nat}(h1:-1<=s)(h2:s<T.N)(hk:k<T.C):-1<=T.ku s k/\T.ku s k<T.N:=by
 unfold bw.ku;split
 .have:=h.pos;omega
 .exact h.ik s.toNat k (by omega) hk
def iJ(T:bw)(a b:Int):Prop:=∀z,lQ z->T.o a z=T.o b z
theorem iJ.symm{T:bw}(h:iJ T a b):iJ T b a:=fun z hz=>(h z hz).symm
theorem iJ.trans{T:bw}{c:Int}(h:iJ T a b)(k:iJ T b c):iJ T a c:=fun z hz=>(h z hz).trans (k z hz)
structure J8(T:bw)(A:Int->Int->Prop):Prop where
 sound:∀a b:Int,A a b->-1<=a/\a<b/\b<T.N/\¬iJ T a b
 acc:∀a b:Int,-1<=a->a<b->b<T.N->T.qS a≠T.qS b->A a b
 back:∀(a b:Int) (k:Nat),-1<=a->a<b->b<T.N->k<T.C->A (min (T.ku a k) (T.ku b k)) (max (T.ku a k) (T.ku b k))->A a b
theorem J8.same{T:bw}(hT:wQ T)(h:J8 T A):∀(z:List Nat) (a b:Int),lQ z->-1<=a->a<b->b<T.N->¬A a b->T.o a z=T.o b z:=by
 intro z;induction z with
 |nil =>
  intro a b _ h1 h2 h3 hn;rw[T.Yk,T.Yk];apply ur;intro e;exact hn (h.acc a b h1 h2 h3 e)
 |cons c z ih =>
  intro a b hz h1 h2 h3 hn;have hc:=hT.cl c (hz c (by simp));have hz':lQ z:=fun d hd=>hz d (by simp[hd])
  rw[T.Yj,T.Yj];have r1:=hT.ack h1 (by omega) hc;have r2:=hT.ack (s:=b) (by omega) h3 hc;have nb:¬A (min (T.ku a (T.cls c)) (T.ku b (T.cls c))) (max (T.ku a (T.cls c)) (T.ku b (T.cls c))):=fun q=>hn (h.back a b _ h1 h2 h3 hc q)
  generalize T.ku a (T.cls c)=p at *;generalize T.ku b (T.cls c)=q at *;rcases Int.lt_trichotomy p q with e|e|e
  .rw[aag (by omega),aaf (by omega)]at nb;exact ih p q hz' r1.1 e r2.2 nb
  .rw[e]
  .rw[aah (by omega),aae (by omega)]at nb;exact(ih q p hz' r2.1 e r1.2 nb).symm
theorem J8.iff{T:bw}(hT:wQ T)(h:J8 T A){a b:Int}(h1:-1<=a)(h2:a<b)(h3:b<T.N):A a b↔¬iJ T a b :=
 ⟨fun q=>(h.sound a b q).2.2.2,fun q=>ur fun n=>q fun z hz=>h.same hT z a b hz h1 h2 h3 n⟩
structure aaF(T:bw)(ws:List Nat)(nx:Nat->Nat->Int):Prop where
 first:ws.getD 0 0=0
 pos:0<ae ws
 nodup:ws.Nodup
 lt:∀s∈ws,s<T.N
 row:∀j k,j<ae ws->k<T.C->(iJ T (-1) (T.nx (ws.getD j 0) k)/\nx j k=-1)\/(¬iJ T (-1) (T.nx (ws.getD j 0) k)/\∃i:Nat,nx j k=i/\i<ae ws/\iJ T (ws.getD i 0:Nat) (T.nx (ws.getD j 0) k))
 least:∀i,0<i->i<ae ws->∀t:Int,-1<=t->t<(ws.getD i 0:Nat)->¬iJ T t (ws.getD i 0:Nat)
 xQ:∀t:Nat,0<t->t<ae ws->∃s k,s<t/\k<T.C/\nx s k=t
 Ay:∀s k (t u:Nat),s<ae ws->k<T.C->nx s k=t->0<u->u<t->∃s' k',s' < (ae ws)/\k' < T.C/\(s' < s\/s'=s/\k' < k)/\nx s' k'=u
structure Vk(N C:Nat)(nx:Nat->Nat->Int)(num:Nat->Nat)(C':Nat):Prop where
 lt:∀k,k<C->num k<C'
 za:∀m,m<C'->∃k,k<C/\num k=m
 eq:∀k k',k<C->k' < C->(num k=num k'↔∀j,j<N->nx j k=nx j k')
 ord:∀k m,k<C->m<num k->∃k',k' < k/\num k'=m
theorem akq{l:List Nat}(h:l.Nodup){i j:Nat}(hi:i<ae l)(hj:j<ae l)(e:l.getD i 0=l.getD j 0):i=j:=by
 rw[aO,aO,bD hi,bD hj]at e;exact(Vo h).1 e
theorem af3{T:bw}(hT:wQ T){ws:List Nat}{nx:Nat->Nat->Int}(hs:aaF T ws nx){num:Nat->Nat}{C':Nat}(hj:Vk (ae ws) T.C nx num C'){U:bw}(hC:U.C=C')(hN:U.N=ae ws)(dw:∀c,c<256->U.cls c=num (T.cls c))(ry:∀j k,j<ae ws->k<T.C->U.nx j (num k)=nx j k)(eP:∀j,j<ae ws->U.ac j=T.ac (ws.getD j 0)):gL U (fun x=>T.o 0 x):=by
 have ij:∀j k,j<ae ws->k<T.C->-1<=nx j k/\nx j k<ae ws:=fun j k h1 h2=>by
  rcases hs.row j k h1 h2 with⟨_,e⟩|⟨_,i,e,h3,_⟩
  .have:=hs.pos;omega
  .omega
 have sem:∀(z:List Nat) (j:Nat),lQ z->j<ae ws->U.o j z=T.o (ws.getD j 0:Nat) z:=by
  intro z;induction z with
  |nil =>
   intro j _ h1;rw[U.L1,T.L1,eP j h1]
  |cons c z ih =>
   intro j hz h1;have hc:=hz c (by simp);(have hz':lQ z:=fun d hd=>hz d (by simp[hd]));have hk:=hT.cl c hc;rw[U.OO,T.OO,dw c hc,ry j _ h1 hk];rcases hs.row j _ h1 hk with⟨a,e⟩|⟨_,i,e,h3,a⟩
   .rw[e,U.Ai,<-a z hz',T.Ai]
   .rw[e,ih i hz' h3];exact a z hz'
 have aqt:∀i,i<ae ws->∀t:Nat,t<T.N->iJ T (ws.getD i 0:Nat) t->iJ T (ws.getD i 0:Nat) t:=fun _ _ _ _ h=>h
 refine⟨by rw[hN];exact hs.pos,?_,?_,?_,?_,?_,?_,?_,?_,?_,?_,?_⟩
 .intro c hc;rw[hC,dw c hc];exact hj.lt _ (hT.cl c hc)
 .intro s k h1 h2;rw[hN]at h1 |-;rw[hC]at h2
  obtain⟨q,h3,rfl⟩:=hj.za k h2;rw[ry s q h1 h3];exact ij s q h1 h3
 .intro x hx;have:=sem x 0 hx hs.pos;rw[hs.first]at this;exact this
 ·
  have key:∀m s,s<m->s<ae ws->∃x,lQ x/\U.go 0 x=s:=by
   intro m;induction m with
   |zero=>intro s h;omega
   |succ m ih =>
    intro s h1 h2;by_cases h0:s=0
    .subst h0;exact⟨[],fun c h=>by simp at h,rfl⟩
    .obtain⟨p,k,h3,h4,h5⟩:=hs.xQ s (by omega) h2;obtain⟨x,hx,e⟩:=ih p (by omega) (by omega);obtain⟨c,hc,e2⟩:=hT.Hu k h4;refine⟨x ++ [c],fun d hd=>?_,?_⟩
     .rcases jr.1 hd with q|q
      .exact hx d q
      .rw[bQ.1 q];exact hc
     .show(x ++ [c]).foldl (qE U.cls U.nx) 0=s;rw[MV];have e':x.foldl (qE U.cls U.nx) 0=p:=e;rw[e'];show qE U.cls U.nx p c=s;rw[YH,dw c hc,ry p _ (by omega) (by rw[e2];exact h4),e2,h5]
  intro s h1;rw[hN]at h1;exact key (s+1) s (by omega) h1
 ·
  intro s k h1 h2 h3;rw[hN]at h1;rw[hC]at h2;obtain⟨q,h4,rfl⟩:=hj.za k h2;rw[ry s q h1 h4]at h3 |-
  rcases hs.row s q h1 h4 with⟨_,e⟩|⟨a,i,e,h5,b⟩
  .exact absurd e h3
  .have:∃z,lQ z/\T.o (-1) z≠T.o (T.nx (ws.getD s 0) q) z:=by
    apply ur;intro n;apply a;intro z hz;apply ur;intro e;exact n ⟨z,hz,e⟩
   obtain⟨z,hz,ne⟩:=this;refine⟨z,hz,?_⟩;rw[e,sem z i hz h5,b z hz];rw[T.Ai]at ne;exact fun q=>ne q.symm
 ·
  intro s t h1 h2 h;rw[hN]at h1 h2;have hw:∀z,lQ z->T.o (ws.getD s 0:Nat) z=T.o (ws.getD t 0:Nat) z:=fun z hz=>by
   rw[<-sem z s hz h1,<-sem z t hz h2];exact h z hz
  rcases ym (ws.getD s 0) (ws.getD t 0)with c|c|c
  .by_cases t0:t=0
   .subst t0;rw[hs.first]at c;omega
   .exact absurd hw (hs.least t (by omega) h2 _ (by omega) (by omega))
  .exact akq hs.nodup h1 h2 c
  .by_cases s0:s=0
   .subst s0;rw[hs.first]at c;omega
   .exact absurd (fun z hz=>(hw z hz).symm) (hs.least s (by omega) h1 _ (by omega) (by omega))
 ·
  intro m hm;rw[hC]at hm;obtain⟨k,h1,rfl⟩:=hj.za m hm;obtain⟨c,hc,rfl⟩:=hT.Hu k h1;exact⟨c,hc,dw c hc⟩
 ·
  intro c d hc hd h;rw[dw c hc,dw d hd];refine(hj.eq _ _ (hT.cl c hc) (hT.cl d hd)).2 fun j h1=>?_
  have:=h j (by rw[hN];exact h1);rw[dw c hc,dw d hd,ry j _ h1 (hT.cl c hc),ry j _ h1 (hT.cl d hd)]at this;exact this
 ·
  intro c m hc hm;rw[dw c hc]at hm;obtain⟨k,h1,h2⟩:=hj.ord _ m (hT.cl c hc) hm;obtain⟨d,h3,h4⟩:=hT.Nx c k hc h1;exact⟨d,h3,by rw[dw d (by omega),h4,h2]⟩
 .intro t h0 h1;rw[hN]at h1;obtain⟨s,k,h2,h3,h4⟩:=hs.xQ t h0 h1;exact⟨s,num k,h2,by rw[hC];exact hj.lt k h3,by rw[ry s k (by omega) h3];exact h4⟩
 .intro s m t u h1 h2 h3 h4 h5;rw[hN]at h1;rw[hC]at h2;have akZ:∃k,k<T.C/\num k=m/\∀k',k' < k->num k'≠m:=by
   obtain⟨k0,a,b⟩:=hj.za m h2;have:∀q k,k<q->k<T.C->num k=m->∃k,k<T.C/\num k=m/\∀k',k' < k->num k'≠m:=by
    intro q;induction q with
    |zero=>intro k h;omega
    |succ q ih =>
     intro k h1 h2 h3;by_cases e:∃k',k' < k/\num k'=m
     .obtain⟨k',e1,e2⟩:=e;exact ih k' (by omega) (by omega) e2
     .exact⟨k,h2,h3,fun k' e1 e2=>e ⟨k',e1,e2⟩⟩
   exact this (k0+1) k0 (by omega) a b
  obtain⟨q,h6,rfl,hl⟩:=akZ;rw[ry s q h1 h6]at h3;obtain⟨s',k',g1,g2,g3,g4⟩:=hs.Ay s q t u h1 h6 h3 h4 h5;refine⟨s',num k',by rw[hN];exact g1,by rw[hC];exact hj.lt k' g2,?_,by rw[ry s' k' g1 g2];exact g4⟩;rcases g3 with g|⟨g,g'⟩
  .exact .inl g
  .right;refine⟨g,?_⟩;rcases ym (num k') (num q)with c|c|c
   .exact c
   .exact absurd c (hl k' g')
   ·
    obtain⟨k2,e1,e2⟩:=hj.ord k' (num q) g2 c;exact absurd e2 (hl k2 (by omega))
noncomputable def told (L:Nat->cC) (n:Nat) (x:List Nat):Int:=if x=[] then -1 else oP L n x
theorem uz.told{L:Nat->cC}{T:bw}(h:uz L n T.cls T.nx T.ac T.N T.C)(h0:T.ac 0=-1):∀x,lQ x->T.o 0 x=told L n x:=by
 intro x hx;unfold Go.Proofs.YtbjdkbcfpmeneaaGreat.told;by_cases e:x=[]
 .subst e;rw[aA rfl];exact h0
 .rw[az e];unfold bw.o;have hw:uT T.cls T.nx x=T.go 0 x:=rfl;by_cases q:T.go 0 x=-1
  .rw[aA q];have:=h.none x e hx (by rw[hw];exact q) [] (by simp);rw[Es]at this;exact this.symm
  .rw[az q];have:=h.some x e hx (by rw[hw];exact q);rw[hw]at this;exact this
theorem gL.congr{T:bw}{R R':List Nat->Int}(h:gL T R)(e:∀x,lQ x->R x=R' x):gL T R' :=
 ⟨h.pos,h.cl,h.ik,fun x hx=>(h.sem x hx).trans (e x hx),h.reach,h.alive,h.Wn,h.Hu,h.aaS,h.Nx,h.xQ,h.Ay⟩
theorem gL.ok{L:Nat->cC}{T:bw}(h:gL T (told L n)):uz L n T.cls T.nx T.ac T.N T.C:=by
 refine⟨h.pos,h.cl,h.ik,fun x e hx q=>?_,fun x e hx q z hz=>?_⟩
 .have:=h.sem x hx;unfold Go.Proofs.YtbjdkbcfpmeneaaGreat.told at this;rw[az e]at this;unfold bw.o at this;have hw:uT T.cls T.nx x=T.go 0 x:=rfl;rw[hw]at q |-
  rw[az q]at this;exact this
 .have:=h.sem (x++z) fun c hc=>by
   rcases jr.1 hc with a|a
   .exact hx c a
   .exact hz c a
  unfold Go.Proofs.YtbjdkbcfpmeneaaGreat.told at this;rw[az (by simp[e])]at this;rw[<-this];unfold bw.o;have e2:T.go 0 (x++z)=-1:=by
   show(x++z).foldl (qE T.cls T.nx) 0=-1;rw[MV];have:x.foldl (qE T.cls T.nx) 0=-1:=q;rw[this];exact T.go_none z
  rw[aA e2]
end
section
open Go.RowKit Go.ChangeMaps
structure kz(w:ay)(vn va:aq)(T:bw):Prop where
 next:∃gn cap,vn=.slice (some ⟨gn,0,none⟩) T.N cap/\gn<w.heap.size/\∀i,i<T.N->∃g c,w.cell? ⟨gn,i,none⟩=some (.slice (some ⟨g,0,none⟩) T.C c)/\g<w.heap.size/\∀k,k<T.C->w.cell? ⟨g,k,none⟩=some (.int .i64 (T.nx i k))
 acc:∃ga cap,va=.slice (some ⟨ga,0,none⟩) T.N cap/\ga<w.heap.size/\∀i,i<T.N->w.cell? ⟨ga,i,none⟩=some (.int .i64 (T.ac i))
theorem Kp.cell{w w':ay}(h:Kp [] w w'){b o:Nat}(hb:b<w.heap.size):w'.cell? ⟨b,o,none⟩=w.cell? ⟨b,o,none⟩:=o8 h.toBelow hb
theorem kz.kp{w w':ay}{vn va:aq}{T:bw}(h:kz w vn va T)(hk:Kp [] w w'):kz w' vn va T:=by
 have s:=hk.size;obtain⟨⟨gn,cap,e,l,hr⟩,⟨ga,ki,ea,la,ha⟩⟩:=h;refine⟨⟨gn,cap,e,by omega,fun i hi=>?_⟩,⟨ga,ki,ea,by omega,fun i hi=>by rw[hk.cell la];exact ha i hi⟩⟩;obtain⟨g,c,q1,q2,q3⟩:=hr i hi;exact⟨g,c,by rw[hk.cell l];exact q1,by omega,fun k Le=>by rw[hk.cell q2];exact q3 k Le⟩
def iM(cc:Array aq)(vn va vo vm vs tk:aq):Array aq:=cc ++ #[vn,va,vo,vm,vs,tk]
theorem FI{cc:Array aq}(h:cc.size=256)(vn va vo vm vs tk:aq):(iM cc vn va vo vm vs tk).size=262:=by simp[iM,h]
theorem II{cc:Array aq}(h:cc.size=256)(vn va vo vm vs tk:aq):(iM cc vn va vo vm vs tk)[256]?=some vn:=by unfold iM;rw[Gg (by omega),h];rfl
theorem OC{cc:Array aq}(h:cc.size=256)(vn va vo vm vs tk:aq):(iM cc vn va vo vm vs tk)[257]?=some va:=by unfold iM;rw[Gg (by omega),h];rfl
theorem IJ{cc:Array aq}(h:cc.size=256)(vn va vo vm vs tk:aq):(iM cc vn va vo vm vs tk)[258]?=some vo:=by unfold iM;rw[Gg (by omega),h];rfl
theorem OD{cc:Array aq}(h:cc.size=256)(vn va vo vm vs tk:aq):(iM cc vn va vo vm vs tk)[259]?=some vm:=by unfold iM;rw[Gg (by omega),h];rfl
theorem LG{cc:Array aq}(h:cc.size=256)(vn va vo vm vs tk:aq):(iM cc vn va vo vm vs tk)[260]?=some vs:=by unfold iM;rw[Gg (by omega),h];rfl
theorem LH{cc:Array aq}(h:cc.size=256)(vn va vo vm vs tk:aq):(iM cc vn va vo vm vs tk)[261]?=some tk:=by unfold iM;rw[Gg (by omega),h];rfl
theorem XZ{cc:Array aq}(h:cc.size=256)(vn va vo vm vs tk:aq)(c:Array aq)(hs:c.size=262)(lu:∀i,i<256->c[i]?=cc[i]?)(h0:c[256]?=some vn)(h1:c[257]?=some va)(h2:c[258]?=some vo)(h3:c[259]?=some vm)(h4:c[260]?=some vs)(h5:c[261]?=some tk):c=iM cc vn va vo vm vs tk:=by
 apply xY;intro i;rcases eK i 256 with q|q
 .rw[lu i q,iM,Zd (by omega)]
 .rcases eK i 262 with q2|q2
  .have:i=256\/i=257\/i=258\/i=259\/i=260\/i=261:=(by omega);rcases this with rfl|rfl|rfl|rfl|rfl|rfl
   .rw[h0,II h]
   .rw[h1,OC h]
   .rw[h2,IJ h]
   .rw[h3,OD h]
   .rw[h4,LG h]
   .rw[h5,LH h]
  .rw[kP (by omega),kP (by rw[FI h];omega)]
theorem abV{cc:Array aq}(h:cc.size=256)(vn va vo vm vs tk:aq){i:Nat}(hi:i<256):(iM cc vn va vo vm vs tk)[i]?=cc[i]?:=by rw[iM,Zd (by omega)]
theorem alY{cc:Array aq}(h:cc.size=256)(vn va vo vm vs tk:aq)(v:aq):(iM cc vn va vo vm vs tk).setIfInBounds 258 v=iM cc vn va v vm vs tk:=by
 have hs:=FI h vn va vo vm vs tk;refine XZ h _ _ _ _ _ _ _ (by simp[hs]) ?_ ?_ ?_ ?_ ?_ ?_ ?_
 .intro i hi;rw[iH (by omega),abV h _ _ _ _ _ _ hi]
 .rw[iH (by omega),II h]
 .rw[iH (by omega),OC h]
 .rw[xZ (by omega)]
 .rw[iH (by omega),OD h]
 .rw[iH (by omega),LG h]
 .rw[iH (by omega),LH h]
theorem alZ{cc:Array aq}(h:cc.size=256)(vn va vo vm vs tk:aq)(v:aq):(iM cc vn va vo vm vs tk).setIfInBounds 261 v=iM cc vn va vo vm vs v:=by
 have hs:=FI h vn va vo vm vs tk;refine XZ h _ _ _ _ _ _ _ (by simp[hs]) ?_ ?_ ?_ ?_ ?_ ?_ ?_
 .intro i hi;rw[iH (by omega),abV h _ _ _ _ _ _ hi]
 .rw[iH (by omega),II h]
 .rw[iH (by omega),OC h]
 .rw[iH (by omega),IJ h]
 .rw[iH (by omega),OD h]
 .rw[iH (by omega),LG h]
 .rw[xZ (by omega)]
theorem al0{cc:Array aq}(h:cc.size=256)(vn va vo vm vs tk:aq)(v u:aq):D4 (iM cc vn va vo vm vs tk) 259 v u=iM cc vn va vo v u tk:=by
 have hs:=FI h vn va vo vm vs tk;unfold D4;refine XZ h _ _ _ _ _ _ _ (by simp[hs]) ?_ ?_ ?_ ?_ ?_ ?_ ?_
 .intro i hi;rw[iH (by omega),iH (by omega),abV h _ _ _ _ _ _ hi]
 .rw[iH (by omega),iH (by omega),II h]
 .rw[iH (by omega),iH (by omega),OC h]
 .rw[iH (by omega),iH (by omega),IJ h]
 .rw[iH (by omega),xZ (by omega)]
 .rw[xZ (by simp;omega)]
 .rw[iH (by omega),iH (by omega),LH h]
structure MY(w:ay)(M:Nat)(vn va vo:aq):Prop where
 qm:w.cell? ⟨M,256,none⟩=some vn
 zG:w.cell? ⟨M,257,none⟩=some va
 Rp:w.cell? ⟨M,258,none⟩=some vo
theorem al1(M:Nat)(vn va vo:aq)(T:bw)(s:Int)(k:Nat)(w:ay)(hM:MY w M vn va vo)(hT:kz w vn va T)(h1:-1<=s)(h2:s<T.N)(hk:k<T.C)(hN:T.N<=100000)(hC:T.C<=100000):aI aB 88 #[.pointer (some ⟨M,0,none⟩),.int .i64 s,.int .i64 k] w fun e w'=>e=.returned (.int .i64 (T.ku s k))/\w'=w:=by
 have qm:=hM.qm;by_cases hs:s=-1
 .subst hs;have e:T.ku (-1) k=-1:=rfl;rw[e];clear hM hT;go_enter Tryz.func88,Tryz.ntmps88;go_wp2;go_ret;exact⟨rfl,rfl⟩
 .obtain⟨n,rfl⟩:∃n:Nat,s=n:=⟨s.toNat,by omega⟩
  rw[T.amL];obtain⟨gn,cap,rfl,l,hr⟩:=hT.next;have hn:n<T.N:=(by omega);obtain⟨g,c,q1,q2,q3⟩:=hr n hn;have q4:=q3 k hk;have cP:((n:Int) == -1)=false:=by simp<;>omega
  have hk':(k:Int)<T.C:=(by omega);generalize T.nx n k=V at *;clear hM hT hr q3 hs;go_enter Tryz.func88,Tryz.ntmps88;go_wp2;go_ret;exact⟨rfl,rfl⟩
theorem afT(M:Nat)(vn va vo:aq)(T:bw)(s:Int)(w:ay)(hM:MY w M vn va vo)(hT:kz w vn va T)(h1:-1<=s)(h2:s<T.N)(hN:T.N<=100000):aI aB 89 #[.pointer (some ⟨M,0,none⟩),.int .i64 s] w fun e w'=>e=.returned (.int .i64 (T.qS s))/\w'=w:=by
 have zG:=hM.zG;by_cases hs:s=-1
 .subst hs;have e:T.qS (-1)=-1:=rfl;rw[e];clear hM hT;go_enter Tryz.func89,Tryz.ntmps89;go_wp2;go_ret;exact⟨rfl,rfl⟩
 .obtain⟨n,rfl⟩:∃n:Nat,s=n:=⟨s.toNat,by omega⟩
  have e:T.qS (n:Nat)=T.ac n:=by unfold bw.qS;rw[az (by omega),mj]
  rw[e];obtain⟨ga,cap,rfl,l,hr⟩:=hT.acc;have hn:n<T.N:=(by omega);have q1:=hr n hn;have cP:((n:Int) == -1)=false:=by simp<;>omega
  generalize T.ac n=V at *;clear hM hT hr hs e;go_enter Tryz.func89,Tryz.ntmps89;go_wp2;go_ret;exact⟨rfl,rfl⟩
theorem afU(M go n cap:Nat)(vn va v:aq)(s:Int)(w:ay)(hM:MY w M vn va (.slice (some ⟨go,0,none⟩) n cap))(h1:-1<=s)(h2:s+1<n)(hN:n<=100000)(hv:w.cell? ⟨go,(s+1).toNat,none⟩=some v):aI aB 87 #[.pointer (some ⟨M,0,none⟩),.int .i64 s] w fun e w'=>e=.returned v/\w'=w:=by
 have Rp:=hM.Rp;obtain⟨k,hk⟩:∃k:Nat,s+1=k:=⟨(s+1).toNat,by omega⟩
 have aqe:GA.wrap (s - -1)=k:=by
  have:s - -1=k:=(by omega);rw[this];simp[tA,qa,qc];omega
 rw[hk,mj]at hv;have SM:(k:Int)<n:=(by omega);have hs:s=(k:Int)-1:=(by omega);subst hs;clear hM hk;go_enter Tryz.func87,Tryz.ntmps87;go_wp2;go_ret;exact⟨rfl,rfl⟩
end
section
variable{l:List Nat}{o:Obj}{g1 aP:Nat}{α:Type}
section
open Go.RowKit Go.ChangeMaps
structure sg(w:ay)(vo:aq)(C:Nat)(dh:List Nat)(V:Nat->Nat->aq)(L:Nat->Nat->List Int):Prop where
 row:w.ownsRow 0 28 1 vo (ae dh) (dh.map (rv C))
 blk:∀s,s<ae dh->w.heap[dh.getD s 0]?=some (.cells ((lU C).map (V s)).toArray 61 (0,0))
 own:∀s k,s<ae dh->k<C->w.ownsRow 0 3 1 (V s k) (L s k).length (iv (L s k))
 nd:dh.Nodup
 dj:∀s k s' k',s<ae dh->k<C->s' < (ae dh)->k' < C->(s≠s'\/k≠k')->∀g,(V s k).ownBlock=some g->(V s' k').ownBlock≠some g
def yf(vo:aq)(C:Nat)(dh:List Nat)(V:Nat->Nat->aq)(g:Nat):Prop:=vo.ownBlock=some g\/g∈dh\/∃s k,s<ae dh/\k<C/\(V s k).ownBlock=some g
theorem Wz{i:Nat}(hi:i<ae l):l.getD i 0∈l:=by
 rw[aO,bD hi];exact nE hi
theorem akr(h:l.Nodup){i j:Nat}(hi:i<ae l)(hj:j<ae l)(e:l.getD i 0=l.getD j 0):i=j:=by
 rw[aO,aO,bD hi,bD hj]at e;exact(Vo h).1 e
section
variable{w:ay}{vo:aq}{C:Nat}{dh:List Nat}{V:Nat->Nat->aq}{L:Nat->Nat->List Int}
theorem sg.kp{w':ay}{xs:List Nat}(h:sg w vo C dh V L)(hk:Kp xs w w')(hx:∀x∈xs,¬yf vo C dh V x):sg w' vo C dh V L :=
 ⟨aJ h.row hk (fun g e hm=>hx g hm (.inl e)),fun s hs=>hk.keep (h.blk s hs) (fun e=>hx _ e (.inr (.inl (Wz hs)))),fun s k hs Cg=>aJ (h.own s k hs Cg) hk (fun g e hm=>hx g hm (.inr (.inr ⟨s,k,hs,Cg,e⟩))),h.nd,h.dj⟩
theorem sg.lt(h:sg w vo C dh V L){g:Nat}(hg:yf vo C dh V g):g<w.heap.size:=by
 rcases hg with e|e|⟨s,k,hs,hk,e⟩
 .exact(h.row.lt g e).2
 .obtain⟨i,hi,rfl⟩:=Vr.1 e;have:=h.blk i hi;rw[aO,bD hi]at this;exact aE this
 .exact((h.own s k hs hk).lt g e).2
theorem sg.add{w3:ay}{b:Nat}(h:sg w vo C dh (fun _ _=>.slice none 0 0) (fun _ _=>[]))(hb:w.heap[b]?=some (.cells (gM C (.slice none 0 0)).toArray 61 (0,0)))(hbn:b∉dh)(cT:w3.ownsRow 0 28 1 (.slice (some ⟨g1,0,none⟩) (ae dh+1) aP) (ae dh+1) (dh.map (rv C) ++ [rv C b]))(bj:(w.alloc o).grownBy w3 vo.ownBlock):sg w3 (.slice (some ⟨g1,0,none⟩) (ae dh+1) aP) C (dh ++ [b]) (fun _ _=>.slice none 0 0) (fun _ _=>[])/\Kp vo.ownBlock.toList w w3:=by
 have kA:Kp vo.ownBlock.toList w w3:=(((Kp.refl _ w).alloc o).qt bj (fun k e=>.inl (by simp[e])));have ne:∀ {c:Array aq} {x:Nat},w.heap[x]?=some (.cells c 61 (0,0))->x∉vo.ownBlock.toList:=fun {c x} q hm=>by
  simp at hm;obtain⟨c',f,q'⟩:=rG h.row hm;exact uO q q' (by decide) rfl
 refine⟨⟨?_,fun s hs=>?_,fun s k _ _=>j9 _ _ _ _,?_,?_⟩,kA⟩
 .rw[cx,iq,uv];exact cT
 .rw[cx,iq]at hs;have e0:(lU C).map (fun _=>uB none 0 0)=gM C (.slice none 0 0):=by rw[List.map_const'];simp
  by_cases e:s=ae dh
  .subst e;rw[qX];show _=some (Obj.cells ((lU C).map (fun _=>uB none 0 0)).toArray _ _);rw[e0];exact kA.keep hb (ne hb)
  .rw[qY (by omega)];exact kA.keep (h.blk s (by omega)) (ne (h.blk s (by omega)))
 .rw[GO];refine⟨h.nd,by simp,fun p hp q hq e=>?_⟩;rw[bQ.1 hq]at e;exact hbn (e ▸ hp)
 .intro s k s' k' _ _ _ _ _ g e;simp[aK]at e
theorem al7(C k:Nat)(f:Nat->aq)(v:aq):(((lU C).map f).toArray.setIfInBounds k v)=((lU C).map (fun j=>if j=k then v else f j)).toArray:=by
 apply xY;intro i;rw[Mx];by_cases e:k=i
 .subst e;rw[aA rfl];by_cases hi:k<C
  .simp[hi]
  .simp[hi]
 .rw[az e];by_cases hi:i<C
  .simp[hi,show ¬i=k from fun q=>e q.symm]
  .simp[hi]
def rS{α:Type}(f:Nat->Nat->α)(s k:Nat)(v:α):Nat->Nat->α:=fun s' k'=>if s'=s/\k'=k then v else f s' k'
theorem AE(f:Nat->Nat->α)(s k:Nat)(v:α):rS f s k v s k=v:=aA ⟨rfl,rfl⟩
theorem ud(f:Nat->Nat->α){s k s' k':Nat}(v:α)(h:s'≠s\/k'≠k):rS f s k v s' k'=f s' k':=by
 unfold rS;rw[az (by rintro⟨a,b⟩;rcases h with q|q;exact q a;exact q b)]
theorem sg.push{w3:ay}{s k:Nat}{x:Int}(h:sg w vo C dh V L)(hs:s<ae dh)(hk:k<C)(cT:w3.ownsRow 0 3 1 (.slice (some ⟨g1,0,none⟩) ((L s k).length+1) aP) ((L s k).length+1) (iv (L s k) ++ [.int .i64 x]))(bj:(w.alloc o).grownBy w3 (V s k).ownBlock)(cy:(V s k).ownBlock=some g1\/g1=w.heap.size+1):sg (w3.setCell ⟨dh.getD s 0,k,none⟩ (.slice (some ⟨g1,0,none⟩) ((L s k).length+1) aP)) vo C dh (rS V s k (.slice (some ⟨g1,0,none⟩) ((L s k).length+1) aP)) (rS L s k (L s k ++ [x]))/\Kp (dh.getD s 0::(V s k).ownBlock.toList) w (w3.setCell ⟨dh.getD s 0,k,none⟩ (.slice (some ⟨g1,0,none⟩) ((L s k).length+1) aP))/\∀g,yf vo C dh (rS V s k (.slice (some ⟨g1,0,none⟩) ((L s k).length+1) aP)) g->yf vo C dh V g\/w.heap.size<=g:=by
 have kA:Kp (V s k).ownBlock.toList w w3:=(((Kp.refl _ w).alloc o).qt bj (fun k e=>.inl (by simp[e])));have kS:Kp [dh.getD s 0] w3 (w3.setCell ⟨dh.getD s 0,k,none⟩ (.slice (some ⟨g1,0,none⟩) ((L s k).length+1) aP)):=(Kp.refl _ _).set (by simp) _ _;have agp:∀ {g:Nat},(V s k).ownBlock=some g->∃c f,w.heap[g]?=some (.cells c 3 f):=fun {g} e=>rG (h.own s k hs hk) e
 have nb:∀s',s' < (ae dh)->dh.getD s' 0∉(V s k).ownBlock.toList:=fun s' hs' hm=>by
  simp at hm;obtain⟨c',f,q'⟩:=agp hm;exact uO (h.blk s' hs') q' (by decide) rfl
 have b3:∀s',s' < (ae dh)->w3.heap[dh.getD s' 0]?=some (.cells ((lU C).map (V s')).toArray 61 (0,0)):=fun s' hs'=>kA.keep (h.blk s' hs') (nb s' hs')
 have g1n:g1≠dh.getD s 0:=by
  intro e;rcases cy with q|q
  .exact nb s hs (by rw[<-e];simp[q])
  .have:=aE (h.blk s hs);omega
 refine⟨⟨?_,fun s' hs'=>?_,fun s' k' hs' hk'=>?_,h.nd,?_⟩,?_,?_⟩
 .refine aJ (aJ h.row kA ?_) kS ?_
  .intro g e hm;simp at hm;obtain⟨c1,f1,q1⟩:=rG h.row e;obtain⟨c2,f2,q2⟩:=agp hm;exact uO q1 q2 (by decide) rfl
  .intro g e hm;rw[bQ]at hm;obtain⟨c1,f1,q1⟩:=rG h.row e;rw[hm]at q1;exact uO (h.blk s hs) q1 (by decide) rfl
 .rw[aQ];by_cases e:s'=s
  .subst e;rw[aA rfl,b3 s' hs'];show some (Obj.cells ((((lU C).map (V s')).toArray).setIfInBounds k _) _ _)=_;rw[al7];congr 4;funext j;unfold rS;by_cases q:j=k
   .rw[aA q,aA ⟨rfl,q⟩]
   .rw[az q,az (fun h=>q h.2)]
  .rw[az (fun q=>e (akr h.nd hs' hs q)),b3 s' hs'];congr 4;funext j;rw[ud _ _ (.inl e)]
 .by_cases e:s'=s/\k'=k
  .obtain⟨rfl,rfl⟩:=e;rw[AE,AE,cx,iq,show iv (L s' k' ++ [x])=iv (L s' k') ++ [.int .i64 x] by simp[iv]];exact aJ cT kS (by intro g e hm;simp only[aK,aV]at e;rw[bQ]at hm;omega)
  .have e':s'≠s\/k'≠k:=by
    by_cases q:s'=s
    .exact .inr (fun r=>e ⟨q,r⟩)
    .exact .inl q
   rw[ud _ _ e',ud _ _ e'];refine aJ (aJ (h.own s' k' hs' hk') kA ?_) kS ?_
   .intro g e2 hm;simp at hm;exact h.dj s' k' s k hs' hk' hs hk e' g e2 hm
   .intro g e2 hm;rw[bQ]at hm;obtain⟨c1,f1,q1⟩:=rG (h.own s' k' hs' hk') e2;rw[hm]at q1;exact uO (h.blk s hs) q1 (by decide) rfl
 .intro a b a' b' ha hb ha' hb' cP g e1 e2;have fresh:∀p q,p<ae dh->q<C->(p≠s\/q≠k)->(V p q).ownBlock≠some g1:=fun p q hp hq cP e=>by
   rcases cy with z|z
   .exact h.dj p q s k hp hq hs hk cP g1 e z
   .have:=((h.own p q hp hq).lt g1 e).2;omega
  by_cases q1:a=s/\b=k
  .obtain⟨rfl,rfl⟩:=q1;rw[AE]at e1;simp only[aK,aV]at e1;have Xl:a'≠a\/b'≠b:=(by omega);rw[ud _ _ Xl]at e2;exact fresh a' b' ha' hb' Xl (by rw[e1];exact e2)
  .have q1':a≠s\/b≠k:=by
    by_cases z:a=s
    .exact .inr (fun r=>q1 ⟨z,r⟩)
    .exact .inl z
   rw[ud _ _ q1']at e1;by_cases q2:a'=s/\b'=k
   .obtain⟨rfl,rfl⟩:=q2;rw[AE]at e2;simp only[aK,aV]at e2;exact fresh a b ha hb q1' (by rw[e2];exact e1)
   .have q2':a'≠s\/b'≠k:=by
     by_cases z:a'=s
     .exact .inr (fun r=>q2 ⟨z,r⟩)
     .exact .inl z
    rw[ud _ _ q2']at e2;exact h.dj a b a' b' ha hb ha' hb' cP g e1 e2
 .exact(kA.mono (fun y hy=>vq _ hy)).trans kS (fun y hy=>.inl (by rw[bQ.1 hy];simp))
 .intro g hg;rcases hg with e|e|⟨s',k',hs',hk',e⟩
  .exact .inl (.inl e)
  .exact .inl (.inr (.inl e))
  .by_cases q:s'=s/\k'=k
   .obtain⟨rfl,rfl⟩:=q;rw[AE]at e;simp only[aK,aV]at e;subst e;rcases cy with z|z
    .exact .inl (.inr (.inr ⟨s',k',hs',hk',z⟩))
    .exact .inr (by omega)
   .have q':s'≠s\/k'≠k:=by
     by_cases z:s'=s
     .exact .inr (fun r=>q ⟨z,r⟩)
     .exact .inl z
    rw[ud _ _ q']at e;exact .inl (.inr (.inr ⟨s',k',hs',hk',e⟩))
end
end
end
section
open Go.RowKit Go.ChangeMaps
theorem afC:(aB.info? 28).map (fun i=>(i.zero,i.size,i.bytes))=some (some (.slice none 0 0),1,24):=by kernel_rfl
theorem afB:(aB.info? 61).map (fun i=>(i.zero,i.size,i.bytes))=some (some (.slice none 0 0),1,24):=by kernel_rfl
abbrev ab1(n:Nat):Obj:=.cells (gM n (uB none 0 0)).toArray 61 (0,0)
theorem an1(n:Nat)(hn:n<=1000000)(w:ay):(Instr.makeSlice 28 (.int .i64 (n:Int)) (.int .i64 (n:Int))).run aB w=.ok (.slice (some ⟨w.heap.size,0,none⟩) n n) (w.alloc (ab1 n)):=by
 rw[run_make_row' 28 61 (.slice none 0 0) 24 ES afB rfl .i64 .i64 n (by omega) (by omega) w];congr 3;rw[<-Array.toArray_toList (xs:=madeCells #[uB none 0 0] n),toList_madeCells_one]
abbrev LI(cc:Array aq)(vn va vo vm vs tk:aq):Obj:=.cells (iM cc vn va vo vm vs tk) 153 (0,0)
theorem aoO{w w':ay}{r:Option Nat}(h:w.drew.grownBy w' r):w.grownBy w' r:=⟨h.os,h.tape,h.output,h.size,h.block⟩
def QG(T:bw)(L:Nat->Nat->List Int):Prop:=∀s k,s<T.N+1->k<T.C->∀t:Int,t∈L s k↔-1<=t/\t<T.N/\T.ku t k+1=s
theorem aoK(M:Nat)(cc:Array aq)(vn va vm vs tk:aq)(T:bw)(w:ay)(gE:cc.size=256)(hM:w.heap[M]?=some (LI cc vn va (.slice none 0 0) vm vs tk))(hT:∀w',Kp [M] w w'->kz w' vn va T)(fA:wQ T)(hN:T.N<=250)(hC:T.C<=256):aI aB 61 #[.pointer (some ⟨M,0,none⟩)] w fun e w'=>e=.returned (.tuple #[])/\∃(vo:aq) (dh:List Nat) (V:Nat->Nat->aq) (L:Nat->Nat->List Int),ae dh=T.N+1/\sg w' vo T.C dh V L/\QG T L/\w'.heap[M]?=some (LI cc vn va vo vm vs tk)/\Kp [M] w w'/\(∀g,yf vo T.C dh V g->w.heap.size<=g):=by
 have lM:=aE hM;have HM:=aj hM;have HT:=aj hT;have Cm:=fA.pos;obtain⟨⟨gn,jj,rfl,ID,ij⟩,_⟩:=hT w (Kp.refl _ _);obtain⟨g0,c0,r0,lg0,_⟩:=ij 0 Cm;have qm:w.cell? ⟨M,256,none⟩=some (.slice (some ⟨gn,0,none⟩) T.N jj):=(by rw[aF hM,II gE]);have ap6:(0:Int)<T.N:=(by omega);have ig:=fun w=>an1 T.C (by omega) w
 clear hM hT ij;go_enter Tryz.func61,Tryz.ntmps61;go_wp2_with fail;go_loopw [21] (fun i w'=>∃(k:Nat) (vo:aq) (dh:List Nat),k<=T.N+1/\i=.int .i64 k/\(ae dh)=k/\sg w' vo T.C dh (fun _ _=>.slice none 0 0) (fun _ _=>[])/\w'.heap[M]?=some (LI cc (.slice (some ⟨gn,0,none⟩) T.N jj) va vo vm vs tk)/\Kp [M] w w'/\(∀g,yf vo T.C dh (fun _ _=>.slice none 0 0) g->w.heap.size<=g))
  (fun i _=>T.N+1-(aG i).toNat)
 case atStart =>
  refine⟨0,.slice none 0 0,[],by omega,rfl,rfl,⟨j9 _ _ _ _,fun s hs=>by simp at hs,fun s k hs=>by simp at hs,by simp,fun s k s' k' hs=>by simp at hs⟩,HM.o,Kp.refl _ _,?_⟩;intro g hg;rcases hg with e|e|⟨s,k,hs,_⟩
  .simp[aK]at e
  .simp at e
  .simp at hs
 case round =>
  obtain⟨k,vo,dh,hk,rfl,pq,og,bM,kp,fr⟩:=hrel;subst pq;obtain⟨OG,BM,KP,FR⟩:=dH og bM kp fr;have lMr:=aE bM;have Rp:wr.cell? ⟨M,258,none⟩=some vo:=(by rw[aF bM,IJ gE]);have OWN:=aj og.row;have nM1:M≠wr.heap.size:=(by omega);have nM2:M≠wr.heap.size+1:=(by omega);clear og bM kp fr;by_cases aN:(ae dh)<T.N+1
  .have gU:(ae dh:Int)<(T.N:Int)+1:=(by omega);obtain⟨i0,cS,dc,dm,cW⟩:=iw afC;obtain⟨I0,Z0,Z1,Z2⟩:=dH cS dc dm cW;clear cS dc dm cW;go_upto_region 3 with fail;go_region_law ((refine wm _ (by rfl) _ _ _ (by rfl) 0 28 i0 _ 1 24 Tryz.underlying29 I0.o Z0.o Z1.o Z2.o rfl (by omega) vo (ae dh) (dh.map (rv T.C)) (by rfl) ((OWN.o.alloc _).alloc _).drew ⟨wr.heap.size+1,0,none⟩ 1 1 [rv T.C wr.heap.size] (by rfl) (by rfl) (gN (cs:=#[rv T.C wr.heap.size]) (t:=28) (fr:=(0,0)) (by rw[eO,aC,aM,aA rfl])) (by simp[dS]) (by omega) (by unfold eB;omega) (by omega) (by simp) (wr.heap.size+2) (by simp) ?_;intro g1 aP w3 cT bj cy iz;have B3:w3.heap[M]?=some (LI cc (.slice (some ⟨gn,0,none⟩) T.N jj) va vo vm vs tk):=fY bj (b:=M) (by rw[eO,aC,aM,az nM2,aC,az nM1];exact BM.o) (fun e=>by have:=FR.o M (.inl e);omega);have ajN:w3.cell? ⟨M,258,none⟩=some vo:=(by rw[aF B3,IJ gE]);have aj0:=cM B3 258))
   all_goals
    obtain⟨og3,k3⟩:=sg.add (w:=wr.alloc (ab1 T.C)) (b:=wr.heap.size) (OG.o.kp ((Kp.refl [] wr).alloc _) (by simp)) (by rw[aC,aA rfl]) (fun hm=>by have:=OG.o.lt (.inr (.inl hm));omega) cT (aoO bj);have J3:=aj og3;have K3:ax (Kp [M] w w3):=KP.o.trans (((Kp.refl (vo.ownBlock.toList) wr).alloc (ab1 T.C)).trans k3 (fun y hy=>.inl hy)) (fun y hy=>.inr (FR.o y (.inl (by simpa using hy))));have UM:=aj B3;have AT1:=aj cy;have sr:=KP.o.size;clear og3 k3 B3 cT bj cy iz ajN aj0 Rp OWN I0 Z0 Z1 Z2;go_wp2;have kS:Kp [M] w3 (w3.setCell ⟨M,258,none⟩ (.slice (some ⟨g1,0,none⟩) (ae dh+1) aP)):=(Kp.refl [M] w3).set (by simp) _ _;have gA:∀g,yf (.slice (some ⟨g1,0,none⟩) (ae dh+1) aP) T.C (dh ++ [wr.heap.size]) (fun _ _=>.slice none 0 0) g->w.heap.size<=g:=fun g hg=>by
     rcases hg with e|e|⟨s,k,hs,hk,e⟩
     .simp only[aK,aV]at e;subst e;rcases AT1.o with q|q
      .exact FR.o _ (.inl q)
      .omega
     .rcases jr.1 e with q|q
      .exact FR.o _ (.inr (.inl q))
      .rw[bQ.1 q];exact sr
     .simp[aK]at e
    refine⟨⟨(ae dh)+1,.slice (some ⟨g1,0,none⟩) (ae dh+1) aP,dh ++ [wr.heap.size],by omega,by go_num,by simp,J3.o.kp kS (fun x hx hm=>by rw[bQ.1 hx]at hm;have:=gA _ hm;omega),?_,K3.o.set (by simp) _ _,gA⟩,by simp[aG];omega⟩;rw[aQ,aA rfl,UM.o];show some (Obj.cells ((iM cc _ va vo vm vs tk).setIfInBounds 258 _) _ _)=_;rw[alY gE]
  ·(have jZ:(ae dh)=T.N+1:=by omega);obtain⟨go,mI,Tv⟩:∃go mI,vo=.slice (some ⟨go,0,none⟩) (T.N+1) mI:=by
    rcases OWN.o.2 with⟨_,e⟩|⟨g,cap,cur,e,_⟩
    .omega
    .exact⟨g,cap,by rw[e,jZ]⟩
   subst Tv;have JC:=aj jZ;have gU:¬(ae dh:Int)<(T.N:Int)+1:=(by omega);clear jZ Rp OWN hk;go_wp2_with fail;go_loopw [3] (fun s w'=>∃(j:Nat) (V:Nat->Nat->aq) (L:Nat->Nat->List Int),j<=T.N+1/\s=.int .i64 ((j:Int)-1)/\sg w' (.slice (some ⟨go,0,none⟩) (T.N+1) mI) T.C dh V L/\(∀s k,s<T.N+1->k<T.C->(L s k).length<=j/\∀t:Int,t∈L s k↔-1<=t/\t<(j:Int)-1/\T.ku t k+1=s) /\
     w'.heap[M]?=some (LI cc (.slice (some ⟨gn,0,none⟩) T.N jj) va (.slice (some ⟨go,0,none⟩) (T.N+1) mI) vm vs tk)/\Kp [M] w w'/\(∀g,yf (.slice (some ⟨go,0,none⟩) (T.N+1) mI) T.C dh V g->w.heap.size<=g))
    (fun s _=>T.N+1-(aG s+1).toNat)
   case atStart=>exact⟨0,_,_,by omega,rfl,OG.o,fun s k _ _=>⟨by simp,fun t=>⟨fun h=>by simp at h,fun h=>by omega⟩⟩,BM.o,KP.o,FR.o⟩
   case round =>
    obtain⟨j,V,L,hj,rfl,og,hL,bM,kp,fr⟩:=hrel;obtain⟨QE,BM2,mm,jN,HL⟩:=jd og bM kp fr hL;have Ny:wr.cell? ⟨M,256,none⟩=some (.slice (some ⟨gn,0,none⟩) T.N jj):=(by rw[aF bM,II gE]);clear og bM kp fr hL;by_cases Cf:j<T.N+1
    .have hj':(j:Int)-1<T.N:=(by omega);go_wp2_with fail;go_loopw [46] (fun i w'=>∃(q:Nat) (V:Nat->Nat->aq) (L:Nat->Nat->List Int),q<=T.C/\i=.int .i64 q/\sg w' (.slice (some ⟨go,0,none⟩) (T.N+1) mI) T.C dh V L/\(∀s k,s<T.N+1->k<T.C->(L s k).length<=j+(if k<q then 1 else 0)/\∀t:Int,t∈L s k↔-1<=t/\(t<(j:Int)-1\/(t=(j:Int)-1/\k<q))/\T.ku t k+1=s) /\
       w'.heap[M]?=some (LI cc (.slice (some ⟨gn,0,none⟩) T.N jj) va (.slice (some ⟨go,0,none⟩) (T.N+1) mI) vm vs tk)/\Kp [M] w w'/\(∀g,yf (.slice (some ⟨go,0,none⟩) (T.N+1) mI) T.C dh V g->w.heap.size<=g))
      (fun i _=>T.C-(aG i).toNat)
     case atStart =>
      refine⟨0,V,L,by omega,rfl,QE.o,fun s k hs hk=>⟨by have:=(HL.o s k hs hk).1;omega,fun t=>?_⟩,BM2.o,mm.o,jN.o⟩;rw[(HL.o s k hs hk).2 t];constructor
      .rintro⟨a,b,c⟩;exact⟨a,.inl b,c⟩
      .rintro⟨a,b|⟨_,b⟩,c⟩
       .exact⟨a,b,c⟩
       .omega
     case round =>
      obtain⟨q,V,L,hq,rfl,og,hL,bM,kp,fr⟩:=hrel;obtain⟨J3,UM,GD,sY,Gt⟩:=jd og bM kp fr hL;clear og fr hL;by_cases qy:q<T.C
      .have hq':(q:Int)<T.C:=(by omega);have mg:MY wr M (.slice (some ⟨gn,0,none⟩) T.N jj) va (.slice (some ⟨go,0,none⟩) (T.N+1) mI):=⟨by rw[aF bM,II gE],by rw[aF bM,OC gE],by rw[aF bM,IJ gE]⟩;have yR:=fA.ack (s:=(j:Int)-1) (k:=q) (by omega) hj' qy;(obtain⟨f,hf⟩:∃f:Nat,T.ku ((j:Int)-1) q+1=f:=⟨(T.ku ((j:Int)-1) q+1).toNat,by omega⟩);have hfN:f<T.N+1:=(by omega);(have qw:f<ae dh:=by rw[JC.o];exact hfN);have Ru:wr.cell? ⟨go,f,none⟩=some (rv T.C (dh.getD f 0)):=by
        have hr:=J3.o.row;(have:wr.ownsRow 0 28 1 (.slice (some ⟨go,0,none⟩) (ae dh) mI) (ae dh) (dh.map (rv T.C)):=by rw[JC.o];rw[JC.o]at hr;exact hr);rw[this.cellAt f (by omega),kx,bD qw,aO,bD qw];rfl
       have Ck:=al1 M (.slice (some ⟨gn,0,none⟩) T.N jj) va (.slice (some ⟨go,0,none⟩) (T.N+1) mI) T ((j:Int)-1) q wr mg (HT.o wr kp) (by omega) hj' qy (by omega) (by omega);have Fl:=afU M go (T.N+1) mI (.slice (some ⟨gn,0,none⟩) T.N jj) va (rv T.C (dh.getD f 0)) (T.ku ((j:Int)-1) q) wr mg (by omega) (by omega) (by omega) (by rw[hf,mj];exact Ru);have V9:=J3.o.blk f qw;(have cV:wr.cell? ⟨dh.getD f 0,q,none⟩=some (V f q):=by rw[aF V9];simp[qy]);have lb:=aE V9;obtain⟨MJ,HN2,HF,BKB⟩:=dH Ck Fl hf V9;generalize hbf:dh.getD f 0=bf at *;have HBF:=aj hbf;generalize ry:T.ku ((j:Int)-1) q=nx0 at *;have MM:=aj ry;have VG:=aj (J3.o.own f q qw qy);have hLl:=(Gt.o f q hfN qy).1;rw[az (by omega)]at hLl;obtain⟨i0,cS,dc,dm,cW⟩:=iw DQ;obtain⟨I0,Z0,Z1,Z2⟩:=dH cS dc dm cW;clear cS dc dm cW mg Ck Fl Ru V9 hbf hf yR bM ry;go_wp2_with fail;refine MJ.o.mono ?_;rintro _ w1 ⟨rfl,rfl⟩;go_wp2_with fail;refine HN2.o.mono ?_;rintro _ w2 ⟨rfl,rfl⟩;go_upto_region 12 with fail;apply fD
       iterate 24 go_step
       refine qU rfl _ _ _ rfl 3 i0 _ 1 8 qR I0.o Z0.o Z1.o Z2.o rfl (by omega) (V f q) (L f q).length (iv (L f q)) rfl (VG.o.alloc _) ⟨w2.heap.size,0,none⟩ 1 1 [.int .i64 ((j:Int)-1)] rfl rfl (gN (cs:=#[.int .i64 ((j:Int)-1)]) (t:=3) (fr:=(0,0)) (jS w2 _)) (by simp[dS]) (by omega) (by unfold eB;omega) (by omega) (w2.heap.size+1) (by simp) ?_;intro g1 aP w4 cT bj cy iz;have b4:w4.heap[bf]?=some (.cells ((lU T.C).map (V f)).toArray 61 (0,0)):=fY bj (b:=bf) (by rw[aC,az (bY lb)];exact BKB.o) (fun e=>by
        obtain⟨c',f',q'⟩:=rG VG.o e;exact uO BKB.o q' (by decide) rfl)
       (have c4:w4.cell? ⟨bf,q,none⟩=some (V f q):=by rw[aF b4];simp[qy]);have f4:=cM b4 q;obtain⟨og4,k4,i4⟩:=J3.o.push (s:=f) (k:=q) (x:=(j:Int)-1) qw qy cT bj cy;rw[HBF.o]at og4 k4;obtain⟨OG4,K4,I4⟩:=cR og4 k4 i4;clear og4 k4 i4 cT bj cy iz b4 I0 Z0 Z1 Z2 MJ HN2 cV kp;go_wp2;have sx:∀g,yf (.slice (some ⟨go,0,none⟩) (T.N+1) mI) T.C dh (rS V f q (.slice (some ⟨g1,0,none⟩) ((L f q).length+1) aP)) g->w.heap.size<=g:=fun g hg=>by
        rcases I4.o g hg with e|e
        .exact sY.o g e
        .have:=GD.o.size;omega
       (have Uj:∀g,yf (.slice (some ⟨go,0,none⟩) (T.N+1) mI) T.C dh V g->M≠g:=fun g hg e=>by have:=sY.o g hg;omega);have inb:yf (.slice (some ⟨go,0,none⟩) (T.N+1) mI) T.C dh V bf:=.inr (.inl (by rw[<-HBF.o];exact Wz qw));refine⟨⟨q+1,rS V f q (.slice (some ⟨g1,0,none⟩) ((L f q).length+1) aP),rS L f q (L f q ++ [(j:Int)-1]),by omega,by go_num,OG4.o,?_,?_,?_,sx⟩,by simp[aG];omega⟩
       .intro s k hs hk;obtain⟨l3,m3⟩:=Gt.o s k hs hk;by_cases e:s=f/\k=q
        .obtain⟨rfl,rfl⟩:=e;rw[AE];refine⟨by rw[cx,iq,aA (by omega)];omega,fun t=>?_⟩;rw[jr,bQ,m3 t];have e1:=MM.o;have e2:=HF.o;constructor
         .rintro(⟨a,b|⟨b,b'⟩,c⟩|rfl)
          .exact⟨a,.inl b,c⟩
          .omega
          .exact⟨by omega,.inr ⟨rfl,by omega⟩,by rw[e1];exact e2⟩
         .rintro⟨a,b|⟨b,b'⟩,c⟩
          .exact .inl ⟨a,.inl b,c⟩
          .exact .inr b
        .have e':s≠f\/k≠q:=by
          by_cases z:s=f
          .exact .inr (fun r=>e ⟨z,r⟩)
          .exact .inl z
         rw[ud _ _ e'];refine⟨?_,fun t=>?_⟩
         .by_cases z:k<q
          .rw[aA z]at l3;rw[aA (by omega)];exact l3
          .rw[az z]at l3;omega
         .rw[m3 t];have e1:=MM.o;have e2:=HF.o;constructor
          .rintro⟨a,b|⟨b,b'⟩,c⟩
           .exact⟨a,.inl b,c⟩
           .exact⟨a,.inr ⟨b,by omega⟩,c⟩
          .rintro⟨a,b|⟨b,b'⟩,c⟩
           .exact⟨a,.inl b,c⟩
           .refine⟨a,.inr ⟨b,?_⟩,c⟩;by_cases z:k=q
            .exfalso;subst z;rw[b,e1]at c;have:s=f:=(by omega);rcases e' with y|y
             .exact y this
             .exact y rfl
            .omega
       .refine K4.o.keep UM.o ?_;intro hm;rcases gH.1 hm with e|e
        .exact Uj _ inb e
        .exact Uj _ (.inr (.inr ⟨f,q,qw,qy,by simpa using e⟩)) rfl
       .refine GD.o.trans K4.o (fun y hy=>.inr ?_);rcases gH.1 hy with e|e
        .rw[e];exact sY.o _ inb
        .exact sY.o _ (.inr (.inr ⟨f,q,qw,qy,by simpa using e⟩))
      .have hqC:q=T.C:=(by omega);subst hqC;clear bM kp;go_wp2;refine⟨⟨j+1,V,L,by omega,by go_num,J3.o,fun s k hs hk=>?_,UM.o,GD.o,sY.o⟩,by simp[aG];omega⟩;obtain⟨l3,m3⟩:=Gt.o s k hs hk;rw[aA hk]at l3;refine⟨l3,fun t=>?_⟩;rw[m3 t];constructor
       .rintro⟨a,b|⟨b,_⟩,c⟩
        .exact⟨a,by omega,c⟩
        .exact⟨a,by omega,c⟩
       .rintro⟨a,b,c⟩;by_cases z:t=(j:Int)-1
        .exact⟨a,.inr ⟨z,hk⟩,c⟩
        .exact⟨a,.inl (by omega),c⟩
    .have hjN:j=T.N+1:=(by omega);subst hjN;have hj':¬((T.N+1:Nat):Int)-1<T.N:=(by omega);go_wp2;go_end0;refine⟨rfl,.slice (some ⟨go,0,none⟩) (T.N+1) mI,dh,JC.o,V,L,QE.o,fun s k hs hk t=>?_,BM2.o,mm.o,jN.o⟩;rw[(HL.o s k hs hk).2 t];constructor
     .rintro⟨a,b,c⟩;exact⟨a,by omega,c⟩
     .rintro⟨a,b,c⟩;exact⟨a,by omega,c⟩
end
section
variable{x k:Nat}
theorem aa4:∀(M:Nat) (l:List Nat),l.Nodup->(∀a∈l,a<M)->ae l<=M:=by
 intro M;induction M with
 |zero =>
  intro l _ h;cases l with
  |nil=>exact aH _
  |cons a l=>have:=h a (by simp);omega
 |succ M ih =>
  intro l hn h;by_cases hm:M∈l
  .have:=ih (l.erase M) (hn.erase M) fun a ha=>by
    have:=(hn.mem_erase_iff).1 ha;have h2:=h a this.2;have h3:=this.1;omega
   have e:=List.length_erase_of_mem hm;omega
  .have:=ih l hn fun a ha=>by
    have h2:=h a ha;(have:a≠M:=by rintro rfl;exact hm ha);omega
   omega
theorem aj4(p n:Nat)(S:List (Nat×Nat))(hn:S.Nodup)(h:∀s∈S,s.1<2 ^ p/\s.2<2 ^ n):(ae S)<=2 ^ p*2 ^ n:=by
 have key:=aa4 (2 ^ p*2 ^ n) (S.map fun s=>s.1*2 ^ n+s.2) ?_ ?_
 .rw[mX]at key;exact key
 .unfold List.Nodup at *;rw[List.pairwise_map];refine List.Pairwise.imp_of_mem ?_ hn;intro a b ha hb cP e;apply cP;have h1:=(h a ha).2;have h2:=(h b hb).2;generalize 2 ^ n=K at *;have hK:0<K:=(by omega);have e1:a.1=b.1:=by
   have x:(a.1*K+a.2) / K=a.1:=(by rw[Nat.mul_comm,aaq hK,Vx h1,yl]);have y:(b.1*K+b.2) / K=b.1:=(by rw[Nat.mul_comm,aaq hK,Vx h2,yl]);rw[<-x,<-y,e]
  have e2:a.2=b.2:=by rw[e1]at e;omega
  exact Prod.ext e1 e2
 .intro a ha;obtain⟨s,hs,rfl⟩:=kY.1 ha;have:=h s hs;have h3:(s.1+1)*2 ^ n<=2 ^ p*2 ^ n:=Ez _ (by omega);rw[J1,Nat.one_mul]at h3;show s.1*2 ^ n+s.2<2 ^ p*2 ^ n;omega
theorem Ue(h:∀i,x.testBit i=true->i<k):x<2 ^ k:=by
 apply M1;intro i hi;cases e:x.testBit i with
 |false=>rfl
 |true=>have:=h i e;omega
theorem adP{i:Nat}(h:x<2 ^ k)(hb:x.testBit i=true):i<k:=by
 rcases eK i k with c|c
 .exact c
 .rw[QC (tC h (EA (by omega) c))]at hb;cases hb
theorem ai2(fs:List Nat)(p h:Nat)(hf:∀q,fs.getD q 0<2 ^ p)(k:Nat):ke fs h k<2 ^ p:=Ue fun i hi=>by
 obtain⟨q,_,_,b⟩:=(Hl fs h i k).1 hi
 exact adP (hf q) b
theorem ahr(l:Nat->Nat)(h n:Nat):qF l h n<2 ^ n:=Ue fun i hi=>((UK l h i n).1 hi).1
theorem aka(f:Nat->Nat)(n p:Nat)(hf:∀i,i<n->f i<2 ^ p):cH f n<2 ^ p:=Ue fun i hi=>by
 obtain⟨j,hj,b⟩:=(Fa f i n).1 hi
 exact adP (hf j hj) b
theorem aou(bs fs:List Nat)(l:Nat->Nat)(n p:Nat)(s:Nat×Nat)(c:Nat)(hf:∀q,fs.getD q 0<2 ^ p):(sP bs fs l n s c).1<2 ^ p/\(sP bs fs l n s c).2<2 ^ n:=⟨ai2 fs p _ hf _,ahr l _ n⟩
theorem ED.small{B F:Nat->Nat}{n:Nat}{lo:Nat->Nat}{e:Nat->Bool}{f l:Nat->Nat}{L:Nat->cC}(h:ED B F n lo e f l L):(∀i,i<n->f i<2 ^ lo n)/\(∀i q,i<n->lo i<=q->q<lo (i+1)->F q<2 ^ lo n):=by
 refine⟨fun i hi=>Ue fun q hq=>?_,fun i q hi h1 h2=>Ue fun r hr=>?_⟩
 .have:=(h.part i hi).fi q hq;have:=h.mono (i+1) n (by omega) (by omega);omega
 .have:=(h.part i hi).fo q h1 h2 r hr;have:=h.mono (i+1) n (by omega) (by omega);omega
end
section
variable{N:Nat}
section
open Go.RowKit Go.ChangeMaps
def iG(w:ay)(M:Nat)(cc:Array aq)(vn va vo:aq)(F:List Nat)(ks:List aq)(tk:Nat):Prop :=
 ∃vm vs,w.heap[M]?=some (LI cc vn va vo vm vs (.int .i64 tk))/\gy w 185 2 vm vs ks/\M∉dV vm vs/\F=M::dV vm vs
section
variable{w:ay}{M:Nat}{cc:Array aq}{vn va vo:aq}{F:List Nat}{ks:List aq}{tk:Nat}
theorem iG.kp{w':ay}{xs:List Nat}(h:iG w M cc vn va vo F ks tk)(hk:Kp xs w w')(hx:∀x∈xs,x∉F):iG w' M cc vn va vo F ks tk:=by
 obtain⟨vm,vs,b,n,m,rfl⟩:=h;exact⟨vm,vs,hk.keep b (fun e=>hx _ e (by simp)),n.kp hk (fun k hm hf=>hx k hm (by simp[hf])),m,rfl⟩
theorem iG.lt(h:iG w M cc vn va vo F ks tk):∀g∈F,g<w.heap.size:=by
 obtain⟨vm,vs,b,n,m,rfl⟩:=h;intro g hg;rcases gH.1 hg with rfl|hg
 .exact aE b
 .exact n.lt g hg
theorem iG.mem(h:iG w M cc vn va vo F ks tk):M∈F:=by obtain⟨vm,vs,b,n,m,rfl⟩:=h;simp
theorem iG.nodup(h:iG w M cc vn va vo F ks tk):ks.Nodup:=by obtain⟨vm,vs,b,n,m,rfl⟩:=h;exact n.nodup
theorem iG.OE(gE:cc.size=256)(h:iG w M cc vn va vo F ks tk):MY w M vn va vo:=by
 obtain⟨vm,vs,b,n,m,rfl⟩:=h;exact⟨by rw[aF b,II gE],by rw[aF b,OC gE],by rw[aF b,IJ gE]⟩
theorem iG.taken(gE:cc.size=256)(h:iG w M cc vn va vo F ks tk):w.cell? ⟨M,261,none⟩=some (.int .i64 tk):=by
 obtain⟨vm,vs,b,n,m,rfl⟩:=h;rw[aF b,LH gE]
theorem iG.put(gE:cc.size=256)(h:iG w M cc vn va vo F ks tk)(a b:Int)(hk:ji aB 185 (cQ a b))(dD:(ae ks)<100000):aI aB 90 #[.pointer (some ⟨M,259,none⟩),cQ a b] w fun e w'=>∃(i:Nat) (F':List Nat),e=.returned (.int .i64 i)/\iG w' M cc vn va vo F' (jF ks (cQ a b)) tk/\Kp F w w'/\∀g∈F',g∈F\/w.heap.size<=g:=by
 obtain⟨vm,vs,bl,n,m,rfl⟩:=h;refine(am8 M 259 _ 153 vm vs ks a b w bl (OD gE ..) (LG gE ..) n hk m dD).mono ?_;rintro _ w2 ⟨i,gK,vs',rfl,hi,hp⟩;refine⟨i,M::dV gK vs',rfl,⟨gK,vs',?_,hp.ok,?_,rfl⟩,hp.kp,?_⟩
 .have:=hp.blk;rw[al0 gE]at this;exact this
 .intro hm;rcases hp.foot M hm with e|e
  .exact m e
  .have:=aE bl;omega
 .intro g hg;rcases gH.1 hg with rfl|q
  .exact .inl (by simp)
  .rcases hp.foot g q with e|e
   .exact .inl (by simp[e])
   .exact .inr e
theorem iG.CO(gE:cc.size=256)(h:iG w M cc vn va vo F ks (ae ks)):aI aB 91 #[.pointer (some ⟨M,259,none⟩)] w fun e w'=>e=.returned (.tuple #[cQ 0 0,.bool false])/\dA w.heap.size w w':=by
 obtain⟨vm,vs,bl,n,m,rfl⟩:=h;exact aoC M 259 _ 153 vm vs ks w bl (LG gE ..) n (LH gE ..)
theorem iG.Pb(gE:cc.size=256)(h:iG w M cc vn va vo F ks tk){a b:Int}(hk:ks[tk]?=some (cQ a b))(dD:(ae ks)<100000):aI aB 91 #[.pointer (some ⟨M,259,none⟩)] w fun e w'=>e=.returned (.tuple #[cQ a b,.bool true])/\iG w' M cc vn va vo F ks (tk+1)/\Kp [M] w w':=by
 obtain⟨vm,vs,bl,n,m,rfl⟩:=h;refine(aoD M 259 _ 153 vm vs ks tk a b w bl (LG gE ..) n (LH gE ..) hk dD).mono ?_;rintro _ w2 ⟨rfl,hb,kp⟩;refine⟨rfl,⟨vm,vs,?_,n.kp kp ?_,m,rfl⟩,kp⟩
 .rw[show 259+2=261 from rfl,alZ gE]at hb;exact hb
 .intro k hk hm;rw[bQ.1 hk]at hm;exact m hm
theorem iG.has(gE:cc.size=256)(h:iG w M cc vn va vo F ks tk)(a b:Int)(r:Bool)(hk:ji aB 185 (cQ a b))(hr:r=true↔cQ a b∈ks):aI aB 95 #[.pointer (some ⟨M,259,none⟩),cQ a b] w fun e w'=>e=.returned (.bool r)/\dA w.heap.size w w':=by
 obtain⟨vm,vs,bl,n,m,rfl⟩:=h;exact ao3 M 259 _ 153 vm vs ks a b r w bl (OD gE ..) n hk hr
end
def Bg(N:Nat)(x:aq):Prop:=∃a b:Int,x=cQ a b/\-1<=a/\a<b/\b<N
theorem ab9(hN:N<=100000){a b:Int}(h1:-1<=a)(h2:a<=N)(h3:-1<=b)(h4:b<=N):ji aB 185 (cQ a b):=agt (Pe (by omega) (by omega)) (Pe (by omega) (by omega))
theorem Us{a b c d:Int}(h:cQ a b=cQ c d):a=c/\b=d:=by
 simp only[cQ,Value.agg.injEq,Pj,zn,Np,true_and,and_true]at h;exact h
def ajK(N:Nat):aq->Nat
 |.agg #[.int _ a,.int _ b]=>(a+1).toNat*(N+1)+(b+1).toNat
 |_=>0
theorem acd(ks:List aq)(hn:ks.Nodup)(h:∀x∈ks,Bg N x):(ae ks)<=(N+1)*(N+1):=by
 have key:=aa4 ((N+1)*(N+1)) (ks.map (ajK N)) ?_ ?_
 .rw[mX]at key;exact key
 .unfold List.Nodup at *;rw[List.pairwise_map];refine List.Pairwise.imp_of_mem ?_ hn;intro x y hx hy cP e;obtain⟨a,b,rfl,a1,a2,a3⟩:=h x hx;obtain⟨c,d,rfl,c1,c2,c3⟩:=h y hy;apply cP;have e':(a+1).toNat*(N+1)+(b+1).toNat=(c+1).toNat*(N+1)+(d+1).toNat:=e;have hb:(b+1).toNat<N+1:=(by omega);have hd:(d+1).toNat<N+1:=(by omega);generalize hB:(b+1).toNat=B at *;generalize hD:(d+1).toNat=D at *;have e1:(a+1).toNat=(c+1).toNat:=by
   have x1:((a+1).toNat*(N+1)+B) / (N+1)=(a+1).toNat:=(by rw[Nat.mul_comm,aaq (by omega),Vx hb,yl]);have x2:((c+1).toNat*(N+1)+D) / (N+1)=(c+1).toNat:=(by rw[Nat.mul_comm,aaq (by omega),Vx hd,yl]);rw[<-x1,<-x2,e']
  rw[e1]at e';have e2:B=D:=(by omega);have q1:a=c:=(by omega);have q2:b=d:=(by omega);rw[q1,q2]
 .intro n hn;obtain⟨x,hx,rfl⟩:=kY.1 hn;obtain⟨a,b,rfl,a1,a2,a3⟩:=h x hx;show(a+1).toNat*(N+1)+(b+1).toNat<(N+1)*(N+1);have h1:((a+1).toNat+1)*(N+1)<=(N+1)*(N+1):=Ez _ (by omega);rw[J1,Nat.one_mul]at h1;omega
end
end
section
variable{l:List Int}{L:Nat->Nat->List Int}{p q:Int}{done':Int->Int->Nat->Prop}
section
open Go.RowKit Go.ChangeMaps
theorem XI{w:ay}{v:aq}(h:w.ownsRow 0 3 1 v (ae l) (iv l)):∃a cap,v=.slice a (ae l) cap/\(ae l)<=9223372036854775807/\∀i,i<ae l->∃g,a=some ⟨g,0,none⟩/\w.cell? ⟨g,i,none⟩=some (.int .i64 (l.getD i 0)):=by
 rcases h.2 with⟨rfl,e⟩|⟨g,cap,cur,rfl,_,_,l1,l2,_⟩
 .exact⟨none,0,by rw[e],by omega,fun i hi=>by omega⟩
 .refine⟨_,cap,rfl,by unfold eB at l2;omega,fun i hi=>⟨g,rfl,?_⟩⟩;rw[h.cellAt i (by omega),kx,bD hi,aO,bD hi];rfl
theorem af2{i:Nat}(hi:i<ae l):l.getD i 0∈l:=by
 rw[aO,bD hi];exact nE hi
theorem af0{x:Int}(h:x∈l):∃i,i<ae l/\l.getD i 0=x:=by
 obtain⟨i,hi,e⟩:=Vr.1 h;exact⟨i,hi,by rw[aO,bD hi];exact e⟩
structure PO(T:bw)(L:Nat->Nat->List Int)(p q:Int)(ks ks':List aq)(done:Int->Int->Nat->Prop):Prop where
 pre:ks <+: ks'
 new:∀x∈ks',x∈ks\/∃(a b:Int) (k:Nat),k<T.C/\a∈L (p+1).toNat k/\b∈L (q+1).toNat k/\x=cQ (min a b) (max a b)
 all:∀(a b:Int) (k:Nat),k<T.C->a∈L (p+1).toNat k->b∈L (q+1).toNat k->done a b k->cQ (min a b) (max a b)∈ks'
theorem PO.step{T:bw}{ks ks':List aq}{done:Int->Int->Nat->Prop}(h:PO T L p q ks ks' done){a b:Int}{k:Nat}(hk:k<T.C)(ha:a∈L (p+1).toNat k)(hb:b∈L (q+1).toNat k)(hd:∀a' b' k',done' a' b' k'->done a' b' k'\/(a'=a/\b'=b/\k'=k) ):PO T L p q ks (jF ks' (cQ (min a b) (max a b))) done':=by
 have lK:∀x∈ks',x∈jF ks' (cQ (min a b) (max a b)):=fun x hx=>by
  by_cases q:cQ (min a b) (max a b)∈ks'
  .rw[uC q];exact hx
  .rw[sj q];simp[hx]
 have mem:cQ (min a b) (max a b)∈jF ks' (cQ (min a b) (max a b)):=by
  by_cases q:cQ (min a b) (max a b)∈ks'
  .rw[uC q];exact q
  .rw[sj q];simp
 refine⟨?_,fun x hx=>?_,fun a' b' k' h1 h2 h3 h4=>?_⟩
 .refine h.pre.trans ?_;by_cases q:cQ (min a b) (max a b)∈ks'
  .rw[uC q];exact⟨[],by simp⟩
  .rw[sj q];exact⟨_,rfl⟩
 .have:x∈ks'\/x=cQ (min a b) (max a b):=by
   by_cases q:cQ (min a b) (max a b)∈ks'
   .rw[uC q]at hx;exact .inl hx
   .rw[sj q]at hx;rcases jr.1 hx with z|z
    .exact .inl z
    .exact .inr (bQ.1 z)
  rcases this with z|z
  .exact h.new x z
  .exact .inr ⟨a,b,k,hk,ha,hb,z⟩
 .rcases hd a' b' k' h4 with z|⟨rfl,rfl,rfl⟩
  .exact lK _ (h.all a' b' k' h1 h2 h3 z)
  .exact mem
theorem PO.done{T:bw}{ks ks':List aq}{done:Int->Int->Nat->Prop}(h:PO T L p q ks ks' done)(hd:∀a' b' k',k' < T.C->a' ∈ L (p+1).toNat k'->b' ∈ L (q+1).toNat k'->done' a' b' k'->done a' b' k'):PO T L p q ks ks' done' :=
 ⟨h.pre,h.new,fun a b k h1 h2 h3 h4=>h.all a b k h1 h2 h3 (hd a b k h1 h2 h3 h4)⟩
theorem amY(M:Nat)(cc:Array aq)(vn va vo:aq)(T:bw)(dh:List Nat)(V:Nat->Nat->aq)(L:Nat->Nat->List Int)(F:List Nat)(ks:List aq)(tk:Nat)(p q:Int)(w:ay)(gE:cc.size=256)(h:iG w M cc vn va vo F ks tk)(hO:∀w',Kp F w w'->sg w' vo T.C dh V L)(hb:(ae dh)=T.N+1)(hL:QG T L)(hp:-1<=p)(zT:p<q)(hq:q<T.N)(hN:T.N<=250)(hC:T.C<=256)(hks:∀x∈ks,Bg T.N x):aI aB 92 #[.pointer (some ⟨M,0,none⟩),cQ p q] w fun e w'=>e=.returned (.tuple #[])/\∃(F':List Nat) (ks':List aq),PO T L p q ks ks' (fun _ _ _=>True)/\(∀x∈ks',Bg T.N x)/\iG w' M cc vn va vo F' ks' tk/\Kp F w w'/\∀g∈F',g∈F\/w.heap.size<=g:=by
 obtain⟨HH,HO,zi,ZR⟩:=dH h hO hL hks;have lF:=aj h.lt;obtain⟨go,mI,Tv⟩:∃go mI,vo=.slice (some ⟨go,0,none⟩) (T.N+1) mI:=by
  rcases(hO w (Kp.refl _ _)).row.2 with⟨_,e⟩|⟨g,cap,cur,e,_⟩
  .omega
  .exact⟨g,cap,by rw[e,hb]⟩
 subst Tv;obtain⟨p',hp'⟩:∃p':Nat,p+1=p':=⟨(p+1).toNat,by omega⟩
 obtain⟨q',hq'⟩:∃q':Nat,q+1=q':=⟨(q+1).toNat,by omega⟩
 have fA:p' < (ae dh):=(by omega);have qy:q' < (ae dh):=(by omega);have Ru:∀(w':ay),Kp F w w'->∀f,f<ae dh->w'.cell? ⟨go,f,none⟩=some (rv T.C (dh.getD f 0)):=fun w' k' f hf=>by
  have hr:=(hO w' k').row;have:w'.ownsRow 0 28 1 (.slice (some ⟨go,0,none⟩) (ae dh) mI) (ae dh) (dh.map (rv T.C)):=by rw[hb];rw[hb]at hr;exact hr
  rw[this.cellAt f (by omega),kx,bD hf,aO,bD hf];rfl
 have abk:∀(w':ay) (s:Int) (f:Nat),Kp F w w'->iG w' M cc vn va (.slice (some ⟨go,0,none⟩) (T.N+1) mI) F ks tk->s+1=f->f<ae dh->aI aB 87 #[.pointer (some ⟨M,0,none⟩),.int .i64 s] w' fun e w''=>e=.returned (rv T.C (dh.getD f 0))/\w''=w':=fun w' s f k' a' hs hf =>
  afU M go (T.N+1) mI vn va (rv T.C (dh.getD f 0)) s w' (a'.OE gE) (by omega) (by omega) (by omega) (by rw[hs,mj];exact Ru w' k' f hf)
 obtain⟨bp,hbp⟩:∃b,dh.getD p' 0=b:=⟨_,rfl⟩
 obtain⟨bq,Ss⟩:∃b,dh.getD q' 0=b:=⟨_,rfl⟩
 have hfp:∀(w':ay),Kp F w w'->iG w' M cc vn va (.slice (some ⟨go,0,none⟩) (T.N+1) mI) F ks tk->aI aB 87 #[.pointer (some ⟨M,0,none⟩),.int .i64 p] w' fun e w''=>e=.returned (rv T.C bp)/\w''=w':=fun w' k' a'=>by
  have:=abk w' p p' k' a' hp' fA;rw[hbp]at this;exact this
 have hfq:∀(w':ay),Kp F w w'->iG w' M cc vn va (.slice (some ⟨go,0,none⟩) (T.N+1) mI) F ks tk->aI aB 87 #[.pointer (some ⟨M,0,none⟩),.int .i64 q] w' fun e w''=>e=.returned (rv T.C bq)/\w''=w':=fun w' k' a'=>by
  have:=abk w' q q' k' a' hq' qy;rw[Ss]at this;exact this
 have HFP:=aj hfp;have HFQ:=aj hfq;have cVp:∀(w':ay),Kp F w w'->∀k,k<T.C->w'.cell? ⟨bp,k,none⟩=some (V p' k):=fun w' k' k hk=>by
  rw[<-hbp,aF ((hO w' k').blk p' fA)];simp[hk]
 have cVq:∀(w':ay),Kp F w w'->∀k,k<T.C->w'.cell? ⟨bq,k,none⟩=some (V q' k):=fun w' k' k hk=>by
  rw[<-Ss,aF ((hO w' k').blk q' qy)];simp[hk]
 have HCP:=aj cVp;have HCQ:=aj cVq;clear abk hfp hfq cVp cVq hbp Ss;have cV:∀(w':ay),Kp F w w'->∀f k,f<ae dh->k<T.C->w'.cell? ⟨dh.getD f 0,k,none⟩=some (V f k):=fun w' k' f k hf hk=>by
  rw[aF ((hO w' k').blk f hf)];simp[hk]
 have HCV:=aj cV;have HB:=aj hb;have HP':=aj hp';have HQ':=aj hq';clear h hO hL hks Ru cV hb hp' hq';go_enter Tryz.func92,Tryz.ntmps92;go_upto_region 1 with fail;have kW:Kp [] w (w.alloc (jB p q)):=(Kp.refl _ w).alloc _;have bX:(w.alloc (jB p q)).heap[w.heap.size]?=some (jB p q):=(by rw[aC,aA rfl]);generalize (w.alloc (jB p q))=W at *;obtain⟨x0,x1,xr⟩:=two bX;have KW:=aj kW;have AW:=aj (HH.o.kp kW (by simp));have lW:=aE bX;clear kW bX xr;go_wp2_with fail;refine(HFQ.o _ (KW.o.mono (by simp)) AW.o).mono ?_;rintro _ w1 ⟨rfl,rfl⟩;go_wp2_with fail;refine(HFP.o _ (KW.o.mono (by simp)) AW.o).mono ?_;rintro _ w2 ⟨rfl,rfl⟩;clear x0 x1;have ep:(p+1).toNat=p':=(by rw[HP'.o,mj]);have eq:(q+1).toNat=q':=(by rw[HQ'.o,mj]);have EP:=aj ep;have EQ:=aj eq;clear ep eq;go_wp2_with fail;go_loopw [20] (fun s w'=>∃(c:Nat) (F':List Nat) (ks':List aq),c<=T.C/\s=.int .i64 c/\PO T L p q ks ks' (fun _ _ k=>k<c)/\(∀x∈ks',Bg T.N x)/\iG w' M cc vn va (.slice (some ⟨go,0,none⟩) (T.N+1) mI) F' ks' tk/\Kp F w w'/\(∀g∈F',g∈F\/w.heap.size<=g))
  (fun s _=>T.C-(aG s).toNat)
 case atStart=>exact⟨0,F,ks,by omega,rfl,⟨⟨[],by simp⟩,fun x hx=>.inl hx,fun a b k _ _ _ h=>by omega⟩,ZR.o,AW.o,KW.o.mono (by simp),fun g hg=>.inl hg⟩
 case round =>
  obtain⟨c,F1,FD,hc,rfl,po,iL,ap,kp,fr⟩:=hrel;obtain⟨PO1,AU,AP1,Qs,oH⟩:=jd po iL ap kp fr;clear po iL ap kp fr;by_cases dw:c<T.C
  .have yI:(c:Int)<T.C:=(by omega);obtain⟨ap1,cp1,evp,aqm,rdp⟩:=XI ((HO.o wr Qs.o).own p' c fA dw);obtain⟨aq1,Kv,evq,aqn,rdq⟩:=XI ((HO.o wr Qs.o).own q' c qy dw);have cp:wr.cell? ⟨bp,c,none⟩=some (.slice ap1 (L p' c).length cp1):=(by rw[HCP.o wr Qs.o c dw,evp]);obtain⟨EVP,EVQ,RDP,RDQ⟩:=dH evp evq rdp rdq;clear evp evq rdp rdq;go_wp2_with fail;go_loopw [27] (fun s w'=>∃(i:Nat) (F':List Nat) (ks':List aq),i<=(L p' c).length/\s=.int .i64 i/\PO T L p q ks ks' (fun a _ k=>k<c\/(k=c/\∃i',i' < i/\(L p' c).getD i' 0=a))/\(∀x∈ks',Bg T.N x)/\iG w' M cc vn va (.slice (some ⟨go,0,none⟩) (T.N+1) mI) F' ks' tk/\Kp F w w'/\(∀g∈F',g∈F\/w.heap.size<=g))
    (fun s _=>(L p' c).length-(aG s).toNat)
   case atStart=>exact⟨0,F1,FD,by omega,rfl,PO1.o.done (fun a b k _ _ _ h=>by rcases h with z|⟨_,i',z,_⟩;exact z;omega),AU.o,AP1.o,Qs.o,oH.o⟩
   case round =>
    obtain⟨i,F2,tZ,hi,rfl,po,iL,ap,kp,fr⟩:=hrel;obtain⟨PO2,acZ,uZ,mm,jN⟩:=jd po iL ap kp fr;clear po iL ap kp fr cp;by_cases dx:i<(L p' c).length
    .have gZ:(i:Int)<(L p' c).length:=(by omega);have cpi:∃g,ap1=some ⟨g,0,none⟩/\wr.cell? ⟨g,i,none⟩=some (.int .i64 ((L p' c).getD i 0)):=by
      obtain⟨a2,c2,e2,_,r2⟩:=XI ((HO.o wr mm.o).own p' c fA dw);(have:a2=ap1:=by rw[EVP.o]at e2;cases e2;rfl);rw[<-this];exact r2 i dx
     obtain⟨gp,rfl,cpi⟩:=cpi;have cq:wr.cell? ⟨bq,c,none⟩=some (.slice aq1 (L q' c).length Kv):=(by rw[HCQ.o wr mm.o c dw,EVQ.o]);(have hA:(L p' c).getD i 0∈L (p+1).toNat c:=by rw[EP.o];exact af2 dx);have HA:=aj hA;generalize hAv:(L p' c).getD i 0=A at *;have HAV:=aj hAv;clear hA hAv;go_wp2_with fail;go_loopw [36] (fun s w'=>∃(j:Nat) (F':List Nat) (ks':List aq),j<=(L q' c).length/\s=.int .i64 j/\PO T L p q ks ks' (fun a b k=>k<c\/(k=c/\((∃i',i' < i/\(L p' c).getD i' 0=a)\/((L p' c).getD i 0=a/\∃j',j' < j/\(L q' c).getD j' 0=b))))/\(∀x∈ks',Bg T.N x)/\iG w' M cc vn va (.slice (some ⟨go,0,none⟩) (T.N+1) mI) F' ks' tk/\Kp F w w'/\(∀g∈F',g∈F\/w.heap.size<=g))
      (fun s _=>(L q' c).length-(aG s).toNat)
     case atStart=>exact⟨0,F2,tZ,by omega,rfl,PO2.o.done (fun a b k _ _ _ h=>by rcases h with z|⟨z,y|⟨_,j',y,_⟩⟩;exact .inl z;exact .inr ⟨z,y⟩;omega),acZ.o,uZ.o,mm.o,jN.o⟩
     case round =>
      obtain⟨j,F3,Ox,hj,rfl,po,iL,ap,kp,fr⟩:=hrel;obtain⟨PO3,U4,Ji,GD,sY⟩:=jd po iL ap kp fr;clear po iL ap kp fr cq cpi;by_cases Cf:j<(L q' c).length
      .have apN:(j:Int)<(L q' c).length:=(by omega);have cqj:∃g,aq1=some ⟨g,0,none⟩/\wr.cell? ⟨g,j,none⟩=some (.int .i64 ((L q' c).getD j 0)):=by
        obtain⟨a2,c2,e2,_,r2⟩:=XI ((HO.o wr GD.o).own q' c qy dw);(have:a2=aq1:=by rw[EVQ.o]at e2;cases e2;rfl);rw[<-this];exact r2 j Cf
       obtain⟨gq,rfl,cqj⟩:=cqj;(have hBm:(L q' c).getD j 0∈L (q+1).toNat c:=by rw[EQ.o];exact af2 Cf);have HBm:=aj hBm;generalize hBv:(L q' c).getD j 0=Bv at *;have HBV:=aj hBv;have hAr:=(zi.o (p+1).toNat c (by omega) dw A).1 HA.o;have hBr:=(zi.o (q+1).toNat c (by omega) dw Bv).1 hBm;have cP:A≠Bv:=by
        rintro rfl;have h1:=hAr.2.2;have h2:=hBr.2.2;omega
       have Ch:ji aB 185 (cQ (min A Bv) (max A Bv)):=ab9 (N:=T.N) (by omega) (by omega) (by omega) (by omega) (by omega);have zO:=acd Ox Ji.o.nodup U4.o;have KY:(T.N+1)*(T.N+1)<=251*251:=Nat.mul_le_mul (by omega) (by omega);have Te:Bg T.N (cQ (min A Bv) (max A Bv)):=⟨_,_,rfl,by omega,by omega,by omega⟩;have ae5:(ae Ox)<100000:=(by omega);obtain⟨Vb,Gs,ahR⟩:=cR Te Ch ae5;clear hBm hBv zO KY Te Ch ae5 hAr hBr cP;go_upto_region 11 with fail;go_region_with ((first|(go_at_call 106;refine(ali A Bv _).mono ?_;rintro _ w4 ⟨rfl,h4⟩;have k4:=(Kp.refl [] wr).drew.below h4;have a4:=Ji.o.kp k4 (by simp))|(go_at_call 90;refine(a4.put gE _ _ Gs.o ahR.o).mono ?_;rintro _ w5 ⟨n5,F5,rfl,a5,rC,sy⟩)))
       all_goals
        have A5:=aj a5;have K5:ax (Kp F w w5):=GD.o.trans ((k4.mono (by simp)).trans rC (fun y hy=>.inl hy)) (fun y hy=>sY.o y hy);have UT:ax (∀g∈F5,g∈F\/w.heap.size<=g):=fun g hg=>by
         rcases sy g hg with e|e
         .exact sY.o g e
         .right;have:=k4.size;have:=GD.o.size;omega
        clear a5 rC sy a4 k4 h4 cqj;go_wp2;refine⟨⟨j+1,F5,_,by omega,by go_num,PO3.o.step dw HA.o HBm.o ?_,?_,A5.o,K5.o,UT.o⟩,by simp[aG];omega⟩
        .intro a' b' k' hd;rcases hd with z|⟨z,y|⟨y,j',y1,y2⟩⟩
         .exact .inl (.inl z)
         .exact .inl (.inr ⟨z,.inl y⟩)
         .by_cases e:j'=j
          .subst e;exact .inr ⟨by rw[<-y,HAV.o],by rw[<-y2,HBV.o],z⟩
          .exact .inl (.inr ⟨z,.inr ⟨y,j',by omega,y2⟩⟩)
        .intro x hx;by_cases e:cQ (min A Bv) (max A Bv)∈Ox
         .rw[uC e]at hx;exact U4.o x hx
         .rw[sj e]at hx;rcases jr.1 hx with z|z
          .exact U4.o x z
          .rw[bQ.1 z];exact Vb.o
      .have hjN:j=(L q' c).length:=(by omega);subst hjN;go_wp2;refine⟨⟨i+1,F3,Ox,by omega,by go_num,PO3.o.done (fun a' b' k' hk' ha' hb' hd=>?_),U4.o,Ji.o,GD.o,sY.o⟩,by simp[aG];omega⟩;rcases hd with z|⟨z,i',y1,y2⟩
       .exact .inl z
       .refine .inr ⟨z,?_⟩;by_cases e:i'=i
        .subst e;refine .inr ⟨y2,?_⟩;rw[z,EQ.o]at hb';exact af0 hb'
        .exact .inl ⟨i',by omega,y2⟩
    .have hiN:i=(L p' c).length:=(by omega);subst hiN;go_wp2;refine⟨⟨c+1,F2,tZ,by omega,by go_num,PO2.o.done (fun a' b' k' hk' ha' hb' hd=>?_),acZ.o,uZ.o,mm.o,jN.o⟩,by simp[aG];omega⟩;by_cases e:k'=c
     .refine .inr ⟨e,?_⟩;rw[e,EP.o]at ha';obtain⟨i',h1,h2⟩:=af0 ha';exact⟨i',h1,h2⟩
     .exact .inl (by omega)
  .have Su:c=T.C:=(by omega);subst Su;go_wp2;go_end0;exact⟨rfl,F1,FD,PO1.o.done (fun a' b' k' hk' _ _ _=>hk'),AU.o,AP1.o,Qs.o,oH.o⟩
end
end
section
variable{L:Nat->Nat->List Int}{p q:Int}
section
open Go.RowKit Go.ChangeMaps
def EI(T:bw)(ks:List aq):Prop:=∀x∈ks,∃a b:Int,x=cQ a b/\-1<=a/\a<b/\b<T.N/\¬iJ T a b
theorem EI.pin{T:bw}{ks:List aq}(h:EI T ks):∀x∈ks,Bg T.N x:=fun x hx=>by
 obtain⟨a,b,e,h1,h2,h3,_⟩:=h x hx
 exact⟨a,b,e,h1,h2,h3⟩
theorem iJ.amh{T:bw}{a b:Int}(h:iJ T (min a b) (max a b)):iJ T a b:=by
 rcases Int.le_total a b with e|e
 .rw[aag e,aaf e]at h;exact h
 .rw[aah e,aae e]at h;exact h.symm
theorem an4{T:bw}(hT:wQ T){a b:Int}{k:Nat}(hk:k<T.C)(h:iJ T a b):iJ T (T.ku a k) (T.ku b k):=by
 intro z hz;obtain⟨c,hc,rfl⟩:=hT.Hu k hk;have:=h (c::z) (hz.cons hc);rw[T.Yj,T.Yj]at this;exact this
theorem PO.snd{T:bw}{ks ks':List aq}{D:Int->Int->Nat->Prop}(h:PO T L p q ks ks' D)(hs:EI T ks)(hT:wQ T)(hL:QG T L)(hp:-1<=p)(hpN:p<T.N)(hq:-1<=q)(hqN:q<T.N)(hn:¬iJ T p q):EI T ks':=by
 intro x hx;rcases h.new x hx with z|⟨a,b,k,hk,ha,hb,rfl⟩
 .exact hs x z
 .have ra:=(hL (p+1).toNat k (by omega) hk a).1 ha;have rb:=(hL (q+1).toNat k (by omega) hk b).1 hb;have ea:T.ku a k=p:=by have:=ra.2.2;omega
  have eb:T.ku b k=q:=by have:=rb.2.2;omega
  have ns:¬iJ T a b:=fun s=>hn (by have:=an4 hT hk s;rw[ea,eb]at this;exact this)
  have cP:a≠b:=fun e=>ns (by rw[e];exact fun z _=>rfl)
  exact⟨min a b,max a b,rfl,by omega,by omega,by omega,fun s=>ns s.amh⟩
def Ju(T:bw)(ks:List aq)(x:aq):Prop:=∀p q:Int,x=cQ p q->∀(a b:Int) (k:Nat),k<T.C->-1<=a->a<T.N->-1<=b->b<T.N->T.ku a k=p->T.ku b k=q->cQ (min a b) (max a b)∈ks
theorem Ju.mono{T:bw}{ks ks':List aq}{x:aq}(h:Ju T ks x)(hp:ks <+: ks'):Ju T ks' x:=fun p q e a b k h1 h2 h3 h4 h5 h6 h7=>by
 obtain⟨t,rfl⟩:=hp
 exact Qy _ (h p q e a b k h1 h2 h3 h4 h5 h6 h7)
theorem PO.clo{T:bw}{ks ks':List aq}(h:PO T L p q ks ks' (fun _ _ _=>True))(hL:QG T L)(hp:-1<=p)(hpN:p<T.N)(hq:-1<=q)(hqN:q<T.N):Ju T ks' (cQ p q):=by
 intro p' q' e a b k hk h1 h2 h3 h4 h5 h6;obtain⟨rfl,rfl⟩:=Us e;exact h.all a b k hk ((hL _ k (by omega) hk a).2 ⟨h1,h2,by omega⟩) ((hL _ k (by omega) hk b).2 ⟨h3,h4,by omega⟩) trivial
theorem am0{T:bw}{ks:List aq}(hs:EI T ks)(ha:∀a b:Int,-1<=a->a<b->b<T.N->T.qS a≠T.qS b->cQ a b∈ks)(hc:∀x∈ks,Ju T ks x):J8 T (fun a b=>cQ a b∈ks):=by
 refine⟨fun a b h=>?_,ha,fun a b k h1 h2 h3 hk h=>?_⟩
 .obtain⟨c,d,e,h1,h2,h3,h4⟩:=hs _ h;obtain⟨rfl,rfl⟩:=Us e;exact⟨h1,h2,h3,h4⟩
 .have:=hc _ h _ _ rfl;rcases Int.le_total (T.ku a k) (T.ku b k)with e|e
  .have z:=this a b k hk h1 (by omega) (by omega) h3 (aag e).symm (aaf e).symm;rw[aag (by omega),aaf (by omega)]at z;exact z
  .have z:=this b a k hk (by omega) h3 h1 (by omega) (aah e).symm (aae e).symm;rw[aah (by omega),aae (by omega)]at z;exact z
theorem iG.take{w:ay}{M:Nat}{cc:Array aq}{vn va vo:aq}{F:List Nat}{ks:List aq}{tk N:Nat}(gE:cc.size=256)(h:iG w M cc vn va vo F ks tk)(iu:tk<=ae ks)(iL:∀x∈ks,Bg N x)(dD:(ae ks)<100000):aI aB 91 #[.pointer (some ⟨M,259,none⟩)] w fun e w'=>∃(a b:Int) (more:Bool),e=.returned (.tuple #[cQ a b,.bool more])/\Kp [M] w w'/\((more=true/\ks[tk]?=some (cQ a b)/\iG w' M cc vn va vo F ks (tk+1))\/(more=false/\tk=ae ks/\iG w' M cc vn va vo F ks tk)):=by
 by_cases e:tk<ae ks
 .obtain⟨a,b,ex,_⟩:=iL ks[tk] (nE e);have hk:ks[tk]?=some (cQ a b):=(by rw[bD e,ex]);refine(h.Pb gE hk dD).mono ?_;rintro _ w2 ⟨rfl,a2,k2⟩;exact⟨a,b,true,rfl,k2,.inl ⟨rfl,hk,a2⟩⟩
 .have e':tk=ae ks:=(by omega);subst e';refine(h.CO gE).mono ?_;rintro _ w2 ⟨rfl,h2⟩;have k2:Kp [] w w2:=(Kp.refl [] w).below h2;exact⟨0,0,false,rfl,k2.mono (by simp),.inr ⟨rfl,rfl,h.kp k2 (by simp)⟩⟩
def xJ:aq->Nat
 |.bool true=>1
 |_=>0
theorem amZ(M:Nat)(cc:Array aq)(vn va vo:aq)(T:bw)(dh:List Nat)(V:Nat->Nat->aq)(L:Nat->Nat->List Int)(F:List Nat)(w:ay)(gE:cc.size=256)(h:iG w M cc vn va vo F [] 0)(hO:∀w',Kp F w w'->sg w' vo T.C dh V L)(hTR:∀w',Kp F w w'->kz w' vn va T)(hb:(ae dh)=T.N+1)(hL:QG T L)(fA:wQ T)(hN:T.N<=250)(hC:T.C<=256):aI aB 62 #[.pointer (some ⟨M,0,none⟩)] w fun e w'=>e=.returned (.tuple #[])/\∃(F':List Nat) (ks:List aq) (tk:Nat),J8 T (fun a b=>cQ a b∈ks)/\(∀x∈ks,Bg T.N x)/\iG w' M cc vn va vo F' ks tk/\Kp F w w'/\∀g∈F',g∈F\/w.heap.size<=g:=by
 obtain⟨HH,HO,HTR,zi⟩:=dH h hO hTR hL;have lF:=aj h.lt;have mF:=h.mem;obtain⟨⟨gn,jj,rfl,ID,_⟩,_⟩:=hTR w (Kp.refl _ _);have qm:=(h.OE gE).qm;have Cm:=fA.pos;clear h hO hTR hL;go_enter Tryz.func62,Tryz.ntmps62;go_wp2_with fail;go_loopw [12] (fun s w'=>∃(n:Nat) (F':List Nat) (ks:List aq),n<=T.N/\s=.int .i64 n/\EI T ks/\(∀a b:Int,-1<=a->a<b->b<n->T.qS a≠T.qS b->cQ a b∈ks)/\iG w' M cc (.slice (some ⟨gn,0,none⟩) T.N jj) va vo F' ks 0/\Kp F w w'/\(∀g∈F',g∈F\/w.heap.size<=g))
  (fun s _=>T.N-(aG s).toNat)
 case atStart=>exact⟨0,F,[],by omega,rfl,fun x hx=>by simp at hx,fun a b h1 h2 h3=>by omega,HH.o,Kp.refl _ _,fun g hg=>.inl hg⟩
 case round =>
  obtain⟨n,F1,FD,hn,rfl,snd,eP,ap,kp,fr⟩:=hrel;obtain⟨QN,AQ,AP,KP,FR⟩:=jd snd eP ap kp fr;clear snd eP ap kp fr qm;by_cases tT:n<T.N
  .have Xn:(n:Int)<T.N:=(by omega);go_wp2_with fail;go_loopw [3] (fun s w'=>∃(m:Nat) (F':List Nat) (ks:List aq),m<=n+1/\s=.int .i64 ((m:Int)-1)/\EI T ks/\(∀a b:Int,-1<=a->a<b->(b<n\/(b=n/\a<(m:Int)-1))->T.qS a≠T.qS b->cQ a b∈ks)/\iG w' M cc (.slice (some ⟨gn,0,none⟩) T.N jj) va vo F' ks 0/\Kp F w w'/\(∀g∈F',g∈F\/w.heap.size<=g))
    (fun s _=>n+1-(aG s+1).toNat)
   case atStart=>exact⟨0,F1,FD,by omega,rfl,QN.o,fun a b h1 h2 h3 h4=>by rcases h3 with z|z;exact AQ.o a b h1 h2 z h4;omega,AP.o,KP.o,FR.o⟩
   case round =>
    obtain⟨m,F2,tZ,hm,rfl,snd,eP,ap,kp,fr⟩:=hrel;obtain⟨Dn,MG,uZ,mm,jN⟩:=jd snd eP ap kp fr;clear snd eP ap kp fr;by_cases hml:m<n+1
    .have abt:(m:Int)-1<n:=(by omega);have ha1:=afT M _ va vo T ((m:Int)-1) wr (uZ.o.OE gE) (HTR.o wr mm.o) (by omega) (by omega) (by omega);have ha2:=afT M _ va vo T (n:Int) wr (uZ.o.OE gE) (HTR.o wr mm.o) (by omega) (by omega) (by omega);have HA1:=aj ha1;have HA2:=aj ha2;clear ha1 ha2;generalize xC:T.qS ((m:Int)-1)=x1 at *;generalize sL:T.qS (n:Int)=x2 at *;have HX1:=aj xC;have Vf:=aj sL;clear xC sL;go_wp2_with fail;refine HA1.o.mono ?_;rintro _ w1 ⟨rfl,rfl⟩;go_wp2_with fail;refine HA2.o.mono ?_;rintro _ w2 ⟨rfl,rfl⟩;by_cases cP:x1=x2
     ·(have Xl:(x1 != x2)=false:=by simp[cP]);have vg:=aj cP;clear cP;go_wp2;refine⟨⟨m+1,F2,tZ,by omega,by go_num,Dn.o,fun a b h1 h2 h3 h4=>?_,uZ.o,mm.o,jN.o⟩,by simp[aG];omega⟩;by_cases e:b=n/\a=(m:Int)-1
      .exfalso;apply h4;rw[e.1,e.2,HX1.o,Vf.o];exact vg.o
      .exact MG.o a b h1 h2 (by omega) h4
     ·(have Xl:(x1 != x2)=true:=by simp[cP]);have vg:=aj cP;have Im:¬iJ T ((m:Int)-1) (n:Int):=fun s=>by
       have:=s [] (fun c hc=>by simp at hc);rw[T.Yk,T.Yk,HX1.o,Vf.o]at this;exact vg.o this
      have Z6:=aj Im;have Ch:ji aB 185 (cQ ((m:Int)-1) n):=ab9 (N:=T.N) (by omega) (by omega) (by omega) (by omega) (by omega);have Gs:=aj Ch;have zO:=acd tZ uZ.o.nodup Dn.o.pin;have KY:(T.N+1)*(T.N+1)<=251*251:=Nat.mul_le_mul (by omega) (by omega);have ak0:(ae tZ)<100000:=(by omega);clear cP Im Ch zO KY;go_wp2_with fail;refine(uZ.o.put gE _ _ Gs.o ak0).mono ?_;rintro _ w5 ⟨n5,F5,rfl,a5,rC,sy⟩;obtain⟨A5,K5,Zx⟩:=cR a5 rC sy;clear a5 rC sy;go_wp2;refine⟨⟨m+1,F5,jF tZ (cQ ((m:Int)-1) n),by omega,by go_num,fun x hx=>?_,fun a b h1 h2 h3 h4=>?_,A5.o,mm.o.trans K5.o (fun y hy=>jN.o y hy),fun g hg=>?_⟩,by simp[aG];omega⟩
      .have:x∈tZ\/x=cQ ((m:Int)-1) n:=by
        by_cases e:cQ ((m:Int)-1) n∈tZ
        .rw[uC e]at hx;exact .inl hx
        .rw[sj e]at hx;rcases jr.1 hx with z|z
         .exact .inl z
         .exact .inr (bQ.1 z)
       rcases this with z|z
       .exact Dn.o x z
       .exact⟨_,_,z,by omega,by omega,by omega,Z6.o⟩
      .by_cases e:b=n/\a=(m:Int)-1
       .rw[e.1,e.2];by_cases e2:cQ ((m:Int)-1) n∈tZ
        .rw[uC e2];exact e2
        .rw[sj e2];simp
       .have z:=MG.o a b h1 h2 (by omega) h4;by_cases e2:cQ ((m:Int)-1) n∈tZ
        .rw[uC e2];exact z
        .rw[sj e2];simp[z]
      .rcases Zx.o g hg with e|e
       .exact jN.o g e
       .right;have:=mm.o.size;omega
    .have S5:m=n+1:=(by omega);subst S5;have abt:¬((n+1:Nat):Int)-1<n:=(by omega);go_wp2;refine⟨⟨n+1,F2,tZ,by omega,by go_num,Dn.o,fun a b h1 h2 h3 h4=>MG.o a b h1 h2 (by omega) h4,uZ.o,mm.o,jN.o⟩,by simp[aG];omega⟩
  .have Xk:n=T.N:=(by omega);subst Xk;have Xn:¬(T.N:Int)<T.N:=(by omega);have abj:∀ks:List aq,ks.Nodup->EI T ks->ae ks<=63001:=fun ks h1 h2=>by
    have h3:=acd ks h1 h2.pin;have KY:(T.N+1)*(T.N+1)<=251*251:=Nat.mul_le_mul (by omega) (by omega);omega
   have acY:=aj abj;(have Lf:(ae FD)<100000:=by have:=abj FD AP.o.nodup QN.o;omega);clear abj;go_wp2_with fail;refine(AP.o.take gE (by omega) QN.o.pin Lf).mono ?_;rintro _ w2 ⟨a0,b0,aqq,rfl,k2,hm0⟩;have K2:=aj k2;have HM0:=aj hm0;clear k2 hm0;go_upto_region 10 with fail;have kA:Kp [] w2 (w2.alloc (jB a0 b0)):=(Kp.refl [] w2).alloc _;have bA:(w2.alloc (jB a0 b0)).heap[w2.heap.size]?=some (jB a0 b0):=(by rw[aC,aA rfl]);generalize (w2.alloc (jB a0 b0))=W3 at *;(have zV:∀tk,iG w2 M cc (.slice (some ⟨gn,0,none⟩) T.N jj) va vo F1 FD tk->w2.heap.size∉F1:=fun tk a' hm=>by have:=a'.lt _ hm;omega);have hws:w.heap.size<=w2.heap.size:=j8 KP.o.size K2.o.size;generalize w2.heap.size=Yx at *;obtain⟨KA,BA,HSB⟩:=cR kA bA zV;clear kA bA zV;go_loopw [4,5] (fun s4 s5 w'=>∃(sb:Nat) (more:Bool) (a b:Int) (F':List Nat) (ks:List aq) (tk n:Nat),s4=.pointer (some ⟨sb,0,none⟩)/\s5=.bool more/\EI T ks/\(∀a b:Int,-1<=a->a<b->b<T.N->T.qS a≠T.qS b->cQ a b∈ks)/\(∀i,i<n->∀x,ks[i]?=some x->Ju T ks x)/\iG w' M cc (.slice (some ⟨gn,0,none⟩) T.N jj) va vo F' ks tk/\sb∉F'/\w.heap.size<=sb/\w'.heap[sb]?=some (jB a b) /\
     ((more=true/\tk=n+1/\ks[n]?=some (cQ a b))\/(more=false/\tk=n/\n=ae ks))/\Kp F w w'/\(∀g∈F',g∈F\/w.heap.size<=g))
    (fun _ s5 w'=>2*(63010-(aG ((w'.cell? ⟨M,261,none⟩).getD undef)).toNat)+xJ s5)
   case atStart =>
    rcases HM0.o with⟨rfl,h1,h2⟩|⟨rfl,h1,h2⟩
    .exact⟨Yx,true,a0,b0,F1,FD,1,0,rfl,rfl,QN.o,AQ.o,fun i hi=>by omega,h2.kp KA.o (by simp),HSB.o _ h2,hws,BA.o,.inl ⟨rfl,rfl,h1⟩,(KP.o.trans K2.o (by simp[mF])).trans KA.o (by simp),FR.o⟩
    .exact⟨Yx,false,a0,b0,F1,FD,0,0,rfl,rfl,QN.o,AQ.o,fun i hi=>by omega,h2.kp KA.o (by simp),HSB.o _ h2,hws,BA.o,.inr ⟨rfl,rfl,h1⟩,(KP.o.trans K2.o (by simp[mF])).trans KA.o (by simp),FR.o⟩
   case round =>
    obtain⟨sb,more,a,b,F2,tZ,tk,n,rfl,rfl,snd,eP,aeP,ap,Ti,aqj,E7,hm,kp,fr⟩:=hrel;obtain⟨Dn,MG,acX,uZ,VO,MA,mm,jN⟩:=KZ snd eP aeP ap Ti E7 kp fr;have MP:=aj (ap.taken gE);have lsb:=aE E7;clear snd eP aeP ap Ti kp fr;rcases hm with⟨rfl,rfl,hx⟩|⟨rfl,rfl,Fl⟩
    .obtain⟨a',b',e',h1,h2,h3,Im⟩:=Dn.o _ (qL hx);obtain⟨rfl,rfl⟩:=Us e';have HX:=aj hx;have Z6:=aj Im;obtain⟨y0,y1,yr⟩:=two E7;clear hx Im e' E7 yr;go_wp2_with fail;refine(amY M cc (.slice (some ⟨gn,0,none⟩) T.N jj) va vo T dh V L F2 tZ (n+1) a b wr gE uZ.o (fun w' k'=>HO.o w' (mm.o.trans k' (fun y hy=>jN.o y hy))) hb zi.o h1 h2 h3 hN hC Dn.o.pin).mono ?_;rintro _ w5 ⟨rfl,F5,Cx,po,akR,a5,rC,sy⟩;have YG:=po.snd Dn.o fA zi.o h1 (by omega) (by omega) h3 Z6.o;have ad6:=po.clo zi.o h1 (by omega) (by omega) h3;have aaD:=aj YG;have ahF:=aj ad6;have QJ:=aj po.pre;obtain⟨A5,K5,Zx⟩:=cR a5 rC sy;have bs5:w5.heap[sb]?=some (jB a b):=rC.keep MA.o VO.o;obtain⟨z0,z1,zr⟩:=two bs5;(have hl5:(ae Cx)<100000:=by have:=acY.o Cx a5.nodup YG;omega);have apQ:(ae Cx)<=63001:=acY.o Cx a5.nodup YG;clear po akR a5 rC sy YG ad6 bs5 zr y0 y1;go_upto_region 11 with fail;have kB:Kp [] w5 (w5.alloc (jB a b)):=(Kp.refl [] w5).alloc _;have bB:(w5.alloc (jB a b)).heap[w5.heap.size]?=some (jB a b):=(by rw[aC,aA rfl]);have AB:=aj (A5.o.kp kB (by simp));(have nB:w5.heap.size∉F5:=fun hm=>by have:=A5.o.lt _ hm;omega);have XD:w.heap.size<=w5.heap.size:=j8 mm.o.size K5.o.size;have KB:ax (Kp F w (w5.alloc (jB a b))):=(mm.o.trans K5.o (fun y hy=>jN.o y hy)).trans kB (by simp);generalize (w5.alloc (jB a b))=WB at *;generalize w5.heap.size=eA at *;have BB:=aj bB;have NB:=aj nB;clear kB bB nB z0 z1;have tT:n+1<=ae Cx:=by
      have:=(fB.1 HX.o).1;have:=QJ.o.length_le;omega
     go_wp2_with fail;refine(AB.o.take gE tT aaD.o.pin hl5).mono ?_;rintro _ wC ⟨a6,b6,aqr,rfl,k6,hm6⟩;have K6:=aj k6;have HM6:=aj hm6;(have nMs:eA≠M:=fun e=>NB.o (by rw[e];exact AB.o.mem));have bC:wC.heap[eA]?=some (jB a b):=k6.keep BB.o (by simpa using nMs);have BC:=aj bC;obtain⟨z0,z1,q0,q1⟩:=two bC;clear k6 hm6 bC;go_wp2;have kS:Kp [eA] wC ((wC.setCell ⟨eA,0,none⟩ (.int .i64 a6)).setCell ⟨eA,1,none⟩ (.int .i64 b6)):=(Kp.refl [eA] wC).agX (by simp) _ _;have bS:((wC.setCell ⟨eA,0,none⟩ (.int .i64 a6)).setCell ⟨eA,1,none⟩ (.int .i64 b6)).heap[eA]?=some (jB a6 b6):=adR BC.o _ _;(have nS:∀x ∈ [eA],x∉F5:=fun x hx=>by rw[bQ.1 hx];exact NB.o);have kT:Kp F w ((wC.setCell ⟨eA,0,none⟩ (.int .i64 a6)).setCell ⟨eA,1,none⟩ (.int .i64 b6)):=(KB.o.trans K6.o (by simp[mF])).trans kS (fun y hy=>.inr (by rw[bQ.1 hy];exact XD));have qp:∀g∈F5,g∈F\/w.heap.size<=g:=fun g hg=>by
      rcases Zx.o g hg with e|e
      .exact jN.o g e
      .right;have:=mm.o.size;omega
     have Q8:∀a b:Int,-1<=a->a<b->b<T.N->T.qS a≠T.qS b->cQ a b∈Cx:=fun a b h1 h2 h3 h4=>by
      obtain⟨t,e⟩:=QJ.o;rw[<-e];exact Qy _ (MG.o a b h1 h2 h3 h4)
     have ad7:∀i,i<n+1->∀x,Cx[i]?=some x->Ju T Cx x:=fun i hi x hx=>by
      by_cases e:i=n
      .subst e;obtain⟨t,e2⟩:=QJ.o;(have:Cx[i]?=some (cQ a b):=by rw[<-e2,iI (fB.1 HX.o).1];exact HX.o);rw[this]at hx;cases hx;exact ahF.o
      .obtain⟨t,e2⟩:=QJ.o;(have dx:i<ae tZ:=by have:=(fB.1 HX.o).1;omega);(have sL:tZ[i]?=some x:=by rw[<-e2,iI dx]at hx;exact hx);exact(acX.o i (by omega) x sL).mono QJ.o
     have e1:=MP.o;rcases HM6.o with⟨rfl,g1,g2⟩|⟨rfl,g1,g2⟩
     .have aT:=g2.kp kS nS;refine⟨⟨eA,true,a6,b6,F5,Cx,n+1+1,n+1,rfl,rfl,aaD.o,Q8,ad7,aT,NB.o,XD,bS,.inl ⟨rfl,rfl,g1⟩,kT,qp⟩,?_⟩;have gl:=(fB.1 g1).1;rw[aT.taken gE,e1];simp[aG,xJ];omega
     .have aT:=g2.kp kS nS;refine⟨⟨eA,false,a6,b6,F5,Cx,n+1,n+1,rfl,rfl,aaD.o,Q8,ad7,aT,NB.o,XD,bS,.inr ⟨rfl,rfl,g1⟩,kT,qp⟩,?_⟩;rw[aT.taken gE,e1];simp[aG,xJ]
    .clear E7;go_wp2;go_end0;refine⟨rfl,F2,tZ,tk,?_,Dn.o.pin,uZ.o,mm.o,jN.o⟩;(refine am0 Dn.o MG.o fun x hx=>?_);obtain⟨i,hi⟩:=MW hx;exact acX.o i (by have:=(fB.1 hi).1;omega) x hi
end
end
section
open Go.RowKit Go.ChangeMaps
def aai(ks:List aq)(s:Nat)(l:Int):Prop:=-1<=l/\l<=s/\cQ l s∉ks/\∀l',-1<=l'->l' < l->cQ l' s∈ks
theorem alI(M:Nat)(cc:Array aq)(vn va vo:aq)(N jj gn:Nat)(F:List Nat)(ks:List aq)(tk:Nat)(w:ay)(gE:cc.size=256)(h:iG w M cc (.slice (some ⟨gn,0,none⟩) N jj) va vo F ks tk)(iL:∀x∈ks,Bg N x)(hN:N<=250):aI aB 64 #[.pointer (some ⟨M,0,none⟩)] w fun e w'=>∃(g:Nat) (ls:List Int),e=.returned (.slice (some ⟨g,0,none⟩) N N)/\w.heap.size<=g/\w'.heap[g]?=some (iO ls)/\(ae ls)=N/\(∀s,s<N->aai ks s (ls.getD s 0))/\dA w.heap.size w w':=by
 have HH:=aj h;have AU:=aj iL;have qm:=(h.OE gE).qm;have ig:=fun w=>Mh N (by omega) w
 clear h iL;go_enter Tryz.func64,Tryz.ntmps64;go_upto_region 2 with fail;have kW:Kp [] w (w.alloc (iO (gM N 0))):=(Kp.refl _ w).alloc _;have bG:(w.alloc (iO (gM N 0))).heap[w.heap.size]?=some (iO (gM N 0)):=(by rw[aC,aA rfl]);generalize (w.alloc (iO (gM N 0)))=W at *;have KW:=aj kW;have BG:=aj bG;clear kW bG ig qm;go_wp2_with fail;go_loopw [15] (fun i w'=>∃(k:Nat) (ls:List Int),k<=N/\i=.int .i64 k/\(ae ls)=N/\(∀s,s<k->aai ks s (ls.getD s 0))/\Kp [] w w'/\w'.heap[w.heap.size]?=some (iO ls))
  (fun i _=>N-(aG i).toNat)
 case atStart=>exact⟨0,gM N 0,by omega,rfl,by simp,fun s hs=>by omega,KW.o,BG.o⟩
 case round =>
  obtain⟨k,ls,hk,rfl,rj,jT,kp,bg⟩:=hrel;obtain⟨pK,tc,KP,AH⟩:=dH jT rj kp bg;clear jT rj kp bg;by_cases aN:k<N
  .have gU:(k:Int)<N:=(by omega);go_wp2_with fail;go_loopw [5] (fun i w'=>∃(m:Nat),m<=k+1/\i=.int .i64 ((m:Int)-1)/\(∀l',-1<=l'->l' < (m:Int)-1->cQ l' k∈ks)/\Kp [] w w'/\w'.heap[w.heap.size]?=some (iO ls))
    (fun i _=>k+1-(aG i+1).toNat)
   case atStart=>exact⟨0,by omega,rfl,fun l' h1 h2=>by omega,KP.o,AH.o⟩
   case round =>
    obtain⟨m,hm,rfl,qu,kp,bg⟩:=hrel;obtain⟨sZ,mm,Gh⟩:=cR qu kp bg;clear qu kp bg;have Ch:ji aB 185 (cQ ((m:Int)-1) k):=ab9 (N:=N) (by omega) (by omega) (by omega) (by omega) (by omega);have Gs:=aj Ch;have AP:=aj (HH.o.kp mm.o (by simp));clear Ch;by_cases mO:cQ ((m:Int)-1) k∈ks
    .have hml:m<k+1:=by
      obtain⟨a,b,e,h1,h2,h3⟩:=AU.o _ mO;obtain⟨rfl,rfl⟩:=Us e;omega
     have P8:=aj mO;clear mO;go_wp2_with fail;refine(AP.o.has gE ((m:Int)-1) k true Gs.o ⟨fun _=>P8.o,fun _=>rfl⟩).mono ?_;rintro _ w3 ⟨rfl,h3⟩;have K3:=aj (mm.o.below h3);have Pn:=aj (bV h3 Gh.o);clear h3;go_wp2;refine⟨⟨m+1,by omega,by go_num,fun l' h1 h2=>?_,K3.o,Pn.o⟩,by simp[aG];omega⟩;by_cases e:l'=(m:Int)-1
     .rw[e];exact P8.o
     .exact sZ.o l' h1 (by omega)
    .have P8:=aj mO;clear mO;go_wp2_with fail;refine(AP.o.has gE ((m:Int)-1) k false Gs.o ⟨fun h=>(by cases h),fun h=>absurd h P8.o⟩).mono ?_;rintro _ w3 ⟨rfl,h3⟩;have K3:=aj (mm.o.below h3);have E1:=bV h3 Gh.o;have Pn:=aj E1;have c3:=jK E1 k (by rw[tc.o];exact aN);have f3:=rz E1 k;clear h3 E1;go_wp2;refine⟨⟨k+1,ls.set k ((m:Int)-1),by omega,by go_num,by rw[mq];exact tc.o,fun s hs=>?_,K3.o.set (.inr (aH _)) _ _,tV Pn.o k _⟩,by simp[aG];omega⟩;by_cases e:s=k
     .subst e;rw[qV _ _ _ (by rw[tc.o];exact aN)];exact⟨by omega,by omega,P8.o,sZ.o⟩
     .rw[tJ _ _ _ _ (fun q=>e q.symm)];exact pK.o s (by omega)
  .have jZ:k=N:=(by omega);subst jZ;go_wp2;go_ret;exact⟨w.heap.size,ls,rfl,aH _,AH.o,tc.o,pK.o,KP.o.toBelow⟩
end
section
variable{C r:Nat}{nx:Nat->Nat->Int}{num:Nat->Nat}
section
open Go.RowKit Go.ChangeMaps
theorem amj(g cap h jj:Nat)(l ns:List Int)(C':Nat)(w:ay)(hl:0<ae l)(dD:(ae l)<=100000)(Im:(ae ns)=ae l)(hC:0<C')(hCl:C'<=100000)(hg:g<w.heap.size)(hh:h<w.heap.size)(hc:∀i,i<ae l->w.cell? ⟨g,i,none⟩=some (.int .i64 (l.getD i 0)))(hd:∀i,i<ae l->w.cell? ⟨h,i,none⟩=some (.int .i64 (ns.getD i 0)))(hr:∀i,i<ae l->0<=ns.getD i 0/\ns.getD i 0<C')(hs:∃i,i<ae l/\ns.getD i 0=(C':Int)-1)(he:∀i j,i<ae l->j<ae l->ns.getD i 0=ns.getD j 0->l.getD i 0=l.getD j 0):aI aB 66 #[.slice (some ⟨g,0,none⟩) (ae l) cap,.slice (some ⟨h,0,none⟩) (ae l) jj] w fun e w'=>∃(b:Nat) (nl:List Int),e=.returned (.slice (some ⟨b,0,none⟩) C' C')/\w.heap.size<=b/\w'.heap[b]?=some (iO nl)/\(ae nl)=C'/\(∀i,i<ae l->nl.getD (ns.getD i 0).toNat 0=l.getD i 0)/\dA w.heap.size w w':=by
 obtain⟨HC,HD,HR,HE,HS⟩:=jd hc hd hr he hs;clear hc hd hr he hs;go_enter Tryz.func66,Tryz.ntmps66;go_wp2_with fail;have abp:=ama h jj ns w (by omega) (by omega) (fun i hi=>HD.o i (by omega));rw[Im]at abp;refine abp.mono ?_;rintro _ w1 ⟨m,rfl,Fj,Fk,rfl⟩;have em:m=(C':Int)-1:=by
  obtain⟨i,hi,e⟩:=HS.o;obtain⟨j,hj,e2⟩:=Fk;have h1:=Fj i hi;have h2:=(HR.o j hj).2;omega
 subst em;have ig:=fun w=>Mh C' (by omega) w
 have oU:GA.wrap ((C':Int)-1+1)=C':=by
  rw[show(C':Int)-1+1=C' by omega];simp[tA,qa,qc];omega
 have ale:(C':Int)-1+1=C':=(by omega);clear Fj Fk abp;go_upto_region 2 with fail;have kW:Kp [] w1 (w1.alloc (iO (gM C' 0))):=(Kp.refl _ w1).alloc _;have bG:(w1.alloc (iO (gM C' 0))).heap[w1.heap.size]?=some (iO (gM C' 0)):=(by rw[aC,aA rfl]);generalize (w1.alloc (iO (gM C' 0)))=W at *;have KW:=aj kW;have BG:=aj bG;clear kW bG ig oU ale Im;go_wp2_with fail;go_loopw [14] (fun s w'=>∃(k:Nat) (nl:List Int),k<=ae l/\s=.int .i64 k/\(ae nl)=C'/\(∀i,i<k->nl.getD (ns.getD i 0).toNat 0=l.getD i 0)/\Kp [] w1 w'/\w'.heap[w1.heap.size]?=some (iO nl))
  (fun s _=>ae l-(aG s).toNat)
 case atStart=>exact⟨0,gM C' 0,by omega,rfl,by simp,fun i hi=>by omega,KW.o,BG.o⟩
 case round =>
  obtain⟨k,nl,hk,rfl,tT,abi,kp,bg⟩:=hrel;obtain⟨ML,HDN,KP,AH⟩:=dH tT abi kp bg;by_cases aN:k<ae l
  .have gU:(k:Int)<ae l:=(by omega);(have ck:wr.cell? ⟨g,k,none⟩=some (.int .i64 (l.getD k 0)):=by rw[Dt kp hg];exact HC.o k aN);obtain⟨sH,zU⟩:=HR.o k aN;(obtain⟨n,hn⟩:∃n:Nat,ns.getD k 0=n:=⟨(ns.getD k 0).toNat,by omega⟩);(have dk:wr.cell? ⟨h,k,none⟩=some (.int .i64 (n:Int)):=by rw[Dt kp hh,<-hn];exact HD.o k aN);have hnC:(n:Int)<C':=(by omega);have cb:=jK bg n (by omega);have fb:=rz bg n;have HN:=aj hn;generalize hv:l.getD k 0=v at *;have HV:=aj hv;clear hv hn sH zU tT abi kp bg;go_wp2;refine⟨⟨k+1,nl.set n v,by omega,by go_num,by rw[mq];exact ML.o,fun i hi=>?_,KP.o.set (.inr (aH _)) _ _,tV AH.o n v⟩,by simp[aG];omega⟩;by_cases e:(ns.getD i 0).toNat=n
   .rw[e,qV _ _ _ (by rw[ML.o];omega)];have h0:=HR.o i (by omega);have h1:=HN.o;have:ns.getD i 0=ns.getD k 0:=(by omega);rw[HE.o i k (by omega) aN this,HV.o]
   .rw[tJ _ _ _ _ (fun q=>e q.symm)];have:i≠k:=by
     rintro rfl;apply e;rw[HN.o,mj]
    exact HDN.o i (by omega)
  .have jZ:k=ae l:=(by omega);subst jZ;clear tT abi kp bg;go_wp2;go_ret;exact⟨w1.heap.size,nl,rfl,aH _,AH.o,ML.o,HDN.o,KP.o.toBelow⟩
structure Nc(w:ay)(vr:aq)(N C:Nat)(nx:Nat->Nat->Int):Prop where
 rows:∃gr cap,vr=.slice (some ⟨gr,0,none⟩) N cap/\gr<w.heap.size/\∀i,i<N->∃g c,w.cell? ⟨gr,i,none⟩=some (.slice (some ⟨g,0,none⟩) C c)/\g<w.heap.size/\∀k,k<C->w.cell? ⟨g,k,none⟩=some (.int .i64 (nx i k))
theorem Nc.kp{w w':ay}{vr:aq}{N:Nat}(h:Nc w vr N C nx)(hk:Kp [] w w'):Nc w' vr N C nx:=by
 obtain⟨gn,cap,e,l,hr⟩:=h.rows;have s:=hk.size;refine⟨gn,cap,e,by omega,fun i hi=>?_⟩;obtain⟨g,c,q1,q2,q3⟩:=hr i hi;exact⟨g,c,by rw[Dt hk l];exact q1,by omega,fun k Le=>by rw[Dt hk q2];exact q3 k Le⟩
structure Em(C:Nat)(nx:Nat->Nat->Int)(r:Nat)(num:Nat->Nat):Prop where
 eq:∀k k',k<C->k' < C->(num k=num k'↔∀j,j<r->nx j k=nx j k')
 ord:∀k m,k<C->m<num k->∃k',k' < k/\num k'=m
theorem Em.le(h:Em C nx r num):∀k,k<C->num k<=k:=by
 have:∀n k,k<n->k<C->num k<=k:=by
  intro n;induction n with
  |zero=>intro k hk;omega
  |succ n ih =>
   intro k hk hC;rcases Nat.eq_zero_or_pos (num k)with e|e
   .omega
   .obtain⟨k',h1,h2⟩:=h.ord k (num k-1) hC (by omega);have:=ih k' (by omega) (by omega);omega
 exact fun k hk=>this (k+1) k (by omega) hk
theorem Em.step(h:Em C nx r num){ks:List aq}{cl:Nat->Nat}(hn:ks.Nodup)(hc:zc (fun k=>cQ (num k) (nx r k)) C ks cl):Em C nx (r+1) cl:=by
 refine⟨fun k k' hk hk'=>?_,hc.ord⟩;have e1:=hc.at_ k hk;have e2:=hc.at_ k' hk';constructor
 .intro e j hj;rw[e]at e1;rw[e1]at e2;have:=Us (Na e2);by_cases q:j=r
  .rw[q];exact this.2
  .exact(h.eq k k' hk hk').1 (by omega) j (by omega)
 .intro e;have q1:num k=num k':=(h.eq k k' hk hk').2 fun j hj=>e j (by omega)
  have q2:=e r (by omega);have hv:ks[cl k]?=ks[cl k']?:=by rw[e1,e2];simp only[q1,q2]
  exact(List.getElem?_inj (fB.1 e1).1 hn).1 hv
end
end
section
open Go.RowKit Go.ChangeMaps
def pD(C:Nat)(f:Nat->Nat):List Int:=(lU C).map fun k=>(f k:Int)
theorem IS(C:Nat)(f:Nat->Nat):(pD C f).length=C:=by simp[pD]
theorem ab3(C:Nat)(f:Nat->Nat){k:Nat}(hk:k<C):(pD C f).getD k 0=f k:=by
 rw[aO];simp[pD,hk]
theorem amy(C:Nat)(f f':Nat->Nat)(k v:Nat)(h1:f' k=v)(h2:∀j,j≠k->f' j=f j):(pD C f).set k (v:Int)=pD C f':=by
 apply JW;intro i;rcases eK i C with hi|hi
 .by_cases e:k=i
  .subst e;rw[List.getElem?_set_self (by rw[IS];exact hi)];simp[pD,hi,h1]
  .rw[List.getElem?_set_ne e];simp[pD,hi,h2 i (fun q=>e q.symm)]
 .rw[iY (by rw[mq,IS];exact hi),iY (by rw[IS];exact hi)]
theorem amg(vr:aq)(N C:Nat)(nx:Nat->Nat->Int)(w:ay)(hR:Nc w vr N C nx)(hN:0<N)(hNl:N<=250)(hC:0<C)(hCl:C<=256)(ry:∀j k,j<N->k<C->-1<=nx j k/\nx j k<1000):aI aB 65 #[vr] w fun e w'=>∃(g:Nat) (num:Nat->Nat),e=.returned (.slice (some ⟨g,0,none⟩) C C)/\w.heap.size<=g/\w'.heap[g]?=some (iO (pD C num))/\Em C nx N num/\dA w.heap.size w w':=by
 have HR:=aj hR;obtain⟨gr,vI,rfl,TY,ij⟩:=hR.rows;have Qd:=aj ij;have MM:=aj ry;obtain⟨g0,c0,r0,lg0,_⟩:=ij 0 hN;have hN':(0:Int)<N:=(by omega);have ig:=fun w=>Mh C (by omega) w
 clear hR ij ry;go_enter Tryz.func65,Tryz.ntmps65;go_upto_region 2 with fail;have kW:Kp [] w (w.alloc (iO (gM C 0))):=(Kp.refl _ w).alloc _;have bG:(w.alloc (iO (gM C 0))).heap[w.heap.size]?=some (iO (gM C 0)):=(by rw[aC,aA rfl]);generalize (w.alloc (iO (gM C 0)))=W at *;have KW:=aj kW;have BG:=aj bG;clear kW bG ig r0;go_wp2_with fail;go_loopw [16] (fun s w'=>∃(r:Nat) (num:Nat->Nat),r<=N/\s=.int .i64 r/\Em C nx r num/\Kp [] w w'/\w'.heap[w.heap.size]?=some (iO (pD C num)))
  (fun s _=>N-(aG s).toNat)
 case atStart =>
  refine⟨0,fun _=>0,by omega,rfl,⟨fun k k' _ _=>⟨fun _ j hj=>by omega,fun _=>rfl⟩,fun k m _ hm=>by omega⟩,KW.o,?_⟩;have e:pD C (fun _=>0)=gM C 0:=by
   apply List.ext_getElem
   .rw[IS];simp
   .intro i h1 h2;simp[pD]
  rw[e];exact BG.o
 case round =>
  obtain⟨r,num,hr,rfl,abL,kp,bg⟩:=hrel;obtain⟨JV,KP,AH⟩:=cR abL kp bg;have lG:=aE bg;by_cases gB:r<N
  .have ap8:(r:Int)<N:=(by omega);obtain⟨gj,cj,q1,q2,q3⟩:=Qd.o r gB;(have q1':wr.cell? ⟨gr,r,none⟩=some (.slice (some ⟨gj,0,none⟩) C cj):=by rw[Dt kp TY];exact q1);have Q3:=aj q3;clear q1 q3 abL kp bg;go_upto_region 6 with fail;have kA:Kp [] wr (wr.alloc (.cells #[.map none,.slice none 0 0] 149 (0,0))):=(Kp.refl _ wr).alloc _;have bA:(wr.alloc (.cells #[.map none,.slice none 0 0] 149 (0,0))).heap[wr.heap.size]?=some (.cells #[.map none,.slice none 0 0] 149 (0,0)):=(by rw[aC,aA rfl]);generalize (wr.alloc (.cells #[.map none,.slice none 0 0] 149 (0,0)))=WA at *;have KA:ax (Kp [] w WA):=KP.o.trans kA (by simp);have BA:=aj bA;have BGA:=aj (kA.keep AH.o (by simp));have hPB:w.heap.size<wr.heap.size:=lG;generalize wr.heap.size=PB at *;clear kA bA q1';go_wp2_with fail;go_loopw [22] (fun s w'=>∃(c:Nat) (cl:Nat->Nat) (vm vs:aq) (ks:List aq),c<=C/\s=.int .i64 c/\zc (fun k=>cQ (num k) (nx r k)) c ks cl/\(ae ks)<=c/\gy w' 185 2 vm vs ks/\w'.heap[PB]?=some (.cells #[vm,vs] 149 (0,0))/\PB∉dV vm vs/\(∀x∈dV vm vs,w.heap.size<x)/\Kp [] w w'/\w'.heap[w.heap.size]?=some (iO (pD C (fun k=>if k<c then cl k else num k))))
    (fun s _=>C-(aG s).toNat)
   case atStart =>
    refine⟨0,fun _=>0,.map none,.slice none 0 0,[],by omega,rfl,⟨fun c hc=>by omega,fun i hi=>by simp at hi,fun c i hc=>by omega⟩,by simp,⟨.inl ⟨rfl,rfl⟩,j9 _ _ _ _,by simp,by simp,by simp⟩,BA.o,by simp[dV,CB,aK],by simp[dV,CB,aK],KA.o,?_⟩;(have e:(fun k=>if k<0 then(fun _=>0) k else num k)=num:=by funext k;simp);rw[e];exact BGA.o
   case round =>
    obtain⟨c,cl,vm,vs,ks,hc,rfl,ci,dI,WH,bP,hPn,oR,kp,bg⟩:=hrel;obtain⟨CI,MJ,BP,HPN,AR,mm,Gh⟩:=DG ci WH bP hPn oR kp bg;by_cases dw:c<C
    .have yI:(c:Int)<C:=(by omega);(have ck:wr.cell? ⟨gj,c,none⟩=some (.int .i64 (nx r c)):=by rw[Dt kp q2];exact Q3.o c dw);have cn:wr.cell? ⟨w.heap.size,c,none⟩=some (.int .i64 (num c)):=by
      rw[jK bg c (by rw[IS];exact dw),ab3 _ _ dw,az (by omega)]
     have Co:=MM.o r c gB dw;have hnc:=JV.o.le c dw;have Ch:ji aB 185 (cQ (num c) (nx r c)):=agt (Pe (by omega) (by omega)) (Pe (by omega) (by omega));(have eM:∀i,(jF ks (cQ (num c) (nx r c)))[i]?=some (cQ (num c) (nx r c))->zc (fun k=>cQ (num k) (nx r k)) (c+1) (jF ks (cQ (num c) (nx r c))) (fun k=>if k=c then i else cl k):=fun i hi=>ci.step hi);have mT:=aj eM;have Gs:=aj Ch;generalize hX:(num c:Int)=X at *;generalize hY:nx r c=Y at *;clear ci WH bP hPn oR kp bg eM Ch hX hY Co;go_wp2_with fail;refine(agh PB 0 _ 149 vm vs ks X Y _ BP.o rfl rfl MJ.o Gs.o HPN.o (by omega)).mono ?_;rintro _ w3 ⟨i,gK,vs',rfl,hi,hp⟩;have k3:Kp (PB::dV vm vs) wr w3:=hp.kp;have sK:=mm.o.size;have E1:w3.heap[w.heap.size]?=some (iO (pD C (fun k=>if k<c then cl k else num k))):=k3.keep Gh.o (fun hm=>by
      rcases gH.1 hm with e|e
      .omega
      .have:=AR.o _ e;omega)
     have c3:=jK E1 c (by rw[IS];exact dw);have f3:=rz E1 c;obtain⟨Pn,HP,HI⟩:=cR E1 hp hi;have K3:ax (Kp [] w w3):=(mm.o.mono (ys:=[]) (by simp)).trans k3 (fun y hy=>.inr (by
      rcases gH.1 hy with e|e
      .omega
      .exact GR (AR.o y e)))
     clear E1 hp hi k3 ck cn;go_wp2;have kS:Kp [w.heap.size] w3 (w3.setCell ⟨w.heap.size,c,none⟩ (.int .i64 i)):=(Kp.refl _ w3).set (by simp) _ _;have gA:∀x∈dV gK vs',w.heap.size<x:=fun x hx=>by
      rcases HP.o.foot x hx with e|e
      .exact AR.o x e
      .have:=aE Gh.o;omega
     have akB:PB∉dV gK vs':=fun hm=>by
      rcases HP.o.foot PB hm with e|e
      .exact HPN.o e
      .have:=aE BP.o;omega
     refine⟨⟨c+1,fun k=>if k=c then i else cl k,gK,vs',jF ks (cQ X Y),by omega,by go_num,mT.o i HI.o,j8 (adI _ _) (by omega),HP.o.ok.kp kS (fun x hx hm=>by rw[bQ.1 hx]at hm;have:=gA _ hm;omega),?_,akB,gA,K3.o.set (.inr (aH _)) _ _,?_⟩,by simp[aG];omega⟩
     .rw[aQ,az (by omega)];exact HP.o.blk
     .have:=tV Pn.o c (i:Int);rw[amy C _ (fun k=>if k<c+1 then(if k=c then i else cl k) else num k) c i (by simp) (fun j hj=>by
       by_cases z:j<c
       .simp[z,hj,show j<c+1 by omega]
       .simp[z,show ¬j<c+1 by omega])]at this
      exact this
    .have Su:c=C:=(by omega);subst Su;have eZ:=WH.nodup;have wF:=aj eZ;clear ci WH bP hPn oR kp bg eZ;go_wp2;refine⟨⟨r+1,cl,by omega,by go_num,JV.o.step wF.o CI.o,mm.o,?_⟩,by simp[aG];omega⟩;have e:pD c (fun k=>if k<c then cl k else num k)=pD c cl:=by
      unfold pD;apply List.map_congr_left;intro k hk;show((if k<c then cl k else num k:Nat):Int)=_;rw[aA (List.mem_range.1 hk)]
     rw[<-e];exact Gh.o
  .have hrN:r=N:=(by omega);subst hrN;clear abL kp bg;go_wp2;go_ret;exact⟨w.heap.size,num,rfl,aH _,AH.o,JV.o,KP.o.toBelow⟩
end
section
variable{ls:List Int}{ws:List Nat}{nx nx':Nat->Nat->Int}{n c:Nat}
section
open Go.RowKit Go.ChangeMaps
def pR(w:ay)(B:Nat)(F:List Nat)(ks:List aq)(tk:Nat):Prop :=
 ∃vm vs,w.heap[B]?=some (.cells #[vm,vs,.int .i64 tk] 193 (0,0))/\gy w 3 1 vm vs ks/\B∉dV vm vs/\F=B::dV vm vs
section
variable{w:ay}{B:Nat}{F:List Nat}{ks:List aq}{tk:Nat}
theorem pR.kp{w':ay}{xs:List Nat}(h:pR w B F ks tk)(hk:Kp xs w w')(hx:∀x∈xs,x∉F):pR w' B F ks tk:=by
 obtain⟨vm,vs,b,n,m,rfl⟩:=h;exact⟨vm,vs,hk.keep b (fun e=>hx _ e (by simp)),n.kp hk (fun k hm hf=>hx k hm (by simp[hf])),m,rfl⟩
theorem pR.lt(h:pR w B F ks tk):∀g∈F,g<w.heap.size:=by
 obtain⟨vm,vs,b,n,m,rfl⟩:=h;intro g hg;rcases gH.1 hg with rfl|hg
 .exact aE b
 .exact n.lt g hg
theorem pR.mem(h:pR w B F ks tk):B∈F:=by obtain⟨vm,vs,b,n,m,rfl⟩:=h;simp
theorem pR.taken(h:pR w B F ks tk):w.cell? ⟨B,2,none⟩=some (.int .i64 tk):=by
 obtain⟨vm,vs,b,n,m,rfl⟩:=h;rw[aF b];rfl
theorem pR.put(h:pR w B F ks tk)(a:Int)(hk:ji aB 3 (iy a))(dD:(ae ks)<100000):aI aB 93 #[.pointer (some ⟨B,0,none⟩),iy a] w fun e w'=>∃(i:Nat) (F':List Nat),e=.returned (.int .i64 i)/\(jF ks (iy a))[i]?=some (iy a)/\pR w' B F' (jF ks (iy a)) tk/\Kp F w w'/\∀g∈F',g∈F\/w.heap.size<=g:=by
 obtain⟨vm,vs,bl,n,m,rfl⟩:=h;refine(am7 B 0 _ 193 vm vs ks a w bl rfl rfl n hk m dD).mono ?_;rintro _ w2 ⟨i,gK,vs',rfl,hi,hp⟩;refine⟨i,B::dV gK vs',rfl,hi,⟨gK,vs',hp.blk,hp.ok,?_,rfl⟩,hp.kp,?_⟩
 .intro hm;rcases hp.foot B hm with e|e
  .exact m e
  .have:=aE bl;omega
 .intro g hg;rcases gH.1 hg with rfl|q
  .exact .inl (by simp)
  .rcases hp.foot g q with e|e
   .exact .inl (by simp[e])
   .exact .inr e
theorem pR.take(h:pR w B F ks tk)(iu:tk<=ae ks)(iL:∀x∈ks,∃n:Nat,x=iy n)(dD:(ae ks)<100000):aI aB 94 #[.pointer (some ⟨B,0,none⟩)] w fun e w'=>∃(a:Nat) (more:Bool),e=.returned (.tuple #[iy a,.bool more])/\Kp [B] w w'/\((more=true/\ks[tk]?=some (iy a)/\pR w' B F ks (tk+1))\/(more=false/\tk=ae ks/\pR w' B F ks tk)):=by
 by_cases e:tk<ae ks
 .obtain⟨a,ex⟩:=iL ks[tk] (nE e);have hk:ks[tk]?=some (iy a):=(by rw[bD e,ex]);obtain⟨vm,vs,bl,n,m,rfl⟩:=h;refine(aoB B 0 _ 193 vm vs ks tk a w bl rfl n rfl hk dD).mono ?_;rintro _ w2 ⟨rfl,hb,kp⟩;refine⟨a,true,rfl,kp,.inl ⟨rfl,hk,⟨vm,vs,hb,n.kp kp ?_,m,rfl⟩⟩⟩;intro k hk hm;rw[bQ.1 hk]at hm;exact m hm
 .have e':tk=ae ks:=(by omega);subst e';have h0:=h;obtain⟨vm,vs,bl,n,m,rfl⟩:=h;refine(aoA B 0 _ 193 vm vs ks w bl rfl n rfl).mono ?_;rintro _ w2 ⟨rfl,h2⟩;have k2:Kp [] w w2:=(Kp.refl [] w).below h2;exact⟨0,false,rfl,k2.mono (by simp),.inr ⟨rfl,rfl,h0.kp k2 (by simp)⟩⟩
end
def Aa(T:bw)(ls:List Int)(s k:Nat):Int:=if T.nx s k=-1 then -1 else ls.getD (T.nx s k).toNat 0
def o7(n c:Nat)(j k:Nat):Prop:=j<n\/(j=n/\k<c)
structure mY(T:bw)(ls:List Int)(ws:List Nat)(nx:Nat->Nat->Int)(n c:Nat):Prop where
 first:ws[0]?=some 0
 nodup:ws.Nodup
 lt:∀s∈ws,s<T.N
 row:∀j k,o7 n c j k->k<T.C->(Aa T ls (ws.getD j 0) k=-1/\nx j k=-1)\/(∃i:Nat,nx j k=i/\∃v:Nat,Aa T ls (ws.getD j 0) k=v/\ws[i]?=some v)
 Ot:∀i,0<i->i<ae ws->∃s:Nat,s<T.N/\ls.getD s 0=(ws.getD i 0:Nat)
 xQ:∀t:Nat,0<t->t<ae ws->∃s k,s<t/\o7 n c s k/\k<T.C/\nx s k=t
 Ay:∀s k (t u:Nat),o7 n c s k->k<T.C->nx s k=t->0<u->u<t->∃s' k',o7 n c s' k'/\k' < T.C/\(s' < s\/s'=s/\k' < k)/\nx s' k'=u
theorem mY.eJ{T:bw}(h:mY T ls ws nx n c)(hn:n<ae ws)(hl:Aa T ls (ws.getD n 0) c=-1)(h1:nx' n c=-1)(h2:∀j k,o7 n c j k->nx' j k=nx j k):mY T ls ws nx' n (c+1):=by
 have past:∀j k,o7 n (c+1) j k->o7 n c j k\/(j=n/\k=c):=fun j k hp=>by
  rcases hp with z|⟨z,y⟩
  .exact .inl (.inl z)
  .by_cases e:k=c
   .exact .inr ⟨z,e⟩
   .exact .inl (.inr ⟨z,by omega⟩)
 have up:∀j k,o7 n c j k->o7 n (c+1) j k:=fun j k hp=>by
  rcases hp with z|⟨z,y⟩
  .exact .inl z
  .exact .inr ⟨z,by omega⟩
 refine⟨h.first,h.nodup,h.lt,fun j k hp hk=>?_,h.Ot,fun t h3 h4=>?_,fun s k t u hp hk e h3 h4=>?_⟩
 .rcases past j k hp with z|⟨rfl,rfl⟩
  .rw[h2 j k z];exact h.row j k z hk
  .exact .inl ⟨hl,h1⟩
 .obtain⟨s,k,a,b,c',d⟩:=h.xQ t h3 h4;exact⟨s,k,a,up s k b,c',by rw[h2 s k b];exact d⟩
 .rcases past s k hp with z|⟨rfl,rfl⟩
  .rw[h2 s k z]at e;obtain⟨s',k',a,b,c',d⟩:=h.Ay s k t u z hk e h3 h4;exact⟨s',k',up s' k' a,b,c',by rw[h2 s' k' a];exact d⟩
  .rw[h1]at e;omega
theorem mY.sP{T:bw}{wv:List Nat}{v i:Nat}(h:mY T ls ws nx n c)(hn:n<ae ws)(hc:c<T.C)(hl:Aa T ls (ws.getD n 0) c=v)(jT:∃s:Nat,s<T.N/\ls.getD s 0=(v:Nat))(hv:v<T.N)(hw:(v∈ws/\wv=ws)\/(v∉ws/\wv=ws ++ [v]))(hi:wv[i]?=some v)(h1:nx' n c=i)(h2:∀j k,o7 n c j k->nx' j k=nx j k):mY T ls wv nx' n (c+1):=by
 have past:∀j k,o7 n (c+1) j k->o7 n c j k\/(j=n/\k=c):=fun j k hp=>by
  rcases hp with z|⟨z,y⟩
  .exact .inl (.inl z)
  .by_cases e:k=c
   .exact .inr ⟨z,e⟩
   .exact .inl (.inr ⟨z,by omega⟩)
 have up:∀j k,o7 n c j k->o7 n (c+1) j k:=fun j k hp=>by
  rcases hp with z|⟨z,y⟩
  .exact .inl z
  .exact .inr ⟨z,by omega⟩
 have pre:ws <+: wv:=by
  rcases hw with⟨_,e⟩|⟨_,e⟩
  .rw[e];exact⟨[],by simp⟩
  .rw[e];exact⟨_,rfl⟩
 have keep:∀j x,ws[j]?=some x->wv[j]?=some x:=fun j x e=>by
  obtain⟨t,rfl⟩:=pre;rw[iI (fB.1 e).1];exact e
 have keepD:∀j,j<ae ws->wv.getD j 0=ws.getD j 0:=fun j hj=>by
  obtain⟨t,rfl⟩:=pre;rw[aO,iI hj,<-aO]
 have pn:∀j k,o7 n (c+1) j k->j<ae ws:=fun j k hp=>by rcases hp with z|⟨z,_⟩<;>omega
 have il:=(fB.1 hi).1;have below:∀u,0<u->u<i->∃s k,s<u/\o7 n c s k/\k<T.C/\nx s k=u:=fun u h3 h4=>by
  refine h.xQ u h3 ?_;rcases hw with⟨_,e⟩|⟨_,e⟩
  .rw[e]at il;omega
  .rw[e,cx,iq]at il;omega
 refine⟨keep 0 0 h.first,?_,?_,fun j k hp hk=>?_,?_,fun t h3 h4=>?_,fun s k t u hp hk e h3 h4=>?_⟩
 .rcases hw with⟨_,e⟩|⟨q,e⟩
  .rw[e];exact h.nodup
  .rw[e,GO];refine⟨h.nodup,by simp,fun p hp r hr e2=>?_⟩;rw[bQ.1 hr]at e2;exact q (e2 ▸ hp)
 .intro s hs;rcases hw with⟨_,e⟩|⟨q,e⟩
  .rw[e]at hs;exact h.lt s hs
  .rw[e]at hs;rcases jr.1 hs with z|z
   .exact h.lt s z
   .rw[bQ.1 z];exact hv
 .rw[keepD j (pn j k hp)];rcases past j k hp with z|⟨rfl,rfl⟩
  .rw[h2 j k z];rcases h.row j k z hk with y|⟨i',y1,v',y2,y3⟩
   .exact .inl y
   .exact .inr ⟨i',y1,v',y2,keep _ _ y3⟩
  .exact .inr ⟨i,h1,v,hl,hi⟩
 .intro i' h3 h4;by_cases e:i' < (ae ws)
  .rw[keepD i' e];exact h.Ot i' h3 e
  .rcases hw with⟨_,q⟩|⟨_,q⟩
   .rw[q]at h4;omega
   .rw[q,cx,iq]at h4;have:i'=ae ws:=(by omega);subst this;rw[q,qX];exact jT
 .by_cases e:t<ae ws
  .obtain⟨s,k,a,b,c',d⟩:=h.xQ t h3 e;exact⟨s,k,a,up s k b,c',by rw[h2 s k b];exact d⟩
  .refine⟨n,c,by omega,.inr ⟨rfl,by omega⟩,hc,?_⟩;have:i=t:=by
    rcases hw with⟨_,q⟩|⟨qn,q⟩
    .rw[q]at h4;omega
    .rw[q,cx,iq]at h4;have ht:t=ae ws:=(by omega);rw[q,aal]at hi;split at hi
     .exact absurd (qL hi) qn
     .have:=(fB.1 hi).1;simp at this;omega
   rw[h1,this]
 .rcases past s k hp with z|⟨rfl,rfl⟩
  .rw[h2 s k z]at e;obtain⟨s',k',a,b,c',d⟩:=h.Ay s k t u z hk e h3 h4;exact⟨s',k',up s' k' a,b,c',by rw[h2 s' k' a];exact d⟩
  .rw[h1]at e;obtain⟨s',k',a,b,c',d⟩:=below u h3 (by omega);refine⟨s',k',up s' k' b,c',?_,by rw[h2 s' k' b];exact d⟩;rcases b with y|⟨y,y2⟩
   .exact .inl y
   .exact .inr ⟨y,y2⟩
theorem mY.next{T:bw}(h:mY T ls ws nx n T.C):mY T ls ws nx (n+1) 0:=by
 have past:∀j k,k<T.C->(o7 (n+1) 0 j k↔o7 n T.C j k):=fun j k hk=>by
  constructor
  .rintro(z|⟨_,y⟩)
   .by_cases e:j=n
    .exact .inr ⟨e,hk⟩
    .exact .inl (by omega)
   .omega
  .rintro(z|⟨z,_⟩)
   .exact .inl (by omega)
   .exact .inl (by omega)
 refine⟨h.first,h.nodup,h.lt,fun j k hp hk=>h.row j k ((past j k hk).1 hp) hk,h.Ot,fun t h3 h4=>?_,fun s k t u hp hk e h3 h4=>?_⟩
 .obtain⟨s,k,a,b,c',d⟩:=h.xQ t h3 h4;exact⟨s,k,a,(past s k c').2 b,c',d⟩
 .obtain⟨s',k',a,b,c',d⟩:=h.Ay s k t u ((past s k hk).1 hp) hk e h3 h4;exact⟨s',k',(past s' k' b).2 a,b,c',d⟩
theorem mY.aom{T:bw}{ks:List aq}(hT:wQ T)(h:mY T ls ws nx (ae ws) 0)(hp:J8 T (fun a b=>cQ a b∈ks))(jT:∀s,s<T.N->aai ks s (ls.getD s 0)):aaF T ws nx:=by
 have p0:∀j k,j<ae ws->o7 (ae ws) 0 j k:=fun j k hj=>.inl hj
 have pl:0<ae ws:=(fB.1 h.first).1;have same:∀s:Nat,s<T.N->iJ T (ls.getD s 0) s:=fun s hs=>by
  obtain⟨a,b,c,d⟩:=jT s hs;by_cases e:ls.getD s 0=s
  .rw[e];exact fun z _=>rfl
  .apply ur;intro n;exact c ((hp.iff hT a (by omega) (by omega)).2 n)
 have getD:∀i v,ws[i]?=some v->ws.getD i 0=v:=fun i v e=>by rw[aO,e];rfl
 have amc:∀j,j<ae ws->ws.getD j 0∈ws:=fun j hj=>Wz hj
 refine⟨getD 0 0 h.first,pl,h.nodup,h.lt,fun j k hj hk=>?_,fun i h1 h2 t h3 h4 hs=>?_,fun t h1 h2=>?_,fun s k t u h1 h2 h3 h4 h5=>?_⟩
 .have hN:=h.lt _ (amc j hj);have rg:=hT.ik _ k hN hk;have ij:=h.row j k (p0 j k hj) hk;generalize ws.getD j 0=s at *;unfold Aa at ij;by_cases e:T.nx s k=-1
  .rw[aA e]at ij;rcases ij with⟨_,z⟩|⟨i,_,v,z,_⟩
   .exact .inl ⟨by rw[e];exact fun z _=>rfl,z⟩
   .omega
  .rw[az e]at ij;(obtain⟨n,hn⟩:∃n:Nat,T.nx s k=n:=⟨(T.nx s k).toNat,by omega⟩);rw[hn,mj]at ij;rw[hn];have Xk:n<T.N:=(by omega);have sm:=same n Xk;rcases ij with⟨z1,z2⟩|⟨i,z1,v,z2,z3⟩
   .rw[z1]at sm;exact .inl ⟨sm,z2⟩
   .refine .inr ⟨fun q=>?_,i,z1,(fB.1 z3).1,?_⟩
    .have:=(jT n Xk).2.2.2 (-1) (by omega) (by omega);exact(hp.sound _ _ this).2.2.2 q
    .rw[getD i v z3,<-z2];exact sm
 .obtain⟨s,Fs,Ft⟩:=h.Ot i h1 h2;have sm:=same s Fs;rw[Ft]at sm;have:=(jT s Fs).2.2.2 t h3 (by rw[Ft];exact h4);exact(hp.sound _ _ this).2.2.2 (hs.trans sm)
 .obtain⟨s,k,a,b,c,d⟩:=h.xQ t h1 h2;exact⟨s,k,a,c,d⟩
 .obtain⟨s',k',a,b,c,d⟩:=h.Ay s k t u (p0 s k h1) h2 h3 h4 h5;refine⟨s',k',?_,b,c,d⟩;rcases a with z|⟨z,y⟩
  .exact z
  .omega
end
end
section
variable{o:Obj}{g1 aP:Nat}{ws:List Nat}
section
open Go.RowKit Go.ChangeMaps
theorem abd{l:List Int}{k:Nat}(h:k<ae l):l.getD k 0=l[k]:=by rw[aO,bD h];rfl
abbrev cE:aq:=.slice none 0 0
structure Wk(w:ay)(vr va:aq)(C:Nat)(dW:List aq)(rows:List (List Int))(aL:List Int):Prop where
 next:w.ownsRow 0 61 1 vr (ae dW) dW
 acc:w.ownsRow 0 3 1 va (ae aL) (iv aL)
 len:(ae rows)=ae dW
 row:∀j,j<ae dW->∃g cap,dW.getD j cE=.slice (some ⟨g,0,none⟩) C cap/\w.ownsRow 0 3 1 (.slice (some ⟨g,0,none⟩) C cap) C (iv (rows.getD j []))/\va.ownBlock≠some g
def zj(vr va:aq)(dW:List aq)(g:Nat):Prop:=vr.ownBlock=some g\/va.ownBlock=some g\/∃j,j<ae dW/\(dW.getD j cE).ownBlock=some g
section
variable{w:ay}{vr va:aq}{C:Nat}{dW:List aq}{rows:List (List Int)}{aL:List Int}
theorem Wk.kp{w':ay}{xs:List Nat}(h:Wk w vr va C dW rows aL)(hk:Kp xs w w')(hx:∀x∈xs,¬zj vr va dW x):Wk w' vr va C dW rows aL:=by
 refine⟨aJ h.next hk (fun g e hm=>hx g hm (.inl e)),aJ h.acc hk (fun g e hm=>hx g hm (.inr (.inl e))),h.len,fun j hj=>?_⟩;obtain⟨g,cap,e,o,n⟩:=h.row j hj;exact⟨g,cap,e,aJ o hk (fun g' e' hm=>hx g' hm (.inr (.inr ⟨j,hj,by rw[e];exact e'⟩))),n⟩
theorem Wk.lt(h:Wk w vr va C dW rows aL){g:Nat}(hg:zj vr va dW g):g<w.heap.size:=by
 rcases hg with e|e|⟨j,hj,e⟩
 .exact(h.next.lt g e).2
 .exact(h.acc.lt g e).2
 .obtain⟨g',cap,e',o,n⟩:=h.row j hj;rw[e']at e;exact(o.lt g e).2
theorem Wk.Kg{w3:ay}{g cap:Nat}{r:List Int}(h:Wk w vr va C dW rows aL)(hr:w.ownsRow 0 3 1 (.slice (some ⟨g,0,none⟩) C cap) C (iv r))(sJ:va.ownBlock≠some g)(cT:w3.ownsRow 0 61 1 (.slice (some ⟨g1,0,none⟩) (ae dW+1) aP) (ae dW+1) (dW ++ [.slice (some ⟨g,0,none⟩) C cap]))(bj:(w.alloc o).grownBy w3 vr.ownBlock):Wk w3 (.slice (some ⟨g1,0,none⟩) (ae dW+1) aP) va C (dW ++ [.slice (some ⟨g,0,none⟩) C cap]) (rows ++ [r]) aL/\Kp vr.ownBlock.toList w w3:=by
 have kA:Kp vr.ownBlock.toList w w3:=(((Kp.refl _ w).alloc o).qt bj (fun k e=>.inl (by simp[e])));have ne:∀ {v:aq} {n:Nat} {xs:List aq} {x:Nat},w.ownsRow 0 3 1 v n xs->v.ownBlock=some x->x∉vr.ownBlock.toList:=fun {v n xs x} q e hm=>by
  simp at hm;obtain⟨c1,f1,q1⟩:=rG h.next hm;obtain⟨c2,f2,q2⟩:=rG q e;exact uO q1 q2 (by decide) rfl
 refine⟨⟨by rw[cx,iq];exact cT,aJ h.acc kA (fun g e hm=>ne h.acc e hm),by simp[h.len],fun j hj=>?_⟩,kA⟩;rw[cx,iq]at hj;by_cases e:j=ae dW
 .subst e;refine⟨g,cap,qX,?_,sJ⟩;rw[<-h.len,qX];exact aJ hr kA (fun g e hm=>ne hr e hm)
 .obtain⟨g',cap',e1,o1,n1⟩:=h.row j (by omega);refine⟨g',cap',by rw[qY (by omega)];exact e1,?_,n1⟩;rw[qY (by rw[h.len];omega)];exact aJ o1 kA (fun g e hm=>ne o1 e hm)
theorem Wk.V2{w3:ay}{r:Int}(h:Wk w vr va C dW rows aL)(cT:w3.ownsRow 0 3 1 (.slice (some ⟨g1,0,none⟩) (ae aL+1) aP) (ae aL+1) (iv aL ++ [.int .i64 r]))(bj:(w.alloc o).grownBy w3 va.ownBlock)(cy:va.ownBlock=some g1\/g1=w.heap.size+1):Wk w3 vr (.slice (some ⟨g1,0,none⟩) (ae aL+1) aP) C dW rows (aL ++ [r])/\Kp va.ownBlock.toList w w3:=by
 have kA:Kp va.ownBlock.toList w w3:=(((Kp.refl _ w).alloc o).qt bj (fun k e=>.inl (by simp[e])));refine⟨⟨aJ h.next kA (fun g e hm=>?_),?_,h.len,fun j hj=>?_⟩,kA⟩
 .simp at hm;obtain⟨c1,f1,q1⟩:=rG h.next e;obtain⟨c2,f2,q2⟩:=rG h.acc hm;exact uO q1 q2 (by decide) rfl
 .rw[cx,iq,show iv (aL ++ [r])=iv aL ++ [.int .i64 r] by simp[iv]];exact cT
 .obtain⟨g',cap',e1,o1,n1⟩:=h.row j hj;refine⟨g',cap',e1,aJ o1 kA (fun g e hm=>?_),?_⟩
  .simp only[aK,aV]at e;subst e;simp at hm;exact n1 hm
  .intro e;simp only[aK,aV]at e;subst e;rcases cy with q|q
   .exact n1 q
   .have:=(o1.lt g1 rfl).2;omega
theorem Wk.anM(h:Wk w vr va C dW rows aL){nx:Nat->Nat->Int}(Cm:0<ae dW)(gB:∀j,j<ae dW->(rows.getD j []).length=C)(ry:∀j k,j<ae dW->k<C->(rows.getD j []).getD k 0=nx j k):Nc w vr (ae dW) C nx:=by
 obtain⟨g,cap,e⟩:∃g cap,vr=.slice (some ⟨g,0,none⟩) (ae dW) cap:=by
  rcases h.next.2 with⟨_,e⟩|⟨g,cap,cur,e,_⟩
  .omega
  .exact⟨g,cap,e⟩
 subst e;refine⟨g,cap,rfl,(h.next.lt g rfl).2,fun i hi=>?_⟩;obtain⟨g',cap',e1,o1,_⟩:=h.row i hi;refine⟨g',cap',?_,(o1.lt g' rfl).2,fun k hk=>?_⟩
 .rw[h.next.cellAt i (by omega),<-e1,aO,bD hi];rfl
 .have dI:k<(rows.getD i []).length:=by rw[gB i hi];exact hk
  rw[o1.cellAt k (by omega),kx,bD dI,<-ry i k hi hk,abd dI];rfl
end
abbrev iN(n:Nat):aq:=iy n
theorem abG{a b:Nat}(h:iN a=iN b):a=b:=by simp only[iN,iy,Np,true_and]at h;omega
theorem aiD(ws:List Nat)(v:Nat):∃wv,jF (ws.map iN) (iN v)=wv.map iN/\((v∈ws/\wv=ws)\/(v∉ws/\wv=ws ++ [v])):=by
 by_cases h:v∈ws
 .exact⟨ws,uC (kY.2 ⟨v,h,rfl⟩),.inl ⟨h,rfl⟩⟩
 .refine⟨ws ++ [v],?_,.inr ⟨h,rfl⟩⟩;rw[sj,uv]
  .rfl
  .intro hm;obtain⟨u,hu,e⟩:=kY.1 hm;exact h (abG e ▸ hu)
theorem aht{i v:Nat}(h:(ws.map iN)[i]?=some (iN v)):ws[i]?=some v:=by
 rw[kx]at h;cases e:ws[i]? with
 |none=>rw[e]at h;cases h
 |some u=>rw[e]at h;rw[abG (Na h)]
theorem UL{N:Nat}(hn:ws.Nodup)(h:∀s∈ws,s<N):(ae ws)<=N:=aa4 N ws hn h
structure aiB(T:bw)(ls:List Int)(ws:List Nat)(nx:Nat->Nat->Int)(lo:Nat)(vr va:aq)(w:ay):Prop where
 inv:mY T ls ws nx (ae ws) 0
 rows:Nc w vr (ae ws) T.C nx
 acc:∃aL:List Int,ae aL=ae ws/\w.ownsRow 0 3 1 va (ae aL) (iv aL)/\∀j,j<ae ws->aL.getD j 0=T.ac (ws.getD j 0)
 fra:∀g,va.ownBlock=some g->lo<=g
theorem aoW(M gl:Nat)(vn YY vo:aq)(T:bw)(ls:List Int)(w:ay)(hM:∀w',Kp [] w w'->MY w' M vn YY vo)(hT:kz w vn YY T)(fA:wQ T)(hN:T.N<=250)(hC:T.C<=256)(xn:0<T.C)(hl:(ae ls)=T.N)(ko:w.heap[gl]?=some (iO ls))(jT:∀s,s<T.N->-1<=ls.getD s 0/\ls.getD s 0<=s):aI aB 63 #[.pointer (some ⟨M,0,none⟩),.slice (some ⟨gl,0,none⟩) T.N T.N] w fun e w'=>∃(vr va:aq) (ws:List Nat) (nx:Nat->Nat->Int),e=.returned (.tuple #[vr,va])/\aiB T ls ws nx w.heap.size vr va w'/\dA w.heap.size w w':=by
 obtain⟨HM,HT,Gq,pK,tc⟩:=jd hM hT ko jT hl;have Cm:=fA.pos;have lgl:=aE ko;clear hM hT ko jT hl;go_enter Tryz.func63,Tryz.ntmps63;go_upto_region 4 with fail;have kW:Kp [] w (w.alloc (.cells #[.map none,cE,.int .i64 0] 193 (0,0))):=(Kp.refl _ w).alloc _;have bW:pR (w.alloc (.cells #[.map none,cE,.int .i64 0] 193 (0,0))) w.heap.size [w.heap.size] [] 0 :=
  ⟨.map none,cE,by rw[aC,aA rfl];rfl,⟨.inl ⟨rfl,rfl⟩,j9 _ _ _ _,by simp,by simp,by simp⟩,by simp[dV,CB,aK],by simp[dV,CB,aK]⟩
 generalize (w.alloc (.cells #[.map none,cE,.int .i64 0] 193 (0,0)))=W at *;have KW:=aj kW;have BW:=aj bW;have hB:w.heap.size<W.heap.size:=bW.lt _ (by simp);clear kW bW;go_wp2_with fail;refine(BW.o.put 0 (afE (Pe (by omega) (by omega))) (by simp)).mono ?_;rintro _ w1 ⟨i1,F1,rfl,Ce,wl1,Cw,Hy⟩;rw[sj (by simp)]at wl1;have F1s:∀g∈F1,w.heap.size<=g:=fun g hg=>by
  rcases Hy g hg with e|e
  .rw[bQ.1 e];exact aH _
  .omega
 have K1:ax (Kp [] w w1):=KW.o.trans Cw (by simp);have WL1:ax (pR w1 w.heap.size F1 ([0].map iN) 0):=wl1;have HF1:=aj F1s;clear Cw wl1 F1s Ce Hy;go_wp2_with fail;refine(WL1.o.take (by simp) (by intro x hx;simp at hx;exact⟨0,hx⟩) (by simp)).mono ?_;rintro _ w2 ⟨a2,ami,rfl,k2,Fk⟩;have ak2:ami=true/\a2=0/\pR w2 w.heap.size F1 ([0].map iN) 1:=by
  rcases Fk with⟨e,h1,h2⟩|⟨e,h1,h2⟩
  .have h1':iy 0=iy a2:=(by simpa using h1);refine⟨e,?_,h2⟩;have:iN 0=iN a2:=h1';exact(abG this).symm
  .simp at h1
 obtain⟨rfl,rfl,wl2⟩:=ak2;have WL2:=aj wl2;have K2:ax (Kp [] w w2):=K1.o.trans k2 (by simp);clear wl2 k2 Fk;go_wp2_with fail;go_loopw [6,7,9,10] (fun s6 s7 s9 s10 w'=>∃(vr va:aq) (st:Nat) (more:Bool) (F':List Nat) (ws:List Nat) (tk:Nat) (dW:List aq) (rows:List (List Int)) (aL:List Int) (nx:Nat->Nat->Int),s6=vr/\s7=va/\s9=.int .i64 st/\s10=.bool more/\pR w' w.heap.size F' (ws.map iN) tk/\Wk w' vr va T.C dW rows aL/\(ae aL)=ae dW/\(∀j,j<ae dW->(rows.getD j []).length=T.C/\∀k,k<T.C->(rows.getD j []).getD k 0=nx j k)/\(∀j,j<ae dW->aL.getD j 0=T.ac (ws.getD j 0))/\mY T ls ws nx (ae dW) 0/\(∀g,zj vr va dW g->w.heap.size<=g/\g∉F')/\(∀g∈F',w.heap.size<=g)/\Kp [] w w' /\
   ((more=true/\tk=ae dW+1/\ws[ae dW]?=some st)\/(more=false/\tk=ae dW/\(ae dW)=ae ws)))
  (fun _ _ _ s10 w'=>2*(300-(aG ((w'.cell? ⟨w.heap.size,2,none⟩).getD undef)).toNat)+xJ s10)
 case atStart =>
  refine⟨cE,cE,0,true,F1,[0],1,[],[],[],fun _ _=>0,rfl,rfl,rfl,rfl,WL2.o,⟨j9 _ _ _ _,j9 _ _ _ _,rfl,fun j hj=>by simp at hj⟩,rfl,fun j hj=>by simp at hj,fun j hj=>by simp at hj,?_,?_,HF1.o,K2.o,.inl ⟨rfl,rfl,rfl⟩⟩
  .refine⟨rfl,by simp,?_,?_,?_,?_,?_⟩
   .intro s hs;rw[bQ.1 hs];exact Cm
   .rintro j k (z|⟨_,z⟩)
    .simp at z
    .omega
   .intro i h1 h2;simp at h2;omega
   .intro t h1 h2;simp at h2;omega
   .rintro s k t u (z|⟨_,z⟩)
    .simp at z
    .omega
  .intro g hg;rcases hg with e|e|⟨j,hj,_⟩
   .simp[aK]at e
   .simp[aK]at e
   .simp at hj
 case round =>
  obtain⟨vr,va,st,more,F2,ws,tk,dW,rows,aL,nx,e6,e7,rfl,rfl,wl,wk,pT,xy,eP,Y9,hdj,hF,kp,hm⟩:=hrel;rw[e6,e7];clear e6 e7;obtain⟨WL,WK,oI,C9,AQ,WI,MH,HF,KP⟩:=N7 wl wk pT xy eP Y9 hdj hF kp;have MP:=aj wl.taken;have zO:=UL Y9.nodup Y9.lt;clear wl wk pT xy eP Y9 hdj hF kp;rcases hm with⟨rfl,Is,hx⟩|⟨rfl,Is,hn⟩
  .have Gz:=aj Is;have HX:=aj hx;have tT:(ae dW)<ae ws:=(fB.1 hx).1;have eM:st<T.N:=WI.o.lt st (qL hx);have mg:=HM.o wr KP.o;have qm:=mg.qm;have zG:=mg.zG;obtain⟨⟨gn,jj,rfl,ID,ij⟩,⟨ga,ki,rfl,IC,uE⟩⟩:=HT.o.kp KP.o;obtain⟨gs,cs,r1,r2,r3⟩:=ij st eM;have alc:(st:Int)<T.N:=(by omega);have ca:=uE st eM;have R3:=aj r3;have CA:=aj ca;have yS:((lU T.C).map fun k=>T.nx st k).length=T.C:=(by simp);have dw:=aaX gs cs ((lU T.C).map fun k=>T.nx st k) wr (by rw[yS];exact xn) (by rw[yS];omega) (fun i hi=>by
    rw[yS]at hi;rw[r3 i hi,aO];simp[hi]) r2
   rw[yS]at dw;have ZL:=aj dw;clear Is hx mg ij uE r3 ca dw yS;go_wp2_with fail;refine ZL.o.mono ?_;rintro _ w3 ⟨gr,vI,rfl,TY,DX,h3⟩;have k3:Kp [] wr w3:=(Kp.refl [] wr).below h3;have VG:=aj DX;have WL3:=aj (WL.o.kp k3 (by simp));have WK3:=aj (WK.o.kp k3 (by simp));have K3:ax (Kp [] w w3):=KP.o.trans k3 (by simp);(have ngF:gr∉F2:=fun hm=>by have:=WL.o.lt _ hm;omega);(have X9:¬zj vr va dW gr:=fun hm=>by have:=WK.o.lt hm;omega);have XE:w.heap.size<=gr:=j8 KP.o.size TY;clear DX h3 k3 qm r1;go_wp2_with fail;go_loopw [35] (fun s w'=>∃(c:Nat) (F':List Nat) (wv:List Nat) (nx':Nat->Nat->Int) (l:List Int),c<=T.C/\s=.int .i64 c/\pR w' w.heap.size F' (wv.map iN) tk/\Wk w' vr va T.C dW rows aL/\(ae l)=T.C/\w'.ownsRow 0 3 1 (.slice (some ⟨gr,0,none⟩) T.C vI) T.C (iv l)/\(∀k,k<c->l.getD k 0=nx' (ae dW) k)/\(∀k,c<=k->k<T.C->l.getD k 0=T.nx st k)/\(∀j k,j<ae dW->nx' j k=nx j k)/\mY T ls wv nx' (ae dW) c/\ws <+: wv/\gr∉F'/\(∀g,zj vr va dW g->g∉F')/\(∀g∈F',w.heap.size<=g)/\Kp [] w w')
    (fun s _=>T.C-(aG s).toNat)
   case atStart =>
    refine⟨0,F2,ws,nx,(lU T.C).map fun k=>T.nx st k,by omega,rfl,WL3.o,WK3.o,by simp,VG.o,fun k hk=>by omega,fun k _ hk=>?_,fun j k _=>rfl,WI.o,⟨[],by simp⟩,ngF,fun g hg=>(MH.o g hg).2,HF.o,K3.o⟩;rw[aO];simp[hk]
   case round =>
    obtain⟨c,F4,CS,LQ,l,hc,rfl,wl4,wk4,Xf,FP,hd1,vM,hd3,Y8,Yn,ng4,nw4,hf4,k4⟩:=hrel;obtain⟨Q0,Nq,Gv,M9,U0,ZN,U1,V0,VH⟩:=N7 wl4 wk4 Xf FP hd1 vM hd3 Y8 Yn;obtain⟨JZ,Dh,MI,K4⟩:=dH ng4 nw4 hf4 k4;have Xi:(ae dW)<ae CS:=by
     have:=Yn.length_le;omega
    have afn:CS.getD (ae dW) 0=st:=by
     obtain⟨t,rfl⟩:=Yn;rw[aO,iI tT,HX.o];rfl
    have Vd:=aj afn;have apD:=UL Y8.nodup Y8.lt;clear afn wl4 wk4 hd1 hd3 Y8 Yn ng4 nw4 hf4;by_cases dw:c<T.C
    .have yI:(c:Int)<T.C:=(by omega);have ec:=vM c (aH _) dw;have cr:wr.cell? ⟨gr,c,none⟩=some (.int .i64 (T.nx st c)):=by
      (have Ih:c<ae l:=by rw[Xf];exact dw);rw[FP.cellAt c (by omega),kx,bD Ih,<-ec,abd Ih];rfl
     have sx:=FP.frozenAt c;have rg:=fA.ik st c eM dw;clear vM ec FP Xf;by_cases Xm:T.nx st c=-1
     .have ahU:=aj Xm;rw[Xm]at cr;clear Xm rg k4;go_wp2;have kS:Kp [gr] wr (wr.setCell ⟨gr,c,none⟩ (.int .i64 (-1))):=(Kp.refl [gr] wr).set (by simp) _ _;refine⟨⟨c+1,F4,CS,rS LQ (ae dW) c (-1),l.set c (-1),by omega,by go_num,(Q0.o.kp kS (by intro x hx;rw[bQ.1 hx];exact JZ.o)),(Nq.o.kp kS (by intro x hx;rw[bQ.1 hx];exact X9)),by rw[mq];exact Gv.o,?_,?_,?_,?_,?_,?_,JZ.o,Dh.o,MI.o,K4.o.set (.inr XE) _ _⟩,by simp[aG];omega⟩
      .have:=(M9.o.stored c (.int .i64 (-1))).1;rw[show(iv l).set c (.int .i64 (-1))=iv (l.set c (-1)) by simp[iv,Vq]]at this;exact this
      .intro k hk;by_cases e:k=c
       .subst e;rw[AE,qV _ _ _ (by rw[Gv.o];exact dw)]
       .rw[ud _ _ (.inr e),tJ _ _ _ _ (fun q=>e q.symm)];exact U0.o k (by omega)
      .intro k hk Cg;rw[tJ _ _ _ _ (by omega)];exact ZN.o k (by omega) Cg
      .intro j k hj;rw[ud _ _ (.inl (by omega))];exact U1.o j k hj
      .exact V0.o.eJ Xi (by rw[Vd.o];unfold Aa;rw[aA ahU.o]) (AE _ _ _ _) (fun j k hp=>by
       rw[ud];rcases hp with z|⟨_,z⟩
       .exact .inl (by omega)
       .exact .inr (by omega))
      .exact VH.o
     ·(obtain⟨m,hm⟩:∃m:Nat,T.nx st c=m:=⟨(T.nx st c).toNat,by omega⟩);rw[hm]at cr;have S5:m<T.N:=(by omega);have apW:(m:Int)<T.N:=(by omega);have U9:=aj hm;(have apY:((m:Int) != -1)=true:=by simp<;>omega);have bl:=k4.keep Gq.o (by simp);have cl:=jK bl m (by rw[tc.o];exact S5);have hlm:=pK.o m S5;clear hm Xm rg bl k4;by_cases hv:ls.getD m 0=-1
      .rw[hv]at cl;have ye:=aj hv;clear hv hlm;go_wp2;have kS:Kp [gr] wr (wr.setCell ⟨gr,c,none⟩ (.int .i64 (-1))):=(Kp.refl [gr] wr).set (by simp) _ _;refine⟨⟨c+1,F4,CS,rS LQ (ae dW) c (-1),l.set c (-1),by omega,by go_num,(Q0.o.kp kS (by intro x hx;rw[bQ.1 hx];exact JZ.o)),(Nq.o.kp kS (by intro x hx;rw[bQ.1 hx];exact X9)),by rw[mq];exact Gv.o,?_,?_,?_,?_,?_,?_,JZ.o,Dh.o,MI.o,K4.o.set (.inr XE) _ _⟩,by simp[aG];omega⟩
       .have:=(M9.o.stored c (.int .i64 (-1))).1;rw[show(iv l).set c (.int .i64 (-1))=iv (l.set c (-1)) by simp[iv,Vq]]at this;exact this
       .intro k hk;by_cases e:k=c
        .subst e;rw[AE,qV _ _ _ (by rw[Gv.o];exact dw)]
        .rw[ud _ _ (.inr e),tJ _ _ _ _ (fun q=>e q.symm)];exact U0.o k (by omega)
       .intro k hk Cg;rw[tJ _ _ _ _ (by omega)];exact ZN.o k (by omega) Cg
       .intro j k hj;rw[ud _ _ (.inl (by omega))];exact U1.o j k hj
       .exact V0.o.eJ Xi (by rw[Vd.o];unfold Aa;rw[az (by rw[U9.o];omega),U9.o,mj];exact ye.o) (AE _ _ _ _) (fun j k hp=>by
        rw[ud];rcases hp with z|⟨_,z⟩
        .exact .inl (by omega)
        .exact .inr (by omega))
       .exact VH.o
      ·(obtain⟨v,xA⟩:∃v:Nat,ls.getD m 0=v:=⟨(ls.getD m 0).toNat,by omega⟩);rw[xA]at cl;have hvN:v<T.N:=(by omega);have ye:=aj xA;(have aqh:((v:Int) != -1)=true:=by simp<;>omega);clear hv xA hlm;go_wp2_with fail;refine(Q0.o.put (v:Int) (afE (Pe (by omega) (by omega))) (by rw[mX];omega)).mono ?_;rintro _ w5 ⟨i5,F5,rfl,SE,wl5,rC,sy⟩;obtain⟨ws5,e5,tU⟩:=aiD CS v;have e5':jF (CS.map iN) (iy v)=ws5.map iN:=e5;rw[e5']at SE wl5;have ae2:ws5[i5]?=some v:=aht SE;have HI5:=aj ae2;have HW5:=aj tU;have WL5:=aj wl5;have WK5:=aj (Nq.o.kp rC (fun x hx hm=>Dh.o x hm hx));have eE:=aJ M9.o rC (by intro g e hm;simp only[aK,aV]at e;subst e;exact JZ.o hm);have aii:=aj eE;have K5:ax (Kp [] w w5):=K4.o.trans rC (fun y hy=>.inr (MI.o y hy));have s5:=K4.o.size;have alL:gr<wr.heap.size:=(M9.o.lt gr rfl).2;have NG5:ax (gr∉F5):=fun hm=>by
        rcases sy gr hm with e|e
        .exact JZ.o e
        .omega
       have NW5:ax (∀g,zj vr va dW g->g∉F5):=fun g hg hm=>by
        rcases sy g hm with e|e
        .exact Dh.o g hg e
        .have:=Nq.o.lt hg;omega
       have HF5:ax (∀g∈F5,w.heap.size<=g):=fun g hg=>by
        rcases sy g hg with e|e
        .exact MI.o g e
        .omega
       have c5:w5.cell? ⟨gr,c,none⟩=some (.int .i64 (l.getD c 0)):=by
        (have Ih:c<ae l:=by rw[Gv.o];exact dw);rw[eE.cellAt c (by omega),kx,bD Ih,abd Ih];rfl
       have f5:=eE.frozenAt c;clear SE wl5 rC sy eE e5 e5' ae2 tU cr sx;go_wp2;have kS:Kp [gr] w5 (w5.setCell ⟨gr,c,none⟩ (.int .i64 (i5:Int))):=(Kp.refl [gr] w5).set (by simp) _ _;refine⟨⟨c+1,F5,ws5,rS LQ (ae dW) c (i5:Int),l.set c (i5:Int),by omega,by go_num,(WL5.o.kp kS (by intro x hx;rw[bQ.1 hx];exact NG5.o)),(WK5.o.kp kS (by intro x hx;rw[bQ.1 hx];exact X9)),by rw[mq];exact Gv.o,?_,?_,?_,?_,?_,?_,NG5.o,NW5.o,HF5.o,K5.o.set (.inr XE) _ _⟩,by simp[aG];omega⟩
       .have:=(aii.o.stored c (.int .i64 (i5:Int))).1;rw[show(iv l).set c (.int .i64 (i5:Int))=iv (l.set c (i5:Int)) by simp[iv,Vq]]at this;exact this
       .intro k hk;by_cases e:k=c
        .subst e;rw[AE,qV _ _ _ (by rw[Gv.o];exact dw)]
        .rw[ud _ _ (.inr e),tJ _ _ _ _ (fun q=>e q.symm)];exact U0.o k (by omega)
       .intro k hk Cg;rw[tJ _ _ _ _ (by omega)];exact ZN.o k (by omega) Cg
       .intro j k hj;rw[ud _ _ (.inl (by omega))];exact U1.o j k hj
       .exact V0.o.sP Xi dw (by rw[Vd.o];unfold Aa;rw[az (by rw[U9.o];omega),U9.o,mj,ye.o]) ⟨m,S5,ye.o⟩ hvN HW5.o HI5.o (AE _ _ _ _) (fun j k hp=>by
        rw[ud];rcases hp with z|⟨_,z⟩
        .exact .inl (by omega)
        .exact .inr (by omega))
       .refine VH.o.trans ?_;rcases HW5.o with⟨_,e⟩|⟨_,e⟩
        .rw[e];exact⟨[],by simp⟩
        .rw[e];exact⟨_,rfl⟩
    .have Su:c=T.C:=(by omega);subst Su;obtain⟨i0,cS,dc,dm,cW⟩:=iw afB;obtain⟨j0,nJ,mz,pB,pW⟩:=iw DQ;obtain⟨I0,Z0,Z1,Z2,J0,Y0,Y1,Y2⟩:=KZ cS dc dm cW nJ mz pB pW;have gB:(ae dW)<=250:=(by omega);have alL:gr<wr.heap.size:=(M9.o.lt gr rfl).2;have sw4:=K4.o.size;clear cS dc dm cW nJ mz pB pW vM FP Xf k4 zG;go_upto_region 18 with fail;apply fD
     iterate 9 go_step
     refine qU rfl _ _ _ rfl 61 i0 _ 1 24 ES I0.o Z0.o Z1.o Z2.o rfl (by omega) vr (ae dW) dW rfl (Nq.o.next.alloc _) ⟨wr.heap.size,0,none⟩ 1 1 [.slice (some ⟨gr,0,none⟩) T.C vI] rfl rfl (gN (cs:=#[.slice (some ⟨gr,0,none⟩) T.C vI]) (t:=61) (fr:=(0,0)) (jS wr _)) (by simp[dS]) (by omega) (by unfold eB;omega) (by omega) (wr.heap.size+1) (by simp) ?_;intro g1 aP w6 I2 xj yy XV;obtain⟨wk6,k6⟩:=Nq.o.Kg M9.o (fun e=>X9 (.inr (.inl e))) I2 xj;(have zY:∀x∈vr.ownBlock.toList,zj vr va dW x:=fun x hx=>.inl (by simpa using hx));have WK6:=aj wk6;have WL6:=aj (Q0.o.kp k6 (fun x hx=>Dh.o x (zY x hx)));have K6:ax (Kp [] w w6):=K4.o.trans k6 (fun y hy=>.inr (MH.o y (zY y hy)).1);have s6:=k6.size;have Qn:ax (∀g,zj (.slice (some ⟨g1,0,none⟩) (ae dW+1) aP) va (dW ++ [.slice (some ⟨gr,0,none⟩) T.C vI]) g->w.heap.size<=g/\g∉F4):=fun g hg=>by
      rcases hg with e|e|⟨j,hj,e⟩
      .simp only[aK,aV]at e;subst e;rcases yy with q|q
       .exact⟨(MH.o g1 (.inl q)).1,Dh.o g1 (.inl q)⟩
       .exact⟨by omega,fun hm=>by have:=Q0.o.lt _ hm;omega⟩
      .exact⟨(MH.o g (.inr (.inl e))).1,Dh.o g (.inr (.inl e))⟩
      .rw[cx,iq]at hj;by_cases ej:j=ae dW
       .subst ej;rw[qX]at e;simp only[aK,aV]at e;subst e;exact⟨XE,JZ.o⟩
       .rw[qY (by omega)]at e;have iL:zj vr va dW g:=.inr (.inr ⟨j,by omega,e⟩);exact⟨(MH.o g iL).1,Dh.o g iL⟩
     have zG:=(HM.o w6 K6.o).zG;have ca6:w6.cell? ⟨ga,st,none⟩=some (.int .i64 (T.ac st)):=by
      obtain⟨_,⟨ga',aps,e',_,h'⟩⟩:=HT.o.kp K6.o;cases e';exact h' st eM
     clear I2 xj yy XV wk6 k6 zY;generalize aeI:T.ac st=Q2 at *;have ahL:=aj aeI;clear aeI;go_upto_region 19 with fail;apply fD
     iterate 30 go_step
     refine qU rfl _ _ _ rfl 3 j0 _ 1 8 qR J0.o Y0.o Y1.o Y2.o rfl (by omega) va (ae aL) (iv aL) rfl (WK6.o.acc.alloc _) ⟨w6.heap.size,0,none⟩ 1 1 [.int .i64 Q2] rfl rfl (gN (cs:=#[.int .i64 Q2]) (t:=3) (fr:=(0,0)) (jS w6 _)) (by simp[dS]) (by omega) (by rw[oI.o];unfold eB;omega) (by rw[oI.o];omega) (w6.heap.size+1) (by simp) ?_;intro g2 xd w7 sO aex qh lt7;obtain⟨wk7,k7⟩:=WK6.o.V2 sO aex qh;(have sJ:∀x∈va.ownBlock.toList,zj (.slice (some ⟨g1,0,none⟩) (ae dW+1) aP) va (dW ++ [.slice (some ⟨gr,0,none⟩) T.C vI]) x:=fun x hx=>.inr (.inl (by simpa using hx)));have WK7:=aj wk7;have WL7:=aj (WL6.o.kp k7 (fun x hx=>(Qn.o x (sJ x hx)).2));have K7:ax (Kp [] w w7):=K6.o.trans k7 (fun y hy=>.inr (Qn.o y (sJ y hy)).1);have IN7:ax (∀g,zj (.slice (some ⟨g1,0,none⟩) (ae dW+1) aP) (.slice (some ⟨g2,0,none⟩) (ae aL+1) xd) (dW ++ [.slice (some ⟨gr,0,none⟩) T.C vI]) g->w.heap.size<=g/\g∉F4):=fun g hg=>by
      rcases hg with e|e|e
      .exact Qn.o g (.inl e)
      .simp only[aK,aV]at e;subst e;rcases qh with q|q
       .exact Qn.o g2 (.inr (.inl q))
       .exact⟨by have:=K6.o.size;omega,fun hm=>by have:=WL6.o.lt _ hm;omega⟩
      .exact Qn.o g (.inr (.inr e))
     clear sO aex qh lt7 wk7 k7 sJ zG ca6;have hlw:(ae dW)+1<=ae CS:=Xi;go_wp2_with fail;refine(WL7.o.take (by rw[mX,Gz.o];exact hlw) (by intro x hx;obtain⟨u,_,rfl⟩:=kY.1 hx;exact⟨u,rfl⟩) (by rw[mX];omega)).mono ?_;rintro _ w8 ⟨a8,aqs,rfl,k8,hm8⟩;have K8:ax (Kp [] w w8):=K7.o.trans k8 (by simp);have nBW:∀x ∈ [w.heap.size],¬zj (.slice (some ⟨g1,0,none⟩) (ae dW+1) aP) (.slice (some ⟨g2,0,none⟩) (ae aL+1) xd) (dW ++ [.slice (some ⟨gr,0,none⟩) T.C vI]) x:=fun x hx hm=>by
      rw[bQ.1 hx]at hm;exact(IN7.o _ hm).2 WL7.o.mem
     have WK8:=aj (WK7.o.kp k8 nBW);have HM8:=aj hm8;clear k8 hm8 nBW;go_wp2;have e1:=MP.o;have e2:=Gz.o;have rwT:∀j,j<(dW ++ [uB (some ⟨gr,0,none⟩) T.C vI]).length->((rows ++ [l]).getD j []).length=T.C/\∀k,k<T.C->((rows ++ [l]).getD j []).getD k 0=LQ j k:=fun j hj=>by
      rw[cx,iq]at hj;by_cases e:j=ae dW
      .subst e;rw[<-WK.o.len,qX];refine⟨Gv.o,fun k hk=>?_⟩;rw[WK.o.len];exact U0.o k hk
      .rw[qY (by rw[WK.o.len];omega)];refine⟨(C9.o j (by omega)).1,fun k hk=>?_⟩;rw[U1.o j k (by omega)];exact(C9.o j (by omega)).2 k hk
     have Q8:∀j,j<(dW ++ [uB (some ⟨gr,0,none⟩) T.C vI]).length->(aL ++ [Q2]).getD j 0=T.ac (CS.getD j 0):=fun j hj=>by
      rw[cx,iq]at hj;by_cases e:j=ae dW
      .subst e;rw[Vd.o,ahL.o,<-oI.o,qX]
      .rw[qY (by rw[oI.o];omega),AQ.o j (by omega)];obtain⟨t,et⟩:=VH.o;rw[<-et,aO,aO,iI (by omega)]
     have wiT:mY T ls CS LQ (dW ++ [uB (some ⟨gr,0,none⟩) T.C vI]).length 0:=by
      rw[cx,iq];exact V0.o.next
     have XQ:(dW ++ [uB (some ⟨gr,0,none⟩) T.C vI]).length=ae dW+1:=(by simp);rcases HM8.o with⟨rfl,q1,q2⟩|⟨rfl,q1,q2⟩
     .refine⟨⟨_,_,a8,true,F4,CS,tk+1,dW ++ [.slice (some ⟨gr,0,none⟩) T.C vI],rows ++ [l],aL ++ [Q2],LQ,rfl,rfl,rfl,rfl,q2,WK8.o,by simp[oI.o],rwT,Q8,wiT,IN7.o,MI.o,K8.o,.inl ⟨rfl,by rw[XQ,e2],?_⟩⟩,?_⟩
      .rw[XQ,<-e2];exact aht q1
      .have ql:=(fB.1 q1).1;rw[mX]at ql;rw[q2.taken,e1];simp[aG,xJ];omega
     .refine⟨⟨_,_,a8,false,F4,CS,tk,dW ++ [.slice (some ⟨gr,0,none⟩) T.C vI],rows ++ [l],aL ++ [Q2],LQ,rfl,rfl,rfl,rfl,q2,WK8.o,by simp[oI.o],rwT,Q8,wiT,IN7.o,MI.o,K8.o,.inr ⟨rfl,by rw[XQ,e2],?_⟩⟩,?_⟩
      .rw[XQ,<-e2,q1,mX]
      .rw[q2.taken,e1];simp[aG,xJ]
  .clear Is;go_wp2;(go_ret2);refine⟨_,_,ws,nx,rfl,⟨?_,?_,⟨aL,by rw[oI.o,hn],WK.o.acc,fun j hj=>AQ.o j (by omega)⟩,fun g e=>(MH.o g (.inr (.inl e))).1⟩,KP.o.toBelow⟩
   .rw[<-hn];exact WI.o
   .rw[<-hn];refine WK.o.anM ?_ (fun j hj=>(C9.o j hj).1) (fun j k hj hk=>(C9.o j hj).2 k hk);rw[hn];exact(fB.1 WI.o.first).1
end
end
section
variable{ops:Array Oper}{rest:List Oper}{op:Oper}{a:Act}{w:ay}{Q:Exit->Act->ay->Prop}
theorem aaM(iK:op.guard=none)(ty:cL)(x:Operand)(ho:op.op=.box ty x)(v:aq)(hv:a.eval x=v)(h:wpList aB ops Q rest (a.put op.dst (.pointer (some ⟨w.heap.size,0,none⟩))) (w.alloc (.cells v.cells ty (0,0)))):wpList aB ops Q (op::rest) a w:=by
 refine wpList_plain iK fun _ hK=>?_
 unfold Oper.wp execOp;simp only[ho,hv];simp[Instr.box,newVar,newRow,newObj,Sem.run_bind,go_sem];exact hK _ _ h
theorem alj(iK:op.guard=none)(x y:Operand)(ho:op.op=.index 89 x y)(c:Array aq)(hx:a.eval x=.agg c)(k:Nat)(hy:a.eval y=.int .i64 k)(hk:k<256)(v:aq)(hv:c[k]?=some v)(h:wpList aB ops Q rest (a.put op.dst v) w):wpList aB ops Q (op::rest) a w:=by
 refine wpList_plain iK fun _ hK=>?_
 obtain⟨i0,cS,dc,dm,cW⟩:=iw DQ;have hk':(k:Int)<256:=(by omega);unfold Oper.wp execOp;simp only[ho,hx,hy];simp[Instr.index,At VZ,asIntOf,sizeOf,typeInfo,cS,dm,hk',hk,part,isAgg,At Tryz.underlying3,hv];exact hK _ _ h
end
def Ui:Nat->Option (Nat×Nat)
 |0=>some (0,258)
 |1=>some (258,1)
 |2=>some (259,3)
 |_=>none
theorem afx:(aB.info? 153).map (fun i=>i.zero)=some (some (.agg (iM dR (.slice none 0 0) (.slice none 0 0) (.slice none 0 0) (.map none) (.slice none 0 0) (.int .i64 0)))):=by kernel_rfl
theorem alq:(aB.info? 153).map (·.size)=some 262:=by kernel_rfl
theorem adU(parts:List (Nat×aq)):aB.built 153 parts=oZ Ui (iM dR (.slice none 0 0) (.slice none 0 0) (.slice none 0 0) (.map none) (.slice none 0 0) (.int .i64 0)) parts:=by
 have hz:=afx;obtain⟨i,hi⟩:∃i,aB.info? 153=some i:=by
  cases h:aB.info? 153 with
  |none=>rw[h]at hz;cases hz
  |some i=>exact⟨i,rfl⟩
 rw[hi]at hz;have hz':i.zero=some (.agg (iM dR (.slice none 0 0) (.slice none 0 0) (.slice none 0 0) (.map none) (.slice none 0 0) (.int .i64 0))):=(by simpa using hz);unfold Program.built;simp only[hi,Tryz.underlying153,hz'];have hp:([(aB.info? 91).map fun i=>(0,i.size),(aB.info? 29).map fun i=>(258,i.size),(aB.info? 151).map fun i=>(259,i.size)]:List (Option (Nat×Nat)))=[some (0,258),some (258,1),some (259,3)]:=by kernel_rfl
 simp only[zn,and_true]at hp;obtain⟨p0,p1,p2⟩:=hp;simp only[adb,List.mapM_nil,p0,p1,p2];have e:(fun x=>([(0,258),(258,1),(259,3)]:List (Nat×Nat)).toArray[x]?)=Ui:=by
  funext x
  match x with
  |0=>rfl
  |1=>rfl
  |2=>rfl
  |n+3=>rfl
 rw[<-e];rfl
theorem alG{c:Array aq}(h:c.size=256)(vn va:aq):pC (iM dR (.slice none 0 0) (.slice none 0 0) (.slice none 0 0) (.map none) (.slice none 0 0) (.int .i64 0)) 0 (aY c vn va).toList=iM c vn va (.slice none 0 0) (.map none) (.slice none 0 0) (.int .i64 0):=by
 have hs:=fG h vn va;have hm:=FI kG (.slice none 0 0) (.slice none 0 0) (.slice none 0 0) (.map none) (.slice none 0 0) (.int .i64 0);have inn:∀i,i<258->(pC (iM dR (.slice none 0 0) (.slice none 0 0) (.slice none 0 0) (.map none) (.slice none 0 0) (.int .i64 0)) 0 (aY c vn va).toList)[i]?=(aY c vn va)[i]?:=fun i hi=>by
  have:=Lx (aY c vn va).toList 0 (iM dR (.slice none 0 0) (.slice none 0 0) (.slice none 0 0) (.map none) (.slice none 0 0) (.int .i64 0)) i (by simpa [hs]using hi) (by rw[hm];simp[hs]);rw[yn]at this;rw[this,uk]
 have out:∀i,258<=i->(pC (iM dR (.slice none 0 0) (.slice none 0 0) (.slice none 0 0) (.map none) (.slice none 0 0) (.int .i64 0)) 0 (aY c vn va).toList)[i]?=(iM dR (.slice none 0 0) (.slice none 0 0) (.slice none 0 0) (.map none) (.slice none 0 0) (.int .i64 0))[i]?:=fun i hi =>
  FG _ _ _ _ (.inr (by simpa [hs]using hi))
 refine XZ h _ _ _ _ _ _ _ (by rw[TV,hm]) ?_ ?_ ?_ ?_ ?_ ?_ ?_
 .intro i hi;rw[inn i (by omega),uQ h _ _ hi]
 .rw[inn 256 (by omega),oW h]
 .rw[inn 257 (by omega),rM h]
 .rw[out 258 (by omega),IJ kG]
 .rw[out 259 (by omega),OD kG]
 .rw[out 260 (by omega),LG kG]
 .rw[out 261 (by omega),LH kG]
theorem aj6{c:Array aq}(h:c.size=256)(vn va:aq):oZ Ui (iM dR (.slice none 0 0) (.slice none 0 0) (.slice none 0 0) (.map none) (.slice none 0 0) (.int .i64 0)) [(0,.agg (aY c vn va))]=some (iM c vn va (.slice none 0 0) (.map none) (.slice none 0 0) (.int .i64 0)):=by
 rw[oZ];simp only[Ui,uA,fG h,FI kG];have:=Wv 0 (aY c vn va).toList 0 (iM dR (.slice none 0 0) (.slice none 0 0) (.slice none 0 0) (.map none) (.slice none 0 0) (.int .i64 0));simp only[yl]at this;rw[alG h]at this;rw[az (by simp),oZ];congr 1;rw[<-this,<-acQ];simp
section
variable{ops:Array Oper}{rest:List Oper}{op:Oper}{a:Act}{w:ay}{Q:Exit->Act->ay->Prop}
theorem ajc(iK:op.guard=none)(parts:List (Nat×Operand))(ho:op.op=.build 153 parts.toArray)(cells:Array aq)(hf:oZ Ui (iM dR (.slice none 0 0) (.slice none 0 0) (.slice none 0 0) (.map none) (.slice none 0 0) (.int .i64 0)) (parts.map fun q=>(q.1,a.eval q.2))=some cells)(h:wpList aB ops Q rest (a.put op.dst (.agg cells)) w):wpList aB ops Q (op::rest) a w:=by
 have e:(parts.toArray.map fun(i,x)=>(i,a.eval x)).toList=parts.map fun q=>(q.1,a.eval q.2):=(by simp)
 refine wpList_plain iK fun _ hK=>wp_build 153 parts.toArray ho ?_ (hK _ _ ?_)
 .rw[adU,e,hf];rfl
 .rw[adU,e,hf];exact h
end
section
variable{B:Nat}
theorem I3{w:ay}{e:cL}{v:aq}{n:Nat}{xs:List aq}(h:w.ownsRow 0 e 1 v n xs){g:Nat}(hg:v.ownBlock=some g){j:Nat}{u:aq}(hu:xs[j]?=some u):w.cell? ⟨g,j,none⟩=some u:=by
 rcases h.2 with⟨rfl,_⟩|⟨g',cap,cur,rfl,_,hb,_,_,_,ht⟩
 .simp[aK]at hg
 .simp[aK]at hg;subst hg;rw[aF hb,<-uk];rw[<-ht,List.getElem?_take]at hu;by_cases q:j<n*1
  .rw[aA q]at hu;exact hu
  .rw[az q]at hu;simp at hu
structure vC(B:Nat)(w:ay)(vn va:aq)(N:Nat):Prop where
 n:∀g,vn.ownBlock=some g->B<=g
 a:∀g,va.ownBlock=some g->B<=g
 r:∀g,vn.ownBlock=some g->∀i,i<N->∀g2 n2 c2,w.cell? ⟨g,i,none⟩=some (.slice (some ⟨g2,0,none⟩) n2 c2)->B<=g2
theorem jX.low{w:ay}{tb:Nat}{c:Array aq}{vn va:aq}{C:Nat}{gs:List Nat}{rows:List (List Int)}{aL:List Int}(h:jX w tb c vn va C gs rows aL)(hl:∀g∈jf tb vn va gs,g=tb\/B<=g):vC B w vn va (ae gs):=by
 refine⟨fun g hg=>?_,fun g hg=>?_,fun g hg i hi g2 n2 c2 hc=>?_⟩
 .rcases hl g (mc.2 (.inr (.inl hg)))with e|e
  .exact absurd (e ▸ hg) h.wq
  .exact e
 .rcases hl g (mc.2 (.inr (.inr (.inl hg))))with e|e
  .exact absurd (e ▸ hg) h.F8
  .exact e
 .have hq:(gs.map (rv C))[i]?=some (rv C (gs.getD i 0)):=(by simp[List.getD,hi]);rw[I3 h.next hg hq]at hc;simp only[aV,Value.slice.injEq,Addr.mk.injEq,and_true]at hc;rw[<-hc.1];have hm:gs.getD i 0∈gs:=by rw[aO,bD hi];exact nE hi
  rcases hl _ (mc.2 (.inr (.inr (.inr hm))))with e|e
  .exact absurd e (h.gn hi).2
  .exact e
theorem vC.kp{w w':ay}{vn va:aq}{T:bw}(h:vC B w vn va T.N)(hR:kz w vn va T)(hk:Kp [] w w'):vC B w' vn va T.N:=by
 obtain⟨⟨gn,cap,rfl,l,_⟩,_⟩:=hR;refine⟨h.n,h.a,fun g hg i hi g2 n2 c2 hc=>h.r g hg i hi g2 n2 c2 ?_⟩;simp only[aK,aV]at hg;subst hg;rw[<-hk.cell l];exact hc
theorem vC.low{B':Nat}{w:ay}{vn va:aq}{N:Nat}(h:vC B w vn va N)(hb:B'<=B):vC B' w vn va N :=
 ⟨fun g hg=>j8 hb (h.n g hg),fun g hg=>j8 hb (h.a g hg),fun g hg i hi g2 n2 c2 hc=>j8 hb (h.r g hg i hi g2 n2 c2 hc)⟩
def Er(B:Nat)(w:ay)(lb:Nat)(U:bw):Prop:=∃vn va,w.heap[lb]?=some (.cells (aY (cI U.cls 256) vn va) 115 (0,0))/\kz w vn va U/\vC B w vn va U.N
end
section
variable{C N tb:Nat}{gs:List Nat}{rows:List (List Int)}{aL:List Int}
section
open Go.RowKit Go.ChangeMaps
theorem ahv:dR.all (·.oneCell')=true:=by
 have:=vJ (fun _=>0) 0;rw[Rv]at this;exact this
theorem CL{c:Array aq}{vn va:aq}(h:c.all (·.oneCell')=true)(h1:vn.oneCell'=true)(h2:va.oneCell'=true):(aY c vn va).all (·.oneCell')=true:=by
 unfold aY;rw[acP,h];simp[h1,h2]
theorem alX{c:Array aq}{vn va vo vm vs tk:aq}(h:c.all (·.oneCell')=true)(h1:vn.oneCell'=true)(h2:va.oneCell'=true)(h3:vo.oneCell'=true)(h4:vm.oneCell'=true)(h5:vs.oneCell'=true)(h6:tk.oneCell'=true):(iM c vn va vo vm vs tk).all (·.oneCell')=true:=by
 unfold iM;rw[acP,h];simp[h1,h2,h3,h4,h5,h6]
theorem amb(f:Nat->Nat):∀n,0<n->∃m,(∀k,k<n->f k<m)/\∃k,k<n/\f k+1=m:=by
 intro n;induction n with
 |zero=>intro h;omega
 |succ n ih =>
  intro _;by_cases h0:n=0
  .subst h0;exact⟨f 0+1,fun k hk=>by rw[show k=0 by omega];omega,0,by omega,rfl⟩
  .obtain⟨m,h1,k0,h2,h3⟩:=ih (by omega);by_cases e:f n<m
   .refine⟨m,fun k hk=>?_,k0,by omega,h3⟩;by_cases q:k=n
    .rw[q];exact e
    .exact h1 k (by omega)
   .refine⟨f n+1,fun k hk=>?_,n,by omega,rfl⟩;by_cases q:k=n
    .rw[q];omega
    .have:=h1 k (by omega);omega
theorem Em.joined{nx:Nat->Nat->Int}{num:Nat->Nat}{m:Nat}(h:Em C nx N num)(h1:∀k,k<C->num k<m)(h2:∃k,k<C/\num k+1=m):Vk N C nx num m:=by
 refine⟨h1,fun q hq=>?_,h.eq,h.ord⟩;obtain⟨k,hk,e⟩:=h2;by_cases z:q=num k
 .exact⟨k,hk,z.symm⟩
 .obtain⟨k',a,b⟩:=h.ord k q hk (by omega);exact⟨k',by omega,b⟩
theorem jX.aoa{w:ay}{c:Array aq}{vn va:aq}(h:jX w tb c vn va C gs rows aL){k:Nat}(hk:k<256)(v:aq):jX (w.setCell ⟨tb,k,none⟩ v) tb (c.setIfInBounds k v) vn va C gs rows aL:=by
 have kS:Kp [tb] w (w.setCell ⟨tb,k,none⟩ v):=(Kp.refl [tb] w).set (by simp) _ _;refine⟨by simp[h.cs],?_,aJ h.next kS (fun g e hm=>?_),aJ h.acc kS (fun g e hm=>?_),h.len,fun i hi=>?_,h.dj⟩
 .rw[aQ,aA rfl,h.blk];show some (Obj.cells ((aY c vn va).setIfInBounds k v) _ _)=_;rw[acC h.cs _ _ _ hk]
 .rw[bQ.1 hm]at e;exact h.wq e
 .rw[bQ.1 hm]at e;exact h.F8 e
 .obtain⟨a,b⟩:=h.row i hi;refine⟨kS.keep a (by simpa using(h.gn hi).2),b⟩
theorem ajA(cl:Nat->Nat){k:Nat}(hk:k<256):(cI cl k).setIfInBounds k (.int .i64 (cl k))=cI cl (k+1):=by
 rw[aaW _ _ _ hk];congr 1;funext c;by_cases e:c=k
 .rw[aA e,e]
 .rw[az e]
theorem OQ{w:ay}{e:cL}{sz:Nat}{v:aq}{n:Nat}{xs:List aq}(h:w.ownsRow 0 e sz v n xs):v.oneCell'=true:=by
 rcases h.2 with⟨rfl,_⟩|⟨g,cap,cur,rfl,_⟩
 .rfl
 .rfl
abbrev rT:Obj:=.cells (aY dR cE cE) 91 (0,0)
theorem amk(g cap h jj r N C C':Nat)(nx:Nat->Nat->Int)(num:Nat->Nat)(w:ay)(xn:0<C)(hC:C<=256)(hC':0<C')(hCC:C'<=C)(hg:g<w.heap.size)(hc:∀k,k<C->w.cell? ⟨g,k,none⟩=some (.int .i64 (nx r k)))(hd:w.heap[h]?=some (iO (pD C num)))(hr:r<N)(hJ:Vk N C nx num C')(h1:∀k,k<C->num k<C')(h2:∃k,k<C/\num k+1=C'):aI aB 66 #[.slice (some ⟨g,0,none⟩) C cap,.slice (some ⟨h,0,none⟩) C jj] w fun e w'=>∃(b:Nat) (nl:List Int),e=.returned (rv C' b)/\w.heap.size<=b/\w'.heap[b]?=some (iO nl)/\(ae nl)=C'/\(∀k,k<C->nl.getD (num k) 0=nx r k)/\dA w.heap.size w w':=by
 have hl:((lU C).map (nx r)).length=C:=(by simp);have ko:∀k,k<C->((lU C).map (nx r)).getD k 0=nx r k:=fun k hk=>by simp[List.getD,hk]
 have tT:(pD C num).length=C:=IS _ _;have S9:∀k,k<C->(pD C num).getD k 0=(num k:Int):=fun k hk=>ab3 _ _ hk
 have q:=amj g cap h jj ((lU C).map (nx r)) (pD C num) C' w (by omega) (by omega) (by omega) hC' (by omega) hg (aE hd)
  (fun i hi=>by rw[hl]at hi;rw[ko i hi];exact hc i hi) (fun i hi=>by rw[hl]at hi;exact jK hd i (by omega))
  (fun i hi=>by rw[hl]at hi;rw[S9 i hi];have:=h1 i hi;omega)
  (by obtain⟨k,hk,e⟩:=h2;exact⟨k,by omega,by rw[S9 k hk];omega⟩)
  (fun i j hi hj e=>by
   rw[hl]at hi hj;rw[S9 i hi,S9 j hj]at e;rw[ko i hi,ko j hj];exact(hJ.eq i j hi hj).1 (by omega) r hr)
 rw[hl]at q;refine q.mono ?_;rintro _ w' ⟨b,nl,rfl,hb,pq,dD,hv,hB⟩;refine⟨b,nl,rfl,hb,pq,dD,fun k hk=>?_,hB⟩;have:=hv k hk;rw[S9 k hk,ko k hk]at this;exact this
theorem jX.Mt{w:ay}{c:Array aq}{vn va:aq}{cls:Nat->Nat}{ac:Nat->Int}(h:jX w tb c vn va C gs rows aL)(hN:(ae gs)=N)(hA:(ae aL)=N)(Cm:0<N)(eP:∀j,j<N->aL.getD j 0=ac j):kz w vn va ⟨cls,fun j m=>(rows.getD j []).getD m 0,ac,N,C⟩:=by
 subst hN;constructor
 .obtain⟨g,cap,e⟩:∃g cap,vn=.slice (some ⟨g,0,none⟩) (ae gs) cap:=by
   rcases h.next.2 with⟨_,e⟩|⟨g,cap,cur,e,_⟩
   .omega
   .exact⟨g,cap,e⟩
  subst e;refine⟨g,cap,rfl,(h.next.lt g rfl).2,fun i hi=>?_⟩;obtain⟨a,b⟩:=h.row i hi;refine⟨gs.getD i 0,C,I3 h.next rfl ?_,aE a,fun k hk=>jK a k (by rw[b];exact hk)⟩;have hi':i<ae gs:=hi;simp[List.getD,hi']
 .obtain⟨g,cap,e⟩:∃g cap,va=.slice (some ⟨g,0,none⟩) (ae aL) cap:=by
   rcases h.acc.2 with⟨_,e⟩|⟨g,cap,cur,e,_⟩
   .omega
   .exact⟨g,cap,e⟩
  subst e;refine⟨g,cap,by rw[hA],(h.acc.lt g rfl).2,fun i hi=>I3 h.acc rfl ?_⟩;have hi':i<ae gs:=hi;have N6:i<ae aL:=(by omega);show _=some (Value.int .i64 (ac i));rw[<-eP i hi'];simp[iv,List.getD,N6]
theorem aoo(vn va:aq)(T:bw)(w:ay)(hT:kz w vn va T)(fA:wQ T)(hN:T.N<=250)(hC:T.C<=256)(xn:0<T.C):aI aB 43 #[.agg (aY (cI T.cls 256) vn va)] w fun e w'=>dA w.heap.size w w'/\∃(iS sQ:aq) (U:bw),e=.returned (.agg (aY (cI U.cls 256) iS sQ))/\kz w' iS sQ U/\gL U (fun x=>T.o 0 x)/\U.N<=T.N/\U.C<=T.C/\vC w.heap.size w' iS sQ U.N:=by
 have HT:=aj hT;have eY:=fU T.cls 256;obtain⟨⟨gn,jj,rfl,ID,_⟩,⟨ga,ki,rfl,IC,_⟩⟩:=hT;go_enter Tryz.func43,Tryz.ntmps43;go_upto_region 0 with fail;apply fD;refine aaM rfl _ _ rfl (.agg (aY (cI T.cls 256) (.slice (some ⟨gn,0,none⟩) T.N jj) (.slice (some ⟨ga,0,none⟩) T.N ki))) rfl ?_;refine qT rfl _ rfl _ xD ?_;simp only[fj,fx,eX,eU,aM,uA];have kW:Kp [] w ((w.alloc (.cells (aY (cI T.cls 256) (.slice (some ⟨gn,0,none⟩) T.N jj) (.slice (some ⟨ga,0,none⟩) T.N ki)) 91 (0,0))).alloc rT):=((Kp.refl _ w).alloc _).alloc _;have bT:((w.alloc (.cells (aY (cI T.cls 256) (.slice (some ⟨gn,0,none⟩) T.N jj) (.slice (some ⟨ga,0,none⟩) T.N ki)) 91 (0,0))).alloc rT).heap[w.heap.size]?=some (.cells (aY (cI T.cls 256) (.slice (some ⟨gn,0,none⟩) T.N jj) (.slice (some ⟨ga,0,none⟩) T.N ki)) 91 (0,0)):=by
  rw[aC,aM,az (by omega),aC,aA rfl]
 have bR:((w.alloc (.cells (aY (cI T.cls 256) (.slice (some ⟨gn,0,none⟩) T.N jj) (.slice (some ⟨ga,0,none⟩) T.N ki)) 91 (0,0))).alloc rT).heap[w.heap.size+1]?=some rT:=by
  rw[aC,aM,aA rfl]
 have sW:((w.alloc (.cells (aY (cI T.cls 256) (.slice (some ⟨gn,0,none⟩) T.N jj) (.slice (some ⟨ga,0,none⟩) T.N ki)) 91 (0,0))).alloc rT).heap.size=w.heap.size+2:=(by rw[aM,aM]);generalize ((w.alloc (.cells (aY (cI T.cls 256) (.slice (some ⟨gn,0,none⟩) T.N jj) (.slice (some ⟨ga,0,none⟩) T.N ki)) 91 (0,0))).alloc rT)=W at *;obtain⟨KW,BT,BR,SW⟩:=dH kW bT bR sW;clear kW bT bR sW;go_upto_region 1 with fail;apply fD;have pV:(aY (cI T.cls 256) (.slice (some ⟨gn,0,none⟩) T.N jj) (.slice (some ⟨ga,0,none⟩) T.N ki)).size=258:=fG eY _ _;refine xH rfl _ _ rfl BT.o rfl _ zB rfl (by rw[pV];exact m9) ?_;refine ajc rfl [(0,.tmp 12)] rfl (iM (cI T.cls 256) (.slice (some ⟨gn,0,none⟩) T.N jj) (.slice (some ⟨ga,0,none⟩) T.N ki) cE (.map none) cE (.int .i64 0)) (aj6 eY _ _) ?_;refine qT rfl _ rfl _ afx ?_;refine mR rfl _ _ _ rfl (b:=W.heap.size) (c:=iM dR cE cE cE (.map none) cE (.int .i64 0)) (e:=153) (by rw[aC,aA rfl];rfl) rfl rfl (by rw[FI eY,FI kG]) (by rw[FI eY];exact alq) (alX (vJ _ _) rfl rfl rfl rfl rfl rfl) ?_;intro w1 b1 k1 s1;simp only[fj,fx,eX,eU];have k1':Kp [] W w1:=(((Kp.refl [] W).alloc _).trans k1 (by simp));have Zj:=aj b1;have K1:ax (Kp [] w w1):=KW.o.trans k1' (by simp);have uzc:=aj (k1'.keep BT.o (by simp));have rU:=aj (k1'.keep BR.o (by simp));have hM:W.heap.size=w.heap.size+2:=SW.o;generalize W.heap.size=M at *;have Eh:=aj hM;have hwM:w.heap.size+1<M:=(by omega);clear b1 k1 s1 k1' BT BR KW SW hM;go_wp2_with fail;refine(aoK M (cI T.cls 256) (.slice (some ⟨gn,0,none⟩) T.N jj) (.slice (some ⟨ga,0,none⟩) T.N ki) (.map none) cE (.int .i64 0) T w1 eY Zj.o (fun w' k'=>HT.o.kp (K1.o.trans k' (by simp;omega))) fA hN hC).mono ?_;rintro _ w2 ⟨rfl,vo,dh,V,L,pq,og2,hL,bM2,gV,gw⟩;have hM1:M<w1.heap.size:=aE Zj.o;have Uj:∀x ∈ [M],¬yf vo T.C dh V x:=fun x hx hm=>by rw[bQ.1 hx]at hm;have:=gw _ hm;omega
 have K2:ax (Kp [] w w2):=K1.o.trans gV (by simp;omega);have uZ:ax (iG w2 M (cI T.cls 256) (.slice (some ⟨gn,0,none⟩) T.N jj) (.slice (some ⟨ga,0,none⟩) T.N ki) vo [M] [] 0):=⟨.map none,cE,bM2,⟨.inl ⟨rfl,rfl⟩,j9 _ _ _ _,by simp,by simp,by simp⟩,by simp[dV,CB,aK],by simp[dV,CB,aK]⟩;have CY:=aj (gV.keep uzc.o (by simp;omega));have qH:=aj (gV.keep rU.o (by simp;omega));obtain⟨QE,HL,NMO,vc⟩:=dH og2 hL Uj pq;clear og2 hL bM2 gV gw Uj pq Zj K1 uzc rU;go_wp2_with fail;refine(amZ M (cI T.cls 256) (.slice (some ⟨gn,0,none⟩) T.N jj) (.slice (some ⟨ga,0,none⟩) T.N ki) vo T dh V L [M] w2 eY uZ.o (fun w' k'=>QE.o.kp k' NMO.o) (fun w' k'=>HT.o.kp (K2.o.trans k' (by simp;omega))) vc.o HL.o fA hN hC).mono ?_;rintro _ w3 ⟨rfl,F3,Ox,tk3,hpt,Te,ap3,xE,gA⟩;have K3:ax (Kp [] w w3):=K2.o.trans xE (by simp;omega);have Ji:=aj ap3;have CZ:=aj (xE.keep CY.o (by simp;omega));have oE:=aj (xE.keep qH.o (by simp;omega));have qJ:=aj hpt;have Vb:=aj Te;clear hpt Te ap3 xE gA uZ QE HL NMO vc CY qH K2;go_wp2_with fail;refine(alI M (cI T.cls 256) (.slice (some ⟨gn,0,none⟩) T.N jj) (.slice (some ⟨ga,0,none⟩) T.N ki) vo T.N jj gn F3 Ox tk3 w3 eY Ji.o Vb.o hN).mono ?_;rintro _ w4 ⟨gl,ls,rfl,lgl,Ri,rj,jT,h4⟩;have k4:Kp [] w3 w4:=(Kp.refl [] w3).below h4;have K4:ax (Kp [] w w4):=K3.o.trans k4 (by simp);have AP4:=aj (Ji.o.kp k4 (by simp));have Pw:=aj (k4.keep CZ.o (by simp));have nP:=aj (k4.keep oE.o (by simp));obtain⟨Jl,tc,pK⟩:=cR Ri rj jT;clear Ri rj jT h4 k4 Ji CZ oE K3;go_wp2_with fail;refine(aoW M gl (.slice (some ⟨gn,0,none⟩) T.N jj) (.slice (some ⟨ga,0,none⟩) T.N ki) vo T ls w4 (fun w' k'=>(AP4.o.kp k' (by simp)).OE eY) (HT.o.kp K4.o) fA hN hC xn tc.o Jl.o (fun s hs=>⟨(pK.o s hs).1,(pK.o s hs).2.1⟩)).mono ?_;rintro _ w5 ⟨vr,va5,ws,nx,rfl,we,h5⟩;have k5:Kp [] w4 w5:=(Kp.refl [] w4).below h5;have K5:ax (Kp [] w w5):=K4.o.trans k5 (by simp);have BT5:=aj (k5.keep Pw.o (by simp));have UN:=aj (k5.keep nP.o (by simp));have shr:=we.inv.aom fA qJ.o pK.o;have SHR:=aj shr;have CV:=UL we.inv.nodup we.inv.lt;have ao9:=shr.pos;have aff:∀j k,j<ae ws->k<T.C->-1<=nx j k/\nx j k<1000:=fun j k hj hk=>by
  rcases shr.row j k hj hk with⟨_,e⟩|⟨_,i,e,hi,_⟩
  .omega
  .omega
 have MM:=aj aff;have WE:=aj we;have s45:w.heap.size+1<w4.heap.size:=aE nP.o;clear we h5 k5 shr aff AP4 Jl tc qJ Vb pK Pw nP K4;go_wp2_with fail;refine(amg vr (ae ws) T.C nx w5 WE.o.rows ao9 (by omega) xn hC MM.o).mono ?_;rintro _ w6 ⟨gm,num,rfl,lgm,bm6,jv,h6⟩;have k6:Kp [] w5 w6:=(Kp.refl [] w5).below h6;have K6:ax (Kp [] w w6):=K5.o.trans k6 (by simp);have Zp:=aj (k6.keep BT5.o (by simp));have oY:=aj (k6.keep UN.o (by simp));have BM6:=aj bm6;have JV:=aj jv;have RR6:=aj (WE.o.rows.kp k6);obtain⟨aL,pT,jP,eP⟩:=WE.o.acc;have adm:=aj (aJ jP k6 (by simp));have oI:=aj pT;have AQ:=aj eP;have s56:w.heap.size+1<w6.heap.size:=aE oY.o;have apJ:gm<w6.heap.size:=aE bm6;have Tv:∃g cap,va5=.slice (some ⟨g,0,none⟩) (ae aL) cap:=by
  rcases jP.2 with⟨_,e⟩|⟨g,cap,cur,e,_⟩
  .omega
  .exact⟨g,cap,e⟩
 obtain⟨yG,Dw,rfl⟩:=Tv;have HFA:ax (w4.heap.size<=yG):=WE.o.fra _ rfl;clear bm6 jv h6 k6 pT jP eP BT5 UN K5;obtain⟨C',abq,S6⟩:=amb num T.C xn;have aeD:C'<=T.C:=by
  obtain⟨k,hk,e⟩:=S6;have:=JV.o.le k hk;omega
 have akx:0<C':=by obtain⟨k,hk,e⟩:=S6;omega
 have HJ:=aj (JV.o.joined abq S6);have ahS:=aj abq;have ahT:=aj S6;clear abq S6;go_upto_region 6 with fail;apply fD
 iterate 3 go_step
 refine aaO rfl [(2,.tmp 23)] rfl (aY dR cE (.slice (some ⟨yG,0,none⟩) (ae aL) Dw)) (by show oZ wo (aY dR cE cE) [(2,.slice (some ⟨yG,0,none⟩) (ae aL) Dw)]=some _;rw[aa5 kG _ _ _ rfl];rfl) ?_;refine qT rfl _ rfl _ xD ?_;have hz8:(aY dR cE (.slice (some ⟨yG,0,none⟩) (ae aL) Dw)).size=258:=fG kG _ _;refine mR rfl _ _ _ rfl (b:=w6.heap.size) (c:=aY dR cE cE) (e:=91) (by rw[aC,aA rfl];rfl) rfl rfl (by rw[hz8,fG kG]) (by rw[hz8];exact m9) (CL ahv rfl rfl) ?_;intro w7 b7 k7 s7;simp only[fj,fx,eX,eU];have k7':Kp [] w6 w7:=(((Kp.refl [] w6).alloc _).trans k7 (by simp));have tp7:jX w7 w6.heap.size (cI (fun b=>num (T.cls b)) 0) cE (.slice (some ⟨yG,0,none⟩) (ae aL) Dw) C' [] [] aL :=
  ⟨fU _ _,by rw[Rv];exact b7,j9 _ _ _ _,aJ adm.o k7' (by simp),rfl,fun i hi=>by simp at hi,fun g hg=>by simp at hg⟩
 have TP7:=aj tp7;have K7:=aj k7';clear b7 k7 s7 k7' tp7;have aqo:yG<w6.heap.size:=(adm.o.lt yG rfl).2;obtain⟨gr,vI,rfl,TY,ij⟩:=RR6.o.rows;have Qd:=aj ij;clear ij;generalize Cq:w6.heap.size=tb at *;have Gy:=aj Cq;clear Cq;go_upto_region 7 with fail;apply fD
 iterate 3 go_step
 refine LF rfl _ _ rfl (b:=w.heap.size) (o:=0) (cI T.cls 256) (fun j hj=>?_) rfl _ VZ rfl (by rw[eY];exact TG) ?_
 .rw[eY]at hj;rw[aF (K7.o.keep Zp.o (by simp)),yn,uQ eY _ _ hj]
 simp only[fj,fx,eX,eU];go_wp2_with fail;go_loopw [27] (fun s w'=>∃k:Nat,k<=256/\s=.int .i64 k/\jX w' tb (cI (fun b=>num (T.cls b)) k) cE (.slice (some ⟨yG,0,none⟩) (ae aL) Dw) C' [] [] aL/\Kp [] w6 w')
  (fun s _=>256-(aG s).toNat)
 case atStart=>exact⟨0,by omega,rfl,TP7.o,K7.o⟩
 case round =>
  obtain⟨k,hk,rfl,tp,kp⟩:=hrel;have TP:=aj tp;have KP:=aj kp;by_cases dI:k<256
  .have j3:(k:Int)<256:=(by omega);have dw:=fA.cl k dI;have yI:(T.cls k:Int)<T.C:=(by omega);have cm:wr.cell? ⟨gm,T.cls k,none⟩=some (.int .i64 (num (T.cls k):Int)):=by
    rw[jK (kp.keep BM6.o (by simp)) (T.cls k) (by rw[IS];exact dw),ab3 _ _ dw]
   have ct:wr.cell? ⟨tb,k,none⟩=some (.int .i64 (0:Nat)):=by
    rw[aF tp.blk,uQ (fU _ _) _ _ dI,Bu _ _ _ dI,az (by omega)]
   have ft:=cM tp.blk k;clear tp kp;go_upto_region 9 with fail;apply fD
   iterate 3 go_step
   refine alj rfl _ _ rfl (cI T.cls 256) rfl k rfl dI (.int .i64 (T.cls k)) (by rw[Bu _ _ _ dI,aA dI]) ?_;simp only[fj,fx,eX,eU];go_wp2;refine⟨⟨k+1,by omega,by go_num,?_,KP.o.set (.inr (by rw[Gy.o];exact aH _)) _ _⟩,by simp[aG];omega⟩;have:=TP.o.aoa dI (.int .i64 (num (T.cls k):Int));rw[ajA (fun b=>num (T.cls b)) dI]at this;exact this
  .have jZ:k=256:=(by omega);subst jZ;clear tp kp;go_wp2_with fail;go_loopw [41] (fun s w'=>∃(gs:List Nat) (rows:List (List Int)) (iS:aq),s=.int .i64 (ae gs)/\(ae gs)<=ae ws/\jX w' tb (cI (fun b=>num (T.cls b)) 256) iS (.slice (some ⟨yG,0,none⟩) (ae aL) Dw) C' gs rows aL /\
     (∀j,j<ae gs->∀k,k<T.C->(rows.getD j []).getD (num k) 0=nx j k)/\Kp [] w6 w'/\(∀g,iS.ownBlock=some g->tb<=g)/\∀g∈gs,tb<=g)
    (fun s _=>ae ws-(aG s).toNat)
   case atStart=>exact⟨[],[],cE,rfl,by simp,TP.o,by simp,KP.o,fun g e=>by simp[aK]at e,by simp⟩
   case round =>
    obtain⟨gs,rows,iS,rfl,ko,tp,xy,kp,Sy,hfg⟩:=hrel;have uy:=aj tp;have wK:=aj kp;obtain⟨C9,Gp,ZO⟩:=cR xy Sy hfg;clear tp kp xy Sy hfg TP KP;by_cases aN:(ae gs)<ae ws
    .have gU:(ae gs:Int)<ae ws:=(by omega);obtain⟨g0,c0,q1,q2,q3⟩:=Qd.o (ae gs) aN;(have Rz:wr.cell? ⟨gr,ae gs,none⟩=some (.slice (some ⟨g0,0,none⟩) T.C c0):=by rw[Dt wK.o (by rw[Gy.o];exact TY)];exact q1);have Q3:=aj q3;clear q1 q3;go_upto_region 15 with fail;clear Rz;have qm:wr.cell? ⟨tb,256,none⟩=some iS:=(by rw[aF uy.o.blk,oW (fU _ _)]);have eM:w6.heap.size<=wr.heap.size:=wK.o.size;have alc:tb<wr.heap.size:=aE uy.o.blk;(have ROW:ax (∀k,k<T.C->wr.drew.cell? ⟨g0,k,none⟩=some (.int .i64 (nx (ae gs) k))):=fun k hk=>by rw[Dt wK.o.drew (by rw[Gy.o];exact q2)];exact Q3.o k hk);have HGM:ax (wr.drew.heap[gm]?=some (iO (pD T.C num))):=wK.o.drew.keep BM6.o (by simp);(have kK:g0<wr.drew.heap.size:=by show g0<wr.heap.size;omega);clear eM;obtain⟨i0,cS,dc,dm,cW⟩:=iw Lt;obtain⟨I0,Z0,Z1,Z2⟩:=dH cS dc dm cW;clear cS dc dm cW;go_region_law ((first|(refine wm _ (by rfl) _ _ _ (by rfl) 0 61 i0 _ 1 24 ES I0.o Z0.o Z1.o Z2.o rfl (by omega) iS (ae gs) (gs.map (rv C')) (by rfl) (wO.o.alloc _) ⟨w2.heap.size,0,none⟩ 1 1 [rv C' g] (by rfl) (by rfl) (gN (cs:=#[rv C' g]) (t:=61) (fr:=(0,0)) (jS w2 _)) (by simp[dS]) (by omega) (by unfold eB;omega) (by omega) (by simp) (w2.heap.size+1) (by simp) ?_;intro g1 aP w3 cT bj cy iz;have B3:w3.heap[tb]?=some (.cells (aY (cI (fun b=>num (T.cls b)) 256) iS (.slice (some ⟨yG,0,none⟩) (ae aL) Dw)) 91 (0,0)):=fY bj (b:=tb) (by rw[aC,az xL];exact kO.blk) (fun e=>kO.wq e);have By:w3.cell? ⟨tb,256,none⟩=some iS:=(by rw[aF B3,oW (fU _ _)]);have Ky:=cM B3 256)|(go_simp;go_at_call 66;refine(amk g0 c0 gm T.C (ae gs) (ae ws) T.C C' nx num _ xn hC akx aeD kK ROW.o HGM.o aN HJ.o ahS.o ahT.o).mono ?_;rintro _ w2 ⟨g,r,rfl,Ik,N5,gB,hrv,h2⟩;have gV:Kp [] wr w2:=((Kp.refl [] wr).drew).below h2;have kO:=uy.o.kp gV (by simp);have Ny:w2.cell? ⟨tb,256,none⟩=some iS:=(by rw[aF kO.blk,oW (fU _ _)]);have xI:=aE kO.blk;have xL:tb≠w2.heap.size:=bY xI;have wO:=aj kO.next;have ae0:wr.heap.size<=g:=Ik)))
     all_goals
      have sJ:(uB (some ⟨yG,0,none⟩) (ae aL) Dw).ownBlock≠some g:=by
       intro e;simp[aK]at e;omega
      have t3:=(kO.Kg N5 gB sJ cT bj cy).1;have k3:Kp [] w6 (w3.setCell ⟨tb,256,none⟩ (.slice (some ⟨g1,0,none⟩) (ae gs+1) aP)) :=
       ((((wK.o.trans gV (by simp)).alloc _).qt bj (fun k e=>.inr (by rw[Gy.o];exact Gp.o k e)))).set (.inr (by rw[Gy.o];exact aH _)) _ _
      have jI:tb<=g1:=by
       rcases cy with e|e
       .exact Gp.o _ e
       .omega
      obtain⟨JO,K3,HRV⟩:=cR t3 k3 hrv;have hgt:tb<=g:=(by omega);clear t3 k3 hrv gV kO Ny xI xL wO cT bj cy iz B3 By Ky qm I0 Z0 Z1 Z2 N5 gB sJ h2;go_wp2;refine⟨⟨_,_,_,_,_,_,_,_,_,_,_,_,_,_,?rel,rfl⟩,?mes⟩
      case mes=>simp[aG];omega
      case rel =>
       refine⟨gs ++ [g],rows ++ [r],_,by simp,by simp;omega,JO.o,fun j hj k hk=>?_,K3.o,fun x e=>by simp[aK]at e;omega,fun x hx=>?_⟩
       .rw[cx,iq]at hj;have gB:=uy.o.len;by_cases e:j=ae gs
        .rw[e,<-gB,qX,gB];exact HRV.o k hk
        .rw[qY (by omega)];exact C9.o j (by omega) k hk
       .rcases jr.1 hx with e|e
        .exact ZO.o x e
        .rw[bQ.1 e];exact hgt
    .have gU:¬(ae gs:Int)<ae ws:=(by omega);(have sE:(ae gs)=ae ws:=by omega);go_upto_region 17 with fail;apply fD;have vT:(aY (cI (fun b=>num (T.cls b)) 256) iS (.slice (some ⟨yG,0,none⟩) (ae aL) Dw)).size=258:=fG (fU _ _) _ _;refine xH rfl _ _ rfl uy.o.blk rfl _ zB rfl (by rw[vT];exact m9) ?_;refine mR rfl _ _ _ rfl (wK.o.keep oY.o (by simp)) rfl rfl (by rw[vT,fG kG]) (by rw[vT];exact m9) (CL (vJ _ _) (OQ uy.o.next) rfl) ?_;intro w9 b9 k9 s9;go_wp2;have D3:=uy.o.kp k9 (fun x hx hm=>by
      rw[bQ.1 hx]at hm;rcases mc.1 hm with e|e|e|e
      .omega
      .have:=Gp.o _ e;omega
      .simp[aK]at e;exact absurd e (by have:=HFA.o;omega)
      .have:=ZO.o _ e;omega)
     have TJ:Kp [] w w9:=(K6.o.trans wK.o (by simp)).trans k9 (by simp);refine cF (v:=.agg (aY (cI (fun b=>num (T.cls b)) 256) iS (.slice (some ⟨yG,0,none⟩) (ae aL) Dw))) (D0 Tryz.results43 rfl b9 _ zB rfl (by rw[vT];exact m9)) rfl ?_;have afR:=D3.low (B:=w.heap.size) (fun x hx=>by
      rcases mc.1 hx with e|e|e|e
      .exact .inl e
      .have:=Gp.o _ e;exact .inr (by omega)
      .simp[aK]at e;have:=HFA.o;exact .inr (by omega)
      .have:=ZO.o _ e;exact .inr (by omega))
     rw[sE]at afR;refine⟨TJ.toBelow,iS,_,⟨fun b=>num (T.cls b),fun j m=>(rows.getD j []).getD m 0,fun j=>T.ac (ws.getD j 0),ae ws,C'⟩,rfl,D3.Mt sE (by have:=oI.o;omega) (by have:=oI.o;omega) (fun j hj=>AQ.o j hj),?_,CV,aeD,afR⟩;exact af3 fA SHR.o HJ.o rfl rfl (fun c _=>rfl) (fun j k hj hk=>C9.o j (by omega) k hk) (fun j _=>rfl)
end
end
end Go.Proofs.YtbjdkbcfpmeneaaGreat
