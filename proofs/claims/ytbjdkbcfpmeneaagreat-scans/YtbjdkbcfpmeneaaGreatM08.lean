/- What is said and proved here: the document's table while it grows in memory: the order of the states, their numbers, the rows. -/
import Derived.Test.YtbjdkbcfpmeneaaGreatM07
open Array renaming getElem?_eq_none->kP
open Bool renaming eq_iff_iff->C1,or_eq_true->pJ
open Classical renaming byContradiction->ur,choose->Zt,choose_spec->Zu
open Go renaming Calls->aI,TypeId->cL,Value->aq,World->ay,bodyPost_ret->cF,info_parts->iw,maxLen->eB,results->eG,step_append_lies->wm
open Go.Addr.mk renaming injEq->oD
open Go.Instr renaming makeSlice->pN
open Go.Obj.cells renaming injEq->fE
open Go.Proofs.Tryz renaming prog->aB,results44->adw,underlying116->adz,underlying161->adA
open Go.RowKit renaming intOf->aG
open Go.Value renaming oneCell'->dS,ownBlock->aK
open Go.Value.slice renaming injEq->fy
open Go.World renaming cell?->vE,news_of_block->gN,ownsRow_nil->j9
open List renaming getD_eq_getElem?_getD->aO,getElem?_append_left->iI,getElem?_append_right->mU,getElem?_eq_getElem->bD,getElem?_eq_none->iY,getElem?_map->kx,getElem?_set_ne->zo,getElem_mem->nE,getElem_of_mem->Df,length->ae,length_append->cx,length_set->mq,length_singleton->iq,map_append->uv,mem_append->jr,mem_cons->gH,mem_nil_iff->Ev,mem_singleton->bQ,nodup_append->GO,replicate->gM,take_add_one->GQ,take_of_length_le->Ba,take_zero->Ew
open Nat renaming eq_of_testBit_eq->Ex,le_refl->aH,le_trans->j8,lt_of_lt_of_le->tC,lt_or_ge->eK,lt_pow_two_of_testBit->M1,lt_succ_self->GS,lt_trichotomy->ym,not_lt_zero->Vz,one_shiftLeft->qM,or_assoc->wN,or_lt_two_pow->adl,or_zero->zq,pow_le_pow_right->EA,sub_self->uw,testBit_lt_two_pow->QC,testBit_or->jD,testBit_two_pow->ux,two_pow_pos->GV,zero_le->bU,zero_testBit->M7
open Option.some renaming injEq->aV
namespace Go.Proofs.YtbjdkbcfpmeneaaGreat
set_option linter.unusedVariables false
set_option linter.unusedSimpArgs false
set_option maxRecDepth 100000
set_option maxHeartbeats 16000000
open Go.RowKit
section
variable{base d g:Nat}{xs:List Nat}
structure TD where
 r:Nat
 k:Nat
 nv:aq
 ns:List ND
 Ls:List AN
def dT:TD:=⟨0,0,.slice none 0 0,[],[]⟩
def TD.a(t:TD):aD:=(t.Ls.getD t.k cK).1
def TD.m(t:TD):Nat:=nb t.ns (ae t.ns)
def aZ(ts:List TD):Nat->Nat
 |0=>0
 |i+1=>aZ ts i+(ts.getD i dT).m
theorem Kl(ts:List TD):∀i j,i<=j->aZ ts i<=aZ ts j:=by
 intro i j h;induction j with
 |zero=>rw[show i=0 by omega];exact aH _
 |succ j ih =>
  by_cases e:i=j+1
  .rw[e];exact aH _
  .exact j8 (ih (by omega)) (Nat.le_add_right _ _)
structure pQ(w:ay)(t:TD):Prop where
 rd:∃s i e pl,w.heap[t.r]?=some (fh s i e pl t.nv t.k)
 tr:gu w t.ns t.Ls
 top:t.k<ae t.ns
 an:t.Ls.getD t.k cK=(t.a,0,ae t.ns)
 few:(ae t.ns)<=100
def NR(w:ay)(t:TD)(base d:Nat):Prop :=
 ∃c:List aq,w.ownsRow 0 104 4 t.nv (ae t.ns) c/\∀k nd,t.ns[k]?=some nd->c[k*4]?=some (.int .u8 nd.kind)/\c[k*4+1]?=some nd.hv/\c[k*4+2]?=some nd.pv/\∃q:Int,c[k*4+3]?=some (.int .i64 q)/\(nd.kind=98->k<d->q=(base+nb t.ns k:Nat))
theorem NR.kp{w w':ay}{t:TD}(h:NR w t base d)(hk:Kp xs w w')(hx:∀g,t.nv.ownBlock=some g->g∉xs):NR w' t base d:=by
 obtain⟨c,o,oc⟩:=h;exact⟨c,aJ o hk hx,oc⟩
theorem NR.form{w:ay}{t:TD}(h:NR w t base d)(hp:0<ae t.ns):∃g cap,t.nv=.slice (some ⟨g,0,none⟩) (ae t.ns) cap/\g<w.heap.size/\∃c,w.heap[g]?=some (.cells c 104 (0,0)):=by
 obtain⟨c,o,_⟩:=h;rcases o.2 with⟨_,e⟩|⟨g,cap,cur,e,_,hc,_⟩
 .omega
 .exact⟨g,cap,e,aE hc,cur,hc⟩
theorem NR.tp{w':ay}{t:TD}(h:NR w' t base d)(hd:(ae t.ns)<=d)(hs:pQ w' t):TP w' t.r t.nv t.ns t.Ls base:=by
 obtain⟨c,o,oc⟩:=h;obtain⟨s,i,e,pl,rd⟩:=hs.rd;refine⟨⟨s,i,e,pl,t.k,rd⟩,⟨c,o,fun k nd hk=>?_⟩,hs.tr⟩;obtain⟨a1,a2,a3,q,a4,a5⟩:=oc k nd hk;have aN:k<ae t.ns:=by
  rcases eK k (ae t.ns) with a|a
  .exact a
  .rw[iY a]at hk;cases hk
 exact⟨a1,a2,a3,q,a4,fun e=>a5 e (by omega)⟩
theorem NR.num{w:ay}{t:TD}{cap:Nat}(h:NR w t base d)(hv:t.nv=.slice (some ⟨g,0,none⟩) (ae t.ns) cap)(hd:d<ae t.ns):NR (w.setCell ⟨g,d*4+3,none⟩ (.int .i64 (base+nb t.ns d:Nat))) t base (d+1):=by
 obtain⟨c,o,oc⟩:=h;rw[hv]at o;have hl:=o.1;refine⟨c.set (d*4+3) (.int .i64 (base+nb t.ns d:Nat)),by rw[hv];exact(o.stored _ _).1,fun k nd hk=>?_⟩;obtain⟨a1,a2,a3,q,a4,a5⟩:=oc k nd hk;refine⟨by rw[zo (by omega)];exact a1,by rw[zo (by omega)];exact a2,by rw[zo (by omega)];exact a3,?_⟩;by_cases e:k=d
 .subst e;exact⟨_,by rw[List.getElem?_set_self (by omega)],fun _ _=>rfl⟩
 .exact⟨q,by rw[zo (by omega)];exact a4,fun e1 e2=>a5 e1 (by omega)⟩
theorem NR.skip{w:ay}{t:TD}(h:NR w t base d)(hk:∀nd,t.ns[d]?=some nd->nd.kind≠98):NR w t base (d+1):=by
 obtain⟨c,o,oc⟩:=h;refine⟨c,o,fun k nd hk'=>?_⟩;obtain⟨a1,a2,a3,q,a4,a5⟩:=oc k nd hk';refine⟨a1,a2,a3,q,a4,fun e1 e2=>?_⟩;by_cases e:k=d
 .subst e;exact absurd e1 (hk nd hk')
 .exact a5 e1 (by omega)
def sM(ts:List TD):List Nat:=ts.flatMap fun t=>t.nv.ownBlock.toList
theorem IP{ts:List TD}:g∈sM ts↔∃t∈ts,t.nv.ownBlock=some g:=by
 unfold sM;rw[List.mem_flatMap];constructor
 .rintro⟨t,ht,hg⟩;exact⟨t,ht,oX hg⟩
 .rintro⟨t,ht,hg⟩;exact⟨t,ht,by rw[hg];simp⟩
theorem pQ.kp{w w':ay}{t:TD}(h:pQ w t)(hk:Kp xs w w')(hf:∀b∈xs,w.heap.size<=b\/∃c,w.heap[b]?=some (.cells c 104 (0,0))):pQ w' t:=by
 obtain⟨s,i,e,pl,rd⟩:=h.rd;have far:kV w xs:=fun b hb c t f hc=>by
  rcases hf b hb with q|⟨c',q⟩
  .have:=aE hc;omega
  .rw[q]at hc;simp only[aV,fE]at hc;rw[<-hc.2.1];decide
 refine⟨⟨s,i,e,pl,hk.keep rd (fun hm=>?_)⟩,h.tr.keep hk far,h.top,h.an,h.few⟩;rcases hf _ hm with q|⟨c',q⟩
 .have:=aE rd;omega
 .rw[q]at rd;simp only[aV,fE]at rd;exact absurd rd.2.1 (by decide)
abbrev WM(x:Nat×Nat):aq:=.slice (some ⟨x.1,0,none⟩) 256 256
structure jR(w w':ay)(X:Nat)(ts:List TD)(i dn d dr:Nat)(hv rv:aq)(bJ:List (Nat×Nat))(ru:List Nat):Prop where
 k:Kp (sM ts) w w'
 x:w'.heap[X]?=some (qA hv rv (.slice none 0 0) (.slice none 0 0) (.slice none 0 0))
 xf:w.heap.size<=X
 has:w'.ownsRow w.heap.size 80 1 hv (ae bJ) (bJ.map WM)
 rI:w'.ownsRow w.heap.size 3 1 rv (ae ru) (dy ru)
 nr:∀j,j<ae ts->NR w' (ts.getD j dT) (aZ ts j) (if j<i then(ts.getD j dT).ns.length else if j=i then dn else 0)
 len:(ae bJ)=aZ ts i+nb (ts.getD i dT).ns d
 rl:(ae ru)=aZ ts i+nb (ts.getD i dT).ns dr
 sets:∀x∈bJ,w.heap[x.1]?=some (aW (js x.2))
 so:∀j k nd s,j<ae ts->(j<i\/(j=i/\k<d))->(ts.getD j dT).ns[k]?=some nd->nd.kind=98->(ts.getD j dT).Ls.getD k cK=(.set s,k,k+1)->(bJ.getD (aZ ts j+nb (ts.getD j dT).ns k) (0,0)).2=s
 ro:∀j p,aZ ts j<=p->p<aZ ts (j+1)->p<ae ru->ru.getD p 0=j
structure wZ(w:ay)(ts:List TD):Prop where
 s:∀t∈ts,pQ w t
 nr:∀j,j<ae ts->NR w (ts.getD j dT) (aZ ts j) 0
 ap:∀i j,i<ae ts->j<ae ts->i≠j->xX (ts.getD i dT).nv (ts.getD j dT).nv
theorem sB{ts:List TD}{i:Nat}(h:i<ae ts):ts.getD i dT∈ts:=by
 rw[aO,bD h];exact nE h
theorem wZ.node{w:ay}{ts:List TD}(h:wZ w ts):∀b∈sM ts,∃c,w.heap[b]?=some (.cells c 104 (0,0)):=fun b hb=>by
 obtain⟨t,ht,hg⟩:=IP.1 hb
 obtain⟨i,hi,e⟩:=Df ht
 have hn:=h.nr i hi
 have e2:ts.getD i dT=t:=by rw[aO,bD hi,<-e];rfl
 rw[e2]at hn
 obtain⟨g,cap,q1,q2,c,q3⟩:=hn.form (by have:=(h.s t ht).top;omega)
 rw[q1]at hg
 simp only[aK,aV]at hg
 subst hg
 exact⟨c,q3⟩
section
variable{w w':ay}{X:Nat}{ts:List TD}{i dn d dr:Nat}{hv rv:aq}{bJ:List (Nat×Nat)}{ru:List Nat}
theorem jR.Pd(h:jR w w' X ts i dn d dr hv rv bJ ru)(ht:wZ w ts):∀t∈ts,pQ w' t:=fun t hm=>(ht.s t hm).kp h.k (fun b hb=>.inr (ht.node b hb))
theorem jR.gX(h:jR w w' X ts i dn d dr hv rv bJ ru)(ht:wZ w ts):X∉sM ts:=fun hm=>by
 obtain⟨c,hc⟩:=ht.node X hm
 have:=aE hc
 have:=h.xf
 omega
theorem wZ.low{w:ay}{ts:List TD}(h:wZ w ts):∀b∈sM ts,b<w.heap.size:=fun b hb=>by
 obtain⟨c,hc⟩:=h.node b hb;exact aE hc
theorem jR.skip(h:jR w w' X ts i d d d hv rv bJ ru)(hi:i<ae ts)(hk:∀nd,(ts.getD i dT).ns[d]?=some nd->nd.kind≠98)(hd:d<(ts.getD i dT).ns.length):jR w w' X ts i (d+1) (d+1) (d+1) hv rv bJ ru:=by
 have eZ:(ts.getD i dT).ns[d]?=some (ts.getD i dT).ns[d]:=bD hd;have e:=X7 eZ (hk _ eZ);refine { h with nr:=fun j hj=>?_,len:=by rw[e];exact h.len,rl:=by rw[e];exact h.rl,so:=fun j k nd s hj hc jt jk rh=>?_ }
 .have:=h.nr j hj;by_cases z:j<i
  .rw[aA z]at this |-;exact this
  ·(rw[az z]at this |-);by_cases y:j=i
   ·(rw[aA y]at this |-);subst y;exact this.skip hk
   .rw[az y]at this |-;exact this
 .refine h.so j k nd s hj ?_ jt jk rh;rcases hc with q|⟨q,q2⟩
  .exact .inl q
  .right;refine⟨q,?_⟩;by_cases z:k=d
   .subst q z;exact absurd jk (hk nd jt)
   .omega
theorem jR.next(h:jR w w' X ts i (ts.getD i dT).ns.length (ts.getD i dT).ns.length (ts.getD i dT).ns.length hv rv bJ ru):jR w w' X ts (i+1) 0 0 0 hv rv bJ ru:=by
 refine { h with nr:=fun j hj=>?_,len:=h.len,rl:=h.rl,so:=fun j k nd s hj hc jt jk rh=>?_ }
 .have:=h.nr j hj;by_cases z:j<i
  .rw[aA z]at this;rw[aA (by omega)];exact this
  .rw[az z]at this;by_cases y:j=i
   .subst y;rw[aA rfl]at this;rw[aA (by omega)];exact this
   .rw[az y]at this;rw[az (by omega)];split
    .exact this
    .exact this
 .rcases hc with q|⟨_,q2⟩
  .by_cases z:j=i
   .subst z;have aN:k<(ts.getD j dT).ns.length:=by
     rcases eK k (ts.getD j dT).ns.length with a|a
     .exact a
     .rw[iY a]at jt;cases jt
    exact h.so j k nd s hj (.inr ⟨rfl,aN⟩) jt jk rh
   .exact h.so j k nd s hj (.inl (by omega)) jt jk rh
  .omega
theorem jR.num(h:jR w w' X ts i d d d hv rv bJ ru)(ht:wZ w ts)(hi:i<ae ts)(hd:d<(ts.getD i dT).ns.length){g cap:Nat}(hg:(ts.getD i dT).nv=.slice (some ⟨g,0,none⟩) (ts.getD i dT).ns.length cap):jR w (w'.setCell ⟨g,d*4+3,none⟩ (.int .i64 (ae bJ:Nat))) X ts i (d+1) d d hv rv bJ ru:=by
 have hb:(ts.getD i dT).nv.ownBlock=some g:=by rw[hg];rfl
 have hgm:g∈sM ts:=IP.2 ⟨_,sB hi,hb⟩;have Il:=ht.low g hgm;have hk:Kp [g] w' (w'.setCell ⟨g,d*4+3,none⟩ (.int .i64 (ae bJ:Nat))):=(Kp.refl _ w').set (.inl (by simp)) _ _;have hxf:=h.xf;refine { h with k:=h.k.set (.inl hgm) _ _,x:=hk.keep h.x (by simp;omega),has:=aJ h.has hk (fun g' e hm=>by simp at hm;have:=(eS h.has e).1;omega),rI:=aJ h.rI hk (fun g' e hm=>by simp at hm;have:=(eS h.rI e).1;omega),nr:=fun j hj=>?_ };have:=h.nr j hj;by_cases y:j=i
 .subst y;rw[az (by omega),aA rfl]at this |-
  rw[h.len];exact this.num hg hd
 .have hx:∀g',(ts.getD j dT).nv.ownBlock=some g'->g' ∉ [g]:=fun g' e hm=>by
   simp only[bQ]at hm;subst hm;exact ht.ap i j hi hj (fun e=>y e.symm) g' hb e
  have q:=this.kp hk hx;by_cases z:j<i
  .rw[aA z]at q |-;exact q
  .rw[az z,az y]at q |-;exact q
theorem jR.akG(h:jR w w' X ts i (d+1) d d hv rv bJ ru)(ht:wZ w ts)(hi:i<ae ts)(hd:d<(ts.getD i dT).ns.length){nd:ND}(eZ:(ts.getD i dT).ns[d]?=some nd)(mL:nd.kind=98){b s:Nat}(hs:w.heap[b]?=some (aW (js s)))(hL:(ts.getD i dT).Ls.getD d cK=(.set s,d,d+1)){w1 w2:ay}(k1:Kp [] w' w1)(g1:w1.grownBy w2 hv.ownBlock){v':aq}(o:w2.ownsRow 0 80 1 v' (bJ ++ [(b,s)]).length ((bJ ++ [(b,s)]).map WM))(ha:v'.ownBlock=hv.ownBlock\/∃m,v'.ownBlock=some m/\w'.heap.size<=m):w2.heap[X]?=some (qA hv rv (.slice none 0 0) (.slice none 0 0) (.slice none 0 0))/\jR w (w2.setCell ⟨X,0,none⟩ v') X ts i (d+1) (d+1) d v' rv (bJ ++ [(b,s)]) ru:=by
 have k2:Kp hv.ownBlock.toList w' w2:=(k1.mono (by simp)).trans (Dr g1) (fun y hy=>.inl hy);have hxf:=h.xf;have Xd:=aE h.x;have nX:X∉hv.ownBlock.toList:=fun hm=>by
  obtain⟨_,_,c,hc⟩:=eS h.has (oX hm);rw[h.x]at hc;simp only[aV,fE]at hc;exact absurd hc.2.1 (by decide)
 have Ia:=k2.keep h.x nX;have hk:Kp [X] w2 (w2.setCell ⟨X,0,none⟩ v'):=(Kp.refl _ w2).set (.inl (by simp)) _ _;have sz:w.heap.size<=w'.heap.size:=h.k.size;have UI:∀m,v'.ownBlock=some m->w.heap.size<=m/\m≠X:=fun m hm=>by
  rcases ha with q|⟨m',q,q2⟩
  .rw[q]at hm;exact⟨(eS h.has hm).1,fun e=>nX (by rw[hm,e];simp)⟩
  .rw[q]at hm;simp only[aV]at hm;omega
 have old:∀g,g<w.heap.size->g∉hv.ownBlock.toList/\g ∉ [X]:=fun g hg=>⟨fun hm=>by have:=(eS h.has (oX hm)).1;omega,by simp;omega⟩
 have e1:=LK eZ mL;refine⟨Ia,?_⟩;refine⟨(h.k.trans k2 (fun y hy=>.inr (eS h.has (oX hy)).1)).set (.inr h.xf) _ _,?_,h.xf,?_,?_,fun j hj=>?_,?_,h.rl,?_,?_,h.ro⟩
 .rw[aQ,aA rfl,Ia];rfl
 .exact aJ (I5 o (fun m hm=>(UI m hm).1)) hk (fun m hm hx=>by simp at hx;exact(UI m hm).2 hx)
 .exact aJ (aJ h.rI k2 (fun m hm hx=>by
   obtain⟨_,_,c,hc⟩:=eS h.rI hm;obtain⟨_,_,c',hc'⟩:=eS h.has (oX hx);rw[hc]at hc';simp only[aV,fE]at hc';exact absurd hc'.2.1 (by decide))) hk (fun m hm hx=>by
   simp at hx;subst hx;obtain⟨_,_,c,hc⟩:=eS h.rI hm;rw[h.x]at hc;simp only[aV,fE]at hc;exact absurd hc.2.1 (by decide))
 .have hm:=sB hj;have low:∀g',(ts.getD j dT).nv.ownBlock=some g'->g' < w.heap.size:=fun g' e=>ht.low g' (IP.2 ⟨_,hm,e⟩)
  exact((h.nr j hj).kp k2 (fun g' e=>(old g' (low g' e)).1)).kp hk (fun g' e=>(old g' (low g' e)).2)
 .rw[cx,h.len,e1];rfl
 .intro x hx;rcases jr.1 hx with q|q
  .exact h.sets x q
  .rw[bQ.1 q];exact hs
 .intro j k DU s' hj hc jt jk rh;by_cases z:j=i/\k=d
  .obtain⟨rfl,rfl⟩:=z;rw[aO,mU (by rw[h.len];exact aH _),h.len,uw];rw[hL]at rh;simp only[Prod.mk.injEq,aD.set.injEq]at rh;exact rh.1
  .have hc':j<i\/(j=i/\k<d):=(by omega);rw[<-h.so j k DU s' hj hc' jt jk rh];have aN:aZ ts j+nb (ts.getD j dT).ns k<ae bJ:=by
    rw[h.len];have dI:k<(ts.getD j dT).ns.length:=by
     rcases eK k (ts.getD j dT).ns.length with a|a
     .exact a
     .rw[iY a]at jt;cases jt
    have e2:=LK jt jk;rcases hc' with q|⟨q,q2⟩
    .have:=OJ (ts.getD j dT).ns (k+1) (ts.getD j dT).ns.length (by omega);have:=Kl ts (j+1) i (by omega);have e3:aZ ts (j+1)=aZ ts j+nb (ts.getD j dT).ns (ts.getD j dT).ns.length:=rfl;omega
    .subst q;have:=OJ (ts.getD j dT).ns (k+1) d (by omega);omega
   (generalize aZ ts j+nb (ts.getD j dT).ns k=q at aN |-);rw[aO,aO,iI aN]
theorem jR.anT(h:jR w w' X ts i (d+1) (d+1) d hv rv bJ ru)(ht:wZ w ts)(hi:i<ae ts){nd:ND}(eZ:(ts.getD i dT).ns[d]?=some nd)(mL:nd.kind=98){w1 w2:ay}(k1:Kp [] w' w1)(g1:w1.grownBy w2 rv.ownBlock){v':aq}(o:w2.ownsRow 0 3 1 v' (ru ++ [i]).length (dy (ru ++ [i])))(ha:v'.ownBlock=rv.ownBlock\/∃m,v'.ownBlock=some m/\w'.heap.size<=m):w2.heap[X]?=some (qA hv rv (.slice none 0 0) (.slice none 0 0) (.slice none 0 0))/\jR w (w2.setCell ⟨X,1,none⟩ v') X ts i (d+1) (d+1) (d+1) hv v' bJ (ru ++ [i]):=by
 have k2:Kp rv.ownBlock.toList w' w2:=(k1.mono (by simp)).trans (Dr g1) (fun y hy=>.inl hy);have hxf:=h.xf;have Xd:=aE h.x;have nX:X∉rv.ownBlock.toList:=Ak h.rI h.x (by decide);have Ia:=k2.keep h.x nX;have hk:Kp [X] w2 (w2.setCell ⟨X,1,none⟩ v'):=(Kp.refl _ w2).set (.inl (by simp)) _ _;have sz:w.heap.size<=w'.heap.size:=h.k.size;have UI:∀m,v'.ownBlock=some m->w.heap.size<=m/\m≠X:=fun m hm=>by
  rcases ha with q|⟨m',q,q2⟩
  .rw[q]at hm;exact⟨(eS h.rI hm).1,fun e=>nX (by rw[hm,e];simp)⟩
  .rw[q]at hm;simp only[aV]at hm;omega
 have old:∀g,g<w.heap.size->g∉rv.ownBlock.toList/\g ∉ [X]:=fun g hg=>⟨fun hm=>by have:=(eS h.rI (oX hm)).1;omega,by simp;omega⟩
 have e1:=LK eZ mL;refine⟨Ia,?_⟩;refine⟨(h.k.trans k2 (fun y hy=>.inr (eS h.rI (oX hy)).1)).set (.inr h.xf) _ _,?_,h.xf,?_,?_,fun j hj=>?_,h.len,?_,h.sets,h.so,?_⟩
 .rw[aQ,aA rfl,Ia];rfl
 .exact aJ (aJ h.has k2 (fun m hm hx=>by
   obtain⟨_,_,c,hc⟩:=eS h.has hm;obtain⟨_,_,c',hc'⟩:=eS h.rI (oX hx);rw[hc]at hc';simp only[aV,fE]at hc';exact absurd hc'.2.1 (by decide))) hk (fun m hm hx=>by
   simp at hx;subst hx;obtain⟨_,_,c,hc⟩:=eS h.has hm;rw[h.x]at hc;simp only[aV,fE]at hc;exact absurd hc.2.1 (by decide))
 .exact aJ (I5 o (fun m hm=>(UI m hm).1)) hk (fun m hm hx=>by simp at hx;exact(UI m hm).2 hx)
 .have hm:=sB hj;have low:∀g',(ts.getD j dT).nv.ownBlock=some g'->g' < w.heap.size:=fun g' e=>ht.low g' (IP.2 ⟨_,hm,e⟩)
  exact((h.nr j hj).kp k2 (fun g' e=>(old g' (low g' e)).1)).kp hk (fun g' e=>(old g' (low g' e)).2)
 .rw[cx,h.rl,e1];rfl
 .intro j p h1 h2 h3;rw[cx,iq]at h3;by_cases z:p<ae ru
  .rw[aO,iI z,<-aO];exact h.ro j p h1 h2 z
  .have hp:p=ae ru:=(by omega);rw[hp,aO,mU (aH _),uw];show i=j;have hr:=h.rl;have dl:d<(ts.getD i dT).ns.length:=by
    rcases eK d (ts.getD i dT).ns.length with a|a
    .exact a
    .rw[iY a]at eZ;cases eZ
   have m1:=OJ (ts.getD i dT).ns (d+1) (ts.getD i dT).ns.length (by omega);have e3:aZ ts (i+1)=aZ ts i+nb (ts.getD i dT).ns (ts.getD i dT).ns.length:=rfl;rcases ym i j with q|q|q
   .have:=Kl ts (i+1) j (by omega);omega
   .exact q
   .have:=Kl ts (j+1) i (by omega);omega
end
end
section
variable{ts:List TD}{d X i dn dr:Nat}{bJ:List (Nat×Nat)}{ru:List Nat}
theorem afv:(aB.info? 80).map (fun i=>(i.zero,i.size,i.bytes))=some (some (.slice none 0 0),1,24):=by kernel_rfl
theorem NR.cells{w:ay}{t:TD}{base:Nat}(h:NR w t base d){k:Nat}{nd:ND}(hk:t.ns[k]?=some nd):∃(g cap:Nat) (q4:Int),t.nv=.slice (some ⟨g,0,none⟩) (ae t.ns) cap/\w.cell? ⟨g,k*4,none⟩=some (.int .u8 nd.kind)/\w.cell? ⟨g,k*4+1,none⟩=some nd.hv/\w.cell? ⟨g,k*4+3,none⟩=some (.int .i64 q4)/\w.frozen? ⟨g,k*4+3,none⟩=false:=by
 have aN:k<ae t.ns:=by
  rcases eK k (ae t.ns) with a|a
  .exact a
  .rw[iY a]at hk;cases hk
 obtain⟨cs,own,oc⟩:=h;obtain⟨o0,o1,o2,q4,o3,o4⟩:=oc k nd hk;rcases own.2 with⟨_,e⟩|⟨g,cap,cur,e,_,hc,_⟩
 .omega
 .rw[e]at own;have c:∀i,i<4->w.cell? ⟨g,k*4+i,none⟩=cs[k*4+i]?:=fun i hi=>own.cellAt (k*4+i) (by omega)
  exact⟨g,cap,q4,e,(c 0 (by omega)).trans o0,(c 1 (by omega)).trans o1,(c 3 (by omega)).trans o3,cM hc _⟩
theorem I6{w:ay}{tv:aq}(h:w.ownsRow 0 41 1 tv (ae ts) (ts.map fun t=>.pointer (some ⟨t.r,4,none⟩))):∃a cap,tv=.slice a (ae ts) cap/\∀i,i<ae ts->∃g,a=some ⟨g,0,none⟩/\w.cell? ⟨g,i,none⟩=some (.pointer (some ⟨(ts.getD i dT).r,4,none⟩)):=by
 obtain⟨a,cap,e,h2⟩:=jm h;refine⟨a,cap,e,fun i hi=>?_⟩;obtain⟨g,e2,_,e3⟩:=h2 (by omega);refine⟨g,e2,?_⟩;rw[e3 i hi,kx,bD hi,aO,bD hi];rfl
theorem jR.start{w W:ay}(ht:wZ w ts)(k:Kp [] w W)(hx:W.heap[X]?=some (qA (.slice none 0 0) (.slice none 0 0) (.slice none 0 0) (.slice none 0 0) (.slice none 0 0)))(hX:w.heap.size<=X):jR w W X ts 0 0 0 0 (.slice none 0 0) (.slice none 0 0) [] [] :=
 ⟨k.mono (by simp),hx,hX,j9 _ _ _ _,j9 _ _ _ _,fun j hj=>by
  have:=(ht.nr j hj).kp k (by simp)
  rw[az (by omega)]
  split<;>exact this,rfl,rfl,fun x hx=>(by cases hx),fun j k nd s hj hc=>by omega,fun j p _ _ h=>by simp at h⟩
theorem jR.jA{w w' w2:ay}{hv rv:aq}(h:jR w w' X ts i dn d dr hv rv bJ ru)(hk:Kp [] w' w2):jR w w2 X ts i dn d dr hv rv bJ ru :=
 { h with k:=h.k.trans hk (by simp),x:=hk.keep h.x (by simp),has:=aJ h.has hk (by simp),rI:=aJ h.rI hk (by simp),nr:=fun j hj=>(h.nr j hj).kp hk (by simp) }
theorem jR.facts{w w':ay}{hv rv:aq}(h:jR w w' X ts i dn d dr hv rv bJ ru)(ht:wZ w ts){tL ct:Nat}(DO:w.ownsRow 0 41 1 (.slice (some ⟨tL,0,none⟩) (ae ts) ct) (ae ts) (ts.map fun t=>.pointer (some ⟨t.r,4,none⟩)))(dx:i<ae ts){T:TD}(hT:ts.getD i dT=T){g cap:Nat}(uF:T.nv=.slice (some ⟨g,0,none⟩) (ae T.ns) cap){k:Nat}{nd:ND}(hk:T.ns[k]?=some nd):w'.cell? ⟨tL,i,none⟩=some (.pointer (some ⟨T.r,4,none⟩))/\w'.cell? ⟨T.r,4,none⟩=some (.slice (some ⟨g,0,none⟩) (ae T.ns) cap)/\w'.cell? ⟨g,k*4+1,none⟩=some nd.hv:=by
 subst hT;have Mv:w'.ownsRow 0 41 1 (.slice (some ⟨tL,0,none⟩) (ae ts) ct) (ae ts) (ts.map fun t=>.pointer (some ⟨t.r,4,none⟩)):=aJ DO h.k (fun g hg hm=>by
  obtain⟨c,hc⟩:=ht.node g hm;exact Uo DO (by decide) hc hg)
 obtain⟨_,_,ea,uH⟩:=I6 Mv;obtain⟨NK,ga,Bw⟩:=uH i dx;simp only[fy]at ea;obtain⟨rfl,_,rfl⟩:=ea;simp only[aV,oD,and_true]at ga;subst ga;obtain⟨s',i',e',Uv,rd⟩:=(h.Pd ht _ (sB dx)).rd;obtain⟨_,_,_,_,c4,_⟩:=dM rd;rw[uF]at c4;obtain⟨g',cap',q4,Lh,n0,n1,n3,fz⟩:=(h.nr i dx).cells hk;rw[uF]at Lh;simp only[fy,aV,oD,and_true,true_and]at Lh;obtain⟨rfl,rfl⟩:=Lh;exact⟨Bw,c4,n1⟩
end
section
variable{X n G:Nat}{gs:List Nat}{ts:List TD}
theorem gD.add{w w1 w2:ay}{fv v':aq}(h:gD w fv n gs (fun _=>0))(k1:Kp [] w w1)(hG:w1.heap[G]?=some (aW (dK n 0)))(sE:w.heap.size<=G)(g:w1.grownBy w2 fv.ownBlock)(o:w2.ownsRow 0 80 1 v' (gs ++ [G]).length ((gs ++ [G]).map fun g=>.slice (some ⟨g,0,none⟩) n n)):gD w2 v' n (gs ++ [G]) (fun _=>0):=by
 have k2:=Dr g;have cP:∀ {b:Nat} {c:Array aq},w1.heap[b]?=some (.cells c 4 (0,0))->b∉fv.ownBlock.toList:=fun {b c} hb hm=>by
  obtain⟨_,hl,c',hc⟩:=eS h.own (oX hm);have:=k1.keep hc (by simp);rw[hb]at this;simp only[aV,fE]at this;exact absurd this.2.1 (by decide)
 refine⟨o,fun p hp=>?_,?_⟩
 .rw[cx,iq]at hp;by_cases z:p<ae gs
  .have e:(gs ++ [G]).getD p 0=gs.getD p 0:=(by rw[aO,iI z,<-aO]);rw[e];have q:=k1.keep (h.row p z) (by simp);exact k2.keep q (cP q)
  ·(have e:(gs ++ [G]).getD p 0=G:=by rw[show p=ae gs by omega,aO,mU (aH _),uw];rfl);rw[e];exact k2.keep hG (cP hG)
 .rw[GO];refine⟨h.nd,by simp,fun a ha b hb=>?_⟩;rw[bQ.1 hb];have:=h.lt a ha;omega
theorem TP.kpX{w w':ay}{r:Nat}{nv:aq}{ns:List ND}{Ls:List AN}{base:Nat}(h:TP w r nv ns Ls base)(hk:Kp [X] w w'){c:Array aq}(hX:w.heap[X]?=some (.cells c 163 (0,0))):TP w' r nv ns Ls base:=by
 obtain⟨s,i,e,pl,top,h1⟩:=h.rd;obtain⟨cs,o,oc⟩:=h.own;have far:kV w [X]:=fun b hb c t f hc=>by
  simp only[bQ]at hb;subst hb;rw[hX]at hc;simp only[aV,fE]at hc;rw[<-hc.2.1];decide
 refine⟨⟨s,i,e,pl,top,hk.keep h1 (fun hm=>?_)⟩,⟨cs,aJ o hk (fun g hg hm=>?_),oc⟩,h.tr.keep hk far⟩
 .simp only[bQ]at hm;subst hm;rw[hX]at h1;simp only[aV,fE]at h1;exact absurd h1.2.1 (by decide)
 .simp only[bQ]at hm;subst hm;rcases o.2 with⟨q,_⟩|⟨g',cap,cur,q,_,hc,_⟩
  .rw[q]at hg;simp[aK]at hg
  .rw[q]at hg;simp only[aK,aV]at hg;subst hg;rw[hX]at hc;simp only[aV,fE]at hc;exact absurd hc.2.1 (by decide)
theorem alE{wA w0 w':ay}{o:Obj}(h:Kp [X] wA w')(h0:Kp [X] wA w0)(hs:w0.heap.size=wA.heap.size)(hX:w'.heap[X]?=some o)(hX0:w0.heap[X]?=some o):Kp [] w0 w':=by
 refine⟨h.os.trans h0.os.symm,h.tape.trans h0.tape.symm,h.output.trans h0.output.symm,by rw[hs];exact h.size,fun k hk _=>?_⟩;rw[hs]at hk;by_cases e:k=X
 .rw[e,hX,hX0]
 .rw[h.block k hk (by simpa using e),h0.block k hk (by simpa using e)]
def jb(ts:List TD):Nat->Nat->Nat
 |0,_=>0
 |i+1,q=>if aZ ts i<=q/\q<aZ ts i+(ts.getD i dT).a.np then(ts.getD i dT).a.fo (aZ ts i) q else jb ts i q
def gR(ts:List TD)(j:Nat):Nat:=(ts.getD j dT).a.fi (aZ ts j)
def j4(ts:List TD)(j:Nat):Nat:=(ts.getD j dT).a.la (aZ ts j)
theorem jR.acq{w w':ay}{hv rv:aq}{bJ:List (Nat×Nat)}{ru:List Nat}(h:jR w w' X ts (ae ts) 0 0 0 hv rv bJ ru){i:Nat}(hi:i<ae ts):Ke (ts.getD i dT).ns (ts.getD i dT).Ls (fun q=>(bJ.getD (aZ ts i+q) (0,0)).2) :=
 fun k nd s h1 h2 h3=>h.so i k nd s hi (.inl hi) h1 h2 h3
theorem pQ.np{w:ay}{t:TD}(h:pQ w t){S:Nat->Nat}(hS:Ke t.ns t.Ls S):t.a.np=t.m/\∀q,q<t.a.np->t.a.ie q=S q:=by
 have g:=(h.tr.good hS t.k h.top).1;rw[h.an]at g;have e:=g.np;have b:=g.ie;have z:nb t.ns 0=0:=rfl;refine⟨by have:nb t.ns 0+t.a.np=nb t.ns (ae t.ns):=e;unfold TD.m;omega,fun q hq=>?_⟩;have:=b q hq;rw[z,Nat.zero_add]at this;exact this
theorem akk(DL:∀j,j<ae ts->(ts.getD j dT).a.np=(ts.getD j dT).m):∀i,i<=ae ts->∀q,aZ ts i<=q->jb ts i q=0:=by
 intro i;induction i with
 |zero=>intro _ q _;rfl
 |succ i ih =>
  intro hi q hq;have e:aZ ts (i+1)=aZ ts i+(ts.getD i dT).m:=rfl;have e2:=DL i (by omega);show(if aZ ts i<=q/\q<aZ ts i+(ts.getD i dT).a.np then _ else jb ts i q)=0;rw[az (by omega)];exact ih (by omega) q (by omega)
structure EJ(wA w':ay)(X n:Nat)(hv rv fv:aq)(gs:List Nat):Prop where
 k:Kp [X] wA w'
 x:w'.heap[X]?=some (qA hv rv (.slice (some ⟨wA.heap.size,0,none⟩) n n) fv (.slice (some ⟨wA.heap.size+1,0,none⟩) n n))
 xl:X<wA.heap.size
 bl:w'.heap[wA.heap.size]?=some (aW (fl n))
 bf:w'.heap[wA.heap.size+1]?=some (aW (fl n))
 fo:gD w' fv n gs (fun _=>0)
 fg:∀g∈gs,wA.heap.size+2<=g
 BU:∀g,fv.ownBlock=some g->wA.heap.size+2<=g
theorem EJ.start{wA:ay}{hv rv:aq}(hX:wA.heap[X]?=some (qA hv rv (.slice none 0 0) (.slice none 0 0) (.slice none 0 0))):EJ wA ((((wA.setCell ⟨X,2,none⟩ (.slice (some ⟨wA.heap.size,0,none⟩) n n)).setCell ⟨X,4,none⟩ (.slice (some ⟨wA.heap.size+1,0,none⟩) n n)).alloc (aW (fl n))).alloc (aW (fl n))) X n hv rv (.slice none 0 0) []:=by
 have hl:=aE hX;refine⟨((((Kp.refl _ wA).set (.inl (by simp)) _ _).set (.inl (by simp)) _ _).alloc _).alloc _,?_,hl,?_,?_,⟨j9 _ _ _ _,fun p hp=>by simp at hp,List.nodup_nil⟩,by simp,fun g hg=>by simp[aK]at hg⟩
 .rw[aC,az (by simp only[aM,iA];omega),aC,az (by simp only[iA];omega),aQ,aA rfl,aQ,aA rfl,hX];simp[eD]
 .rw[aC,az (by simp only[aM,iA];omega),aC,aA (by simp only[iA])]
 .rw[aC,aA (by simp only[aM,iA])]
theorem EJ.add{wA w' w1 w2:ay}{hv rv fv v':aq}(h:EJ wA w' X n hv rv fv gs)(k1:Kp [] w' w1)(hG:w1.heap[G]?=some (aW (dK n 0)))(sE:w'.heap.size<=G)(g:w1.grownBy w2 fv.ownBlock)(o:w2.ownsRow 0 80 1 v' (gs ++ [G]).length ((gs ++ [G]).map fun g=>.slice (some ⟨g,0,none⟩) n n))(ha:v'.ownBlock=fv.ownBlock\/∃m,v'.ownBlock=some m/\w'.heap.size<=m):w2.heap[X]?=some (qA hv rv (.slice (some ⟨wA.heap.size,0,none⟩) n n) fv (.slice (some ⟨wA.heap.size+1,0,none⟩) n n))/\EJ wA (w2.setCell ⟨X,3,none⟩ v') X n hv rv v' (gs ++ [G]):=by
 have k2:Kp fv.ownBlock.toList w' w2:=(k1.mono (by simp)).trans (Dr g) (fun y hy=>.inl hy);have low:∀b,b<wA.heap.size+2->b∉fv.ownBlock.toList:=fun b hb hm=>by have:=h.BU b (oX hm);omega
 have m8:=h.xl;have sz:=aE h.bf;have Ia:=k2.keep h.x (low X (by omega));have hk:Kp [X] w2 (w2.setCell ⟨X,3,none⟩ v'):=(Kp.refl _ w2).set (.inl (by simp)) _ _;have vb:∀m,v'.ownBlock=some m->wA.heap.size+2<=m:=fun m hm=>by
  rcases ha with q|⟨m',q,q2⟩
  .rw[q]at hm;exact h.BU m hm
  .rw[q]at hm;simp only[aV]at hm;omega
 refine⟨Ia,⟨(h.k.trans k2 (fun y hy=>.inr (by have:=h.BU y (oX hy);omega))).trans hk (fun y hy=>.inl hy),?_,h.xl,hk.keep (k2.keep h.bl (low _ (by omega))) (by simp;omega),hk.keep (k2.keep h.bf (low _ (by omega))) (by simp;omega),(h.fo.add k1 hG sE g o).kp hk (fun m hm hx=>?_) (fun m hm hx=>?_),fun m hm=>?_,vb⟩⟩
 .rw[aQ,aA rfl,Ia];rfl
 .simp at hx;have:=vb m hm;omega
 .simp at hx;rcases jr.1 hm with q|q
  .have:=h.fg m q;omega
  .rw[bQ.1 q]at hx;omega
 .rcases jr.1 hm with q|q
  .exact h.fg m q
  .rw[bQ.1 q];omega
structure nZ(wA w0 w':ay)(X n:Nat)(hv rv fv:aq)(gs:List Nat)(F:Nat->Nat)(fi la:Nat):Prop where
 k0:Kp [] w0 w'
 s0:w0.heap.size=wA.heap.size
 ka:Kp [X] wA w'
 x:w'.heap[X]?=some (qA hv rv (.slice (some ⟨wA.heap.size,0,none⟩) n n) fv (.slice (some ⟨wA.heap.size+1,0,none⟩) n n))
 bl:w'.heap[wA.heap.size]?=some (aW (dK n la))
 bf:w'.heap[wA.heap.size+1]?=some (aW (dK n fi))
 fo:gD w' fv n gs F
 fg:∀g∈gs,wA.heap.size+2<=g
 BU:∀g,fv.ownBlock=some g->wA.heap.size+2<=g
theorem EJ.later{wA w':ay}{hv rv fv:aq}(h:EJ wA w' X n hv rv fv gs)(hX:wA.heap[X]?=some (qA hv rv (.slice none 0 0) (.slice none 0 0) (.slice none 0 0))):∃w0,Kp [X] wA w0/\nZ wA w0 w' X n hv rv fv gs (fun _=>0) 0 0:=by
 have hl:=aE hX;refine⟨((wA.setCell ⟨X,2,none⟩ (.slice (some ⟨wA.heap.size,0,none⟩) n n)).setCell ⟨X,4,none⟩ (.slice (some ⟨wA.heap.size+1,0,none⟩) n n)).setCell ⟨X,3,none⟩ fv,(((Kp.refl _ wA).set (.inl (by simp)) _ _).set (.inl (by simp)) _ _).set (.inl (by simp)) _ _,?_⟩;refine⟨alE h.k ((((Kp.refl _ wA).set (.inl (by simp)) _ _).set (.inl (by simp)) _ _).set (.inl (by simp)) _ _) (by simp only[iA]) h.x ?_,by simp only[iA],h.k,h.x,by rw[Kn];exact h.bl,by rw[Kn];exact h.bf,h.fo,h.fg,h.BU⟩;simp only[aQ,if_true,hX];simp[eD]
section
variable{wA w0 w' w2:ay}{X n:Nat}{hv rv fv:aq}{gs:List Nat}{F F2:Nat->Nat}{fi la:Nat}
theorem nZ.kpF(h:nZ wA w0 w' X n hv rv fv gs F fi la)(hX:X<wA.heap.size)(k:Kp gs w' w2)(f:gD w2 fv n gs F2):nZ wA w0 w2 X n hv rv fv gs F2 fi la:=by
 have s:=h.s0;exact { h with k0:=h.k0.trans k (fun y hy=>.inr (by have:=h.fg y hy;omega)),ka:=h.ka.trans k (fun y hy=>.inr (by have:=h.fg y hy;omega)),x:=k.keep h.x (fun hm=>by have:=h.fg _ hm;omega),bl:=k.keep h.bl (fun hm=>by have:=h.fg _ hm;omega),bf:=k.keep h.bf (fun hm=>by have:=h.fg _ hm;omega),fo:=f }
theorem nZ.Cw(h:nZ wA w0 w' X n hv rv fv gs F fi la)(k:Kp [] w' w2):nZ wA w0 w2 X n hv rv fv gs F fi la :=
 { h with k0:=h.k0.trans k (by simp),ka:=h.ka.trans k (by simp),x:=k.keep h.x (by simp),bl:=k.keep h.bl (by simp),bf:=k.keep h.bf (by simp),fo:=h.fo.kp k (by simp) (by simp) }
theorem nZ.afV(h:nZ wA w0 w' X n hv rv fv gs F fi la)(hX:X<wA.heap.size)(q:Nat):nZ wA w0 (w'.setCell ⟨wA.heap.size+1,q,none⟩ (.bool true)) X n hv rv fv gs F (fi ||| 1 <<< q) la:=by
 have s:=h.s0;have hk:Kp [wA.heap.size+1] w' (w'.setCell ⟨wA.heap.size+1,q,none⟩ (.bool true)):=(Kp.refl _ w').set (.inl (by simp)) _ _;exact { h with k0:=h.k0.set (.inr (by omega)) _ _,ka:=h.ka.set (.inr (by omega)) _ _,x:=hk.keep h.x (by simp;omega),bl:=hk.keep h.bl (by simp),bf:=by rw[nF h.bf q true,Ns],fo:=h.fo.kp hk (fun g hg hm=>by simp at hm;have:=h.BU g hg;omega) (fun g hg hm=>by simp at hm;have:=h.fg g hg;omega) }
theorem nZ.afW(h:nZ wA w0 w' X n hv rv fv gs F fi la)(hX:X<wA.heap.size)(q:Nat):nZ wA w0 (w'.setCell ⟨wA.heap.size,q,none⟩ (.bool true)) X n hv rv fv gs F fi (la ||| 1 <<< q):=by
 have s:=h.s0;have hk:Kp [wA.heap.size] w' (w'.setCell ⟨wA.heap.size,q,none⟩ (.bool true)):=(Kp.refl _ w').set (.inl (by simp)) _ _;exact { h with k0:=h.k0.set (.inr (by omega)) _ _,ka:=h.ka.set (.inr (by omega)) _ _,x:=hk.keep h.x (by simp;omega),bf:=hk.keep h.bf (by simp),bl:=by rw[nF h.bl q true,Ns],fo:=h.fo.kp hk (fun g hg hm=>by simp at hm;have:=h.BU g hg;omega) (fun g hg hm=>by simp at hm;have:=h.fg g hg;omega) }
end
structure aar(w:ay)(X n:Nat)(S F:Nat->Nat)(la fi:Nat)(ru:List Nat)(fb:Nat):Prop where
 ex:∃(hv rv fv:aq) (lb:Nat) (gs:List Nat) (bJ:List (Nat×Nat)),w.heap[X]?=some (qA hv rv (.slice (some ⟨lb,0,none⟩) n n) fv (.slice (some ⟨fb,0,none⟩) n n))/\w.ownsRow 0 80 1 hv (ae bJ) (bJ.map WM)/\(ae bJ)=n/\(∀x∈bJ,w.heap[x.1]?=some (aW (js x.2)))/\(∀p,(bJ.getD p (0,0)).2=S p) /\
  w.ownsRow 0 3 1 rv (ae ru) (dy ru)/\(ae ru)=n/\w.heap[lb]?=some (aW (dK n la))/\w.heap[fb]?=some (aW (dK n fi))/\gD w fv n gs F/\(ae gs)=n
def aiu(ts:List TD)(w:ay)(e:Ending)(w':ay):Prop :=
 ∃(X fb:Nat) (S:Nat->Nat) (ru:List Nat),e=.returned (.pointer (some ⟨X,0,none⟩))/\Kp (sM ts) w w'/\aar w' X (aZ ts (ae ts)) S (jb ts (ae ts)) (cH (j4 ts) (ae ts)) (cH (gR ts) (ae ts)) ru fb/\(∀j,j<ae ts->Ke (ts.getD j dT).ns (ts.getD j dT).Ls (fun q=>S (aZ ts j+q)))/\(∀j p,aZ ts j<=p->p<aZ ts (j+1)->p<aZ ts (ae ts)->ru.getD p 0=j)/\(∀t∈ts,pQ w' t)/\(∀j,j<ae ts->NR w' (ts.getD j dT) (aZ ts j) (ts.getD j dT).ns.length)
end
section
variable{s n:Nat}
theorem apg(hs:s<2 ^ n)(h:∀j,j<n->s.testBit j=false):s=0:=by
 apply Ex;intro i;rw[M7];rcases eK i n with q|q
 .exact h i q
 .exact QC (tC hs (EA (by decide) q))
theorem ajY{t:Nat}(hs:s<2 ^ n)(ht:t<2 ^ n)(h:∀j,j<n->s.testBit j=t.testBit j):s=t:=by
 apply Ex;intro i;rcases eK i n with q|q
 .exact h i q
 .rw[QC (tC hs (EA (by decide) q)),QC (tC ht (EA (by decide) q))]
theorem af9(b n s:Nat)(w:ay)(h:w.heap[b]?=some (aW (dK n s)))(hn:n<=1000)(hs:s<2 ^ n):aI aB 70 #[.slice (some ⟨b,0,none⟩) n n] w fun e w'=>e=.returned (.bool (decide (s=0)))/\w'=w:=by
 have H:=aj h;have HS:=aj hs;clear h hs;go_enter Tryz.func70,Tryz.ntmps70;go_wp2_with fail;go_loopw [3] (fun x w'=>∃i:Nat,i<=n/\x=.int .i64 i/\w'=w/\∀j,j<i->s.testBit j=false)
  (fun x _=>n-(aG x).toNat)
 case atStart=>exact⟨0,bU _,rfl,rfl,fun j hj=>by omega⟩
 case round =>
  obtain⟨i,hi,rfl,rfl,hz⟩:=hrel;have HZ:=aj hz;clear hz;by_cases dx:i<n
  .have gZ:(i:Int)<n:=(by omega);have c:=gz H.o i (by rw[jz];exact dx);rw[yz n s i dx]at c;cases hb:s.testBit i
   .rw[hb]at c;go_wp2;refine⟨⟨i+1,by omega,by go_num,trivial,fun j hj=>?_⟩,by simp[aG];omega⟩;by_cases e:j=i
    .rw[e];exact hb
    .exact HZ.o j (by omega)
   .rw[hb]at c;have cP:decide (s=0)=false:=by
     apply decide_eq_false;intro e;rw[e,M7]at hb;cases hb
    have vg:=aj cP;clear cP hb;go_wp2;exact cF (v:=.bool false) (by simp[eG,Tryz.results70,go_sem]) rfl ⟨by rw[vg.o],rfl⟩
  .have gZ:¬(i:Int)<n:=(by omega);have h0:decide (s=0)=true:=decide_eq_true (apg HS.o (fun j hj=>HZ.o j (by omega)));have vg:=aj h0;clear h0;go_wp2;exact cF (v:=.bool true) (by simp[eG,Tryz.results70,go_sem]) rfl ⟨by rw[vg.o],rfl⟩
theorem Yv(b c n s t:Nat)(w:ay)(h:w.heap[b]?=some (aW (dK n s)))(k:w.heap[c]?=some (aW (dK n t)))(hn:n<=1000)(hs:s<2 ^ n)(ht:t<2 ^ n):aI aB 71 #[.slice (some ⟨b,0,none⟩) n n,.slice (some ⟨c,0,none⟩) n n] w fun e w'=>e=.returned (.bool (decide (s=t)))/\Kp [] w w':=by
 obtain⟨H,K,HS,HT⟩:=dH h k hs ht;clear h k hs ht;go_enter Tryz.func71,Tryz.ntmps71;go_wp2_with fail;go_loopw [5] (fun x w'=>∃i:Nat,i<=n/\x=.int .i64 i/\Kp [] w w'/\∀j,j<i->s.testBit j=t.testBit j)
  (fun x _=>n-(aG x).toNat)
 case atStart=>exact⟨0,bU _,rfl,Kp.refl _ _,fun j hj=>by omega⟩
 case round =>
  obtain⟨i,hi,rfl,kp,hz⟩:=hrel;have HZ:=aj hz;have KP:=aj kp;by_cases dx:i<n
  .have gZ:(i:Int)<n:=(by omega);have c1:=gz (kp.keep H.o (by simp)) i (by rw[jz];exact dx);have c2:=gz (kp.keep K.o (by simp)) i (by rw[jz];exact dx);rw[yz n _ i dx]at c1 c2;clear hz kp;by_cases hb:s.testBit i=t.testBit i
   .have HB:=aj hb;rw[hb]at c1;(have hq:(t.testBit i != t.testBit i)=false:=by simp);generalize t.testBit i=x at c1 c2 hq;clear hb;go_wp2_with fail;(go_quiet (fail));go_wp2;refine⟨⟨i+1,by omega,by go_num,KP.o.drewN _,fun j hj=>?_⟩,by simp[aG];omega⟩;by_cases e:j=i
    .rw[e];exact HB.o
    .exact HZ.o j (by omega)
   .have cP:decide (s=t)=false:=decide_eq_false (fun e=>hb (by rw[e]));(have hq:(s.testBit i != t.testBit i)=true:=by simpa using hb);have vg:=aj cP;generalize s.testBit i=x at c1 hq;generalize t.testBit i=y at c2 hq;clear hb cP;(have hxy:(x=true/\y=false)\/(x=false/\y=true):=by cases x<;>cases y<;>simp at hq |-);clear hq;rcases hxy with⟨rfl,rfl⟩|⟨rfl,rfl⟩
    all_goals
     go_wp2_with fail;(go_quiet (fail));go_wp2;exact cF (v:=.bool false) (by simp[eG,Tryz.results71,go_sem]) rfl ⟨by rw[vg.o],KP.o.drewN _⟩
  .have gZ:¬(i:Int)<n:=(by omega);have h0:decide (s=t)=true:=decide_eq_true (ajY HS.o HT.o (fun j hj=>HZ.o j (by omega)));have vg:=aj h0;clear hz kp h0;go_wp2;exact cF (v:=.bool true) (by simp[eG,Tryz.results71,go_sem]) rfl ⟨by rw[vg.o],KP.o⟩
structure VT(w:ay)(v:aq)(n m:Nat)(s:Nat×Nat):Prop where
 ex:∃b c,v=.agg #[.slice (some ⟨b,0,none⟩) n n,.slice (some ⟨c,0,none⟩) m m]/\w.heap[b]?=some (aW (dK n s.1))/\w.heap[c]?=some (aW (dK m s.2))
theorem adH(v:aq)(n m:Nat)(s:Nat×Nat)(w:ay)(h:VT w v n m s)(hm:m<=1000):aI aB 73 #[v] w fun e w'=>∃r:Int,e=.returned (.int .i64 r)/\C5 s.2 m r/\Kp [] w w':=by
 obtain⟨b,c,rfl,h1,h2⟩:=h.ex;have H2:=aj h2;have lc:=aE h2;clear h h1 h2;go_enter Tryz.func73,Tryz.ntmps73;go_upto_region 1 with fail;have kW:Kp [] w (w.alloc (.cells #[.slice (some ⟨b,0,none⟩) n n,.slice (some ⟨c,0,none⟩) m m] 165)):=(Kp.refl _ _).alloc _;have bW:(w.alloc (.cells #[.slice (some ⟨b,0,none⟩) n n,.slice (some ⟨c,0,none⟩) m m] 165)).heap[w.heap.size]?=some (.cells #[.slice (some ⟨b,0,none⟩) n n,.slice (some ⟨c,0,none⟩) m m] 165 (0,0)):=(by rw[aC,aA rfl]);generalize w.alloc (.cells #[.slice (some ⟨b,0,none⟩) n n,.slice (some ⟨c,0,none⟩) m m] 165)=W at *;have KW:=aj kW;obtain⟨d0,d1,_⟩:=two bW;clear kW bW;go_wp2_with fail;go_loopw [3] (fun x w'=>∃i:Nat,i<=m/\x=.int .i64 i/\w'=W/\∀j,j<i->s.2.testBit j=false)
  (fun x _=>m-(aG x).toNat)
 case atStart=>exact⟨0,bU _,rfl,rfl,fun j hj=>by omega⟩
 case round =>
  obtain⟨i,hi,rfl,rfl,hz⟩:=hrel;have HZ:=aj hz;clear hz;by_cases dx:i<m
  .have gZ:(i:Int)<m:=(by omega);have cc:=gz (KW.o.keep H2.o (by simp)) i (by rw[jz];exact dx);rw[yz m _ i dx]at cc;cases hb:s.2.testBit i
   .rw[hb]at cc;have HB:=aj hb;clear hb;go_wp2;refine⟨⟨i+1,by omega,by go_num,trivial,fun j hj=>?_⟩,by simp[aG];omega⟩;by_cases e:j=i
    .rw[e];exact HB.o
    .exact HZ.o j (by omega)
   .rw[hb]at cc;have HB:=aj hb;clear hb;go_wp2;exact cF (v:=.int .i64 i) (by simp[eG,Tryz.results73,go_sem]) rfl ⟨i,rfl,.inr ⟨i,rfl,dx,HB.o,HZ.o⟩,KW.o⟩
  .have gZ:¬(i:Int)<m:=(by omega);go_wp2;exact cF (v:=.int .i64 (-1)) (by simp[eG,Tryz.results73,go_sem]) rfl ⟨-1,rfl,.inl ⟨rfl,fun j hj=>HZ.o j (by omega)⟩,KW.o⟩
end
section
variable{X n la fi fb lb ch cr cf:Nat}{S F:Nat->Nat}{ru:List Nat}
def eJ(S F:Nat->Nat)(la:Nat)(ru:List Nat)(c s:Nat):Nat->Nat×Nat
 |0=>(0,0)
 | p+1=>if s.testBit p=true/\(S p).testBit c=true then((eJ S F la ru c s p).1 ||| F p,if la.testBit p then(eJ S F la ru c s p).2 ||| 1 <<< ru.getD p 0 else(eJ S F la ru c s p).2) else eJ S F la ru c s p
theorem agl(n a b:Nat):fW (dK n a) (dK n b) n=dK n (a ||| b):=by
 apply List.ext_getElem?;intro i;rcases eK i n with h|h
 .have g:=vZ (dK n a) (dK n b) n i (by rw[jz];exact aH _);rw[aA h,yz n a i h,yz n b i h,<-jD,<-yz n (a ||| b) i h]at g;rw[aO,aO,bD (by rw[rF,jz];exact h),bD (by rw[jz];exact h)]at g;simp only[Option.getD_some]at g;rw[bD (by rw[rF,jz];exact h),bD (by rw[jz];exact h),g]
 .rw[iY (by rw[rF,jz];exact h),iY (by rw[jz];exact h)]
structure VB(w:ay)(X n:Nat)(S F:Nat->Nat)(la fi:Nat)(ru:List Nat)(fb gh gr lb gf:Nat)(ch cr cf:Nat):Prop where
 x:w.heap[X]?=some (qA (.slice (some ⟨gh,0,none⟩) n ch) (.slice (some ⟨gr,0,none⟩) n cr) (.slice (some ⟨lb,0,none⟩) n n) (.slice (some ⟨gf,0,none⟩) n cf) (.slice (some ⟨fb,0,none⟩) n n))
 has:∀p,p<n->∃b,w.cell? ⟨gh,p,none⟩=some (.slice (some ⟨b,0,none⟩) 256 256)/\w.heap[b]?=some (aW (js (S p)))
 rI:∀p,p<n->w.cell? ⟨gr,p,none⟩=some (.int .i64 (ru.getD p 0))
 la:w.heap[lb]?=some (aW (dK n la))
 fi:w.heap[fb]?=some (aW (dK n fi))
 fo:∀p,p<n->∃b,w.cell? ⟨gf,p,none⟩=some (.slice (some ⟨b,0,none⟩) n n)/\w.heap[b]?=some (aW (dK n (F p)))
 lt:gh<w.heap.size/\gr<w.heap.size/\gf<w.heap.size
theorem VB.kp{w w':ay}{gh gr gf:Nat}(h:VB w X n S F la fi ru fb gh gr lb gf ch cr cf)(hk:Kp [] w w'):VB w' X n S F la fi ru fb gh gr lb gf ch cr cf:=by
 have s:=hk.size;have l:=h.lt;have cell:∀ {b o:Nat},b<w.heap.size->w'.cell? ⟨b,o,none⟩=w.cell? ⟨b,o,none⟩:=fun {b o} hb=>o8 hk.toBelow hb
 refine⟨hk.keep h.x (by simp),fun p hp=>?_,fun p hp=>by rw[cell l.2.1];exact h.rI p hp,hk.keep h.la (by simp),hk.keep h.fi (by simp),fun p hp=>?_,by omega⟩
 .obtain⟨b,h1,h2⟩:=h.has p hp;exact⟨b,by rw[cell l.1];exact h1,hk.keep h2 (by simp)⟩
 .obtain⟨b,h1,h2⟩:=h.fo p hp;exact⟨b,by rw[cell l.2.2];exact h1,hk.keep h2 (by simp)⟩
structure M8(w:ay)(X n:Nat)(S F:Nat->Nat)(la fi:Nat)(ru:List Nat)(fb lb:Nat)(ah ar af:Option Addr)(ch cr cf:Nat):Prop where
 x:w.heap[X]?=some (qA (.slice ah n ch) (.slice ar n cr) (.slice (some ⟨lb,0,none⟩) n n) (.slice af n cf) (.slice (some ⟨fb,0,none⟩) n n))
 fib:w.heap[fb]?=some (aW (dK n fi))
 op:0<n->∃gh gr gf,ah=some ⟨gh,0,none⟩/\ar=some ⟨gr,0,none⟩/\af=some ⟨gf,0,none⟩/\VB w X n S F la fi ru fb gh gr lb gf ch cr cf
theorem M8.kp{w w':ay}{ah ar af:Option Addr}(h:M8 w X n S F la fi ru fb lb ah ar af ch cr cf)(hk:Kp [] w w'):M8 w' X n S F la fi ru fb lb ah ar af ch cr cf :=
 ⟨hk.keep h.x (by simp),hk.keep h.fib (by simp),fun h0=>by
  obtain⟨gh,gr,gf,e1,e2,e3,hc⟩:=h.op h0
  exact⟨gh,gr,gf,e1,e2,e3,hc.kp hk⟩⟩
theorem aar.open{w:ay}(h:aar w X n S F la fi ru fb):∃lb ah ar af ch cr cf,M8 w X n S F la fi ru fb lb ah ar af ch cr cf:=by
 obtain⟨hv,rv,fv,lb,gs,bJ,h1,h2,h3,h4,h5,h6,h7,h8,h9,Se,h11⟩:=h.ex;obtain⟨a1,c1,rfl,f1⟩:=jm h2;obtain⟨a2,c2,rfl,f2⟩:=jm h6;obtain⟨a3,c3,rfl,f3⟩:=jm Se.own;rw[h3,h7,h11]at h1;refine⟨lb,a1,a2,a3,c1,c2,c3,h1,h9,fun hn=>?_⟩;obtain⟨gh,rfl,_,e1⟩:=f1 (by omega);obtain⟨gr,rfl,_,e2⟩:=f2 (by omega);obtain⟨gf,rfl,_,e3⟩:=f3 (by omega);refine⟨gh,gr,gf,rfl,rfl,rfl,h1,fun p hp=>?_,fun p hp=>?_,h8,h9,fun p hp=>?_,(eS h2 rfl).2.1,(eS h6 rfl).2.1,(eS Se.own rfl).2.1⟩
 .have q:p<ae bJ:=(by omega);refine⟨(bJ.getD p (0,0)).1,?_,?_⟩
  .rw[e1 p q,kx,bD q,aO,bD q];rfl
  .rw[<-h5 p];exact h4 _ (by rw[aO,bD q];exact nE q)
 .rw[e2 p (by omega),afF ru p (by omega)]
 .have q:p<ae gs:=(by omega);refine⟨gs.getD p 0,?_,Se.row p q⟩;rw[e3 p q,kx,bD q,aO,bD q];rfl
end
theorem aoq(tv:aq)(ts:List TD)(w:ay)(ht:wZ w ts)(DO:w.ownsRow 0 41 1 tv (ae ts) (ts.map fun t=>.pointer (some ⟨t.r,4,none⟩)))(hn:(ae ts)<=6)(pU:aZ ts (ae ts)<=200):aI aB 67 #[tv] w fun e w'=>aiu ts w e w':=by
 obtain⟨at_,ct,rfl,_⟩:=I6 DO;obtain⟨i0,cS,dc,dm,cW⟩:=iw afv;have HT:=aj ht;have JP:=aj DO;clear ht DO;go_enter Tryz.func67,Tryz.ntmps67;go_upto_region 2 with fail;have s0:jR w (w.alloc (qA (.slice none 0 0) (.slice none 0 0) (.slice none 0 0) (.slice none 0 0) (.slice none 0 0))) w.heap.size ts 0 0 0 0 (.slice none 0 0) (.slice none 0 0) [] []:=jR.start HT.o ((Kp.refl _ _).alloc _) (by rw[aC,aA rfl]) (aH _);generalize w.alloc (qA (.slice none 0 0) (.slice none 0 0) (.slice none 0 0) (.slice none 0 0) (.slice none 0 0))=W at *;generalize hX:w.heap.size=X at s0 |-
 have HX:=aj hX;have S0:=aj s0;clear s0 hX;go_wp2_with fail;go_loopw [4] (fun s w'=>∃(i:Nat) (ah:Option Addr) (ch:Nat) (ar:Option Addr) (cr:Nat) (bJ:List (Nat×Nat)) (ru:List Nat),i<=ae ts/\s=.int .i64 i/\jR w w' X ts i 0 0 0 (.slice ah (ae bJ) ch) (.slice ar (ae ru) cr) bJ ru)
  (fun s _=>ae ts-(aG s).toNat)
 case atStart=>exact⟨0,none,0,none,0,[],[],bU _,rfl,S0.o⟩
 case round =>
  obtain⟨i,ah,ch,ar,cr,bJ,ru,hi,rfl,sp⟩:=hrel;clear S0;by_cases dx:i<ae ts
  .have gZ:(i:Int)<ae ts:=(by omega);have SP:=aj sp;have Ve:=aj (HT.o.s _ (sB dx));have zO:=Ve.o.few;have vc:ax (aZ ts i<=200):=j8 (Kl ts i (ae ts) (by omega)) pU;clear sp;go_wp2_with fail;go_loopw [5] (fun s w'=>∃(d:Nat) (ah:Option Addr) (ch:Nat) (ar:Option Addr) (cr:Nat) (bJ:List (Nat×Nat)) (ru:List Nat),d<=(ts.getD i dT).ns.length/\s=.int .i64 d/\jR w w' X ts i d d d (.slice ah (ae bJ) ch) (.slice ar (ae ru) cr) bJ ru)
    (fun s _=>(ts.getD i dT).ns.length-(aG s).toNat)
   case atStart=>exact⟨0,ah,ch,ar,cr,bJ,ru,bU _,rfl,SP.o⟩
   case round =>
    clear SP ah ch ar cr bJ ru;obtain⟨d,ah,ch,ar,cr,bJ,ru,hd,rfl,sp⟩:=hrel;have Mv:wr.ownsRow 0 41 1 (.slice at_ (ae ts) ct) (ae ts) (ts.map fun t=>.pointer (some ⟨t.r,4,none⟩)):=aJ JP.o sp.k (fun g hg hm=>by
     obtain⟨c,hc⟩:=HT.o.node g hm;exact Uo JP.o (by decide) hc hg)
    obtain⟨_,_,ea,uH⟩:=I6 Mv;obtain⟨tL,ga,Bw⟩:=uH i dx;simp only[fy]at ea;obtain⟨rfl,_,rfl⟩:=ea;subst ga;obtain⟨s',i',e',Uv,rd⟩:=(sp.Pd HT.o _ (sB dx)).rd;obtain⟨_,_,_,_,c4,_⟩:=dM rd;have Ya:=sp.nr i dx;rw[az (by omega),aA rfl]at Ya;obtain⟨d0,d1,d2,d3,d4,f0,f1,f2,f3,f4⟩:=qo sp.x;have hkf:=Ya.form (by have:=Ve.o.top;omega);obtain⟨g,cap,uF,hg,_⟩:=hkf;rw[uF]at c4;obtain⟨SP,P9,NRI⟩:=cR sp uF Ya;generalize hTd:ts.getD i dT=T at *;have wI:=aj hTd;clear sp uH Mv rd Ya uF hTd;by_cases qZ:d<ae T.ns
    .have akM:(d:Int)<ae T.ns:=(by omega);have eZ:T.ns[d]?=some T.ns[d]:=bD qZ;obtain⟨g',cap',q4,Lh,n0,n1,n3,fz⟩:=NRI.o.cells eZ;rw[P9.o]at Lh;simp only[fy,aV,oD,and_true,true_and]at Lh;obtain⟨rfl,rfl⟩:=Lh;by_cases mL:T.ns[d].kind=98
     .obtain⟨b,s,xq,pU,hLs⟩:∃b s,T.ns[d].hv=.slice (some ⟨b,0,none⟩) 256 256/\w.heap[b]?=some (aW (js s))/\T.Ls.getD d cK=(.set s,d,d+1):=by
       rcases Ve.o.tr.ok d _ eZ with⟨_,_,b,s,q2,q3,q4⟩|⟨_,ps,_,_,_,q|q|⟨p,_,q,_⟩⟩
       .exact⟨b,s,q2,q3,q4⟩
       .exact absurd (mL.symm.trans q.1) (by decide)
       .exact absurd (mL.symm.trans q.1) (by decide)
       .rw[mL]at q;omega
      rw[mL]at n0;rw[xq]at n1;obtain⟨wF,Gr,HBS,pK,HHV⟩:=jd eZ mL pU hLs xq;have S1:ax (jR w (wr.setCell ⟨g,d*4+3,none⟩ (.int .i64 (ae bJ:Nat))) X ts i (d+1) d d (.slice ah (ae bJ) ch) (.slice ar (ae ru) cr) bJ ru):=SP.o.num HT.o dx (by rw[wI.o];exact qZ) (by rw[wI.o];exact P9.o);have gX:g≠X:=by
       intro e;have h1:=HT.o.low g (IP.2 ⟨_,sB dx,by rw[wI.o,P9.o];rfl⟩);have:=SP.o.xf;omega
      have gT:g≠T.r:=by
       intro e;obtain⟨_,_,_,_,q⟩:=Ve.o.rd;obtain⟨c,q2⟩:=HT.o.node g (IP.2 ⟨_,sB dx,by rw[wI.o,P9.o];rfl⟩);rw[e,q]at q2;simp only[aV,fE]at q2;exact absurd q2.2.1 (by decide)
      clear eZ mL pU hLs xq SP NRI;go_upto_region 9 with fail;go_region
      all_goals
       have S2:=aj (S1.o.jA ((Kp.refl [] _).drewN 1));(have H9:∃W1,W1=(wr.setCell ⟨g,d*4+3,none⟩ (.int .i64 (ae bJ:Nat))).drew:=⟨_,rfl⟩);obtain⟨W1,H9⟩:=H9;(have S3:ax (jR w W1 X ts i (d+1) d d (.slice ah (ae bJ) ch) (.slice ar (ae ru) cr) bJ ru):=by rw[H9];exact S1.o.jA ((Kp.refl [] _).drew));rw[<-H9];clear S1 S2 H9 Bw c4 d0 d1 d2 d3 d4 f0 f1 f2 f3 f4 n0 n1 n3 fz;obtain⟨Bw,c4,n1⟩:=S3.o.facts HT.o JP.o dx wI.o P9.o wF.o;rw[HHV.o]at n1;obtain⟨d0,d1,d2,d3,d4,f0,f1,f2,f3,f4⟩:=qo S3.o.x;have Xd:=aE S3.o.x;(have pq:(ae bJ)<=100000:=by have h1:=vc.o;have h2:=S3.o.len;have h3:=af6 (ts.getD i dT).ns d;rw[wI.o]at h2 h3;omega);go_upto_region 10 with fail;go_region_law
        ((refine wm _ (by rfl) _ _ _ (by rfl) 0 80 i0 _ 1 24 adA cS dc dm cW rfl (by omega) (.slice ah (ae bJ) ch) (ae bJ) (bJ.map WM) (by rfl) (((eV S3.o.has (bU _)).alloc _).drew) ⟨W1.heap.size,0,none⟩ 1 1 [.slice (some ⟨b,0,none⟩) 256 256] (by rfl) (by rfl) (gN (cs:=#[.slice (some ⟨b,0,none⟩) 256 256]) (t:=80) (fr:=(0,0)) (heap_alloc_new W1 _)) (by simp[dS]) (by omega) (by unfold eB;omega) (by omega) (by simp) (W1.heap.size+1) (by simp) ?_;intro g1 aP w2 cT bj cy iz;obtain⟨Dv,s1⟩:=S3.o.akG HT.o dx (by rw[wI.o];exact qZ) (nd:=T.ns[d]) (by rw[wI.o];exact wF.o) Gr.o (b:=b) (s:=s) HBS.o (by rw[wI.o];exact pK.o) (((Kp.refl [] W1).alloc _).drew) bj (v':=.slice (some ⟨g1,0,none⟩) (ae bJ+1) aP) (by rw[cx,uv];exact cT) (by rcases cy with q|q;exact .inl (by rw[q];rfl);exact .inr ⟨g1,rfl,by omega⟩);obtain⟨_,_,_,_,_,m0,_⟩:=qo Dv;obtain⟨e0,_⟩:=qo Dv;have SX:=aj s1;clear s1 Dv cT bj cy))
       all_goals
        (have SY:ax (jR w (w2.setCell ⟨X,0,none⟩ (.slice (some ⟨g1,0,none⟩) (ae bJ+1) aP)) X ts i (d+1) (d+1) d (.slice (some ⟨g1,0,none⟩) (bJ ++ [(b,s)]).length aP) (.slice ar (ae ru) cr) (bJ ++ [(b,s)]) ru):=by rw[cx];exact SX.o);generalize w2.setCell ⟨X,0,none⟩ (.slice (some ⟨g1,0,none⟩) (ae bJ+1) aP)=W2 at *;clear SX S3 Bw c4 n1 d0 d1 d2 d3 d4 f0 f1 f2 f3 f4 m0 e0;obtain⟨d0,d1,d2,d3,d4,f0,f1,f2,f3,f4⟩:=qo SY.o.x;(have gB:(ae ru)<=1000:=by have h1:=vc.o;have h2:=SY.o.rl;have h3:=af6 (ts.getD i dT).ns d;rw[wI.o]at h2 h3;omega);have apR:=aE SY.o.x;(go_wp2_with (at_builtin;go_must (refine zD rfl _ _ rfl (.slice ar (ae ru) cr) (.slice (some ⟨W2.heap.size,0,none⟩) 1 1) ru [i] rfl rfl ((eV SY.o.rI (bU _)).alloc _) (I9 (by rw[aC,aA rfl]) (bU _)) (by simp;omega) ?_);intro v5 w5 eE jO jY vY;obtain⟨a5,c5,rfl,_⟩:=jm eE;obtain⟨bx5,s5⟩:=SY.o.anT HT.o dx (nd:=T.ns[d]) (by rw[wI.o];exact wF.o) Gr.o ((Kp.refl [] W2).alloc _) jO eE (by rcases jY with q|q;exact .inl q;exact .inr ⟨_,q,by rw[aM];omega⟩);obtain⟨_,z1,_,_,_,_,m1,_⟩:=qo bx5;have SZ:=aj s5;clear s5 bx5 eE jO jY vY));go_wp2;refine⟨⟨d+1,some ⟨g1,0,none⟩,aP,a5,c5,bJ ++ [(b,s)],ru ++ [i],by omega,by go_num,?_⟩,by simp[aG];omega⟩;first|exact SZ.o|(have:=SZ.o;simpa using this)
     ·(have hq:((T.ns[d].kind:Int) == 98)=false:=by simp;omega);have Gr:=aj mL;have wF:=aj eZ;generalize T.ns[d]=nd at *;clear mL eZ;go_wp2;refine⟨⟨d+1,ah,ch,ar,cr,bJ,ru,by omega,by go_num,SP.o.skip dx (fun DU e=>?_) (by rw[wI.o];exact qZ)⟩,by simp[aG];omega⟩;rw[wI.o,wF.o]at e;simp only[aV]at e;rw[<-e];exact Gr.o
    .have akM:¬(d:Int)<ae T.ns:=(by omega);have hde:d=ae T.ns:=(by omega);subst hde;go_wp2;refine⟨⟨i+1,ah,ch,ar,cr,bJ,ru,by omega,by go_num,?_⟩,by simp[aG];omega⟩;have:=SP.o;rw[<-wI.o]at this;exact this.next
  .have gZ:¬(i:Int)<ae ts:=(by omega);have m7:i=ae ts:=(by omega);subst m7;(have pq:(ae bJ)=aZ ts (ae ts):=by have:=sp.len;rw[this];rfl);(have gB:(ae ru)=ae bJ:=by have:=sp.rl;rw[this,pq];rfl);obtain⟨d0,d1,d2,d3,d4,f0,f1,f2,f3,f4⟩:=qo sp.x;have Xd:=aE sp.x;(have Fj:∀W,(pN 80 (.int .i64 (ae bJ:Int)) (.int .i64 (ae bJ:Int))).run aB W=.ok (.slice (some ⟨W.heap.size,0,none⟩) (ae bJ) (ae bJ)) (W.alloc (aW (fl (ae bJ)))):=fun W=>yZ (ae bJ) (by omega) W);obtain⟨SP,vc,wG⟩:=cR sp pq gB;have Fl:(ae bJ)<=200:=(by omega);clear sp pq gB;go_upto_region 15 with fail;have c0:=EJ.start (n:=ae bJ) SP.o.x;generalize (((wr.setCell ⟨X,2,none⟩ (.slice (some ⟨wr.heap.size,0,none⟩) (ae bJ) (ae bJ))).setCell ⟨X,4,none⟩ (.slice (some ⟨wr.heap.size+1,0,none⟩) (ae bJ) (ae bJ))).alloc (aW (fl (ae bJ)))).alloc (aW (fl (ae bJ)))=W2 at *;have C0:=aj c0;clear c0 d0 d1 d2 d3 d4 f0 f1 f2 f3 f4;(have Iv:∃wA,wA=wr:=⟨_,rfl⟩);obtain⟨wA,Iv⟩:=Iv;(rw[<-Iv]at C0 SP Xd |-);clear Iv;clear wr;go_wp2_with fail;go_loopw [7] (fun s w'=>∃(k:Nat) (av:Option Addr) (cv:Nat) (gs:List Nat),k<=ae bJ/\s=.int .i64 k/\(ae gs)=k/\EJ wA w' X (ae bJ) (.slice ah (ae bJ) ch) (.slice ar (ae ru) cr) (.slice av (ae gs) cv) gs)
    (fun s _=>ae bJ-(aG s).toNat)
   case atStart=>exact⟨0,none,0,[],bU _,rfl,rfl,C0.o⟩
   case round =>
    obtain⟨k,av,cv,gs,hk,rfl,ko,sc⟩:=hrel;obtain⟨d0,d1,d2,d3,d4,f0,f1,f2,f3,f4⟩:=qo sc.x;have SC:=aj sc;have lX:=aE sc.x;clear sc C0;by_cases dI:k<ae bJ
    .have j3:(k:Int)<ae bJ:=(by omega);have Gq:=aj ko;have yK:(ae gs)<=200:=(by omega);clear ko;go_upto_region 18 with fail;go_region_law
      ((refine wm _ (by rfl) _ _ _ (by rfl) 0 80 i0 _ 1 24 adA cS dc dm cW rfl (by omega) (.slice av (ae gs) cv) (ae gs) (gs.map fun g=>.slice (some ⟨g,0,none⟩) (ae bJ) (ae bJ)) (by rfl) (((SC.o.fo.own.alloc _).alloc _).drew) ⟨wr.heap.size+1,0,none⟩ 1 1 [.slice (some ⟨wr.heap.size,0,none⟩) (ae bJ) (ae bJ)] (by rfl) (by rfl) (gN (cs:=#[.slice (some ⟨wr.heap.size,0,none⟩) (ae bJ) (ae bJ)]) (t:=80) (fr:=(0,0)) (by rw[eO,aC,aA (by rw[aM])])) (by simp[dS]) (by omega) (by unfold eB;omega) (by omega) (by simp) (wr.heap.size+2) (by simp) ?_;intro g1 aP w2 cT bj cy iz;obtain⟨Dv,s1⟩:=SC.o.add (G:=wr.heap.size) ((((Kp.refl [] wr).alloc _).alloc _).drew) (by rw[eO,aC,az (by rw[aM];omega),aC,aA rfl,Kn]) (aH _) bj (v':=.slice (some ⟨g1,0,none⟩) (ae gs+1) aP) (by rw[cx,uv];exact cT) (by rcases cy with q|q;exact .inl (by rw[q];rfl);exact .inr ⟨g1,rfl,by omega⟩);obtain⟨_,_,_,e3,_,_,_,_,m3,_⟩:=qo Dv;have SX:=aj s1;clear s1 Dv cT bj cy))
     all_goals
      go_wp2;refine⟨⟨k+1,some ⟨g1,0,none⟩,aP,gs ++ [wr.heap.size],by omega,by go_num,by rw[cx,Gq.o];rfl,?_⟩,by simp[aG];omega⟩;first|exact SX.o|(rw[cx];exact SX.o)
    .have j3:¬(k:Int)<ae bJ:=(by omega);(have SM:(ae gs)=ae bJ:=by omega);obtain⟨w0,kA0,sd⟩:=SC.o.later SP.o.x;obtain⟨JC,KA0,SD⟩:=cR SM kA0 sd;(have On:∃wC,wC=wr:=⟨_,rfl⟩);clear SC d0 d1 d2 d3 d4 f0 f1 f2 f3 f4 sd kA0 SM On;(have DL:∀j,j<ae ts->(ts.getD j dT).a.np=(ts.getD j dT).m:=fun j hj=>((SP.o.Pd HT.o _ (sB hj)).np (SP.o.acq hj)).1);have HNP:=aj DL;clear DL;go_upto_region 19 with fail;go_wp2_with fail;go_loopw [8] (fun s w'=>∃(i:Nat),i<=ae ts/\s=.int .i64 i/\nZ wA w0 w' X (ae bJ) (.slice ah (ae bJ) ch) (.slice ar (ae ru) cr) (.slice av (ae gs) cv) gs (jb ts i) (cH (gR ts) i) (cH (j4 ts) i))
      (fun s _=>ae ts-(aG s).toNat)
     case atStart=>exact⟨0,bU _,rfl,SD.o⟩
     case round =>
      obtain⟨i,hi,rfl,sd⟩:=hrel;clear SD;by_cases dx:i<ae ts
      .have gZ:(i:Int)<ae ts:=(by omega);have YW:wA.ownsRow 0 41 1 (.slice at_ (ae ts) ct) (ae ts) (ts.map fun t=>.pointer (some ⟨t.r,4,none⟩)):=aJ JP.o SP.o.k (fun g hg hm=>by
        obtain⟨c,hc⟩:=HT.o.node g hm;exact Uo JP.o (by decide) hc hg)
       have Mv:=aJ YW sd.ka (fun g hg hm=>by
        simp only[bQ]at hm;subst hm;exact Uo YW (by decide) SP.o.x hg)
       obtain⟨_,_,ea,uH⟩:=I6 Mv;obtain⟨tL,ga,Bw⟩:=uH i dx;simp only[fy]at ea;obtain⟨rfl,_,rfl⟩:=ea;subst ga;have Pc:=SP.o.Pd HT.o _ (sB dx);have nrA:=SP.o.nr i dx;rw[aA dx]at nrA;have tp0:=(nrA.tp (aH _) Pc).kpX KA0.o SP.o.x;have hS:=SP.o.acq dx;have hSs:=aj hS;(have Sq:aZ ts (i+1)<=ae bJ:=by rw[vc.o];exact Kl ts (i+1) (ae ts) dx);have DB:aZ ts (i+1)=aZ ts i+(ts.getD i dT).m:=rfl;have wk:=aoS w0 X (ts.getD i dT).r (ae bJ) (aZ ts i) (ts.getD i dT).nv (ts.getD i dT).ns (ts.getD i dT).Ls (.slice av (ae gs) cv) (.slice ah (ae bJ) ch) (.slice ar (ae ru) cr) (.slice (some ⟨wA.heap.size,0,none⟩) (ae bJ) (ae bJ)) (.slice (some ⟨wA.heap.size+1,0,none⟩) (ae bJ) (ae bJ)) gs _ tp0 hS JC.o Fl (fun g hg=>by have:=sd.fg g hg;have:=sd.s0;omega) (by have:(ts.getD i dT).m=nb (ts.getD i dT).ns (ts.getD i dT).ns.length:=rfl;omega) (by have:=Pc.few;omega) (ts.getD i dT).k Pc.top;unfold Kf at wk;rw[Pc.an]at wk;have dc:aZ ts i+nb (ts.getD i dT).ns 0=aZ ts i:=rfl;(have wk2:∀W,Kp [] wr W->aI aB 98 #[.pointer (some ⟨X,0,none⟩),.pointer (some ⟨(ts.getD i dT).r,4,none⟩),.int .i64 (ts.getD i dT).k] W (Nr (ts.getD i dT).a (aZ ts i) (ae bJ) gs (.slice av (ae gs) cv) (jb ts i) W):=fun W hW=>wk (jb ts i) W (sd.k0.trans hW (by simp)) (hW.keep sd.x (by simp)) (sd.fo.kp hW (by simp) (by simp)) (fun q h1 _=>akk HNP.o i (by omega) q h1));have WK:=aj wk2;obtain⟨s',i',e',Uv,OY⟩:=Pc.rd;have rd:=sd.ka.keep OY (fun hm=>by
        simp only[bQ]at hm;rw[hm,SP.o.x]at OY;simp only[aV,fE]at OY;exact absurd OY.2.1 (by decide))
       obtain⟨_,_,_,_,c4,c5,_⟩:=dM rd;have Xt:=aE rd;have RTA:=aj (aE OY);have GTA:ax (tL<wA.heap.size):=by
        obtain⟨_,_,Wq,ak8⟩:=I6 YW;obtain⟨g3,ga3,aec⟩:=ak8 i dx;simp only[fy]at Wq;rw[ga3]at Wq;simp only[aV,oD,and_true]at Wq;rw[<-Wq.1]at aec;rcases eK tL wA.heap.size with z|z
        .exact z
        .have:wA.heap[tL]?=none:=kP z;simp[vE,this]at aec
       have hgT:tL<wr.heap.size:=by
        rcases eK tL wr.heap.size with z|z
        .exact z
        .have:wr.heap[tL]?=none:=kP z;simp[vE,this]at Bw
       have uJ:=aj (show aZ ts i+(ts.getD i dT).a.np<=ae bJ by have:=HNP.o i dx;omega);have G0:=aj sd;have SDA:ax (X<wA.heap.size):=aE SP.o.x;(have eF:ax (∀q,jb ts (i+1) q=if aZ ts i<=q/\q<aZ ts i+(ts.getD i dT).a.np then(ts.getD i dT).a.fo (aZ ts i) q else jb ts i q):=fun q=>rfl);have Wo:ax (cH (gR ts) (i+1)=cH (gR ts) i ||| (ts.getD i dT).a.fi (aZ ts i)):=rfl;have Wp:ax (cH (j4 ts) (i+1)=cH (j4 ts) i ||| (ts.getD i dT).a.la (aZ ts i)):=rfl;have MQ:=aj ((ts.getD i dT).a.Lr (aZ ts i));generalize ts.getD i dT=T at *;clear wk wk2 YW Mv uH Pc nrA tp0 hS hSs rd OY sd dc DB Sq;go_upto_region 22 with fail;have Fe:ax (∀g∈gs,g<wr.heap.size):=G0.o.fo.lt;have nG:tL∉gs:=fun hm=>by
        have:=G0.o.fg tL hm;have:=GTA.o;omega
       have nT:T.r∉gs:=fun hm=>by
        have:=G0.o.fg T.r hm;have:=RTA.o;omega
       have H8:∀W,Kp gs wr W->(W.cell? ⟨tL,i,none⟩=some (.pointer (some ⟨T.r,4,none⟩))/\W.cell? ⟨T.r,5,none⟩=some (.int .i64 T.k)):=fun W hW=>by
        refine⟨?_,?_⟩
        .have:=hW.block tL hgT nG;(unfold vE at Bw |-);rw[this];exact Bw
        .have:=hW.block T.r Xt nT;(unfold vE at c5 |-);rw[this];exact c5
       have qK:=aj H8;clear H8;go_region_held3 (fun w':ay=>w'.cell? ⟨tL,i,none⟩=some (.pointer (some ⟨T.r,4,none⟩))/\w'.cell? ⟨T.r,5,none⟩=some (.int .i64 T.k))
        (first|exact qK.o _ ((Kp.refl _ _).drew)|exact qK.o _ (((Kp.refl _ _).alloc _).drew)|exact qK.o _ Eo|exact qK.o _ (Eo.alloc _)|exact qK.o _ (((Eo.set (.inr (aH _)) _ _).set (.inr (aH _)) _ _).set (.inr (aH _)) _ _))
        (first|(go_at_call 98;refine(WK.o _ ((Kp.refl [] wr).drew)).mono ?_;rintro _ w2 ⟨e,ff,ll,vf,vl,F2,rfl,pg,f2,k2,of,ol,hd,lf,ln⟩;obtain⟨af,cf,rfl,_⟩:=jm (eV of (bU _));obtain⟨al,cl,rfl,_⟩:=jm (eV ol (bU _));have Eo:Kp gs wr w2:=((Kp.refl gs wr).drew).trans k2 (fun y hy=>.inl hy))|(go_at_call 98;refine(WK.o _ (((Kp.refl [] wr).alloc _).drew)).mono ?_;rintro _ w2 ⟨e,ff,ll,vf,vl,F2,rfl,pg,f2,k2,of,ol,hd,lf,ln⟩;obtain⟨af,cf,rfl,_⟩:=jm (eV of (bU _));obtain⟨al,cl,rfl,_⟩:=jm (eV ol (bU _));have Eo:Kp gs wr w2:=(((Kp.refl gs wr).alloc _).drew).trans k2 (fun y hy=>.inl hy);have pb:w2.heap[wr.heap.size]?=some lN:=k2.keep (by rw[eO,aC,aA rfl]) (fun hm=>Nat.lt_irrefl _ (Fe.o _ hm));obtain⟨p0,p1,p2,p3,p4,p5⟩:=fX pb))
       .have XY:=aE G0.o.bf;have Ib:=SDA.o;have hFe:F2=jb ts (i+1):=by
         funext q;rw[pg.fo q,eF.o q]
        subst hFe;have SD3:ax (nZ wA w0 (w2.alloc (iP e (.slice af (ae ff) cf) (.slice al (ae ll) cl))) X (ae bJ) (.slice ah (ae bJ) ch) (.slice ar (ae ru) cr) (.slice av (ae gs) cv) gs (jb ts (i+1)) (cH (gR ts) i) (cH (j4 ts) i)):=(G0.o.kpF Ib Eo f2).Cw ((Kp.refl [] _).alloc _);(have Jn:ax ((w2.alloc (iP e (.slice af (ae ff) cf) (.slice al (ae ll) cl))).heap[w2.heap.size]?=some (iP e (.slice af (ae ff) cf) (.slice al (ae ll) cl))):=by show _=_;rw[aC,aA rfl]);have Di:ax ((w2.alloc (iP e (.slice af (ae ff) cf) (.slice al (ae ll) cl))).ownsRow (wA.heap.size+2) 3 1 (.slice af (ae ff) cf) (ae ff) (dy ff)):=eV (aJ of ((Kp.refl [] _).alloc _) (by simp)) XY;have Dj:ax ((w2.alloc (iP e (.slice af (ae ff) cf) (.slice al (ae ll) cl))).ownsRow (wA.heap.size+2) 3 1 (.slice al (ae ll) cl) (ae ll) (dy ll)):=eV (aJ ol ((Kp.refl [] _).alloc _) (by simp)) XY;(have hPB:wA.heap.size+2<=w2.heap.size:=by have:=Eo.size;omega);generalize w2.alloc (iP e (.slice af (ae ff) cf) (.slice al (ae ll) cl))=W3 at *;generalize w2.heap.size=PB at *;have Da:ax (∀q∈ff,q<ae bJ):=fun q hq=>by
         have h1:=MQ.o.1 q (by rw[<-pg.fi];exact(Ax ff q).2 hq);have h2:=uJ.o;omega
        have Db:ax (∀q∈ll,q<ae bJ):=fun q hq=>by
         have h1:=MQ.o.2 q (by rw[<-pg.la];exact(Ax ll q).2 hq);have h2:=uJ.o;omega
        (have Zv:ax (cH (gR ts) (i+1)=cH (gR ts) i ||| eH ff):=by show _=_;rw[Wo.o,pg.fi]);(have Zw:ax (cH (j4 ts) (i+1)=cH (j4 ts) i ||| eH ll):=by show _=_;rw[Wp.o,pg.la]);(have Lz:(ae ff)<=200:=by have:=uJ.o;omega);(have LC:(ae ll)<=200:=by have:=uJ.o;omega);clear pg f2 k2 of ol hd lf ln Eo Bw c4 c5 WK qK eF Wo Wp MQ;go_wp2_with fail;go_loopw [10] (fun s w'=>∃k:Nat,k<=ae ff/\s=.int .i64 k/\nZ wA w0 w' X (ae bJ) (.slice ah (ae bJ) ch) (.slice ar (ae ru) cr) (.slice av (ae gs) cv) gs (jb ts (i+1)) (cH (gR ts) i ||| eH (ff.take k)) (cH (j4 ts) i)/\Kp [wA.heap.size+1] W3 w')
         (fun s _=>ae ff-(aG s).toNat)
        case atStart=>exact⟨0,bU _,rfl,by rw[Ew,eH,zq];exact SD3.o,Kp.refl _ _⟩
        case round =>
         obtain⟨k2,jk,rfl,sd,kk⟩:=hrel;have LR:=aJ Di.o kk (fun g hg hm=>by simp at hm;have:=(eS Di.o hg).1;omega);have vG:=kk.keep Jn.o (by simp;omega);obtain⟨p0,p1,p2,_⟩:=fX vG;obtain⟨d0,d1,d2,d3,d4,_⟩:=qo sd.x;by_cases dI:k2<ae ff
         .have j3:(k2:Int)<ae ff:=(by omega);obtain⟨_,_,ea,eP⟩:=qB (eV LR (bU _));obtain⟨ga,lj,Kq⟩:=eP k2 dI;simp only[fy]at ea;obtain⟨rfl,_⟩:=ea;have Fo:=Da.o _ (Dx dI);have Xq:((ff.getD k2 0:Nat):Int)<ae bJ:=(by omega);have cr:=gz sd.bf (ff.getD k2 0) (by rw[jz];exact Fo);have fr:=kJ sd.bf (ff.getD k2 0);have SN:=aj (sd.afV Ib (ff.getD k2 0));have KN:ax (Kp [wA.heap.size+1] W3 (wr.setCell ⟨wA.heap.size+1,ff.getD k2 0,none⟩ (.bool true))):=kk.set (.inl (by simp)) _ _;have eM:eH (ff.take (k2+1))=eH (ff.take k2) ||| 1 <<< ff.getD k2 0:=by
           rw[GQ,Aw,bD dI,aO,bD dI];simp[Mn]
          have mT:=aj eM;subst lj;generalize (dK (ae bJ) _).getD (ff.getD k2 0) false=ov at cr;generalize ff.getD k2 0=q at *;clear sd kk LR vG eP eM;go_wp2_with fail;go_region
          all_goals
           go_wp2;refine⟨⟨k2+1,by omega,by go_num,?_,KN.o.drewN _⟩,by simp[aG];omega⟩;rw[mT.o,<-wN];exact SN.o.Cw ((Kp.refl [] _).drewN _)
         .have j3:¬(k2:Int)<ae ff:=(by omega);have SF:ax (nZ wA w0 wr X (ae bJ) (.slice ah (ae bJ) ch) (.slice ar (ae ru) cr) (.slice av (ae gs) cv) gs (jb ts (i+1)) (cH (gR ts) (i+1)) (cH (j4 ts) i)):=by
           have e1:ff.take k2=ff:=Ba (by omega);have:=sd;rw[e1,<-Zv.o]at this;exact this
          have KF:=aj kk;clear sd kk LR vG;go_wp2_with fail;go_loopw [11] (fun s w'=>∃k:Nat,k<=ae ll/\s=.int .i64 k/\nZ wA w0 w' X (ae bJ) (.slice ah (ae bJ) ch) (.slice ar (ae ru) cr) (.slice av (ae gs) cv) gs (jb ts (i+1)) (cH (gR ts) (i+1)) (cH (j4 ts) i ||| eH (ll.take k))/\Kp [wA.heap.size+1,wA.heap.size] W3 w')
           (fun s _=>ae ll-(aG s).toNat)
          case atStart=>exact⟨0,bU _,rfl,by rw[Ew,eH,zq];exact SF.o,KF.o.mono (by simp)⟩
          case round =>
           clear p0 p1 p2 d0 d1 d2 d3 d4;obtain⟨k3,rh,rfl,sd,kk⟩:=hrel;have LY:=aJ Dj.o kk (fun g hg hm=>by simp at hm;have:=(eS Dj.o hg).1;omega);have vG:=kk.keep Jn.o (by simp;omega);obtain⟨p0,p1,p2,_⟩:=fX vG;obtain⟨d0,d1,d2,d3,d4,_⟩:=qo sd.x;by_cases Ci:k3<ae ll
           .have Ob:(k3:Int)<ae ll:=(by omega);obtain⟨_,_,ea,eP⟩:=qB (eV LY (bU _));obtain⟨ga,lj,Kq⟩:=eP k3 Ci;simp only[fy]at ea;obtain⟨rfl,_⟩:=ea;have Fo:=Db.o _ (Dx Ci);have Xq:((ll.getD k3 0:Nat):Int)<ae bJ:=(by omega);have cr:=gz sd.bl (ll.getD k3 0) (by rw[jz];exact Fo);have fr:=kJ sd.bl (ll.getD k3 0);have SN:=aj (sd.afW Ib (ll.getD k3 0));have KN:ax (Kp [wA.heap.size+1,wA.heap.size] W3 (wr.setCell ⟨wA.heap.size,ll.getD k3 0,none⟩ (.bool true))):=kk.set (.inl (by simp)) _ _;have eM:eH (ll.take (k3+1))=eH (ll.take k3) ||| 1 <<< ll.getD k3 0:=by
             rw[GQ,Aw,bD Ci,aO,bD Ci];simp[Mn]
            have mT:=aj eM;subst lj;generalize (dK (ae bJ) _).getD (ll.getD k3 0) false=ov at cr;generalize ll.getD k3 0=q at *;clear sd kk LY vG eP eM;go_wp2_with fail;go_region
            all_goals
             go_wp2;refine⟨⟨k3+1,by omega,by go_num,?_,KN.o.drewN _⟩,by simp[aG];omega⟩;rw[mT.o,<-wN];exact SN.o.Cw ((Kp.refl [] _).drewN _)
           .have Ob:¬(k3:Int)<ae ll:=(by omega);have SL:ax (nZ wA w0 wr X (ae bJ) (.slice ah (ae bJ) ch) (.slice ar (ae ru) cr) (.slice av (ae gs) cv) gs (jb ts (i+1)) (cH (gR ts) (i+1)) (cH (j4 ts) (i+1))):=by
             have e1:ll.take k3=ll:=Ba (by omega);have:=sd;rw[e1,<-Zw.o]at this;exact this
            clear sd kk LY vG;go_wp2;exact⟨⟨i+1,by omega,by go_num,SL.o⟩,by simp[aG];omega⟩
       .have XY:=aE G0.o.bf;have Ib:=SDA.o;have hFe:F2=jb ts (i+1):=by
         funext q;rw[pg.fo q,eF.o q]
        subst hFe;have kS:Kp [wr.heap.size] w2 (((w2.setCell ⟨wr.heap.size,0,none⟩ (.bool e)).setCell ⟨wr.heap.size,1,none⟩ (.slice af (ae ff) cf)).setCell ⟨wr.heap.size,2,none⟩ (.slice al (ae ll) cl)):=(((Kp.refl _ w2).set (.inl (by simp)) _ _).set (.inl (by simp)) _ _).set (.inl (by simp)) _ _;(have szA:(wr.alloc lN).drew.heap.size=wr.heap.size+1:=by show(wr.alloc lN).heap.size=_;rw[aM]);(have of':w2.ownsRow (wr.heap.size+1) 3 1 (.slice af (ae ff) cf) (ae ff) (dy ff):=by rw[<-szA];exact of);(have ol':w2.ownsRow (wr.heap.size+1) 3 1 (.slice al (ae ll) cl) (ae ll) (dy ll):=by rw[<-szA];exact ol);have SD3:ax (nZ wA w0 (((w2.setCell ⟨wr.heap.size,0,none⟩ (.bool e)).setCell ⟨wr.heap.size,1,none⟩ (.slice af (ae ff) cf)).setCell ⟨wr.heap.size,2,none⟩ (.slice al (ae ll) cl)) X (ae bJ) (.slice ah (ae bJ) ch) (.slice ar (ae ru) cr) (.slice av (ae gs) cv) gs (jb ts (i+1)) (cH (gR ts) i) (cH (j4 ts) i)):=by
         have q:=G0.o.kpF Ib Eo f2;have s0:=q.s0;exact { q with k0:=q.k0.trans kS (fun y hy=>.inr (by simp at hy;omega)),ka:=q.ka.trans kS (fun y hy=>.inr (by simp at hy;omega)),x:=kS.keep q.x (by simp;omega),bl:=kS.keep q.bl (by simp;omega),bf:=kS.keep q.bf (by simp;omega),fo:=q.fo.kp kS (fun g hg hm=>by simp at hm;have:=(eS G0.o.fo.own hg).2.1;omega) (fun g hg hm=>by simp at hm;have:=Fe.o g hg;omega) }
        (have Jn:ax ((((w2.setCell ⟨wr.heap.size,0,none⟩ (.bool e)).setCell ⟨wr.heap.size,1,none⟩ (.slice af (ae ff) cf)).setCell ⟨wr.heap.size,2,none⟩ (.slice al (ae ll) cl)).heap[wr.heap.size]?=some (iP e (.slice af (ae ff) cf) (.slice al (ae ll) cl))):=by show _=_;simp only[aQ,if_true,pb];simp[eD]);have Di:ax ((((w2.setCell ⟨wr.heap.size,0,none⟩ (.bool e)).setCell ⟨wr.heap.size,1,none⟩ (.slice af (ae ff) cf)).setCell ⟨wr.heap.size,2,none⟩ (.slice al (ae ll) cl)).ownsRow (wA.heap.size+2) 3 1 (.slice af (ae ff) cf) (ae ff) (dy ff)):=eV (aJ of' kS (fun g hg hm=>by simp at hm;have:=(eS of' hg).1;omega)) (by omega);have Dj:ax ((((w2.setCell ⟨wr.heap.size,0,none⟩ (.bool e)).setCell ⟨wr.heap.size,1,none⟩ (.slice af (ae ff) cf)).setCell ⟨wr.heap.size,2,none⟩ (.slice al (ae ll) cl)).ownsRow (wA.heap.size+2) 3 1 (.slice al (ae ll) cl) (ae ll) (dy ll)):=eV (aJ ol' kS (fun g hg hm=>by simp at hm;have:=(eS ol' hg).1;omega)) (by omega);have hPB:wA.heap.size+2<=wr.heap.size:=XY;clear kS szA of' ol' pb p0 p1 p2 p3 p4 p5;generalize ((w2.setCell ⟨wr.heap.size,0,none⟩ (.bool e)).setCell ⟨wr.heap.size,1,none⟩ (.slice af (ae ff) cf)).setCell ⟨wr.heap.size,2,none⟩ (.slice al (ae ll) cl)=W3 at *;generalize wr.heap.size=PB at *;have Da:ax (∀q∈ff,q<ae bJ):=fun q hq=>by
         have h1:=MQ.o.1 q (by rw[<-pg.fi];exact(Ax ff q).2 hq);have h2:=uJ.o;omega
        have Db:ax (∀q∈ll,q<ae bJ):=fun q hq=>by
         have h1:=MQ.o.2 q (by rw[<-pg.la];exact(Ax ll q).2 hq);have h2:=uJ.o;omega
        (have Zv:ax (cH (gR ts) (i+1)=cH (gR ts) i ||| eH ff):=by show _=_;rw[Wo.o,pg.fi]);(have Zw:ax (cH (j4 ts) (i+1)=cH (j4 ts) i ||| eH ll):=by show _=_;rw[Wp.o,pg.la]);(have Lz:(ae ff)<=200:=by have:=uJ.o;omega);(have LC:(ae ll)<=200:=by have:=uJ.o;omega);clear pg f2 k2 of ol hd lf ln Eo Bw c4 c5 WK qK eF Wo Wp MQ;go_wp2_with fail;go_loopw [10] (fun s w'=>∃k:Nat,k<=ae ff/\s=.int .i64 k/\nZ wA w0 w' X (ae bJ) (.slice ah (ae bJ) ch) (.slice ar (ae ru) cr) (.slice av (ae gs) cv) gs (jb ts (i+1)) (cH (gR ts) i ||| eH (ff.take k)) (cH (j4 ts) i)/\Kp [wA.heap.size+1] W3 w')
         (fun s _=>ae ff-(aG s).toNat)
        case atStart=>exact⟨0,bU _,rfl,by rw[Ew,eH,zq];exact SD3.o,Kp.refl _ _⟩
        case round =>
         obtain⟨k2,jk,rfl,sd,kk⟩:=hrel;have LR:=aJ Di.o kk (fun g hg hm=>by simp at hm;have:=(eS Di.o hg).1;omega);have vG:=kk.keep Jn.o (by simp;omega);obtain⟨p0,p1,p2,_⟩:=fX vG;obtain⟨d0,d1,d2,d3,d4,_⟩:=qo sd.x;by_cases dI:k2<ae ff
         .have j3:(k2:Int)<ae ff:=(by omega);obtain⟨_,_,ea,eP⟩:=qB (eV LR (bU _));obtain⟨ga,lj,Kq⟩:=eP k2 dI;simp only[fy]at ea;obtain⟨rfl,_⟩:=ea;have Fo:=Da.o _ (Dx dI);have Xq:((ff.getD k2 0:Nat):Int)<ae bJ:=(by omega);have cr:=gz sd.bf (ff.getD k2 0) (by rw[jz];exact Fo);have fr:=kJ sd.bf (ff.getD k2 0);have SN:=aj (sd.afV Ib (ff.getD k2 0));have KN:ax (Kp [wA.heap.size+1] W3 (wr.setCell ⟨wA.heap.size+1,ff.getD k2 0,none⟩ (.bool true))):=kk.set (.inl (by simp)) _ _;have eM:eH (ff.take (k2+1))=eH (ff.take k2) ||| 1 <<< ff.getD k2 0:=by
           rw[GQ,Aw,bD dI,aO,bD dI];simp[Mn]
          have mT:=aj eM;subst lj;generalize (dK (ae bJ) _).getD (ff.getD k2 0) false=ov at cr;generalize ff.getD k2 0=q at *;clear sd kk LR vG eP eM;go_wp2_with fail;go_region
          all_goals
           go_wp2;refine⟨⟨k2+1,by omega,by go_num,?_,KN.o.drewN _⟩,by simp[aG];omega⟩;rw[mT.o,<-wN];exact SN.o.Cw ((Kp.refl [] _).drewN _)
         .have j3:¬(k2:Int)<ae ff:=(by omega);have SF:ax (nZ wA w0 wr X (ae bJ) (.slice ah (ae bJ) ch) (.slice ar (ae ru) cr) (.slice av (ae gs) cv) gs (jb ts (i+1)) (cH (gR ts) (i+1)) (cH (j4 ts) i)):=by
           have e1:ff.take k2=ff:=Ba (by omega);have:=sd;rw[e1,<-Zv.o]at this;exact this
          have KF:=aj kk;clear sd kk LR vG;go_wp2_with fail;go_loopw [11] (fun s w'=>∃k:Nat,k<=ae ll/\s=.int .i64 k/\nZ wA w0 w' X (ae bJ) (.slice ah (ae bJ) ch) (.slice ar (ae ru) cr) (.slice av (ae gs) cv) gs (jb ts (i+1)) (cH (gR ts) (i+1)) (cH (j4 ts) i ||| eH (ll.take k))/\Kp [wA.heap.size+1,wA.heap.size] W3 w')
           (fun s _=>ae ll-(aG s).toNat)
          case atStart=>exact⟨0,bU _,rfl,by rw[Ew,eH,zq];exact SF.o,KF.o.mono (by simp)⟩
          case round =>
           clear p0 p1 p2 d0 d1 d2 d3 d4;obtain⟨k3,rh,rfl,sd,kk⟩:=hrel;have LY:=aJ Dj.o kk (fun g hg hm=>by simp at hm;have:=(eS Dj.o hg).1;omega);have vG:=kk.keep Jn.o (by simp;omega);obtain⟨p0,p1,p2,_⟩:=fX vG;obtain⟨d0,d1,d2,d3,d4,_⟩:=qo sd.x;by_cases Ci:k3<ae ll
           .have Ob:(k3:Int)<ae ll:=(by omega);obtain⟨_,_,ea,eP⟩:=qB (eV LY (bU _));obtain⟨ga,lj,Kq⟩:=eP k3 Ci;simp only[fy]at ea;obtain⟨rfl,_⟩:=ea;have Fo:=Db.o _ (Dx Ci);have Xq:((ll.getD k3 0:Nat):Int)<ae bJ:=(by omega);have cr:=gz sd.bl (ll.getD k3 0) (by rw[jz];exact Fo);have fr:=kJ sd.bl (ll.getD k3 0);have SN:=aj (sd.afW Ib (ll.getD k3 0));have KN:ax (Kp [wA.heap.size+1,wA.heap.size] W3 (wr.setCell ⟨wA.heap.size,ll.getD k3 0,none⟩ (.bool true))):=kk.set (.inl (by simp)) _ _;have eM:eH (ll.take (k3+1))=eH (ll.take k3) ||| 1 <<< ll.getD k3 0:=by
             rw[GQ,Aw,bD Ci,aO,bD Ci];simp[Mn]
            have mT:=aj eM;subst lj;generalize (dK (ae bJ) _).getD (ll.getD k3 0) false=ov at cr;generalize ll.getD k3 0=q at *;clear sd kk LY vG eP eM;go_wp2_with fail;go_region
            all_goals
             go_wp2;refine⟨⟨k3+1,by omega,by go_num,?_,KN.o.drewN _⟩,by simp[aG];omega⟩;rw[mT.o,<-wN];exact SN.o.Cw ((Kp.refl [] _).drewN _)
           .have Ob:¬(k3:Int)<ae ll:=(by omega);have SL:ax (nZ wA w0 wr X (ae bJ) (.slice ah (ae bJ) ch) (.slice ar (ae ru) cr) (.slice av (ae gs) cv) gs (jb ts (i+1)) (cH (gR ts) (i+1)) (cH (j4 ts) (i+1))):=by
             have e1:ll.take k3=ll:=Ba (by omega);have:=sd;rw[e1,<-Zw.o]at this;exact this
            clear sd kk LY vG;go_wp2;exact⟨⟨i+1,by omega,by go_num,SL.o⟩,by simp[aG];omega⟩
      .have gZ:¬(i:Int)<ae ts:=(by omega);have m7:i=ae ts:=(by omega);subst m7;have GZ:=aj sd;clear sd;go_wp2;have Ib:=aE SP.o.x;have abN:Kp (sM ts) w wr:=SP.o.k.trans GZ.o.ka (fun y hy=>.inr (by simp at hy;have:=SP.o.xf;omega));(have far:∀b∈sM ts,w.heap.size<=b\/∃c,w.heap[b]?=some (.cells c 104 (0,0)):=fun b hb=>.inr (HT.o.node b hb));refine cF (v:=.pointer (some ⟨X,0,none⟩)) (by simp[eG,Tryz.results67,go_sem]) rfl ⟨X,wA.heap.size+1,fun p=>(bJ.getD p (0,0)).2,ru,rfl,abN,⟨.slice ah (ae bJ) ch,.slice ar (ae ru) cr,.slice av (ae gs) cv,wA.heap.size,gs,bJ,?_,?_,vc.o,fun x hx=>?_,fun p=>rfl,?_,by rw[wG.o,vc.o],?_,?_,?_,by rw[JC.o,vc.o]⟩,fun j hj=>SP.o.acq hj,fun j p h1 h2 h3=>SP.o.ro j p h1 h2 (by rw[wG.o,vc.o];exact h3),fun t hm=>(HT.o.s t hm).kp abN far,fun j hj=>?_⟩
       .rw[<-vc.o];exact GZ.o.x
       .exact eV (aJ SP.o.has GZ.o.ka (fun g hg hm=>by
         simp at hm;subst hm;obtain⟨_,_,c,hc⟩:=eS SP.o.has hg;rw[SP.o.x]at hc;simp only[aV,fE]at hc;exact absurd hc.2.1 (by decide))) (bU _)
       .refine abN.keep (SP.o.sets x hx) (fun hm=>?_);obtain⟨c,hc⟩:=HT.o.node _ hm;rw[SP.o.sets x hx]at hc;simp only[aV,fE]at hc;exact absurd hc.2.1 (by decide)
       .exact eV (aJ SP.o.rI GZ.o.ka (fun g hg hm=>by
         simp at hm;subst hm;obtain⟨_,_,c,hc⟩:=eS SP.o.rI hg;rw[SP.o.x]at hc;simp only[aV,fE]at hc;exact absurd hc.2.1 (by decide))) (bU _)
       .rw[<-vc.o];exact GZ.o.bl
       .rw[<-vc.o];exact GZ.o.bf
       .rw[<-vc.o];exact GZ.o.fo
       .have q:=SP.o.nr j hj;rw[aA hj]at q;refine q.kp GZ.o.ka (fun g hg hm=>?_);simp at hm;subst hm;exact SP.o.gX HT.o (IP.2 ⟨_,sB hj,hg⟩)
section
variable{S:Nat->Nat}{n:Nat}{ls:List Nat}
def wz(S:Nat->Nat)(n b c:Nat):Prop:=∀p,p<n->(S p).testBit b=(S p).testBit c
def Dd(S:Nat->Nat)(n:Nat)(ls:List Nat):Prop:=∀c,c<ae ls->ls.getD c 0<=c/\wz S n (ls.getD c 0) c/\∀b,b<ls.getD c 0->¬wz S n b c
theorem wz.trans{a b c:Nat}(h:wz S n a b)(k:wz S n b c):wz S n a c:=fun p hp=>(h p hp).trans (k p hp)
theorem acv{l:List Nat}{x k:Nat}(h:k<ae l):(l ++ [x]).getD k 0=l.getD k 0:=by
 rw[aO,aO,iI h]
theorem acu(l:List Nat)(x:Nat):(l ++ [x]).getD (ae l) 0=x:=by
 rw[aO,mU (aH _),uw];rfl
theorem Dd.idem(h:Dd S n ls){c:Nat}(hc:c<ae ls):ls.getD (ls.getD c 0) 0=ls.getD c 0:=by
 obtain⟨h1,h2,h3⟩:=h c hc;obtain⟨k1,k2,k3⟩:=h (ls.getD c 0) (by omega);rcases eK (ls.getD (ls.getD c 0) 0) (ls.getD c 0)with q|q
 .exact absurd (k2.trans h2) (h3 _ q)
 .omega
theorem Dd.add(h:Dd S n ls){b:Nat}(hb:b<=ae ls)(ha:wz S n b (ae ls))(hn:∀b',b' < b->¬(ls.getD b' 0=b'/\wz S n b' (ae ls))):Dd S n (ls ++ [b]):=by
 intro c hc;rw[cx,iq]at hc;by_cases e:c<ae ls
 .rw[acv e];exact h c e
 .have:c=ae ls:=(by omega);subst this;rw[acu];refine⟨hb,ha,fun b' hb' pT=>?_⟩;obtain⟨k1,k2,_⟩:=h b' (by omega);exact hn (ls.getD b' 0) (by omega) ⟨h.idem (by omega),k2.trans pT⟩
theorem aiF{P:Prop}{f g:Nat->Bool}{p:Nat}{bo:Bool}(h:True↔P/\∀p',p' < p->f p'=g p')(hb:bo=true↔f p=g p):bo=true↔P/\∀p',p' < p+1->f p'=g p':=by
 obtain⟨h1,h2⟩:=h.1 trivial;rw[hb];refine⟨fun e=>⟨h1,fun p' hp'=>?_⟩,fun e=>e.2 p (GS p)⟩;by_cases z:p'=p
 .rw[z];exact e
 .exact h2 p' (by omega)
def ah5(S:Nat->Nat)(n:Nat)(w:ay)(e:Ending)(w':ay):Prop:=∃(lv:aq) (ls:List Nat),e=.returned lv/\(ae ls)=256/\Dd S n ls/\w'.ownsRow w.heap.size 3 1 lv (ae ls) (dy ls)/\Kp [] w w'
theorem aml(x b:Nat):(((x:Nat):Int) == (b:Int))=decide (x=b):=by
 rw[C1,beq_iff_eq,decide_eq_true_eq];omega
theorem alH(X n:Nat)(S F:Nat->Nat)(la fi:Nat)(ru:List Nat)(fb lb:Nat)(ah ar af:Option Addr)(ch cr cf:Nat)(w:ay)(h:M8 w X n S F la fi ru fb lb ah ar af ch cr cf)(hn:n<=200):aI aB 68 #[.pointer (some ⟨X,0,none⟩)] w (ah5 S n w):=by
 have HG:=aj h;clear h;go_enter Tryz.func68,Tryz.ntmps68;go_wp2_with fail;go_loopw [4,3] (fun x o w'=>∃(c:Nat) (a:Option Addr) (cp:Nat) (ls:List Nat),c<=256/\x=.int .i64 c/\o=.slice a (ae ls) cp/\(ae ls)=c/\Dd S n ls/\w'.ownsRow w.heap.size 3 1 (.slice a (ae ls) cp) (ae ls) (dy ls)/\Kp [] w w')
  (fun x _ _=>256-(aG x).toNat)
 case atStart=>exact⟨0,none,0,[],by omega,rfl,rfl,rfl,fun c hc=>by simp at hc,j9 _ _ _ _,Kp.refl _ _⟩
 case round =>
  obtain⟨c,a,cp,ls,hc,rfl,rfl,dD,jT,jP,kp⟩:=hrel;by_cases dw:c<256
  .have yI:(c:Int)<256:=(by omega);obtain⟨pK,HOWN,KP,mh⟩:=dH jT jP kp dD;clear jT jP kp dD;go_wp2_with fail;go_loopw [5] (fun x w'=>∃b:Nat,b<=c/\x=.int .i64 b/\(∀b',b' < b->¬(ls.getD b' 0=b'/\wz S n b' c))/\w'.ownsRow w.heap.size 3 1 (.slice a (ae ls) cp) (ae ls) (dy ls)/\Kp [] w w')
    (fun x _=>c-(aG x).toNat)
   case atStart=>exact⟨0,bU _,rfl,fun b hb=>by omega,HOWN.o,KP.o⟩
   case round =>
    clear HOWN KP;obtain⟨b,hb,rfl,vO,jP,kp⟩:=hrel;obtain⟨uu,HOWN,KP⟩:=cR vO jP kp;by_cases pq:b<c
    .have akK:(b:Int)<c:=(by omega);obtain⟨_,_,ea,eP⟩:=qB (eV jP (bU _));obtain⟨ga,lj,Kq⟩:=eP b (by rw[mh.o];exact pq);simp only[fy]at ea;obtain⟨e1,e2⟩:=ea;rw[<-e1]at lj;subst lj;clear e1 e2;(have hbn:(b:Int)<ae ls:=by have:=mh.o;omega);clear vO jP kp eP;have aeV:=aml (ls.getD b 0) b;have HBI:ax (ls.getD b 0=ls.getD b 0):=rfl;generalize DI:ls.getD b 0=x0 at *;have ZT:=aj DI;clear DI HBI;(go_wp2_with (simp only[aeV]));go_loopw [6,7] (fun al x w'=>∃(p:Nat) (bo:Bool),p<=n/\al=.bool bo/\x=.int .i64 p/\(bo=true↔(x0=b/\∀p',p' < p->(S p').testBit b=(S p').testBit c))/\Kp [] wr w')
      (fun _ x _=>n-(aG x).toNat)
     case atStart=>exact⟨0,decide (x0=b),bU _,by simp[aeV],rfl,by simp,Kp.refl _ _⟩
     case round =>
      obtain⟨p,bo,hp,rfl,rfl,Sr,kk⟩:=hrel;have kw:Kp [] w wr:=KP.o.trans kk (by simp);have JT:=aj kw;have Ei:ax (wr.ownsRow w.heap.size 3 1 (.slice (some ⟨ga,0,none⟩) (ae ls) cp) (ae ls) (dy ls)):=aJ HOWN.o kk (by simp);obtain⟨d0,d1,d2,d3,d4,_⟩:=qo (HG.o.kp kw).x;have Eb:=aj Sr;have KK:=aj kk;clear Sr kk Kq;by_cases fA:p<n
      .have abw:(p:Int)<n:=(by omega);cases bo
       .have sG:ax (¬(x0=b/\wz S n b c)):=fun e=>by
         have:=Eb.o.2 ⟨e.1,fun p' hp'=>e.2 p' (by omega)⟩;cases this
        clear Eb kw;go_wp2;refine⟨⟨b+1,by omega,by go_num,fun b' hb'=>?_,Ei.o,JT.o⟩,by simp[aG];omega⟩;by_cases e:b'=b
        .rw[e,ZT.o];exact sG.o
        .exact uu.o b' (by omega)
       .obtain⟨gh,gr,gf,rfl,rfl,rfl,hC⟩:=(HG.o.kp kw).op (by omega);obtain⟨bh,ch1,Nw⟩:=hC.has p fA;have cb:=gz Nw b (by rw[kC];omega);have cc:=gz Nw c (by rw[kC];omega);rw[V8 _ _ (by omega)]at cb cc;have apA:(b:Int)<256:=(by omega);(have HX:∃y1 y2,(S p).testBit b=y1/\(S p).testBit c=y2:=⟨_,_,rfl,rfl⟩);obtain⟨y1,y2,pB,pW⟩:=HX;rw[pB]at cb;rw[pW]at cc;have HY1:=aj pB;have HY2:=aj pW;clear hC Nw kw pB pW;cases y1<;>cases y2
        all_goals
         go_wp2_with fail;(go_quiet (fail));go_wp2;refine⟨⟨p+1,_,by omega,rfl,by go_num,?_,KK.o.drewN _⟩,by simp[aG];omega⟩;exact aiF Eb.o (by rw[HY1.o,HY2.o]<;>simp)
      .have abw:¬(p:Int)<n:=(by omega);have hpe:p=n:=(by omega);cases bo
       .have sG:ax (¬(x0=b/\wz S n b c)):=fun e=>by
         have:=Eb.o.2 ⟨e.1,fun p' hp'=>e.2 p' (by omega)⟩;cases this
        clear Eb kw;go_wp2;refine⟨⟨b+1,by omega,by go_num,fun b' hb'=>?_,Ei.o,JT.o⟩,by simp[aG];omega⟩;by_cases e:b'=b
        .rw[e,ZT.o];exact sG.o
        .exact uu.o b' (by omega)
       ·(have zL:ax (wz S n b c):=fun p' hp'=>(Eb.o.1 rfl).2 p' (by omega));clear Eb kw;have akY:=mh.o;(go_wp2_with (at_builtin;go_must (refine zD rfl _ _ rfl (.slice (some ⟨ga,0,none⟩) (ae ls) cp) (.slice (some ⟨wr.heap.size,0,none⟩) 1 1) ls [b] rfl rfl ((eV Ei.o (bU _)).alloc _) (I9 (by rw[aC,aA rfl]) (bU _)) (by simp;omega) ?_);intro v5 w5 eE jO jY vY;obtain⟨a5,c5,rfl,_⟩:=jm eE;have K5:ax (Kp [] w w5):=(JT.o.alloc _).grown jO (fun k hk=>.inr (eS Ei.o hk).1);have O5:ax (w5.ownsRow w.heap.size 3 1 (.slice a5 (ls ++ [b]).length c5) (ls ++ [b]).length (dy (ls ++ [b]))):=I5 eE (fun g hg=>by rcases jY with q|q;(rw[q]at hg;exact(eS Ei.o hg).1);(rw[q]at hg;simp only[aV]at hg;have:=JT.o.size;rw[aM]at hg;omega));clear eE jO jY vY));go_wp2;refine⟨⟨c+1,a5,c5,ls ++ [b],by omega,by go_num,by first|(simp;done)|(simp;omega),by rw[cx,mh.o];rfl,?_,O5.o,K5.o⟩,by simp[aG];omega⟩;exact pK.o.add (by rw[mh.o];omega) (by rw[mh.o];exact zL.o) (fun b' hb'=>by rw[mh.o];exact uu.o b' hb')
    .have DB:b=c:=(by omega);subst DB;have Ei:=HOWN;have JT:=KP;clear vO jP kp;have akY:=mh.o;(go_wp2_with (at_builtin;go_must (refine zD rfl _ _ rfl (.slice a (ae ls) cp) (.slice (some ⟨wr.heap.size,0,none⟩) 1 1) ls [b] rfl rfl ((eV Ei.o (bU _)).alloc _) (I9 (by rw[aC,aA rfl]) (bU _)) (by simp;omega) ?_);intro v5 w5 eE jO jY vY;obtain⟨a5,c5,rfl,_⟩:=jm eE;have K5:ax (Kp [] w w5):=(JT.o.alloc _).grown jO (fun k hk=>.inr (eS Ei.o hk).1);have O5:ax (w5.ownsRow w.heap.size 3 1 (.slice a5 (ls ++ [b]).length c5) (ls ++ [b]).length (dy (ls ++ [b]))):=I5 eE (fun g hg=>by rcases jY with q|q;(rw[q]at hg;exact(eS Ei.o hg).1);(rw[q]at hg;simp only[aV]at hg;have:=JT.o.size;rw[aM]at hg;omega));clear eE jO jY vY));go_wp2;refine⟨⟨b+1,a5,c5,ls ++ [b],by omega,by go_num,by first|(simp;done)|(simp;omega),by rw[cx,mh.o];rfl,?_,O5.o,K5.o⟩,by simp[aG];omega⟩;exact pK.o.add (by rw[mh.o];omega) (by rw[mh.o];exact fun p hp=>rfl) (fun b' hb'=>by rw[mh.o];exact uu.o b' hb')
  .have yI:¬(c:Int)<256:=(by omega);have Sv:c=256:=(by omega);subst Sv;obtain⟨pK,HOWN,KP,mh⟩:=dH jT jP kp dD;clear jT jP kp dD;go_wp2;exact cF (v:=.slice a (ae ls) cp) (by simp[eG,Tryz.results68,go_sem]) rfl ⟨_,ls,rfl,mh.o,pK.o,HOWN.o,KP.o⟩
end
section
variable{n c m:Nat}{st:Nat×Nat->Nat->Nat×Nat}{L:List (Nat×Nat)}{s z:Nat×Nat}{r:List Int}{rows:List (List Int)}
section
variable{S F:Nat->Nat}{la:Nat}{ru:List Nat}
theorem ag7{b:Nat}(h:wz S n b c)(s:Nat):∀p,p<=n->eJ S F la ru b s p=eJ S F la ru c s p:=by
 intro p;induction p with
 |zero=>intro _;rfl
 |succ p ih =>
  intro hp;have e:=ih (by omega);show(if s.testBit p=true/\(S p).testBit b=true then _ else _)=(if s.testBit p=true/\(S p).testBit c=true then _ else _);rw[h p (by omega),e]
theorem aos(hF:∀p,p<n->F p<2 ^ n)(hr:∀p,p<n->ru.getD p 0<m)(c s:Nat):∀p,p<=n->(eJ S F la ru c s p).1<2 ^ n/\(eJ S F la ru c s p).2<2 ^ m:=by
 intro p;induction p with
 |zero=>intro _;exact⟨GV _,GV _⟩
 |succ p ih =>
  intro hp;obtain⟨h1,h2⟩:=ih (by omega);show((if s.testBit p=true/\(S p).testBit c=true then _ else eJ S F la ru c s p):Nat×Nat).1<_/\((if s.testBit p=true/\(S p).testBit c=true then _ else eJ S F la ru c s p):Nat×Nat).2<_;split
  .refine⟨adl h1 (hF p (by omega)),?_⟩;show(if la.testBit p then(eJ S F la ru c s p).2 ||| 1 <<< ru.getD p 0 else(eJ S F la ru c s p).2)<2 ^ m;split
   .refine adl h2 ?_;rw[qM];exact Nat.pow_lt_pow_right (by decide) (hr p (by omega))
   .exact h2
  .exact⟨h1,h2⟩
end
def xR(S F:Nat->Nat)(la:Nat)(ru:List Nat)(n:Nat)(s:Nat×Nat)(c:Nat):Nat×Nat:=eJ S F la ru c s.1 n
inductive yq (st:Nat×Nat->Nat->Nat×Nat) (z:Nat×Nat):Nat×Nat->Prop where
 |zero:yq st z z
 |step (s:Nat×Nat) (c:Nat) (h:yq st z s) (hc:c<256) (hn:st s c≠(0,0)):yq st z (st s c)
def rV(st:Nat×Nat->Nat->Nat×Nat)(L:List (Nat×Nat))(s:Nat×Nat)(r:List Int)(c:Nat):Prop :=
 (st s c=(0,0)/\r.getD c 0=-1)\/(st s c≠(0,0)/\∃k:Nat,r.getD c 0=k/\L[k]?=some (st s c))
theorem rV.more{T:List (Nat×Nat)}(h:rV st L s r c):rV st (L++T) s r c:=by
 rcases h with h|⟨h0,k,h1,h2⟩
 .exact .inl h
 .refine .inr ⟨h0,k,h1,?_⟩;have hk:k<ae L:=by
   rcases eK k (ae L) with a|a
   .exact a
   .rw[iY a]at h2;cases h2
  rw[iI hk];exact h2
theorem rV.set{c':Nat}(h:rV st L s r c)(cP:c'≠c)(v:Int):rV st L s (r.set c' v) c:=by
 unfold rV;rw[tJ r c' c v cP];exact h
structure kH(st:Nat×Nat->Nat->Nat×Nat)(z:Nat×Nat)(n m:Nat)(L:List (Nat×Nat))(rows:List (List Int)):Prop where
 nd:L.Nodup
 zero:L[0]?=some z
 nK:∀y∈L,yq st z y
 sm:∀y∈L,y.1<2 ^ n/\y.2<2 ^ m
 few:(ae L)<=250
 rl:(ae rows)<=ae L
 ok:∀i c,i<ae rows->c<256->rV st L (L.getD i (0,0)) (rows.getD i []) c
theorem kH.add(h:kH st z n m L rows){s:Nat×Nat}(hs:s∉L)(hr:yq st z s)(Oj:s.1<2 ^ n/\s.2<2 ^ m)(hl:(ae L)<250):kH st z n m (L ++ [s]) rows:=by
 have pos:0<ae L:=by
  rcases Nat.eq_zero_or_pos (ae L) with e|e
  .have:=h.zero;rw[iY (by omega)]at this;cases this
  .exact e
 refine⟨?_,?_,fun y hy=>?_,fun y hy=>?_,by simp;omega,by have:=h.rl;simp;omega,fun i c hi hc=>?_⟩
 .rw[GO];refine⟨h.nd,by simp,fun a ha b hb=>?_⟩;rw[bQ.1 hb];exact fun e=>hs (e ▸ ha)
 .rw[iI pos];exact h.zero
 .rcases jr.1 hy with q|q
  .exact h.nK y q
  .rw[bQ.1 q];exact hr
 .rcases jr.1 hy with q|q
  .exact h.sm y q
  .rw[bQ.1 q];exact Oj
 .have gB:=h.rl;have e:(L ++ [s]).getD i (0,0)=L.getD i (0,0):=by
   rw[aO,aO,iI (by omega)]
  rw[e];exact(h.ok i c hi hc).more
theorem kH.row(h:kH st z n m L rows){r:List Int}(hl:(ae rows)<ae L)(hr:∀c,c<256->rV st L (L.getD (ae rows) (0,0)) r c):kH st z n m L (rows ++ [r]):=by
 refine { h with rl:=by simp;omega,ok:=fun i c hi hc=>?_ };rw[cx,iq]at hi;by_cases e:i<ae rows
 .have e2:(rows ++ [r]).getD i []=rows.getD i []:=(by rw[aO,aO,iI e]);rw[e2];exact h.ok i c e hc
 .have e1:i=ae rows:=(by omega);subst e1;have e2:(rows ++ [r]).getD (ae rows) []=r:=by rw[aO,mU (aH _),uw];rfl
  rw[e2];exact hr c hc
def Az(n m:Nat)(x:Nat×Nat):List aq:=[.slice (some ⟨x.1,0,none⟩) n n,.slice (some ⟨x.2,0,none⟩) m m]
def yF(n m:Nat)(bl:List (Nat×Nat)):List aq:=bl.flatMap (Az n m)
theorem akf(n m:Nat)(bl:List (Nat×Nat)):(yF n m bl).length=ae bl*2:=by
 induction bl with
 |nil=>rfl
 |cons x bl ih =>
  show(Az n m x++yF n m bl).length=_;rw[cx,ih,List.length_cons];show 2+_=_;omega
theorem ake(n m:Nat):∀(bl:List (Nat×Nat)) (k:Nat),k<ae bl->(yF n m bl)[k*2]?=some (.slice (some ⟨(bl.getD k (0,0)).1,0,none⟩) n n)/\(yF n m bl)[k*2+1]?=some (.slice (some ⟨(bl.getD k (0,0)).2,0,none⟩) m m):=by
 intro bl;induction bl with
 |nil=>intro k h;simp at h
 |cons x bl ih =>
  intro k h;have e:yF n m (x::bl)=Az n m x++yF n m bl:=rfl;rw[e];cases k with
  |zero=>exact⟨rfl,rfl⟩
  |succ k =>
   have:=ih k (by simp at h;omega);rw[mU (by show 2<=_;omega),mU (by show 2<=_;omega)];(have e1:(k+1)*2-(Az n m x).length=k*2:=by show(k+1)*2-2=_;omega);(have e2:(k+1)*2+1-(Az n m x).length=k*2+1:=by show(k+1)*2+1-2=_;omega);rw[e1,e2];exact this
theorem alr:(aB.info? 165).map (fun i=>(i.zero,i.size,i.bytes))=some (some (.agg #[.slice none 0 0,.slice none 0 0]),2,48):=by kernel_rfl
structure nQ(w w':ay)(n m:Nat)(lv tv:aq)(L bl:List (Nat×Nat))(gs:List Nat)(rows:List (List Int)):Prop where
 k:Kp [] w w'
 st:w'.ownsRow w.heap.size 165 2 lv (ae L) (yF n m bl)
 Hq:(ae bl)=ae L
 bk:∀i,i<ae L->w'.heap[(bl.getD i (0,0)).1]?=some (aW (dK n (L.getD i (0,0)).1))/\w'.heap[(bl.getD i (0,0)).2]?=some (aW (dK m (L.getD i (0,0)).2))
 tw:w'.ownsRow w.heap.size 61 1 tv (ae gs) (gs.map fun g=>.slice (some ⟨g,0,none⟩) 256 256)
 gl:(ae gs)=ae rows
 rr:∀j,j<ae gs->w.heap.size<=gs.getD j 0/\w'.heap[gs.getD j 0]?=some (iO (rows.getD j []))
theorem jV{w:ay}{v:aq}{xs:List aq}{e base sz:Nat}(h:w.ownsRow base e sz v n xs):∃a cap,v=.slice a n cap/\(0<n->∃g,a=some ⟨g,0,none⟩/\base<=g/\g<w.heap.size/\∀i,i<n*sz->w.cell? ⟨g,i,none⟩=xs[i]?):=by
 rcases h.2 with⟨e1,e2⟩|⟨g,cap,cur,e1,hb,hc,_⟩
 .subst e2;exact⟨none,0,e1,fun h0=>by omega⟩
 .subst e1;exact⟨some ⟨g,0,none⟩,cap,rfl,fun _=>⟨g,rfl,hb,aE hc,fun i hi=>h.cellAt i (by omega)⟩⟩
section
variable{w w' w2:ay}{n m:Nat}{lv tv:aq}{L bl:List (Nat×Nat)}{gs:List Nat}{rows:List (List Int)}
theorem nQ.kp(h:nQ w w' n m lv tv L bl gs rows)(hk:Kp [] w' w2):nQ w w2 n m lv tv L bl gs rows :=
 ⟨h.k.trans hk (by simp),aJ h.st hk (by simp),h.Hq,fun i hi=>⟨hk.keep (h.bk i hi).1 (by simp),hk.keep (h.bk i hi).2 (by simp)⟩,aJ h.tw hk (by simp),h.gl,fun j hj=>⟨(h.rr j hj).1,hk.keep (h.rr j hj).2 (by simp)⟩⟩
theorem nQ.read(h:nQ w w' n m lv tv L bl gs rows){i:Nat}(hi:i<ae L):∃g cap,lv=.slice (some ⟨g,0,none⟩) (ae L) cap/\w'.cell? ⟨g,i*2,none⟩=some (.slice (some ⟨(bl.getD i (0,0)).1,0,none⟩) n n)/\w'.cell? ⟨g,i*2+1,none⟩=some (.slice (some ⟨(bl.getD i (0,0)).2,0,none⟩) m m):=by
 obtain⟨a,cap,e,f⟩:=jV h.st;obtain⟨g,rfl,_,_,hc⟩:=f (by omega);have q:=ake n m bl i (by rw[h.Hq];exact hi);exact⟨g,cap,e,by rw[hc _ (by omega)];exact q.1,by rw[hc _ (by omega)];exact q.2⟩
theorem nQ.other(h:nQ w w' n m lv tv L bl gs rows){b:Nat}{c:Array aq}(hb:w'.heap[b]?=some (.cells c 3 (0,0)))(Il:w.heap.size<=b)(hgs:∀j,j<ae gs->gs.getD j 0≠b)(o:Nat)(v:aq):nQ w (w'.setCell ⟨b,o,none⟩ v) n m lv tv L bl gs rows:=by
 have hk:Kp [b] w' (w'.setCell ⟨b,o,none⟩ v):=(Kp.refl _ w').set (.inl (by simp)) _ _;have ne:∀ {x:Nat} {c':Array aq} {e:cL},w'.heap[x]?=some (.cells c' e (0,0))->e≠3->x ∉ [b]:=fun {x c' e} hx he hm=>by
  simp only[bQ]at hm;subst hm;rw[hb]at hx;simp only[aV,fE]at hx;exact he hx.2.1.symm
 refine⟨h.k.set (.inr Il) _ _,aJ h.st hk (fun g hg hm=>?_),h.Hq,fun i hi=>⟨hk.keep (h.bk i hi).1 (ne (h.bk i hi).1 (by decide)),hk.keep (h.bk i hi).2 (ne (h.bk i hi).2 (by decide))⟩,aJ h.tw hk (fun g hg hm=>?_),h.gl,fun j hj=>⟨(h.rr j hj).1,hk.keep (h.rr j hj).2 (by simpa using hgs j hj)⟩⟩
 .rcases h.st.2 with⟨q,_⟩|⟨g',cap,cur,q,_,hc,_⟩
  .rw[q]at hg;simp[aK]at hg
  .rw[q]at hg;simp only[aK,aV]at hg;subst hg;exact ne hc (by decide) hm
 .obtain⟨_,_,c',hc⟩:=eS h.tw hg;exact ne hc (by decide) hm
theorem nQ.adJ(h:nQ w w' n m lv tv L bl gs rows){b c:Nat}{s:Nat×Nat}(hb:w'.heap[b]?=some (aW (dK n s.1)))(hc:w'.heap[c]?=some (aW (dK m s.2))){w1:ay}(k1:Kp [] w' w1){v':aq}(g:w1.grownBy w2 lv.ownBlock)(o:w2.ownsRow 0 165 2 v' (ae L+1) (yF n m bl++Az n m (b,c)))(ha:v'.ownBlock=lv.ownBlock\/∃k,v'.ownBlock=some k/\w'.heap.size<=k):nQ w w2 n m v' tv (L ++ [s]) (bl ++ [(b,c)]) gs rows/\Kp lv.ownBlock.toList w' w2:=by
 have k2:Kp lv.ownBlock.toList w' w2:=(k1.mono (by simp)).trans (Dr g) (fun y hy=>.inl hy);have form:∀x,lv.ownBlock=some x->w.heap.size<=x/\∃cur,w'.heap[x]?=some (.cells cur 165 (0,0)):=fun x hx=>by
  rcases h.st.2 with⟨q,_⟩|⟨g',cap,cur,q,q2,hc,_⟩
  .rw[q]at hx;simp[aK]at hx
  .rw[q]at hx;simp only[aK,aV]at hx;subst hx;exact⟨q2,cur,hc⟩
 have ne:∀ {x:Nat} {c':Array aq} {e:cL},w'.heap[x]?=some (.cells c' e (0,0))->e≠165->x∉lv.ownBlock.toList:=fun {x c' e} hx he hm=>by
  obtain⟨_,cur,KV⟩:=form x (oX hm);rw[hx]at KV;simp only[aV,fE]at KV;exact he KV.2.1
 have sz:=h.k.size;have low:∀x,v'.ownBlock=some x->w.heap.size<=x:=fun x hx=>by
  rcases ha with q|⟨k,q,q2⟩
  .rw[q]at hx;exact(form x hx).1
  .rw[q]at hx;simp only[aV]at hx;omega
 refine⟨⟨h.k.trans k2 (fun y hy=>.inr (form y (oX hy)).1),?_,by simp[h.Hq],fun i hi=>?_,aJ h.tw k2 (fun x hx hm=>?_),h.gl,fun j hj=>⟨(h.rr j hj).1,k2.keep (h.rr j hj).2 (ne (h.rr j hj).2 (by decide))⟩⟩,k2⟩
 .refine⟨?_,?_⟩
  .rw[akf,cx,cx,h.Hq];rfl
  .rcases o.2 with⟨q,q2⟩|⟨g',cap,cur,q,_,q3,q4,q5,q6,q7⟩
   .omega
   .refine .inr ⟨g',cap,cur,by rw[cx];exact q,low g' (by rw[q];rfl),q3,by rw[cx];exact q4,q5,q6,?_⟩;rw[cx,iq,q7];unfold yF;rw[List.flatMap_append];rfl
 .rw[cx,iq]at hi;by_cases e:i<ae L
  .have e1:(bl ++ [(b,c)]).getD i (0,0)=bl.getD i (0,0):=(by rw[aO,aO,iI (by rw[h.Hq];exact e)]);have e2:(L ++ [s]).getD i (0,0)=L.getD i (0,0):=(by rw[aO,aO,iI e]);rw[e1,e2];exact⟨k2.keep (h.bk i e).1 (ne (h.bk i e).1 (by decide)),k2.keep (h.bk i e).2 (ne (h.bk i e).2 (by decide))⟩
  .have e0:i=ae L:=(by omega);subst e0;(have e1:(bl ++ [(b,c)]).getD (ae L) (0,0)=(b,c):=by rw[<-h.Hq,aO,mU (aH _),uw];rfl);(have e2:(L ++ [s]).getD (ae L) (0,0)=s:=by rw[aO,mU (aH _),uw];rfl);rw[e1,e2];exact⟨k2.keep hb (ne hb (by decide)),k2.keep hc (ne hc (by decide))⟩
 .obtain⟨_,_,c',hc'⟩:=eS h.tw hx;exact ne hc' (by decide) hm
theorem nQ.aiE(h:nQ w w' n m lv tv L bl gs rows){G:Nat}{r:List Int}(hG:w'.heap[G]?=some (iO r))(Il:w.heap.size<=G){w1:ay}(k1:Kp [] w' w1){v':aq}(g:w1.grownBy w2 tv.ownBlock)(o:w2.ownsRow 0 61 1 v' (gs ++ [G]).length ((gs ++ [G]).map fun g=>.slice (some ⟨g,0,none⟩) 256 256))(ha:v'.ownBlock=tv.ownBlock\/∃k,v'.ownBlock=some k/\w'.heap.size<=k):nQ w w2 n m lv v' L bl (gs ++ [G]) (rows ++ [r]):=by
 have k2:Kp tv.ownBlock.toList w' w2:=(k1.mono (by simp)).trans (Dr g) (fun y hy=>.inl hy);have ne:∀ {x:Nat} {c':Array aq} {e:cL},w'.heap[x]?=some (.cells c' e (0,0))->e≠61->x∉tv.ownBlock.toList:=fun {x c' e} hx he hm=>by
  obtain⟨_,_,cur,KV⟩:=eS h.tw (oX hm);rw[hx]at KV;simp only[aV,fE]at KV;exact he KV.2.1
 have sz:=h.k.size;have low:∀x,v'.ownBlock=some x->w.heap.size<=x:=fun x hx=>by
  rcases ha with q|⟨k,q,q2⟩
  .rw[q]at hx;exact(eS h.tw hx).1
  .rw[q]at hx;simp only[aV]at hx;omega
 refine⟨h.k.trans k2 (fun y hy=>.inr (eS h.tw (oX hy)).1),aJ h.st k2 (fun x hx hm=>?_),h.Hq,fun i hi=>⟨k2.keep (h.bk i hi).1 (ne (h.bk i hi).1 (by decide)),k2.keep (h.bk i hi).2 (ne (h.bk i hi).2 (by decide))⟩,I5 o low,by simp[h.gl],fun j hj=>?_⟩
 .rcases h.st.2 with⟨q,_⟩|⟨g',cap,cur,q,q2,hc,_⟩
  .rw[q]at hx;simp[aK]at hx
  .rw[q]at hx;simp only[aK,aV]at hx;subst hx;exact ne hc (by decide) hm
 .rw[cx,iq]at hj;by_cases e:j<ae gs
  .have e2:(rows ++ [r]).getD j []=rows.getD j []:=(by rw[aO,aO,iI (by rw[<-h.gl];exact e)]);rw[acv e,e2];exact⟨(h.rr j e).1,k2.keep (h.rr j e).2 (ne (h.rr j e).2 (by decide))⟩
  .have e0:j=ae gs:=(by omega);subst e0;(have e2:(rows ++ [r]).getD (ae gs) []=r:=by rw[h.gl,aO,mU (aH _),uw];rfl);rw[acu,e2];exact⟨Il,k2.keep hG (ne hG (by decide))⟩
end
end
section
variable{ob pb rb n m:Nat}{s:Nat×Nat}{l:List Bool}
structure mu(w w':ay)(ob pb rb n m:Nat)(s:Nat×Nat)(la:List Bool):Prop where
 k:Kp [] w w'
 bS:w'.heap[w.heap.size]?=w'.heap[w.heap.size]?
 o:w'.heap[ob]?=some (.cells #[.slice (some ⟨pb,0,none⟩) n n,.slice (some ⟨rb,0,none⟩) m m] 165 (0,0))
 p:w'.heap[pb]?=some (aW la)
 r:w'.heap[rb]?=some (aW (dK m s.2))
 fr:w.heap.size+2<=ob/\w.heap.size+2<=pb/\w.heap.size+2<=rb
 ne:pb≠rb
theorem sq(W:ay)(o0 o1 o2:Obj):((((W.alloc o0).alloc o1).alloc o2).drew.heap[W.heap.size]?=some o0)/\((((W.alloc o0).alloc o1).alloc o2).drew.heap[W.heap.size+1]?=some o1)/\((((W.alloc o0).alloc o1).alloc o2).drew.heap[W.heap.size+1+1]?=some o2):=by
 simp only[eO,aC,aM];refine⟨?_,?_,?_⟩
 .rw[az (by omega),az (by omega),aA trivial]
 .rw[az (by omega),aA trivial]
 .rw[aA trivial]
theorem mu.start{w W wc:ay}(hs:W.heap.size=w.heap.size+2)(k:Kp [] w W)(kc:Kp [] W wc)(ho:wc.heap[ob]?=some (.cells #[.slice (some ⟨pb,0,none⟩) n n,.slice (some ⟨rb,0,none⟩) m m] 165 (0,0)))(hp:wc.heap[pb]?=some (aW (fl n)))(hr:wc.heap[rb]?=some (aW (fl m)))(h1:W.heap.size<=ob/\W.heap.size<=pb/\W.heap.size<=rb)(cP:pb≠rb):mu w wc ob pb rb n m (0,0) (dK n 0) :=
 ⟨k.trans kc (by simp),rfl,ho,by rw[Kn];exact hp,by show _=some (aW (dK m 0));rw[Kn];exact hr,by omega,cP⟩
abbrev xS(v0 v1:aq):Obj:=.cells #[v0,v1] 165 (0,0)
theorem mu.Cw{w w' w2:ay}(h:mu w w' ob pb rb n m s l)(hk:Kp [] w' w2):mu w w2 ob pb rb n m s l :=
 ⟨h.k.trans hk (by simp),rfl,hk.keep h.o (by simp),hk.keep h.p (by simp),hk.keep h.r (by simp),h.fr,h.ne⟩
theorem mu.aeh{w w':ay}(h:mu w w' ob pb rb n m s l):mu w w'.drew ob pb rb n m s l:=h.Cw ((Kp.refl [] _).drew)
theorem mu.agk{w w':ay}(h:mu w w' ob pb rb n m s l):ob≠pb/\ob≠rb:=by
 refine⟨fun e=>?_,fun e=>?_⟩
 .have:=h.o;rw[e,h.p]at this;simp only[aV,fE]at this;exact absurd this.2.1 (by decide)
 .have:=h.o;rw[e,h.r]at this;simp only[aV,fE]at this;exact absurd this.2.1 (by decide)
theorem mu.ag0{w w':ay}(h:mu w w' ob pb rb n m s l)(q:Nat)(v:Bool):mu w (w'.setCell ⟨pb,q,none⟩ (.bool v)) ob pb rb n m s (l.set q v):=by
 have f:=h.fr;have hk:Kp [pb] w' (w'.setCell ⟨pb,q,none⟩ (.bool v)):=(Kp.refl _ w').set (.inl (by simp)) _ _;exact⟨h.k.set (.inr (by omega)) _ _,rfl,hk.keep h.o (by simpa using h.agk.1),nF h.p q v,hk.keep h.r (by simpa using h.ne.symm),h.fr,h.ne⟩
theorem mu.aoc{w w':ay}(h:mu w w' ob pb rb n m s l)(q:Nat):mu w (w'.setCell ⟨rb,q,none⟩ (.bool true)) ob pb rb n m (s.1,s.2 ||| 1 <<< q) l:=by
 have f:=h.fr;have hk:Kp [rb] w' (w'.setCell ⟨rb,q,none⟩ (.bool true)):=(Kp.refl _ w').set (.inl (by simp)) _ _;exact⟨h.k.set (.inr (by omega)) _ _,rfl,hk.keep h.o (by simpa using h.agk.2),hk.keep h.p (by simpa using h.ne),by rw[nF h.r q true,Ns],h.fr,h.ne⟩
theorem anz{fn:Func}{t b:Nat}{tmps:Array aq}{w:ay}{x0 x1:aq}(hf:fn.results=#[.cell t 165])(ht:tmps.getD t undef=.pointer (some ⟨b,0,none⟩))(hw:w.heap[b]?=some (.cells #[x0,x1] 165 (0,0))):(eG fn tmps).run aB w=.ok (.agg #[x0,x1]) w:=by
 have d0:w.cell? ⟨b,0,none⟩=some x0:=by rw[aF hw];rfl
 have d1:w.cell? ⟨b,1,none⟩=some x1:=by rw[aF hw];rfl
 have ht':tmps[t]?.getD undef=.pointer (some ⟨b,0,none⟩):=by rw[<-ht];simp
 simp only[eG,hf];simp[ht',go_sem,d0,d1]
theorem ams(X n m c:Nat)(S F:Nat->Nat)(la fi:Nat)(ru:List Nat)(fb lb:Nat)(ah ar af:Option Addr)(ch cr cf:Nat)(v:aq)(s:Nat×Nat)(w:ay)(h:M8 w X n S F la fi ru fb lb ah ar af ch cr cf)(hn:n<=200)(hm:m<=6)(hc:c<256)(hs:VT w v n m s)(hru:∀p,p<n->ru.getD p 0<m):aI aB 69 #[.pointer (some ⟨X,0,none⟩),v,.int .i64 c,.int .i64 m] w fun e w'=>∃v',e=.returned v'/\VT w' v' n m (eJ S F la ru c s.1 n)/\Kp [] w w':=by
 obtain⟨b,c',rfl,h1,h2⟩:=hs.ex;have lX:=aE h.x;have Fj:∀W,(pN 80 (.int .i64 (n:Int)) (.int .i64 (n:Int))).run aB W=.ok (.slice (some ⟨W.heap.size,0,none⟩) n n) (W.alloc (aW (fl n))):=fun W=>yZ n (by omega) W
 have Fk:∀W,(pN 80 (.int .i64 (m:Int)) (.int .i64 (m:Int))).run aB W=.ok (.slice (some ⟨W.heap.size,0,none⟩) m m) (W.alloc (aW (fl m))):=fun W=>yZ m (by omega) W
 obtain⟨d0,d1,d2,d3,d4,_⟩:=qo h.x;have HG:=aj h;have H1:=aj h1;have lb1:=aE h1;have HRU:=aj hru;clear h hs h1 h2 hru;go_enter Tryz.func69,Tryz.ntmps69;go_upto_region 1 with fail;have kW:Kp [] w ((w.alloc (xS (.slice (some ⟨b,0,none⟩) n n) (.slice (some ⟨c',0,none⟩) m m))).alloc (xS (.slice none 0 0) (.slice none 0 0))):=((Kp.refl _ _).alloc _).alloc _;have bS:((w.alloc (xS (.slice (some ⟨b,0,none⟩) n n) (.slice (some ⟨c',0,none⟩) m m))).alloc (xS (.slice none 0 0) (.slice none 0 0))).heap[w.heap.size]?=some (xS (.slice (some ⟨b,0,none⟩) n n) (.slice (some ⟨c',0,none⟩) m m)):=(by rw[aC,az (by rw[aM];omega),aC,aA rfl]);have bR:((w.alloc (xS (.slice (some ⟨b,0,none⟩) n n) (.slice (some ⟨c',0,none⟩) m m))).alloc (xS (.slice none 0 0) (.slice none 0 0))).heap[w.heap.size+1]?=some (xS (.slice none 0 0) (.slice none 0 0)):=(by rw[aC,aA (by rw[aM])]);have sW:((w.alloc (xS (.slice (some ⟨b,0,none⟩) n n) (.slice (some ⟨c',0,none⟩) m m))).alloc (xS (.slice none 0 0) (.slice none 0 0))).heap.size=w.heap.size+2:=(by rw[aM,aM]);generalize (w.alloc (xS (.slice (some ⟨b,0,none⟩) n n) (.slice (some ⟨c',0,none⟩) m m))).alloc (xS (.slice none 0 0) (.slice none 0 0))=W at *;have d0W:W.cell? ⟨X,0,none⟩=some (.slice ah n ch):=by rw[o8 kW.toBelow lX];exact d0
 obtain⟨KW,BS,BR⟩:=cR kW bS bR;have lXW:X<W.heap.size:=(by omega);have SW:=aj sW;clear kW bS bR d0 d1 d2 d3 d4 sW;go_cut [9] from 12 to 20 (fun s9 wc=>∃ob pb rb,s9=.pointer (some ⟨ob,0,none⟩)/\mu w wc ob pb rb n m (0,0) (dK n 0)/\Kp [] W wc)
 case first =>
  go_region
  all_goals
   go_wp2_with fail;go_meet
   case rel =>
    first
     |exact⟨W.heap.size+1+1,W.heap.size,W.heap.size+1,rfl,mu.start SW.o KW.o ((((Kp.refl [] W).alloc _).alloc _).alloc _).drew (sq _ _ _ _).2.2 (sq _ _ _ _).1 (sq _ _ _ _).2.1 (by omega) (by omega),((((Kp.refl [] W).alloc _).alloc _).alloc _).drew⟩
     |exact⟨W.heap.size+1,W.heap.size,W.heap.size+1+1,rfl,mu.start SW.o KW.o ((((Kp.refl [] W).alloc _).alloc _).alloc _).drew (sq _ _ _ _).2.1 (sq _ _ _ _).1 (sq _ _ _ _).2.2 (by omega) (by omega),((((Kp.refl [] W).alloc _).alloc _).alloc _).drew⟩
     |exact⟨W.heap.size+1+1,W.heap.size+1,W.heap.size,rfl,mu.start SW.o KW.o ((((Kp.refl [] W).alloc _).alloc _).alloc _).drew (sq _ _ _ _).2.2 (sq _ _ _ _).2.1 (sq _ _ _ _).1 (by omega) (by omega),((((Kp.refl [] W).alloc _).alloc _).alloc _).drew⟩
     |exact⟨W.heap.size+1,W.heap.size+1+1,W.heap.size,rfl,mu.start SW.o KW.o ((((Kp.refl [] W).alloc _).alloc _).alloc _).drew (sq _ _ _ _).2.1 (sq _ _ _ _).2.2 (sq _ _ _ _).1 (by omega) (by omega),((((Kp.refl [] W).alloc _).alloc _).alloc _).drew⟩
     |exact⟨W.heap.size,W.heap.size+1,W.heap.size+1+1,rfl,mu.start SW.o KW.o ((((Kp.refl [] W).alloc _).alloc _).alloc _).drew (sq _ _ _ _).1 (sq _ _ _ _).2.1 (sq _ _ _ _).2.2 (by omega) (by omega),((((Kp.refl [] W).alloc _).alloc _).alloc _).drew⟩
     |exact⟨W.heap.size,W.heap.size+1+1,W.heap.size+1,rfl,mu.start SW.o KW.o ((((Kp.refl [] W).alloc _).alloc _).alloc _).drew (sq _ _ _ _).1 (sq _ _ _ _).2.2 (sq _ _ _ _).2.1 (by omega) (by omega),((((Kp.refl [] W).alloc _).alloc _).alloc _).drew⟩
 case rest =>
  obtain⟨ob,pb,rb,rfl,so,kc⟩:=hcut;have SO:=aj so;have KC:=aj kc;have BRc:=aj (kc.keep BR.o (by simp));have lBR:=aE BR.o;clear so kc d0W;go_wp2_with fail;go_loopw [10] (fun x w'=>∃p:Nat,p<=n/\x=.int .i64 p/\mu w w' ob pb rb n m (eJ S F la ru c s.1 p) (dK n (eJ S F la ru c s.1 p).1)/\Kp [pb,rb] wc w')
   (fun x _=>n-(aG x).toNat)
  case atStart=>exact⟨0,bU _,rfl,SO.o,Kp.refl _ _⟩
  case round =>
   obtain⟨p,hp,rfl,so,kk⟩:=hrel;clear SO;have fr:=so.fr;have ne:=so.ne;obtain⟨d0,d1,d2,d3,d4,_⟩:=qo (HG.o.kp so.k).x;have bSr:wr.heap[w.heap.size]?=some (xS (.slice (some ⟨b,0,none⟩) n n) (.slice (some ⟨c',0,none⟩) m m)):=kk.keep (KC.o.keep BS.o (by simp)) (by simp;omega);obtain⟨e0,e1,_⟩:=two bSr;have vz:=aj so;have nD:=aj kk;by_cases fA:p<n
   .have abw:(p:Int)<n:=(by omega);obtain⟨gh,gr,gf,rfl,rfl,rfl,hC⟩:=HG.o.op (by omega);have HN:=aj hC;clear hC;have hc':(c:Int)<256:=(by omega);have cs:=gz (so.k.keep H1.o (by simp)) p (by rw[jz];exact fA);rw[yz n _ p fA]at cs;obtain⟨bh,ch1,Nw⟩:=(HN.o.kp so.k).has p fA;have Wj:=gz Nw c (by rw[kC];exact hc);rw[V8 _ _ hc]at Wj;(have Tq:eJ S F la ru c s.1 (p+1)=if s.1.testBit p=true/\(S p).testBit c=true then((eJ S F la ru c s.1 p).1 ||| F p,if la.testBit p then(eJ S F la ru c s.1 p).2 ||| 1 <<< ru.getD p 0 else(eJ S F la ru c s.1 p).2) else eJ S F la ru c s.1 p:=rfl);have mT:=aj Tq;clear so kk Tq bSr Nw;have Xe:=gz (HN.o.kp vz.o.k).la p (by rw[jz];exact fA);rw[yz n _ p fA]at Xe;have crr:=(HN.o.kp vz.o.k).rI p fA;have hrm:=HRU.o p fA;have aqb:((ru.getD p 0:Nat):Int)<m:=(by omega);obtain⟨o0,o1,_⟩:=two vz.o.o;by_cases dL:s.1.testBit p=true
    .by_cases my:(S p).testBit c=true
     .rw[dL]at cs;rw[my]at Wj;(have Vc:ax (eJ S F la ru c s.1 (p+1)=((eJ S F la ru c s.1 p).1 ||| F p,if la.testBit p then(eJ S F la ru c s.1 p).2 ||| 1 <<< ru.getD p 0 else(eJ S F la ru c s.1 p).2)):=by show _=_;rw[mT.o,aA ⟨dL,my⟩]);clear dL my mT;by_cases mK:la.testBit p=true
      .rw[mK]at Xe;(have JM:ax (eJ S F la ru c s.1 (p+1)=((eJ S F la ru c s.1 p).1 ||| F p,(eJ S F la ru c s.1 p).2 ||| 1 <<< ru.getD p 0)):=by show _=_;rw[Vc.o,aA mK]);have cr2:=gz vz.o.r (ru.getD p 0) (by rw[jz];exact hrm);have gw:=kJ vz.o.r (ru.getD p 0);have SO3:=aj (vz.o.aoc (ru.getD p 0));generalize (dK m (eJ S F la ru c s.1 p).2).getD (ru.getD p 0) false=ov at cr2;have vj:ax (Kp [pb,rb] wc (wr.setCell ⟨rb,ru.getD p 0,none⟩ (.bool true))):=nD.o.set (.inl (by simp)) _ _;(generalize hRN:(eJ S F la ru c s.1 p).2 ||| 1 <<< ru.getD p 0=RN at *);generalize ru.getD p 0=rp at *;clear mK Vc vz nD hRN;go_upto_region 7 with fail;go_region
       all_goals
        have EF:=aj (SO3.o.Cw ((Kp.refl [] _).drewN 1));have fF:=aj (vj.o.drewN 1);clear SO3 vj cs ch1 Wj Xe crr cr2 gw o0 o1;(have NS:∃Wx,Wx=(wr.setCell ⟨rb,rp,none⟩ (.bool true)).drew:=⟨_,rfl⟩);obtain⟨Wx,NS⟩:=NS;(have EF:ax (mu w Wx ob pb rb n m ((eJ S F la ru c s.1 p).1,RN) (dK n (eJ S F la ru c s.1 p).1)):=by rw[NS];exact EF.o);(have fF:ax (Kp [pb,rb] wc Wx):=by rw[NS];exact fF.o);rw[<-NS];clear NS;obtain⟨bq,Kv,Bx⟩:=(HN.o.kp EF.o.k).fo p fA;have lq:=HN.o.fo p fA;go_upto_region 8 with fail;go_wp2_with fail;go_loopw [11] (fun x w'=>∃q:Nat,q<=n/\x=.int .i64 q/\mu w w' ob pb rb n m ((eJ S F la ru c s.1 p).1,RN) (fW (dK n (eJ S F la ru c s.1 p).1) (dK n (F p)) q)/\Kp [pb,rb] wc w')
         (fun x _=>n-(aG x).toNat)
        case atStart=>exact⟨0,bU _,rfl,EF.o,fF.o⟩
        case round =>
         clear d0 d1 d2 d3 d4 e0 e1 EF fF Kv Bx;obtain⟨q,hq,rfl,so,kk⟩:=hrel;obtain⟨d0,d1,d2,d3,d4,_⟩:=qo (HN.o.kp so.k).x;obtain⟨bq,Kv,Bx⟩:=(HN.o.kp so.k).fo p fA;obtain⟨o0,o1,_⟩:=two so.o;have QO:=aj so;have Qq:=aj kk;by_cases qy:q<n
         .have abA:(q:Int)<n:=(by omega);have cp:=gz so.p q (by rw[rF,jz];exact qy);have fp:=kJ so.p q;rw[vZ _ _ q q (by rw[jz];omega),az (by omega)]at cp;have cf2:=gz Bx q (by rw[jz];exact qy);have eM:ax (fW (dK n (eJ S F la ru c s.1 p).1) (dK n (F p)) (q+1)=(fW (dK n (eJ S F la ru c s.1 p).1) (dK n (F p)) q).set q ((dK n (eJ S F la ru c s.1 p).1).getD q false || (dK n (F p)).getD q false)):=rfl;generalize (dK n (eJ S F la ru c s.1 p).1).getD q false=va at *;generalize (dK n (F p)).getD q false=vb at *;have Tf:=so.ne;have hpf:=so.fr;clear so kk Bx;cases va<;>cases vb
          all_goals
           go_wp2_with fail;go_region
           all_goals
            go_wp2;refine⟨⟨q+1,by omega,by go_num,?_,(Qq.o.set (.inl (by simp)) _ _).drewN _⟩,by simp[aG];omega⟩;rw[eM.o];exact(QO.o.ag0 q _).aeh
         .have abA:¬(q:Int)<n:=(by omega);have hqe:q=n:=(by omega);subst hqe;clear so kk Bx;go_wp2;refine⟨⟨p+1,by omega,by go_num,?_,Qq.o⟩,by simp[aG];omega⟩;rw[JM.o];have:=QO.o;rw[agl]at this;exact⟨this.k,rfl,this.o,this.p,this.r,this.fr,this.ne⟩
      .have aeN:la.testBit p=false:=(by simpa using mK);rw[aeN]at Xe;(have JM:ax (eJ S F la ru c s.1 (p+1)=((eJ S F la ru c s.1 p).1 ||| F p,(eJ S F la ru c s.1 p).2)):=by show _=_;rw[Vc.o,az mK]);have EF:ax (mu w wr ob pb rb n m ((eJ S F la ru c s.1 p).1,(eJ S F la ru c s.1 p).2) (dK n (eJ S F la ru c s.1 p).1)):=vz.o;have fF:=nD;generalize hRN:(eJ S F la ru c s.1 p).2=RN at *;clear mK aeN Vc vz nD hRN;obtain⟨bq,Kv,Bx⟩:=(HN.o.kp EF.o.k).fo p fA;have lq:=HN.o.fo p fA;go_wp2_with fail;go_loopw [11] (fun x w'=>∃q:Nat,q<=n/\x=.int .i64 q/\mu w w' ob pb rb n m ((eJ S F la ru c s.1 p).1,RN) (fW (dK n (eJ S F la ru c s.1 p).1) (dK n (F p)) q)/\Kp [pb,rb] wc w')
        (fun x _=>n-(aG x).toNat)
       case atStart=>exact⟨0,bU _,rfl,EF.o,fF.o⟩
       case round =>
        clear d0 d1 d2 d3 d4 e0 e1 EF fF Kv Bx;obtain⟨q,hq,rfl,so,kk⟩:=hrel;obtain⟨d0,d1,d2,d3,d4,_⟩:=qo (HN.o.kp so.k).x;obtain⟨bq,Kv,Bx⟩:=(HN.o.kp so.k).fo p fA;obtain⟨o0,o1,_⟩:=two so.o;have QO:=aj so;have Qq:=aj kk;by_cases qy:q<n
        .have abA:(q:Int)<n:=(by omega);have cp:=gz so.p q (by rw[rF,jz];exact qy);have fp:=kJ so.p q;rw[vZ _ _ q q (by rw[jz];omega),az (by omega)]at cp;have cf2:=gz Bx q (by rw[jz];exact qy);have eM:ax (fW (dK n (eJ S F la ru c s.1 p).1) (dK n (F p)) (q+1)=(fW (dK n (eJ S F la ru c s.1 p).1) (dK n (F p)) q).set q ((dK n (eJ S F la ru c s.1 p).1).getD q false || (dK n (F p)).getD q false)):=rfl;generalize (dK n (eJ S F la ru c s.1 p).1).getD q false=va at *;generalize (dK n (F p)).getD q false=vb at *;have Tf:=so.ne;have hpf:=so.fr;clear so kk Bx;cases va<;>cases vb
         all_goals
          go_wp2_with fail;go_region
          all_goals
           go_wp2;refine⟨⟨q+1,by omega,by go_num,?_,(Qq.o.set (.inl (by simp)) _ _).drewN _⟩,by simp[aG];omega⟩;rw[eM.o];exact(QO.o.ag0 q _).aeh
        .have abA:¬(q:Int)<n:=(by omega);have hqe:q=n:=(by omega);subst hqe;clear so kk Bx;go_wp2;refine⟨⟨p+1,by omega,by go_num,?_,Qq.o⟩,by simp[aG];omega⟩;rw[JM.o];have:=QO.o;rw[agl]at this;exact⟨this.k,rfl,this.o,this.p,this.r,this.fr,this.ne⟩
     .have aeM:(S p).testBit c=false:=(by simpa using my);rw[dL]at cs;rw[aeM]at Wj;(have JM:ax (eJ S F la ru c s.1 (p+1)=eJ S F la ru c s.1 p):=by show _=_;rw[mT.o,az (fun e=>my e.2)]);clear dL my aeM mT;go_wp2;exact⟨⟨p+1,by omega,by go_num,by rw[JM.o];exact vz.o,nD.o⟩,by simp[aG];omega⟩
    .have aeL:s.1.testBit p=false:=(by simpa using dL);rw[aeL]at cs;(have JM:ax (eJ S F la ru c s.1 (p+1)=eJ S F la ru c s.1 p):=by show _=_;rw[mT.o,az (fun e=>dL e.1)]);clear dL aeL mT;go_wp2;exact⟨⟨p+1,by omega,by go_num,by rw[JM.o];exact vz.o,nD.o⟩,by simp[aG];omega⟩
   .have abw:¬(p:Int)<n:=(by omega);have hpe:p=n:=(by omega);subst hpe;clear so kk bSr;have bRr:wr.heap[w.heap.size+1]?=some (xS (.slice none 0 0) (.slice none 0 0)):=nD.o.keep BRc.o (by simp;omega);obtain⟨o0,o1,_⟩:=two vz.o.o;obtain⟨r0,r1,y0,y1⟩:=two bRr;have D9:=aj bRr;clear bRr;go_wp2;have kE:Kp [w.heap.size+1] wr ((wr.setCell ⟨w.heap.size+1,0,none⟩ (.slice (some ⟨pb,0,none⟩) p p)).setCell ⟨w.heap.size+1,1,none⟩ (.slice (some ⟨rb,0,none⟩) m m)):=((Kp.refl _ wr).set (.inl (by simp)) _ _).set (.inl (by simp)) _ _;refine cF (v:=.agg #[.slice (some ⟨pb,0,none⟩) p p,.slice (some ⟨rb,0,none⟩) m m]) ?_ rfl ⟨_,rfl,⟨pb,rb,rfl,kE.keep vz.o.p (by simp;omega),kE.keep vz.o.r (by simp;omega)⟩,vz.o.k.trans kE (fun y hy=>.inr (by simp at hy;omega))⟩;refine anz (b:=w.heap.size+1) Tryz.results69 rfl ?_;simp only[aQ,if_true,D9.o];simp[eD]
end
section
variable{n m:Nat}
theorem aki(a:aD)(lo q:Nat)(h1:lo<=q)(h2:q<lo+a.np):In lo (lo+a.np) (a.fo lo q) :=
 (agu a lo (fun q=>a.ie (q-lo)) (fun q _ _=>rfl)).fo q h1 h2
theorem alV{lo hi s:Nat}(h:In lo hi s)(hn:hi<=n):s<2 ^ n:=by
 apply M1;intro i hi';cases e:s.testBit i with
 |false=>rfl
 |true=>have:=h i e;omega
theorem akj{ts:List TD}(DL:∀j,j<ae ts->(ts.getD j dT).a.np=(ts.getD j dT).m)(q:Nat):∀i,i<=ae ts->jb ts i q<2 ^ aZ ts (ae ts):=by
 intro i;induction i with
 |zero=>intro _;exact GV _
 |succ i ih =>
  intro hi;show(if aZ ts i<=q/\q<aZ ts i+(ts.getD i dT).a.np then(ts.getD i dT).a.fo (aZ ts i) q else jb ts i q)<_;split
  .rename_i hh;refine alV (aki _ _ q hh.1 hh.2) ?_;have e:aZ ts (i+1)=aZ ts i+(ts.getD i dT).m:=rfl;rw[DL i (by omega),<-e];exact Kl ts (i+1) (ae ts) hi
  .exact ih (by omega)
theorem ao4(ts:List TD)(p:Nat):∀i,p<aZ ts i->∃j,j<i/\aZ ts j<=p/\p<aZ ts (j+1):=by
 intro i;induction i with
 |zero=>intro h;exact absurd h (Vz _)
 |succ i ih =>
  intro h;rcases eK p (aZ ts i)with q|q
  .obtain⟨j,h1,h2⟩:=ih q;exact⟨j,by omega,h2⟩
  .exact⟨i,GS _,q,h⟩
theorem rV.alike{S F:Nat->Nat}{la:Nat}{ru:List Nat}{b c:Nat}{L:List (Nat×Nat)}{s:Nat×Nat}{r:List Int}(h:rV (xR S F la ru n) L s r b)(ha:wz S n b c)(hc:c<ae r):rV (xR S F la ru n) L s (r.set c (r.getD b 0)) c:=by
 have e:xR S F la ru n s c=xR S F la ru n s b:=(ag7 ha s.1 n (aH _)).symm;unfold rV at h |-
 rw[qV r c _ hc,e];exact h
theorem nQ.start{wL:ay}{fb fi:Nat}(yJ:wL.heap[fb]?=some (aW (dK n fi))):nQ wL ((wL.alloc (aW (fl m))).alloc (.cells #[.slice (some ⟨fb,0,none⟩) n n,.slice (some ⟨wL.heap.size,0,none⟩) m m] 165)).drew n m (.slice (some ⟨wL.heap.size+1,0,none⟩) 1 1) (.slice none 0 0) [(fi,0)] [(fb,wL.heap.size)] [] []:=by
 have hk:Kp [] wL ((wL.alloc (aW (fl m))).alloc (.cells #[.slice (some ⟨fb,0,none⟩) n n,.slice (some ⟨wL.heap.size,0,none⟩) m m] 165)).drew:=(((Kp.refl [] wL).alloc _).alloc _).drew;refine⟨hk,⟨rfl,.inr ⟨wL.heap.size+1,1,_,rfl,by omega,by rw[eO,aC,aA (by rw[aM])],by simp,by decide,rfl,rfl⟩⟩,rfl,fun i hi=>?_,j9 _ _ _ _,rfl,fun j hj=>by simp at hj⟩;have:i=0:=by simp at hi;exact hi
 subst this;refine⟨hk.keep yJ (by simp),?_⟩;show((wL.alloc (aW (fl m))).alloc _).drew.heap[wL.heap.size]?=some (aW (dK m 0));rw[eO,aC,az (by rw[aM];omega),aC,aA rfl,Kn]
theorem kH.start{st:Nat×Nat->Nat->Nat×Nat}{z:Nat×Nat}(h:z.1<2 ^ n/\z.2<2 ^ m):kH st z n m [z] [] :=
 ⟨by simp,rfl,fun y hy=>by rw[bQ.1 hy];exact .zero,fun y hy=>by rw[bQ.1 hy];exact h,by simp,by simp,fun i c hi=>by simp at hi⟩
theorem alw:(aB.info? 61).map (fun i=>(i.zero,i.size,i.bytes))=some (some (.slice none 0 0),1,24):=by kernel_rfl
def Za:Obj:=iO (gM 256 0)
def ahJ(ts:List TD)(w:ay)(e:Ending)(w':ay):Prop :=
 ∃(S:Nat->Nat) (ru:List Nat),(∀j,j<ae ts->Ke (ts.getD j dT).ns (ts.getD j dT).Ls (fun q=>S (aZ ts j+q)))/\(∀j p,aZ ts j<=p->p<aZ ts (j+1)->p<aZ ts (ae ts)->ru.getD p 0=j) /\
  Kp (sM ts) w w'/\(∀t∈ts,pQ w' t)/\(∀j,j<ae ts->NR w' (ts.getD j dT) (aZ ts j) (ts.getD j dT).ns.length) /\
  ((∃(wL:ay) (lv tv sv:aq) (L bl:List (Nat×Nat)) (gs:List Nat) (rows:List (List Int)) (ls:List Nat),e=.returned (.tuple #[lv,tv,sv])/\w.heap.size<=wL.heap.size/\lv≠.slice none 0 0/\kH (xR S (jb ts (ae ts)) (cH (j4 ts) (ae ts)) ru (aZ ts (ae ts))) (cH (gR ts) (ae ts),0) (aZ ts (ae ts)) (ae ts) L rows/\(ae rows)=ae L/\nQ wL w' (aZ ts (ae ts)) (ae ts) lv tv L bl gs rows/\(ae ls)=256/\Dd S (aZ ts (ae ts)) ls/\w'.ownsRow w.heap.size 3 1 sv (ae ls) (dy ls)/\∀j,j<ae rows->(rows.getD j []).length=256) \/
   (∃(L:List (Nat×Nat)) (s:Nat×Nat),e=.returned (.tuple #[.slice none 0 0,.slice none 0 0,.slice none 0 0])/\(ae L)=250/\(L ++ [s]).Nodup/\∀y∈L ++ [s],yq (xR S (jb ts (ae ts)) (cH (j4 ts) (ae ts)) ru (aZ ts (ae ts))) (cH (gR ts) (ae ts),0) y))
theorem akv(tv:aq)(ts:List TD)(w:ay)(ht:wZ w ts)(DO:w.ownsRow 0 41 1 tv (ae ts) (ts.map fun t=>.pointer (some ⟨t.r,4,none⟩)))(hn:(ae ts)<=6)(pU:aZ ts (ae ts)<=200):aI aB 44 #[tv] w (ahJ ts w):=by
 obtain⟨at_,ct,rfl,_⟩:=I6 DO;obtain⟨i0,cS,dc,dm,cW⟩:=iw alr;obtain⟨j0,nJ,mz,pB,pW⟩:=iw alw;have HT:=aj ht;have JP:=aj DO;clear ht DO;go_enter Tryz.func44,Tryz.ntmps44;go_wp2_with fail;refine(aoq _ ts w HT.o JP.o hn pU).mono ?_;rintro _ w1 ⟨X,fb,S,ru,rfl,k1,na,Ln,Of,sI,Tb⟩;obtain⟨lb,ah,ar,af,ch,cr,cf,ng⟩:=na.open;have DL:∀j,j<ae ts->(ts.getD j dT).a.np=(ts.getD j dT).m:=fun j hj=>((sI _ (sB hj)).np (Ln j hj)).1
 have hFs:∀p,p<aZ ts (ae ts)->jb ts (ae ts) p<2 ^ aZ ts (ae ts):=fun p _=>akj DL p (ae ts) (aH _)
 have hrs:∀p,p<aZ ts (ae ts)->ru.getD p 0<ae ts:=fun p hp=>by
  obtain⟨j,h1,h2,h3⟩:=ao4 ts p (ae ts) hp;rw[Of j p h2 h3 hp];exact h1
 have hfi:cH (gR ts) (ae ts)<2 ^ aZ ts (ae ts):=by
  apply M1;intro i hi';cases e:(cH (gR ts) (ae ts)).testBit i with
  |false=>rfl
  |true =>
   obtain⟨j,hj,hb⟩:=(Fa (gR ts) i (ae ts)).1 e;have q:=((ts.getD j dT).a.Lr (aZ ts j)).1 i hb;have e2:aZ ts (j+1)=aZ ts j+(ts.getD j dT).m:=rfl;have:=DL j hj;have:=Kl ts (j+1) (ae ts) hj;omega
 obtain⟨NG,K1,HSO,HRO,HTR,Z5,ZP,HRS,HFI⟩:=N7 ng k1 Ln Of sI Tb hFs hrs hfi;clear na Ln Of sI Tb DL hFs hrs hfi k1 ng;go_wp2_with fail;refine(alH X (aZ ts (ae ts)) S _ _ _ ru fb lb ah ar af ch cr cf w1 NG.o pU).mono ?_;rintro _ wL ⟨lsv,ls,rfl,zQ,jT,yU,k2⟩;obtain⟨ag,cg,rfl,lf⟩:=jm (eV yU (bU _));obtain⟨Dy,rfl,_,_⟩:=lf (by omega);have NL:=aj (NG.o.kp k2);obtain⟨K2,MT,pK,AV⟩:=dH k2 yU jT zQ;obtain⟨d0,d1,d2,d3,d4,_⟩:=qo NL.o.x;have lX:=aE NL.o.x;have Fk:∀W,(pN 80 (.int .i64 (ae ts:Int)) (.int .i64 (ae ts:Int))).run aB W=.ok (.slice (some ⟨W.heap.size,0,none⟩) (ae ts) (ae ts)) (W.alloc (aW (fl (ae ts)))):=fun W=>yZ (ae ts) (by omega) W
 clear yU jT zQ k2 lf NG;go_upto_region 3 with fail;go_region
 all_goals
  have gi0:=nQ.start (m:=ae ts) NL.o.fib;have gm0:kH (xR S (jb ts (ae ts)) (cH (j4 ts) (ae ts)) ru (aZ ts (ae ts))) (cH (gR ts) (ae ts),0) (aZ ts (ae ts)) (ae ts) [(cH (gR ts) (ae ts),0)] []:=kH.start ⟨HFI.o,GV _⟩;have GI0:=aj gi0;have ZD:=aj gm0;generalize ((wL.alloc (aW (fl (ae ts)))).alloc (.cells #[.slice (some ⟨fb,0,none⟩) (aZ ts (ae ts)) (aZ ts (ae ts)),.slice (some ⟨wL.heap.size,0,none⟩) (ae ts) (ae ts)] 165)).drew=W0 at *;clear gi0 gm0 d0 d1 d2 d3 d4 Fk;have eM:∃st,st=xR S (jb ts (ae ts)) (cH (j4 ts) (ae ts)) ru (aZ ts (ae ts)):=⟨_,rfl⟩
  obtain⟨st,eM⟩:=eM;rw[<-eM]at ZD;have mT:=aj eM;clear eM;have hms:∀W,(pN 61 (.int .i64 256) (.int .i64 256)).run aB W=.ok (.slice (some ⟨W.heap.size,0,none⟩) 256 256) (W.alloc Za):=fun W=>Mh 256 (by omega) W
  go_wp2_with fail;go_loopw [9,7,8] (fun s9 s7 s8 w'=>∃(i:Nat) (al:Option Addr) (cl:Nat) (cy:Option Addr) (vK:Nat) (L bl:List (Nat×Nat)) (gs:List Nat) (rows:List (List Int)),s9=.int .i64 i/\(ae rows)=i/\s7=.slice al (ae L) cl/\s8=.slice cy (ae gs) vK/\kH st (cH (gR ts) (ae ts),0) (aZ ts (ae ts)) (ae ts) L rows/\nQ wL w' (aZ ts (ae ts)) (ae ts) (.slice al (ae L) cl) (.slice cy (ae gs) vK) L bl gs rows/\∀j,j<ae rows->(rows.getD j []).length=256)
   (fun s9 _ _ _=>251-(aG s9).toNat)
  case atStart=>exact⟨0,_,_,none,0,[(cH (gR ts) (ae ts),0)],_,[],[],rfl,rfl,rfl,rfl,ZD.o,GI0.o,fun j hj=>absurd hj (Vz j)⟩
  case round =>
   obtain⟨i,al,cl,cy,vK,L,bl,gs,rows,rfl,gB,rfl,rfl,gm,gi,Sf⟩:=hrel;have UY:=aj Sf;clear Sf;clear ZD GI0;have xx:=gm.rl;have hLf:=gm.few;have hgr:=gi.gl;by_cases dx:i<ae L
   .have gZ:(i:Int)<ae L:=(by omega);obtain⟨GM,GI,wG,HGR⟩:=dH gm gi gB hgr;clear gm gi gB hgr;go_upto_region 9 with fail;have GI1:=aj (GI.o.kp ((Kp.refl [] wr).alloc Za));(have Rd:(wr.alloc Za).heap[wr.heap.size]?=some (iO (gM 256 0)):=by rw[aC,aA rfl];rfl);have Fe:ax (∀j,j<ae gs->gs.getD j 0≠wr.heap.size):=fun j hj e=>by
     have:=aE (GI.o.rr j hj).2;omega
    have Mc:ax (wL.heap.size<=wr.heap.size):=GI.o.k.size;generalize wr.alloc Za=W1 at *;generalize wr.heap.size=rb at *;have rU:=aj Rd;clear Rd GI;clear wr;go_wp2_with fail;go_loopw [11,7] (fun rK s7 w'=>∃(c:Nat) (al:Option Addr) (cl:Nat) (L2 kD:List (Nat×Nat)) (r:List Int),rK=.int .i64 c/\c<=256/\s7=.slice al (ae L2) cl/\i<ae L2/\L2.getD i (0,0)=L.getD i (0,0)/\kH st (cH (gR ts) (ae ts),0) (aZ ts (ae ts)) (ae ts) L2 rows/\nQ wL w' (aZ ts (ae ts)) (ae ts) (.slice al (ae L2) cl) (.slice cy (ae gs) vK) L2 kD gs rows/\w'.heap[rb]?=some (iO r)/\(ae r)=256/\∀c',c' < c->rV st L2 (L.getD i (0,0)) r c')
     (fun rK _ _=>256-(aG rK).toNat)
    case atStart=>exact⟨0,al,cl,L,bl,_,rfl,by omega,rfl,dx,rfl,GM.o,GI1.o,rU.o,by simp,fun c' hc'=>by omega⟩
    case round =>
     clear GM GI1 rU xx hLf gZ;obtain⟨c,al,cl,L2,kD,r,rfl,hc,rfl,DE,WG,gm,gi,br,xw,yQ⟩:=hrel;have hLf:=gm.few;have xx:=gm.rl;have iV:rb<wr.heap.size:=aE br;by_cases dw:c<256
     .have yI:(c:Int)<256:=(by omega);have Ud:=aJ MT.o gi.k (by simp);obtain⟨_,_,ea,eP⟩:=qB (eV Ud (bU _));obtain⟨ga,lj,cls⟩:=eP c (by rw[AV.o];exact dw);simp only[fy]at ea;rw[<-ea.1]at lj;simp only[aV,oD,and_true]at lj;rw[<-lj]at cls;have hlc:=pK.o c (by rw[AV.o];exact dw);(have akL:(c:Int)<ae ls:=by have:=AV.o;omega);have Rz:=jK br c (by omega);have akl:=rz br c;obtain⟨GM,GI,BR,yd,Gu,iX⟩:=DF gm gi br yQ WG xw;clear gm gi br yQ WG Ud ea eP lj xw;generalize Oc:ls.getD c 0=l0 at *;have HL0:=aj Oc;clear Oc;by_cases iu:l0=c
      .subst iu;(have cP:((l0:Int) != (l0:Int))=false:=by simp);obtain⟨g7,adZ,e7,s70,s71⟩:=GI.o.read DE;simp only[fy]at e7;obtain⟨rfl,_,rfl⟩:=e7;have Cb:=GI.o.bk i DE;have apL:(i:Int)<ae L2:=(by omega);have sta:VT wr (.agg #[.slice (some ⟨(kD.getD i (0,0)).1,0,none⟩) (aZ ts (ae ts)) (aZ ts (ae ts)),.slice (some ⟨(kD.getD i (0,0)).2,0,none⟩) (ae ts) (ae ts)]) (aZ ts (ae ts)) (ae ts) (L2.getD i (0,0)):=⟨_,_,rfl,Cb.1,Cb.2⟩;have iU:=aj (ams X (aZ ts (ae ts)) (ae ts) l0 S (jb ts (ae ts)) _ _ ru fb lb ah ar af ch cr cf _ (L2.getD i (0,0)) wr (NL.o.kp GI.o.k) pU hn dw sta HRS.o);(have TT:ax (eJ S (jb ts (ae ts)) (cH (j4 ts) (ae ts)) ru l0 (L2.getD i (0,0)).1 (aZ ts (ae ts))=st (L.getD i (0,0)) l0):=by show _=_;rw[mT.o,Gu.o];rfl);have TS:ax ((st (L.getD i (0,0)) l0).1<2 ^ aZ ts (ae ts)/\(st (L.getD i (0,0)) l0).2<2 ^ (ae ts)):=by
        have:=aos (S:=S) (la:=cH (j4 ts) (ae ts)) ZP.o HRS.o l0 (L2.getD i (0,0)).1 (aZ ts (ae ts)) (aH _);rw[TT.o]at this;exact this
       have RI:ax (yq st (cH (gR ts) (ae ts),0) (L.getD i (0,0))):=GM.o.nK _ (by rw[<-Gu.o,aO,bD DE];exact nE DE);clear Cb sta;go_wp2_with fail;refine iU.o.mono ?_;rintro _ w3 ⟨_,rfl,ag4,k3⟩;obtain⟨pb,qb,rfl,Oe,hqb⟩:=ag4.ex;rw[TT.o]at Oe hqb;have kA:Kp [] wr (w3.alloc (.cells #[.slice (some ⟨pb,0,none⟩) (aZ ts (ae ts)) (aZ ts (ae ts)),.slice (some ⟨qb,0,none⟩) (ae ts) (ae ts)] 165)):=k3.alloc _;have bS3:(w3.alloc (.cells #[.slice (some ⟨pb,0,none⟩) (aZ ts (ae ts)) (aZ ts (ae ts)),.slice (some ⟨qb,0,none⟩) (ae ts) (ae ts)] 165)).heap[w3.heap.size]?=some (.cells #[.slice (some ⟨pb,0,none⟩) (aZ ts (ae ts)) (aZ ts (ae ts)),.slice (some ⟨qb,0,none⟩) (ae ts) (ae ts)] 165 (0,0)):=(by rw[aC,aA rfl]);have afg:(w3.alloc (.cells #[.slice (some ⟨pb,0,none⟩) (aZ ts (ae ts)) (aZ ts (ae ts)),.slice (some ⟨qb,0,none⟩) (ae ts) (ae ts)] 165)).heap[pb]?=_:=((Kp.refl [] w3).alloc _).keep Oe (by simp);have afj:(w3.alloc (.cells #[.slice (some ⟨pb,0,none⟩) (aZ ts (ae ts)) (aZ ts (ae ts)),.slice (some ⟨qb,0,none⟩) (ae ts) (ae ts)] 165)).heap[qb]?=_:=((Kp.refl [] w3).alloc _).keep hqb (by simp);generalize tM:w3.alloc (.cells #[.slice (some ⟨pb,0,none⟩) (aZ ts (ae ts)) (aZ ts (ae ts)),.slice (some ⟨qb,0,none⟩) (ae ts) (ae ts)] 165)=W3 at *;obtain⟨z0,z1,_⟩:=two bS3;have UW:=aj (GI.o.kp kA);have oE:=aj (kA.keep BR.o (by simp));obtain⟨Mz,Qa,Qc⟩:=cR bS3 afg afj;have aed:=jK oE.o l0 (by have:=iX.o;omega);have aeq:=rz oE.o l0;clear iU ag4 k3 Oe hqb kA bS3 afg afj Rz akl s70 s71 cls BR TT;(go_wp2_with (simp only[tM]));refine(af9 pb (aZ ts (ae ts)) _ W3 Qa.o (by omega) TS.o.1).mono ?_;rintro _ w4 ⟨rfl,Tw⟩;rw[Tw];clear Tw w4;generalize dL:decide ((st (L.getD i (0,0)) l0).1=0)=b1;have nU:=aj dL;clear dL;go_wp2_with fail;refine(af9 qb (ae ts) _ W3 Qc.o (by omega) TS.o.2).mono ?_;rintro _ w4 ⟨rfl,Tw⟩;rw[Tw];clear Tw w4;generalize my:decide ((st (L.getD i (0,0)) l0).2=0)=b2;have mG:=aj my;clear my;by_cases Fu:st (L.getD i (0,0)) l0=(0,0)
       ·(have e1:b1=true:=by rw[<-nU.o];exact decide_eq_true (by rw[Fu]));(have e2:b2=true:=by rw[<-mG.o];exact decide_eq_true (by rw[Fu]));subst e1 e2;have GI4:=aj (UW.o.other oE.o Mc.o Fe.o l0 (.int .i64 (-1)));have nP:=aj (tV oE.o l0 (-1));have ahY:ax (∀c',c' < l0+1->rV st L2 (L.getD i (0,0)) (r.set l0 (-1)) c'):=fun c' hc'=>by
         by_cases e:c'=l0
         .rw[e];exact .inl ⟨Fu,qV r l0 _ (by rw[iX.o];exact dw)⟩
         .exact(yd.o c' (by omega)).set (fun z=>e z.symm) _
        clear Fu GI UW oE;go_wp2;refine⟨⟨l0+1,some ⟨g7,0,none⟩,cl,L2,kD,r.set l0 (-1),by go_num,by omega,rfl,DE,Gu.o,GM.o,GI4.o,nP.o,by rw[mq];exact iX.o,ahY.o⟩,by simp[aG];omega⟩
       .have hbb:b1=false\/(b1=true/\b2=false):=by
         cases h1:b1
         .exact .inl rfl
         .right;refine⟨rfl,?_⟩;cases h2:b2
          .rfl
          .exfalso;rw[h1]at nU;rw[h2]at mG;exact Fu (Prod.ext (of_decide_eq_true nU.o) (of_decide_eq_true mG.o))
        rcases hbb with rfl|⟨rfl,rfl⟩
        .have JN:=aj Fu;clear Fu nU mG GI;go_upto_region 19 with fail;go_wp2_with fail;go_loopw [15] (fun wh w'=>∃k:Nat,wh=.int .i64 k/\k<=ae L2/\(∀k',k' < k->L2.getD k' (0,0)≠st (L.getD i (0,0)) l0)/\Kp [] W3 w')
          (fun wh _=>ae L2-(aG wh).toNat)
         case atStart=>exact⟨0,rfl,bU _,fun k' hk'=>by omega,Kp.refl _ _⟩
         case round =>
          clear z0 z1 aed aeq;obtain⟨k,rfl,hk,vO,kk⟩:=hrel;have yH:=UW.o.kp kk;have E6:=kk.keep oE.o (by simp);have RF:=jK E6 l0 (by have:=iX.o;omega);have RU:=rz E6 l0;obtain⟨uzd,D8,uu,KK⟩:=dH yH E6 vO kk;clear vO E6;by_cases dI:k<ae L2
          .have j3:(k:Int)<ae L2:=(by omega);obtain⟨g8,ajj,e8,Ml,UA⟩:=yH.read dI;simp only[fy,aV,oD,and_true]at e8;obtain⟨rfl,_,rfl⟩:=e8;have Cb:=yH.bk k dI;obtain⟨z0,z1,_⟩:=two (kk.keep Mz.o (by simp));have DT:g7<wr.heap.size:=by
            rcases eK g7 wr.heap.size with z|z
            .exact z
            .have:wr.heap[g7]?=none:=kP z;simp[vE,this]at Ml
           have lsb:=aE (kk.keep Mz.o (by simp));have JE:=aj (kk.keep Qa.o (by simp));have JG:=aj (kk.keep Qc.o (by simp));have PN:=aj Cb;have Qv:=aj (GM.o.sm (L2.getD k (0,0)) (by rw[aO,bD dI];exact nE dI));have H8:∀W,Kp [] wr W->(W.cell? ⟨g7,k*2,none⟩=some (.slice (some ⟨(kD.getD k (0,0)).1,0,none⟩) (aZ ts (ae ts)) (aZ ts (ae ts)))/\W.cell? ⟨w3.heap.size,0,none⟩=some (.slice (some ⟨pb,0,none⟩) (aZ ts (ae ts)) (aZ ts (ae ts))))/\(W.cell? ⟨g7,k*2+1,none⟩=some (.slice (some ⟨(kD.getD k (0,0)).2,0,none⟩) (ae ts) (ae ts))/\W.cell? ⟨w3.heap.size,1,none⟩=some (.slice (some ⟨qb,0,none⟩) (ae ts) (ae ts))):=fun W hW =>
            ⟨⟨(o8 hW.toBelow DT).trans Ml,(o8 hW.toBelow lsb).trans z0⟩,⟨(o8 hW.toBelow DT).trans UA,(o8 hW.toBelow lsb).trans z1⟩⟩
           have qK:=aj H8;clear Cb yH kk H8 RF RU;generalize (kD.getD k (0,0)).1=Ho at *;generalize (kD.getD k (0,0)).2=Hp at *;go_upto_region 21 with fail;go_region_held3 (fun w':ay=>w'.cell? ⟨g7,k*2,none⟩=some (.slice (some ⟨Ho,0,none⟩) (aZ ts (ae ts)) (aZ ts (ae ts)))/\w'.cell? ⟨w3.heap.size,0,none⟩=some (.slice (some ⟨pb,0,none⟩) (aZ ts (ae ts)) (aZ ts (ae ts))))
            (first|exact(qK.o _ ((Kp.refl _ _).drew)).1|exact(qK.o _ K5).1)
            (first|(go_at_call 71;refine(Yv Ho pb (aZ ts (ae ts)) _ _ _ (((Kp.refl [] wr).drew).keep PN.o.1 (by simp)) (((Kp.refl [] wr).drew).keep JE.o (by simp)) (by omega) Qv.o.1 TS.o.1).mono ?_;rintro _ w5 ⟨rfl,k5⟩;generalize Ts:decide ((L2.getD k (0,0)).1=(st (L.getD i (0,0)) l0).1)=u1;have A7:=aj Ts;clear Ts;have K5:Kp [] wr w5:=((Kp.refl [] wr).drew).trans k5 (by simp))|fail)
           have K5H:=aj K5;obtain⟨⟨t80,y0⟩,t81,y1⟩:=qK.o _ K5;clear Ml UA z0 z1;go_upto_region 22 with fail;go_region_held3 (fun w':ay=>w'.cell? ⟨g7,k*2+1,none⟩=some (.slice (some ⟨Hp,0,none⟩) (ae ts) (ae ts))/\w'.cell? ⟨w3.heap.size,1,none⟩=some (.slice (some ⟨qb,0,none⟩) (ae ts) (ae ts)))
            (first|exact(qK.o _ (K5.drew)).2|exact(qK.o _ K6).2)
            (first|(go_at_call 71;refine(Yv Hp qb (ae ts) _ _ _ ((K5.drew).keep PN.o.2 (by simp)) ((K5.drew).keep JG.o (by simp)) (by omega) Qv.o.2 TS.o.2).mono ?_;rintro _ w6 ⟨rfl,k6⟩;generalize Ok:decide ((L2.getD k (0,0)).2=(st (L.getD i (0,0)) l0).2)=u2;have A8:=aj Ok;clear Ok;have K6:Kp [] wr w6:=(K5.drew).trans k6 (by simp))|fail)
           have K6H:ax (Kp [] W3 w6):=KK.o.trans K6 (by simp);have oY:=aj (K6.keep D8.o (by simp));have PJ:=aj (uzd.o.kp K6);clear t80 t81 y0 y1 K5 K6 K5H uzd D8;have aa1:=jK oY.o l0 (by have:=iX.o;omega);have aba:=rz oY.o l0;by_cases qv:L2.getD k (0,0)=st (L.getD i (0,0)) l0
           ·(have q1:u1=true:=by rw[<-A7.o];exact decide_eq_true (by rw[qv]));(have q2:u2=true:=by rw[<-A8.o];exact decide_eq_true (by rw[qv]));subst q1 q2;(have akW:((k:Int) == (ae L2:Int))=false:=by simp;omega);have ZC:=aj (PJ.o.other oY.o Mc.o Fe.o l0 (.int .i64 k));have Pu:=aj (tV oY.o l0 k);have Z7:ax (∀c',c' < l0+1->rV st L2 (L.getD i (0,0)) (r.set l0 k) c'):=fun c' hc'=>by
             by_cases e:c'=l0
             .rw[e];refine .inr ⟨JN.o,k,qV r l0 _ (by rw[iX.o];exact dw),?_⟩;rw[<-qv,aO,bD dI];rfl
             .exact(yd.o c' (by omega)).set (fun z=>e z.symm) _
            clear qv A7 A8 PJ oY;go_wp2;refine⟨⟨l0+1,some ⟨g7,0,none⟩,cl,L2,kD,r.set l0 k,by go_num,by omega,rfl,DE,Gu.o,GM.o,ZC.o,Pu.o,by rw[mq];exact iX.o,Z7.o⟩,by simp[aG];omega⟩
           .have abu:ax (∀k',k' < k+1->L2.getD k' (0,0)≠st (L.getD i (0,0)) l0):=fun k' hk'=>by
             by_cases e:k'=k
             .rw[e];exact qv
             .exact uu.o k' (by omega)
            have hff:u1=false\/(u1=true/\u2=false):=by
             cases h1:u1
             .exact .inl rfl
             .right;refine⟨rfl,?_⟩;cases h2:u2
              .rfl
              .exfalso;rw[h1]at A7;rw[h2]at A8;exact qv (Prod.ext (of_decide_eq_true A7.o) (of_decide_eq_true A8.o))
            clear qv A7 A8 aa1 aba;rcases hff with rfl|⟨rfl,rfl⟩
            all_goals
             go_wp2;exact⟨⟨k+1,by go_num,by omega,abu.o,K6H.o⟩,by simp[aG];omega⟩
          .have j3:¬(k:Int)<ae L2:=(by omega);have yN:k=ae L2:=(by omega);subst yN;(have akU:((ae L2:Int) == (ae L2:Int))=true:=by simp);have Ta:ax (st (L.getD i (0,0)) l0∉L2):=fun hm=>by
            obtain⟨q,hq,e⟩:=Df hm;refine uu.o q hq ?_;rw[aO,bD hq];exact e
           have Cn:ax (yq st (cH (gR ts) (ae ts),0) (st (L.getD i (0,0)) l0)):=.step _ l0 RI.o dw JN.o;obtain⟨z0,z1,_⟩:=two (kk.keep Mz.o (by simp));have JE:=aj (kk.keep Qa.o (by simp));have JG:=aj (kk.keep Qc.o (by simp));have Cy:Kp [] wL wr:=yH.k;have wM:=aj Cy;clear yH kk Cy;by_cases BY:(ae L2)=250
           ·(have abz:((ae L2:Int) == 250)=true:=by rw[BY];rfl);have ZG:=aj BY;clear BY;go_wp2;have kA:Kp (sM ts) w wr:=(K1.o.trans K2.o (by simp)).trans wM.o (by simp);(have far:∀b∈sM ts,w.heap.size<=b\/∃c,w.heap[b]?=some (.cells c 104 (0,0)):=fun b hb=>.inr (HT.o.node b hb));have k12:Kp [] w1 wr:=K2.o.trans wM.o (by simp);refine cF (v:=.tuple #[.slice none 0 0,.slice none 0 0,.slice none 0 0]) (by simp[eG,adw,go_sem]) rfl ⟨S,ru,HSO.o,HRO.o,kA,fun t hm=>(HT.o.s t hm).kp kA far,fun j hj=>(Z5.o j hj).kp k12 (by simp),.inr ⟨L2,st (L.getD i (0,0)) l0,rfl,ZG.o,?_,fun y hy=>?_⟩⟩
            .rw[GO];refine⟨GM.o.nd,by simp,fun a ha b hb=>?_⟩;rw[bQ.1 hb];exact fun e=>Ta.o (e ▸ ha)
            .rw[<-mT.o];rcases jr.1 hy with q|q
             .exact GM.o.nK y q
             .rw[bQ.1 q];exact Cn.o
           ·(have abz:((ae L2:Int) == 250)=false:=by simp;omega);have DH:(ae L2)<250:=(by omega);have ZE:=aj (GM.o.add Ta.o Cn.o TS.o DH);have ald:(yF (aZ ts (ae ts)) (ae ts) kD).length=ae L2*2:=uzd.o.st.1;clear BY RF RU;(go_wp2_with (at_builtin;go_must (refine qU rfl _ _ _ rfl 165 i0 _ 2 48 adz cS dc dm cW rfl (by omega) (.slice (some ⟨g7,0,none⟩) (ae L2) cl) (ae L2) (yF (aZ ts (ae ts)) (ae ts) kD) rfl ((uzd.o.st.mono (bU _)).alloc _) ⟨wr.heap.size,0,none⟩ 1 1 (Az (aZ ts (ae ts)) (ae ts) (pb,qb)) rfl rfl (gN (cs:=(Az (aZ ts (ae ts)) (ae ts) (pb,qb)).toArray) (t:=165) (fr:=(0,0)) (by rw[aC,aA rfl];rfl)) (by intro u hu;simp only[Az,gH,Ev,or_false]at hu;rcases hu with rfl|rfl<;>rfl) (by omega) (by unfold eB;omega) (by omega) _ rfl ?_);intro g9 oO w9 jM jH at9 rE;obtain⟨Sa,k9⟩:=uzd.o.adJ JE.o JG.o ((Kp.refl [] wr).alloc _) (v':=.slice (some ⟨g9,0,none⟩) (ae L2+1) oO) jH jM (by rcases at9 with q|q;exact .inl (by rw[q];rfl);exact .inr ⟨g9,rfl,by rw[aM]at q;omega⟩);have MF:=aj Sa;have E5:=k9.keep D8.o (fun hm=>by simp[aK]at hm;subst hm;obtain⟨_,_,q⟩:=jV uzd.o.st;rcases uzd.o.st.2 with⟨q,_⟩|⟨g',cap,cur,q,_,hc,_⟩;(simp at q);(simp only[fy,aV,oD,and_true]at q;rw[<-q.1,D8.o]at hc;simp only[aV,fE]at hc;exact absurd hc.2.1 (by decide)));have Pv:=aj E5;have ajF:=jK E5 l0 (by have:=iX.o;omega);have akm:=rz E5 l0;clear Sa k9 E5 jM jH at9 rE));refine⟨⟨l0+1,some ⟨g9,0,none⟩,oO,L2 ++ [st (L.getD i (0,0)) l0],kD ++ [(pb,qb)],r.set l0 (ae L2:Int),by go_num,by omega,by simp,by rw[cx];omega,?_,ZE.o,?_,tV Pv.o l0 _,by rw[mq];exact iX.o,fun c' hc'=>?_⟩,by simp[aG];omega⟩
            .rw[aO,iI DE,<-aO];exact Gu.o
            .have:=MF.o.other Pv.o Mc.o Fe.o l0 (.int .i64 (ae L2:Int));rw[cx];exact this
            .by_cases e:c'=l0
             .rw[e];refine .inr ⟨JN.o,ae L2,qV r l0 _ (by rw[iX.o];exact dw),?_⟩;rw[mU (aH _),uw];rfl
             .exact((yd.o c' (by omega)).more).set (fun z=>e z.symm) _
        .have JN:=aj Fu;clear Fu nU mG GI;go_upto_region 19 with fail;go_wp2_with fail;go_loopw [15] (fun wh w'=>∃k:Nat,wh=.int .i64 k/\k<=ae L2/\(∀k',k' < k->L2.getD k' (0,0)≠st (L.getD i (0,0)) l0)/\Kp [] W3 w')
          (fun wh _=>ae L2-(aG wh).toNat)
         case atStart=>exact⟨0,rfl,bU _,fun k' hk'=>by omega,Kp.refl _ _⟩
         case round =>
          clear z0 z1 aed aeq;obtain⟨k,rfl,hk,vO,kk⟩:=hrel;have yH:=UW.o.kp kk;have E6:=kk.keep oE.o (by simp);have RF:=jK E6 l0 (by have:=iX.o;omega);have RU:=rz E6 l0;obtain⟨uzd,D8,uu,KK⟩:=dH yH E6 vO kk;clear vO E6;by_cases dI:k<ae L2
          .have j3:(k:Int)<ae L2:=(by omega);obtain⟨g8,ajj,e8,Ml,UA⟩:=yH.read dI;simp only[fy,aV,oD,and_true]at e8;obtain⟨rfl,_,rfl⟩:=e8;have Cb:=yH.bk k dI;obtain⟨z0,z1,_⟩:=two (kk.keep Mz.o (by simp));have DT:g7<wr.heap.size:=by
            rcases eK g7 wr.heap.size with z|z
            .exact z
            .have:wr.heap[g7]?=none:=kP z;simp[vE,this]at Ml
           have lsb:=aE (kk.keep Mz.o (by simp));have JE:=aj (kk.keep Qa.o (by simp));have JG:=aj (kk.keep Qc.o (by simp));have PN:=aj Cb;have Qv:=aj (GM.o.sm (L2.getD k (0,0)) (by rw[aO,bD dI];exact nE dI));have H8:∀W,Kp [] wr W->(W.cell? ⟨g7,k*2,none⟩=some (.slice (some ⟨(kD.getD k (0,0)).1,0,none⟩) (aZ ts (ae ts)) (aZ ts (ae ts)))/\W.cell? ⟨w3.heap.size,0,none⟩=some (.slice (some ⟨pb,0,none⟩) (aZ ts (ae ts)) (aZ ts (ae ts))))/\(W.cell? ⟨g7,k*2+1,none⟩=some (.slice (some ⟨(kD.getD k (0,0)).2,0,none⟩) (ae ts) (ae ts))/\W.cell? ⟨w3.heap.size,1,none⟩=some (.slice (some ⟨qb,0,none⟩) (ae ts) (ae ts))):=fun W hW =>
            ⟨⟨(o8 hW.toBelow DT).trans Ml,(o8 hW.toBelow lsb).trans z0⟩,⟨(o8 hW.toBelow DT).trans UA,(o8 hW.toBelow lsb).trans z1⟩⟩
           have qK:=aj H8;clear Cb yH kk H8 RF RU;generalize (kD.getD k (0,0)).1=Ho at *;generalize (kD.getD k (0,0)).2=Hp at *;go_upto_region 21 with fail;go_region_held3 (fun w':ay=>w'.cell? ⟨g7,k*2,none⟩=some (.slice (some ⟨Ho,0,none⟩) (aZ ts (ae ts)) (aZ ts (ae ts)))/\w'.cell? ⟨w3.heap.size,0,none⟩=some (.slice (some ⟨pb,0,none⟩) (aZ ts (ae ts)) (aZ ts (ae ts))))
            (first|exact(qK.o _ ((Kp.refl _ _).drew)).1|exact(qK.o _ K5).1)
            (first|(go_at_call 71;refine(Yv Ho pb (aZ ts (ae ts)) _ _ _ (((Kp.refl [] wr).drew).keep PN.o.1 (by simp)) (((Kp.refl [] wr).drew).keep JE.o (by simp)) (by omega) Qv.o.1 TS.o.1).mono ?_;rintro _ w5 ⟨rfl,k5⟩;generalize Ts:decide ((L2.getD k (0,0)).1=(st (L.getD i (0,0)) l0).1)=u1;have A7:=aj Ts;clear Ts;have K5:Kp [] wr w5:=((Kp.refl [] wr).drew).trans k5 (by simp))|fail)
           have K5H:=aj K5;obtain⟨⟨t80,y0⟩,t81,y1⟩:=qK.o _ K5;clear Ml UA z0 z1;go_upto_region 22 with fail;go_region_held3 (fun w':ay=>w'.cell? ⟨g7,k*2+1,none⟩=some (.slice (some ⟨Hp,0,none⟩) (ae ts) (ae ts))/\w'.cell? ⟨w3.heap.size,1,none⟩=some (.slice (some ⟨qb,0,none⟩) (ae ts) (ae ts)))
            (first|exact(qK.o _ (K5.drew)).2|exact(qK.o _ K6).2)
            (first|(go_at_call 71;refine(Yv Hp qb (ae ts) _ _ _ ((K5.drew).keep PN.o.2 (by simp)) ((K5.drew).keep JG.o (by simp)) (by omega) Qv.o.2 TS.o.2).mono ?_;rintro _ w6 ⟨rfl,k6⟩;generalize Ok:decide ((L2.getD k (0,0)).2=(st (L.getD i (0,0)) l0).2)=u2;have A8:=aj Ok;clear Ok;have K6:Kp [] wr w6:=(K5.drew).trans k6 (by simp))|fail)
           have K6H:ax (Kp [] W3 w6):=KK.o.trans K6 (by simp);have oY:=aj (K6.keep D8.o (by simp));have PJ:=aj (uzd.o.kp K6);clear t80 t81 y0 y1 K5 K6 K5H uzd D8;have aa1:=jK oY.o l0 (by have:=iX.o;omega);have aba:=rz oY.o l0;by_cases qv:L2.getD k (0,0)=st (L.getD i (0,0)) l0
           ·(have q1:u1=true:=by rw[<-A7.o];exact decide_eq_true (by rw[qv]));(have q2:u2=true:=by rw[<-A8.o];exact decide_eq_true (by rw[qv]));subst q1 q2;(have akW:((k:Int) == (ae L2:Int))=false:=by simp;omega);have ZC:=aj (PJ.o.other oY.o Mc.o Fe.o l0 (.int .i64 k));have Pu:=aj (tV oY.o l0 k);have Z7:ax (∀c',c' < l0+1->rV st L2 (L.getD i (0,0)) (r.set l0 k) c'):=fun c' hc'=>by
             by_cases e:c'=l0
             .rw[e];refine .inr ⟨JN.o,k,qV r l0 _ (by rw[iX.o];exact dw),?_⟩;rw[<-qv,aO,bD dI];rfl
             .exact(yd.o c' (by omega)).set (fun z=>e z.symm) _
            clear qv A7 A8 PJ oY;go_wp2;refine⟨⟨l0+1,some ⟨g7,0,none⟩,cl,L2,kD,r.set l0 k,by go_num,by omega,rfl,DE,Gu.o,GM.o,ZC.o,Pu.o,by rw[mq];exact iX.o,Z7.o⟩,by simp[aG];omega⟩
           .have abu:ax (∀k',k' < k+1->L2.getD k' (0,0)≠st (L.getD i (0,0)) l0):=fun k' hk'=>by
             by_cases e:k'=k
             .rw[e];exact qv
             .exact uu.o k' (by omega)
            have hff:u1=false\/(u1=true/\u2=false):=by
             cases h1:u1
             .exact .inl rfl
             .right;refine⟨rfl,?_⟩;cases h2:u2
              .rfl
              .exfalso;rw[h1]at A7;rw[h2]at A8;exact qv (Prod.ext (of_decide_eq_true A7.o) (of_decide_eq_true A8.o))
            clear qv A7 A8 aa1 aba;rcases hff with rfl|⟨rfl,rfl⟩
            all_goals
             go_wp2;exact⟨⟨k+1,by go_num,by omega,abu.o,K6H.o⟩,by simp[aG];omega⟩
          .have j3:¬(k:Int)<ae L2:=(by omega);have yN:k=ae L2:=(by omega);subst yN;(have akU:((ae L2:Int) == (ae L2:Int))=true:=by simp);have Ta:ax (st (L.getD i (0,0)) l0∉L2):=fun hm=>by
            obtain⟨q,hq,e⟩:=Df hm;refine uu.o q hq ?_;rw[aO,bD hq];exact e
           have Cn:ax (yq st (cH (gR ts) (ae ts),0) (st (L.getD i (0,0)) l0)):=.step _ l0 RI.o dw JN.o;obtain⟨z0,z1,_⟩:=two (kk.keep Mz.o (by simp));have JE:=aj (kk.keep Qa.o (by simp));have JG:=aj (kk.keep Qc.o (by simp));have Cy:Kp [] wL wr:=yH.k;have wM:=aj Cy;clear yH kk Cy;by_cases BY:(ae L2)=250
           ·(have abz:((ae L2:Int) == 250)=true:=by rw[BY];rfl);have ZG:=aj BY;clear BY;go_wp2;have kA:Kp (sM ts) w wr:=(K1.o.trans K2.o (by simp)).trans wM.o (by simp);(have far:∀b∈sM ts,w.heap.size<=b\/∃c,w.heap[b]?=some (.cells c 104 (0,0)):=fun b hb=>.inr (HT.o.node b hb));have k12:Kp [] w1 wr:=K2.o.trans wM.o (by simp);refine cF (v:=.tuple #[.slice none 0 0,.slice none 0 0,.slice none 0 0]) (by simp[eG,adw,go_sem]) rfl ⟨S,ru,HSO.o,HRO.o,kA,fun t hm=>(HT.o.s t hm).kp kA far,fun j hj=>(Z5.o j hj).kp k12 (by simp),.inr ⟨L2,st (L.getD i (0,0)) l0,rfl,ZG.o,?_,fun y hy=>?_⟩⟩
            .rw[GO];refine⟨GM.o.nd,by simp,fun a ha b hb=>?_⟩;rw[bQ.1 hb];exact fun e=>Ta.o (e ▸ ha)
            .rw[<-mT.o];rcases jr.1 hy with q|q
             .exact GM.o.nK y q
             .rw[bQ.1 q];exact Cn.o
           ·(have abz:((ae L2:Int) == 250)=false:=by simp;omega);have DH:(ae L2)<250:=(by omega);have ZE:=aj (GM.o.add Ta.o Cn.o TS.o DH);have ald:(yF (aZ ts (ae ts)) (ae ts) kD).length=ae L2*2:=uzd.o.st.1;clear BY RF RU;(go_wp2_with (at_builtin;go_must (refine qU rfl _ _ _ rfl 165 i0 _ 2 48 adz cS dc dm cW rfl (by omega) (.slice (some ⟨g7,0,none⟩) (ae L2) cl) (ae L2) (yF (aZ ts (ae ts)) (ae ts) kD) rfl ((uzd.o.st.mono (bU _)).alloc _) ⟨wr.heap.size,0,none⟩ 1 1 (Az (aZ ts (ae ts)) (ae ts) (pb,qb)) rfl rfl (gN (cs:=(Az (aZ ts (ae ts)) (ae ts) (pb,qb)).toArray) (t:=165) (fr:=(0,0)) (by rw[aC,aA rfl];rfl)) (by intro u hu;simp only[Az,gH,Ev,or_false]at hu;rcases hu with rfl|rfl<;>rfl) (by omega) (by unfold eB;omega) (by omega) _ rfl ?_);intro g9 oO w9 jM jH at9 rE;obtain⟨Sa,k9⟩:=uzd.o.adJ JE.o JG.o ((Kp.refl [] wr).alloc _) (v':=.slice (some ⟨g9,0,none⟩) (ae L2+1) oO) jH jM (by rcases at9 with q|q;exact .inl (by rw[q];rfl);exact .inr ⟨g9,rfl,by rw[aM]at q;omega⟩);have MF:=aj Sa;have E5:=k9.keep D8.o (fun hm=>by simp[aK]at hm;subst hm;obtain⟨_,_,q⟩:=jV uzd.o.st;rcases uzd.o.st.2 with⟨q,_⟩|⟨g',cap,cur,q,_,hc,_⟩;(simp at q);(simp only[fy,aV,oD,and_true]at q;rw[<-q.1,D8.o]at hc;simp only[aV,fE]at hc;exact absurd hc.2.1 (by decide)));have Pv:=aj E5;have ajF:=jK E5 l0 (by have:=iX.o;omega);have akm:=rz E5 l0;clear Sa k9 E5 jM jH at9 rE));refine⟨⟨l0+1,some ⟨g9,0,none⟩,oO,L2 ++ [st (L.getD i (0,0)) l0],kD ++ [(pb,qb)],r.set l0 (ae L2:Int),by go_num,by omega,by simp,by rw[cx];omega,?_,ZE.o,?_,tV Pv.o l0 _,by rw[mq];exact iX.o,fun c' hc'=>?_⟩,by simp[aG];omega⟩
            .rw[aO,iI DE,<-aO];exact Gu.o
            .have:=MF.o.other Pv.o Mc.o Fe.o l0 (.int .i64 (ae L2:Int));rw[cx];exact this
            .by_cases e:c'=l0
             .rw[e];refine .inr ⟨JN.o,ae L2,qV r l0 _ (by rw[iX.o];exact dw),?_⟩;rw[mU (aH _),uw];rfl
             .exact((yd.o c' (by omega)).more).set (fun z=>e z.symm) _
      ·(have cP:((l0:Int) != (c:Int))=true:=by simp;omega);have akX:l0<c:=(by omega);have apP:(l0:Int)<256:=(by omega);have crl:=jK BR.o l0 (by have:=iX.o;omega);have GI2:=aj (GI.o.other BR.o Mc.o Fe.o c (.int .i64 (r.getD l0 0)));have qH:=aj (tV BR.o c (r.getD l0 0));have ahX:ax (∀c',c' < c+1->rV st L2 (L.getD i (0,0)) (r.set c (r.getD l0 0)) c'):=fun c' hc'=>by
        by_cases e:c'=c
        .rw[e];have:=yd.o l0 akX;(rw[mT.o]at this |-);exact this.alike hlc.2.1 (by rw[iX.o];exact dw)
        .exact(yd.o c' (by omega)).set (fun z=>e z.symm) _
       generalize r.getD l0 0=rv at *;clear yd hlc GI BR;go_wp2;refine⟨⟨c+1,al,cl,L2,kD,r.set c rv,by go_num,by omega,rfl,DE,Gu.o,GM.o,GI2.o,qH.o,by rw[mq];exact iX.o,ahX.o⟩,by simp[aG];omega⟩
     .have yI:¬(c:Int)<256:=(by omega);have Sv:c=256:=(by omega);subst Sv;have GMR:ax (kH st (cH (gR ts) (ae ts),0) (aZ ts (ae ts)) (ae ts) L2 (rows ++ [r])):=gm.row (by have:=wG.o;omega) (fun c' hc'=>by rw[wG.o,WG];exact yQ c' hc');have GI:=aj gi;have BR:=aj br;(have ko:(ae gs)<=250:=by have:=HGR.o;omega);have ahK:ax (∀j,j<(rows ++ [r]).length->((rows ++ [r]).getD j []).length=256):=fun j hj=>by
       rw[cx,iq]at hj;by_cases e:j=ae rows
       .rw[e,aO,mU (aH _),uw];exact xw
       .rw[aO,iI (by omega),<-aO];exact UY.o j (by omega)
      clear gm gi br yQ WG xw;(go_wp2_with (at_builtin;go_must (refine qU rfl _ _ _ rfl 61 j0 _ 1 24 Tryz.underlying28 nJ mz pB pW rfl (by omega) (.slice cy (ae gs) vK) (ae gs) (gs.map fun g=>.slice (some ⟨g,0,none⟩) 256 256) rfl ((eV GI.o.tw (bU _)).alloc _) ⟨wr.heap.size,0,none⟩ 1 1 [.slice (some ⟨rb,0,none⟩) 256 256] rfl rfl (gN (cs:=#[.slice (some ⟨rb,0,none⟩) 256 256]) (t:=61) (fr:=(0,0)) (by rw[aC,aA rfl])) (by simp[dS]) (by omega) (by unfold eB;omega) (by omega) _ rfl ?_);intro g9 oO w9 jM jH at9 rE;have MF:=aj (GI.o.aiE BR.o Mc.o ((Kp.refl [] wr).alloc _) jH (v':=.slice (some ⟨g9,0,none⟩) (ae gs+1) oO) (by rw[cx,uv];exact jM) (by rcases at9 with q|q;exact .inl (by rw[q];rfl);exact .inr ⟨g9,rfl,by rw[aM]at q;omega⟩));clear jM jH at9 rE));go_wp2;refine⟨⟨i+1,al,cl,some ⟨g9,0,none⟩,oO,L2,kD,gs ++ [rb],rows ++ [r],by go_num,by rw[cx,wG.o];rfl,rfl,by simp,GMR.o,?_,ahK.o⟩,by simp[aG];omega⟩;first|exact MF.o|(rw[cx];exact MF.o)
   .have gZ:¬(i:Int)<ae L:=(by omega);(have m7:(ae rows)=ae L:=by omega);obtain⟨GM,GI,JI⟩:=cR gm gi m7;clear gm gi gB hgr m7;go_wp2;have kE:Kp [] wL wr:=GI.o.k;have kA:Kp (sM ts) w wr:=(K1.o.trans K2.o (by simp)).trans kE (by simp);(have far:∀b∈sM ts,w.heap.size<=b\/∃c,w.heap[b]?=some (.cells c 104 (0,0)):=fun b hb=>.inr (HT.o.node b hb));have k12:Kp [] w1 wr:=K2.o.trans kE (by simp);have s1:=K1.o.size;refine cF (v:=.tuple #[.slice al (ae L) cl,.slice cy (ae gs) vK,.slice (some ⟨Dy,0,none⟩) (ae ls) cg]) (by simp[eG,adw,go_sem]) rfl ⟨S,ru,HSO.o,HRO.o,kA,fun t hm=>(HT.o.s t hm).kp kA far,fun j hj=>(Z5.o j hj).kp k12 (by simp),.inl ⟨wL,_,_,_,L,bl,gs,rows,ls,rfl,by have:=K2.o.size;omega,?_,by rw[<-mT.o];exact GM.o,JI.o,GI.o,AV.o,pK.o,eV (aJ MT.o kE (by simp)) s1,UY.o⟩⟩;intro e;simp only[fy]at e;have:=GM.o.zero;rw[iY (by omega)]at this;cases this
end
section
variable{nx:Nat->Nat->Int}{ac:Nat->Int}{N:Nat}
inductive Ap (nx:Nat->Nat->Int) (ac:Nat->Int):Nat->Nat->Prop where
 |acc (i k:Nat) (h:ac i≠ac k):Ap nx ac i k
 |nowhere (i k c:Nat) (hc:c<256) (h:¬(nx i c<0↔nx k c<0)):Ap nx ac i k
 |step (i k c a b:Nat) (hc:c<256) (ha:nx i c=a) (hb:nx k c=b) (h:Ap nx ac a b):Ap nx ac i k
theorem Ap.symm{i k:Nat}(h:Ap nx ac i k):Ap nx ac k i:=by
 induction h with
 |acc i k h=>exact .acc _ _ (fun e=>h e.symm)
 |nowhere i k c hc h=>exact .nowhere _ _ c hc (fun e=>h e.symm)
 |step i k c a b hc ha hb _ ih=>exact .step _ _ c b a hc hb ha ih
structure uj(nx:Nat->Nat->Int)(ac:Nat->Int)(N:Nat)(D:Nat->Nat):Prop where
 sound:∀i k,i<N->k<N->(D i).testBit k=true->Ap nx ac i k
 base:∀i k,i<N->k<N->ac i≠ac k->(D i).testBit k=true
 sym:∀i k,i<N->k<N->(D i).testBit k=(D k).testBit i
def G3(nx:Nat->Nat->Int)(ls:List Nat)(D:Nat->Nat)(i k:Nat):Prop:=(D i).testBit k=true\/∀c,c<256->ls.getD c 0=c->(nx i c<0↔nx k c<0)/\∀a b:Nat,nx i c=a->nx k c=b->(D a).testBit b=false
theorem aen{b n:Nat}{r q:Int}(h:C5 b n r)(k:C5 b n q):r=q:=by
 rcases h with⟨h1,h2⟩|⟨i,h1,h2,h3,h4⟩
 .rcases k with⟨k1,_⟩|⟨j,k1,k2,k3,_⟩
  .rw[h1,k1]
  .rw[h2 j k2]at k3;cases k3
 .rcases k with⟨_,k2⟩|⟨j,k1,k2,k3,k4⟩
  .rw[k2 i h2]at h3;cases h3
  .rcases ym i j with q|q|q
   .rw[k4 i q]at h3;cases h3
   .rw[h1,k1,q]
   .rw[h4 j q]at k3;cases k3
theorem Wu(b n:Nat):∃r,C5 b n r:=by
 have key:∀m,m<=n->(∀i,i<m->b.testBit i=false)\/∃r,C5 b n r:=by
  intro m;induction m with
  |zero=>intro _;exact .inl (fun i hi=>by omega)
  |succ m ih =>
   intro hm;rcases ih (by omega)with h|h
   .cases e:b.testBit m with
    |true=>exact .inr ⟨m,.inr ⟨m,rfl,by omega,e,h⟩⟩
    |false =>
     left;intro i hi;by_cases z:i=m
     .rw[z];exact e
     .exact h i (by omega)
   .exact .inr h
 rcases key n (aH _)with h|h
 .exact⟨-1,.inl ⟨rfl,h⟩⟩
 .exact h
noncomputable def mZ (m:Nat) (L:List (Nat×Nat)) (i:Nat):Int:=Zt (Wu (L.getD i (0,0)).2 m)
theorem Q4(m:Nat)(L:List (Nat×Nat))(i:Nat):C5 (L.getD i (0,0)).2 m (mZ m L i):=Zu (Wu (L.getD i (0,0)).2 m)
def ua(ac:Nat->Int)(i:Nat):Nat->Nat
 |0=>0
 | k+1=>if ac i=ac k then ua ac i k else ua ac i k ||| 1 <<< k
theorem Uy(ac:Nat->Int)(i:Nat):∀n k,(ua ac i n).testBit k=true↔k<n/\ac i≠ac k:=by
 intro n;induction n with
 |zero=>intro k;simp[ua]
 |succ n ih =>
  intro k;rw[ua];by_cases h:ac i=ac n
  .rw[aA h,ih k];constructor
   .rintro⟨h1,h2⟩;exact⟨by omega,h2⟩
   .rintro⟨h1,h2⟩;refine⟨?_,h2⟩;rcases eK k n with q|q
    .exact q
    .have:k=n:=(by omega);rw[this]at h2;exact absurd h h2
  .rw[az h,jD,pJ,ih k,qM,ux];constructor
   .rintro(⟨h1,h2⟩|h1)
    .exact⟨by omega,h2⟩
    .simp at h1;subst h1;exact⟨by omega,h⟩
   .rintro⟨h1,h2⟩;by_cases e:k=n
    .right;simp[e]
    .exact .inl ⟨by omega,h2⟩
theorem agN(ac:Nat->Int)(i n k:Nat)(h:n<=k):(ua ac i n).testBit k=false:=by
 cases e:(ua ac i n).testBit k with
 |false=>rfl
 |true=>have:=(Uy ac i n k).1 e;omega
theorem uj.start:uj nx ac N (fun i=>ua ac i N):=by
 refine⟨fun i k hi hk h=>.acc _ _ ((Uy ac i N k).1 h).2,fun i k hi hk h=>(Uy ac i N k).2 ⟨hk,h⟩,fun i k hi hk=>?_⟩;rw[C1,Uy,Uy];constructor
 .rintro⟨_,h⟩;exact⟨hi,fun e=>h e.symm⟩
 .rintro⟨_,h⟩;exact⟨hk,fun e=>h e.symm⟩
theorem uj.add{D:Nat->Nat}(h:uj nx ac N D){i k:Nat}(hik:Ap nx ac i k):uj nx ac N (iF (iF D i (1 <<< k)) k (1 <<< i)):=by
 have bit:∀a b,((iF (iF D i (1 <<< k)) k (1 <<< i)) a).testBit b=true↔(D a).testBit b=true\/(a=i/\b=k)\/(a=k/\b=i):=fun a b=>by
  unfold iF;by_cases e1:a=k
  .rw[aA e1];by_cases e2:a=i
   .simp only[aA e2,jD,pJ,qM,ux,decide_eq_true_eq];constructor
    .rintro((q|q)|q)
     .exact .inl q
     .exact .inr (.inl ⟨e2,q.symm⟩)
     .exact .inr (.inr ⟨e1,q.symm⟩)
    .rintro(q|⟨_,q⟩|⟨_,q⟩)
     .exact .inl (.inl q)
     .exact .inl (.inr q.symm)
     .exact .inr q.symm
   .simp only[az e2,jD,pJ,qM,ux,decide_eq_true_eq];constructor
    .rintro(q|q)
     .exact .inl q
     .exact .inr (.inr ⟨e1,q.symm⟩)
    .rintro(q|⟨q,_⟩|⟨_,q⟩)
     .exact .inl q
     .exact absurd q e2
     .exact .inr q.symm
  .rw[az e1];by_cases e2:a=i
   .simp only[aA e2,jD,pJ,qM,ux,decide_eq_true_eq];constructor
    .rintro(q|q)
     .exact .inl q
     .exact .inr (.inl ⟨e2,q.symm⟩)
    .rintro(q|⟨_,q⟩|⟨q,_⟩)
     .exact .inl q
     .exact .inr q.symm
     .exact absurd q e1
   .simp only[az e2];constructor
    .exact .inl
    .rintro(q|⟨q,_⟩|⟨q,_⟩)
     .exact q
     .exact absurd q e2
     .exact absurd q e1
 refine⟨fun a b ha hb hx=>?_,fun a b ha hb hx=>(bit a b).2 (.inl (h.base a b ha hb hx)),fun a b ha hb=>?_⟩
 .rcases(bit a b).1 hx with q|⟨rfl,rfl⟩|⟨rfl,rfl⟩
  .exact h.sound a b ha hb q
  .exact hik
  .exact hik.symm
 .rw[C1,bit,bit,h.sym a b ha hb];constructor
  .rintro(q|⟨q1,q2⟩|⟨q1,q2⟩)
   .exact .inl q
   .exact .inr (.inr ⟨q2,q1⟩)
   .exact .inr (.inl ⟨q2,q1⟩)
  .rintro(q|⟨q1,q2⟩|⟨q1,q2⟩)
   .exact .inl q
   .exact .inr (.inr ⟨q2,q1⟩)
   .exact .inr (.inl ⟨q2,q1⟩)
end
section
variable{k i:Nat}{aS:List Nat}{cl:Nat->Nat}
section
variable{nx:Nat->Nat->Int}{ac:Nat->Int}{N:Nat}{D:Nat->Nat}{ls:List Nat}{ld:List Int}
theorem Ap.ne(h:Ap nx ac i k):i≠k:=by
 induction h with
 |acc i k h=>intro e;rw[e]at h;exact h rfl
 |nowhere i k c hc h=>intro e;rw[e]at h;exact h Iff.rfl
 |step i k c a b hc ha hb _ ih=>intro e;rw[e,hb]at ha;exact ih (by omega)
def Vn(D:Nat->Nat)(i:Nat)(l:Int):Prop:=∃n:Nat,l=n/\n<=i/\(n=i\/(D i).testBit n=false)/\∀k,k<n->(D i).testBit k=true
def pZ(nx:Nat->Nat->Int)(ld:List Int)(N c d:Nat):Prop:=∀i,i<N->(nx i c<0↔nx i d<0)/\(0<=nx i c->ld.getD (nx i c).toNat 0=ld.getD (nx i d).toNat 0)
theorem pZ.refl(c:Nat):pZ nx ld N c c:=fun _ _=>⟨Iff.rfl,fun _=>rfl⟩
theorem pZ.symm{c d:Nat}(h:pZ nx ld N c d):pZ nx ld N d c:=fun i hi=>⟨(h i hi).1.symm,fun q=>((h i hi).2 (by have:=(h i hi).1;omega)).symm⟩
structure ze(nx:Nat->Nat->Int)(ld:List Int)(N k:Nat)(aS:List Nat)(cl:Nat->Nat):Prop where
 lt:∀c,c<k->cl c<ae aS/\pZ nx ld N c (aS.getD (cl c) 0)/\(∀m,m<cl c->¬pZ nx ld N c (aS.getD m 0))/\aS.getD (cl c) 0<=c
 xN:∀m,m<ae aS->aS.getD m 0<k/\cl (aS.getD m 0)=m
 inc:∀a b,a<b->b<ae aS->aS.getD a 0<aS.getD b 0
def CQ(cl:Nat->Nat)(k i:Nat):Nat->Nat:=fun c=>if c=k then i else cl c
theorem ze.start(cl:Nat->Nat):ze nx ld N 0 [] cl:=⟨fun c hc=>by omega,fun m hm=>by simp at hm,fun a b _ hb=>by simp at hb⟩
theorem ze.old{m:Nat}(h:ze nx ld N k aS cl)(hm:m<ae aS)(ha:pZ nx ld N k (aS.getD m 0))(hn:∀m',m' < m->¬pZ nx ld N k (aS.getD m' 0)):ze nx ld N (k+1) aS (CQ cl k m):=by
 have rS:∀c,c≠k->CQ cl k m c=cl c:=fun c hc=>az hc
 have YX:CQ cl k m k=m:=aA rfl;refine⟨fun c hc=>?_,fun q hq=>?_,h.inc⟩
 .by_cases e:c=k
  .subst e;rw[YX];exact⟨hm,ha,hn,by have:=(h.xN m hm).1;omega⟩
  .rw[rS c e];exact h.lt c (by omega)
 .have:=(h.xN q hq).1;rw[rS _ (by omega)];exact⟨by omega,(h.xN q hq).2⟩
theorem ze.new(h:ze nx ld N k aS cl)(hn:∀m,m<ae aS->¬pZ nx ld N k (aS.getD m 0)):ze nx ld N (k+1) (aS ++ [k]) (CQ cl k (ae aS)):=by
 have rS:∀c,c≠k->CQ cl k (ae aS) c=cl c:=fun c hc=>az hc
 have YX:CQ cl k (ae aS) k=ae aS:=aA rfl;have old:∀q,q<ae aS->(aS ++ [k]).getD q 0=aS.getD q 0:=fun q hq=>qY hq
 have new:(aS ++ [k]).getD (ae aS) 0=k:=qX;refine⟨fun c hc=>?_,fun q hq=>?_,fun a b zL hb=>?_⟩
 .by_cases e:c=k
  .subst e;rw[YX,new];exact⟨by simp,pZ.refl c,fun m hm=>by rw[old m hm];exact hn m hm,aH _⟩
  .obtain⟨h1,h2,h3,h4⟩:=h.lt c (by omega);rw[rS c e,old _ h1];exact⟨by simp;omega,h2,fun m hm=>by rw[old m (by omega)];exact h3 m hm,h4⟩
 .rw[cx,iq]at hq;by_cases e:q=ae aS
  .subst e;rw[new,YX];exact⟨by omega,rfl⟩
  .have q1:=h.xN q (by omega);rw[old q (by omega),rS _ (by omega)];exact⟨by omega,q1.2⟩
 .rw[cx,iq]at hb;by_cases e:b=ae aS
  .subst e;rw[new,old a (by omega)];exact(h.xN a (by omega)).1
  .rw[old a (by omega),old b (by omega)];exact h.inc a b zL (by omega)
structure VM(nx:Nat->Nat->Int)(ac:Nat->Int)(N:Nat)(ls:List Nat)(U:bw):Prop where
 ex:∃(D:Nat->Nat) (ld:List Int) (aS:List Nat) (cl:Nat->Nat) (ws:List Nat) (R:Nat->Nat->Int),uj nx ac N D/\(∀i k,i<N->k<i->G3 nx ls D i k)/\(ae ld)=N/\(∀i,i<N->Vn D i (ld.getD i 0))/\ze nx ld N 256 aS cl /\
  mY ⟨cl,fun s k=>nx s (aS.getD k 0),ac,N,ae aS⟩ ld ws R (ae ws) 0/\U.C=ae aS/\U.N=ae ws/\(∀c,c<256->U.cls c=cl c)/\(∀j k,j<ae ws->k<ae aS->U.nx j k=R j k)/\∀j,j<ae ws->U.ac j=ac (ws.getD j 0)
def pE(nx:Nat->Nat->Int)(ac:Nat->Int)(N:Nat):bw:=⟨fun c=>c,nx,ac,N,256⟩
theorem Ap.iff(ap:uj nx ac N D)(sh:∀i k,i<N->k<i->G3 nx ls D i k)(ik:∀s c,s<N->c<256->-1<=nx s c/\nx s c<N)(jT:∀c,c<256->ls.getD c 0<256/\ls.getD (ls.getD c 0) 0=ls.getD c 0/\∀s,s<N->nx s (ls.getD c 0)=nx s c)(hi:i<N)(hk:k<N):(D i).testBit k=true↔Ap nx ac i k:=by
 refine⟨ap.sound i k hi hk,fun h=>?_⟩;have shut:∀i k,i<N->k<N->i≠k->(D i).testBit k=true\/∀c,c<256->ls.getD c 0=c->(nx i c<0↔nx k c<0)/\∀a b:Nat,nx i c=a->nx k c=b->(D a).testBit b=false:=fun i k hi hk cP=>by
  rcases eK k i with q|q
  .exact sh i k hi q
  .rcases sh k i hk (by omega)with z|z
   .left;rw[ap.sym i k hi hk];exact z
   .right;intro c h1 h2;refine⟨(z c h1 h2).1.symm,fun a b ha hb=>?_⟩;have:=(z c h1 h2).2 b a hb ha;have r1:=(ik i c hi h1).2;have r2:=(ik k c hk h1).2;rw[ap.sym a b (by omega) (by omega)];exact this
 induction h with
 |acc i k h=>exact ap.base i k hi hk h
 |nowhere i k c hc h =>
  have cP:i≠k:=fun e=>by rw[e]at h;exact h Iff.rfl
  rcases shut i k hi hk cP with q|q
  .exact q
  .obtain⟨e1,e2,e3⟩:=jT c hc;have:=(q _ e1 e2).1;rw[e3 i hi,e3 k hk]at this;exact absurd this h
 |step i k c a b hc ha hb zL ih =>
  have cP:i≠k:=fun e=>by rw[e,hb]at ha;exact zL.ne (by omega)
  have r1:=(ik i c hi hc).2;have r2:=(ik k c hk hc).2;rcases shut i k hi hk cP with q|q
  .exact q
  .obtain⟨e1,e2,e3⟩:=jT c hc;have:=(q _ e1 e2).2 a b (by rw[e3 i hi];exact ha) (by rw[e3 k hk];exact hb);rw[ih (by omega) (by omega)]at this;cases this
theorem OX(s:Nat):(pE nx ac N).o s []=ac s:=bw.L1 _ s
theorem yY(s c:Nat)(z:List Nat):(pE nx ac N).o s (c::z)=(pE nx ac N).o (nx s c) z:=bw.OO _ s c z
theorem an3(ik:∀s c,s<N->c<256->-1<=nx s c/\nx s c<N):∀(z:List Nat) (i k:Nat),lQ z->i<N->k<N->¬Ap nx ac i k->(pE nx ac N).o i z=(pE nx ac N).o k z:=by
 intro z;induction z with
 |nil =>
  intro i k _ hi hk h;rw[OX,OX];exact ur fun e=>h (.acc i k e)
 |cons c z ih =>
  intro i k hz hi hk h;have hc:=hz c (by simp);rw[yY,yY];have r1:=ik i c hi hc;have r2:=ik k c hk hc;have e:nx i c<0↔nx k c<0:=ur fun e=>h (.nowhere i k c hc e)
  by_cases q:nx i c<0
  .have q2:=e.1 q;rw[show nx i c=-1 by omega,show nx k c=-1 by omega]
  ·(obtain⟨a,ha⟩:∃a:Nat,nx i c=a:=⟨(nx i c).toNat,by omega⟩);(obtain⟨b,hb⟩:∃b:Nat,nx k c=b:=⟨(nx k c).toNat,by omega⟩);rw[ha,hb];exact ih a b (fun d hd=>hz d (by simp[hd])) (by omega) (by omega) (fun q=>h (.step i k c a b hc ha hb q))
theorem aiM(ik:∀s c,s<N->c<256->-1<=nx s c/\nx s c<N)(alive:∀s c,s<N->c<256->0<=nx s c->∃z,lQ z/\(pE nx ac N).o (nx s c) z≠-1){i k:Nat}(h:Ap nx ac i k)(hi:i<N)(hk:k<N):¬iJ (pE nx ac N) (i:Int) (k:Int):=by
 induction h with
 |acc i k h =>
  intro q;have:=q [] (fun c hc=>by simp at hc);rw[OX,OX]at this;exact h this
 |nowhere i k c hc h =>
  intro q;have r1:=ik i c hi hc;have r2:=ik k c hk hc;by_cases e1:nx i c<0
  .have e2:0<=nx k c:=by
    rcases Int.lt_or_le (nx k c) 0 with z|z
    .exact absurd ⟨fun _=>z,fun _=>e1⟩ h
    .exact z
   obtain⟨z,hz,cP⟩:=alive k c hk hc e2;have:=q (c::z) (hz.cons hc);rw[yY,yY,show nx i c=-1 by omega,bw.Ai]at this;exact cP this.symm
  .have e2:nx k c<0:=by
    rcases Int.lt_or_le (nx k c) 0 with z|z
    .exact z
    .exact absurd ⟨fun z=>absurd z e1,fun z=>by omega⟩ h
   obtain⟨z,hz,cP⟩:=alive i c hi hc (by omega);have:=q (c::z) (hz.cons hc);rw[yY,yY,show nx k c=-1 by omega,bw.Ai]at this;exact cP this
 |step i k c a b hc ha hb _ ih =>
  intro q;have r1:=ik i c hi hc;have r2:=ik k c hk hc;refine ih (by omega) (by omega) (fun z hz=>?_);have:=q (c::z) (hz.cons hc);rw[yY,yY,ha,hb]at this;exact this
end
end
section
variable{o:Obj}{g1 aP N:Nat}{ws:List Nat}{nums:List Int}
structure nY(W w:ay)(tb nb:Nat)(cA:Array aq)(ov vn va:aq)(C:Nat)(gs:List Nat)(rows:List (List Int))(aL:List Int)(ws:List Nat)(nums:List Int):Prop where
 k:Kp [tb] W w
 tab:jX w tb cA vn va C gs rows aL
 ord:w.ownsRow 0 3 1 ov (ae ws) (dy ws)
 num:w.heap[nb]?=some (iO nums)
 nlo:W.heap.size<=nb
 LU:∀g,ov.ownBlock=some g->W.heap.size<=g
 F9:∀g∈jf tb vn va gs,g=tb\/W.heap.size<=g
 dn:ov.ownBlock≠some nb
 dt:∀g∈jf tb vn va gs,g≠nb/\ov.ownBlock≠some g
section
variable{W w:ay}{tb nb:Nat}{cA:Array aq}{ov vn va:aq}{C:Nat}{gs:List Nat}{rows:List (List Int)}{aL:List Int}{ws:List Nat}{nums:List Int}
theorem nY.kp{w':ay}(h:nY W w tb nb cA ov vn va C gs rows aL ws nums)(hk:Kp [] w w'):nY W w' tb nb cA ov vn va C gs rows aL ws nums :=
 ⟨h.k.trans hk (by simp),h.tab.kp hk (by simp),aJ h.ord hk (by simp),hk.keep h.num (by simp),h.nlo,h.LU,h.F9,h.dn,h.dt⟩
theorem nY.sz(h:nY W w tb nb cA ov vn va C gs rows aL ws nums):W.heap.size<=w.heap.size:=h.k.size
theorem nY.other{rb:Nat}(h:nY W w tb nb cA ov vn va C gs rows aL ws nums)(hl:W.heap.size<=rb)(h1:rb∉jf tb vn va gs)(h2:rb≠nb)(h3:ov.ownBlock≠some rb)(o:Nat)(v:aq):nY W (w.setCell ⟨rb,o,none⟩ v) tb nb cA ov vn va C gs rows aL ws nums:=by
 have hk:Kp [rb] w (w.setCell ⟨rb,o,none⟩ v):=(Kp.refl _ w).set (by simp) _ _;exact⟨h.k.set (.inr hl) _ _,h.tab.kp hk (fun x hx=>by rw[bQ.1 hx];exact h1),aJ h.ord hk (fun g hg hm=>by rw[bQ.1 hm]at hg;exact h3 hg),hk.keep h.num (by simpa using fun e=>h2 e.symm),h.nlo,h.LU,h.F9,h.dn,h.dt⟩
theorem nY.agZ(h:nY W w tb nb cA ov vn va C gs rows aL ws nums)(i:Nat)(v:Int):nY W (w.setCell ⟨nb,i,none⟩ (.int .i64 v)) tb nb cA ov vn va C gs rows aL ws (nums.set i v):=by
 have hk:Kp [nb] w (w.setCell ⟨nb,i,none⟩ (.int .i64 v)):=(Kp.refl _ w).set (by simp) _ _;exact⟨h.k.set (.inr h.nlo) _ _,h.tab.kp hk (fun x hx hm=>by rw[bQ.1 hx]at hm;exact(h.dt _ hm).1 rfl),aJ h.ord hk (fun g hg hm=>by rw[bQ.1 hm]at hg;exact h.dn hg),tV h.num i v,h.nlo,h.LU,h.F9,h.dn,h.dt⟩
theorem nY.push{v':aq}{w3:ay}{x:Nat}(h:nY W w tb nb cA ov vn va C gs rows aL ws nums)(own:w3.ownsRow 0 3 1 v' (ws ++ [x]).length (dy (ws ++ [x])))(gr:(w.alloc o).grownBy w3 ov.ownBlock)(ha:v'.ownBlock=ov.ownBlock\/v'.ownBlock=some (w.alloc o).heap.size):nY W w3 tb nb cA v' vn va C gs rows aL (ws ++ [x]) nums/\Kp ov.ownBlock.toList w w3/\(v'.ownBlock=ov.ownBlock\/v'.ownBlock=some (w.heap.size+1)):=by
 have kA:Kp ov.ownBlock.toList w w3:=((Kp.refl _ w).alloc o).grown gr (fun k e=>.inl (by simp[e]));have sz:=h.sz;have ha':v'.ownBlock=ov.ownBlock\/v'.ownBlock=some (w.heap.size+1):=by
  rcases ha with e|e
  .exact .inl e
  .exact .inr (by rw[e,aM])
 refine⟨⟨h.k.trans kA (fun y hy=>.inr (h.LU y (by simpa using hy))),h.tab.kp kA (fun y hy hm=>(h.dt y hm).2 (by simpa using hy)),own,kA.keep h.num (fun hm=>h.dn (by simpa using hm)),h.nlo,fun g hg=>?_,h.F9,?_,fun g hg=>⟨(h.dt g hg).1,?_⟩⟩,kA,ha'⟩
 .rcases ha' with e|e
  .exact h.LU g (by rw[<-e];exact hg)
  .rw[e]at hg;simp only[aV]at hg;omega
 .rcases ha' with e|e
  .rw[e];exact h.dn
  .rw[e];have:=aE h.num;simp;omega
 .rcases ha' with e|e
  .rw[e];exact(h.dt g hg).2
  .rw[e];have:=h.tab.lt g hg;simp;omega
theorem nY.row{w3:ay}{g:Nat}{r:List Int}(h:nY W w tb nb cA ov vn va C gs rows aL ws nums)(hg:w.heap[g]?=some (iO r))(hr:(ae r)=C)(lu:W.heap.size<=g)(h1:g∉jf tb vn va gs)(h2:g≠nb)(h3:ov.ownBlock≠some g)(cT:w3.ownsRow 0 61 1 (.slice (some ⟨g1,0,none⟩) (ae gs+1) aP) (ae gs+1) (gs.map (rv C) ++ [rv C g]))(bj:(w.alloc o).grownBy w3 vn.ownBlock)(cy:vn.ownBlock=some g1\/g1=w.heap.size+1):nY W (w3.setCell ⟨tb,256,none⟩ (.slice (some ⟨g1,0,none⟩) (ae gs+1) aP)) tb nb cA ov (.slice (some ⟨g1,0,none⟩) (ae gs+1) aP) va C (gs ++ [g]) (rows ++ [r]) aL ws nums:=by
 obtain⟨t3,k3,f3⟩:=h.tab.Kg hg hr (fun e=>h1 (mc.2 (.inr (.inr (.inl e))))) cT bj cy;have sz:=h.sz;have ob:∀x∈jf tb vn va gs,ov.ownBlock≠some x:=fun x hx=>(h.dt x hx).2
 refine⟨h.k.trans k3 (fun y hy=>by rcases h.F9 y hy with e|e;exact .inl (by simp[e]);exact .inr e),t3,aJ h.ord k3 (fun x hx hm=>ob x hm hx),k3.keep h.num (fun hm=>(h.dt _ hm).1 rfl),h.nlo,h.LU,fun x hx=>?_,h.dn,fun x hx=>?_⟩
 .rcases f3 x hx with e|e|e
  .exact h.F9 x e
  .exact .inr (by rw[e];exact lu)
  .exact .inr (by omega)
 .rcases f3 x hx with e|e|e
  .exact h.dt x e
  .rw[e];exact⟨h2,h3⟩
  .refine⟨fun q=>?_,fun q=>?_⟩
   .have:=aE h.num;omega
   .have:=(h.ord.lt x q).2;omega
theorem nY.rule{w3:ay}{r:Int}(h:nY W w tb nb cA ov vn va C gs rows aL ws nums)(cT:w3.ownsRow 0 3 1 (.slice (some ⟨g1,0,none⟩) (ae aL+1) aP) (ae aL+1) (iv aL ++ [.int .i64 r]))(bj:(w.alloc o).grownBy w3 va.ownBlock)(cy:va.ownBlock=some g1\/g1=w.heap.size+1):nY W (w3.setCell ⟨tb,257,none⟩ (.slice (some ⟨g1,0,none⟩) (ae aL+1) aP)) tb nb cA ov vn (.slice (some ⟨g1,0,none⟩) (ae aL+1) aP) C gs rows (aL ++ [r]) ws nums:=by
 obtain⟨t3,k3,f3⟩:=h.tab.V2 cT bj cy;have sz:=h.sz;have ob:∀x∈jf tb vn va gs,ov.ownBlock≠some x:=fun x hx=>(h.dt x hx).2
 refine⟨h.k.trans k3 (fun y hy=>by rcases h.F9 y hy with e|e;exact .inl (by simp[e]);exact .inr e),t3,aJ h.ord k3 (fun x hx hm=>ob x hm hx),k3.keep h.num (fun hm=>(h.dt _ hm).1 rfl),h.nlo,h.LU,fun x hx=>?_,h.dn,fun x hx=>?_⟩
 .rcases f3 x hx with e|e
  .exact h.F9 x e
  .exact .inr (by omega)
 .rcases f3 x hx with e|e
  .exact h.dt x e
  .refine⟨fun q=>?_,fun q=>?_⟩
   .have:=aE h.num;omega
   .have:=(h.ord.lt x q).2;omega
end
structure GW(N:Nat)(ws:List Nat)(nums:List Int):Prop where
 len:(ae nums)=N
 o:∀a,a<N->a∉ws->nums.getD a 0=-1
 isn:∀(i a:Nat),ws[i]?=some a->nums.getD a 0=i
 lt:∀a∈ws,a<N
theorem GW.is(h:GW N ws nums){a:Nat}(ha:a<N):(nums.getD a 0=-1/\a∉ws)\/(∃i:Nat,nums.getD a 0=i/\ws[i]?=some a/\a∈ws):=by
 by_cases hm:a∈ws
 .obtain⟨i,hi,e⟩:=Df hm;have e2:ws[i]?=some a:=(by rw[bD hi,e]);exact .inr ⟨i,h.isn i a e2,e2,hm⟩
 .exact .inl ⟨h.o a ha hm,hm⟩
theorem GW.add(h:GW N ws nums){a:Nat}(ha:a<N)(hm:a∉ws):GW N (ws ++ [a]) (nums.set a (ae ws)):=by
 refine⟨by rw[mq];exact h.len,fun b hb hn=>?_,fun i b hi=>?_,fun b hb=>?_⟩
 .have cP:a≠b:=fun e=>hn (by simp[e])
  rw[tJ _ _ _ _ cP];exact h.o b hb (fun q=>hn (by simp[q]))
 .rw[List.getElem?_append]at hi;split at hi
  .have Sq:b∈ws:=List.mem_of_getElem? hi;rw[tJ _ _ _ _ (fun e=>hm (by rw[e];exact Sq))];exact h.isn i b hi
  .rename_i sE;have hl:=(List.getElem?_eq_some_iff.1 hi).1;simp only[iq]at hl;have e:i=ae ws:=(by omega);subst e;simp only[uw,List.getElem?_cons_zero,aV]at hi;subst hi;exact qV _ _ _ (by rw[h.len];exact ha)
 .rcases jr.1 hb with q|q
  .exact h.lt b q
  .rw[bQ.1 q];exact ha
end
end Go.Proofs.YtbjdkbcfpmeneaaGreat
