/- What is proved here: what slices.Clone and slices.Max of integers answer. -/
import Derived.Test.YtbjdkbcfpmeneaaGreatM01
import Derived.Deep.Cut
import Derived.Deep.OwnRows
open Array renaming ext_getElem?->xY,getElem?_eq_none->kP,getElem?_eq_some_iff->AF,getElem?_setIfInBounds->Mx,getElem?_setIfInBounds_ne->iH,getElem?_setIfInBounds_self_of_lt->xZ,getElem?_toList->uk,toList_push->ahB
open Go renaming Calls->aI,TypeId->cL,Value->aq,World->ay,bodyPost_ret->cF,heap_alloc_new->jS,info_parts->iw,maxLen->eB,results->eG,run_eql_map_nil->Mg,run_underlying->At,step_append_lies->wm,undef->eT,wp_region_lit->fD
open Go.Calls renaming quiet_of_same->Gl
open Go.Instr renaming lookup->rX,makeMap->aad,mapUpdate->Qo
open Go.IntKind renaming bits->qa,max->ac2,min->ac3,signed->qc
open Go.MapKept renaming run_getObj_map->adg
open Go.Maps renaming Keyed->JY
open Go.Maps.Keyed renaming of_law->adh
open Go.Program renaming keyLits->VI
open Go.Proofs.Tryz renaming prog->aB,underlying130->Nl,underlying131->aix,underlying141->yw,underlying146->EO,underlying147->aiy,underlying185->ER,underlying189->Nm,underlying3->ET,underlying61->qR,underlying65->QZ
open Go.Result renaming andThen->QM
open Go.RowKit renaming Below->dA
open Go.RowKit.Below renaming refl->kQ
open Go.Value renaming cells->uA,int->EV,oneCell'->dS,ownBlock->aK
open Go.World renaming heap_drewN->yx,news_of_block->gN,setCells->G8
open List renaming getD_eq_getElem?_getD->aO,getElem?_eq_getElem->bD,getElem?_eq_some_iff->fB,getElem?_map->kx,getElem?_of_mem->MW,length->ae,length_cons->Dg,mem_append->jr,mem_cons_of_mem->vq,mem_map->kY,mem_of_getElem?->qL,mem_singleton->bQ
open Nat renaming add_zero->yl,le_refl->aH,le_trans->j8,lt_of_lt_of_le->tC,ne_of_lt->bY,zero_add->yn,zero_le->bU
namespace Go.Proofs.YtbjdkbcfpmeneaaGreat
set_option linter.unusedVariables false
set_option linter.unusedSimpArgs false
set_option maxRecDepth 100000
set_option maxHeartbeats 16000000
open Go.RowKit
section
variable{b:Nat}
section
open Go.ChangeMaps Go.MapKept
def jW(w:ay)(b:Nat)(ks:List aq):Prop :=
 ∃es clock,w.heap[b]?=some (.map es clock)/\es.toList.map (·.key)=ks/\∀(i:Nat) (e:MapEntry),es.toList[i]?=some e->e.val=.int .i64 i
def ji(P:Program)(k:cL)(v:aq):Prop:=∃l,keyOf P k v=some l
theorem Yb(w:ay):jW (w.alloc (.map #[] 0)) w.heap.size []:=by
 refine⟨#[],0,(MapKept.heap_alloc w _).1,rfl,?_⟩;intro i e h;simp at h
theorem jW.lt{w:ay}{ks:List aq}(h:jW w b ks):b<w.heap.size:=by
 obtain⟨es,c,hb,_⟩:=h;exact(AF.1 hb).1
theorem jW.keep{w w':ay}{ks:List aq}(h:jW w b ks)(e:w'.heap[b]?=w.heap[b]?):jW w' b ks:=by
 obtain⟨es,c,hb,h2,h3⟩:=h;exact⟨es,c,e.trans hb,h2,h3⟩
section
variable{P:Program}{k t e:cL}
theorem T9(K:JY P k)(ht:P.underlying t=some (.map k e))(w:ay){b:Nat}{ks:List aq}(h:jW w b ks)(hk:∀v∈ks,ji P k v)(hn:ks.Nodup){x:aq}{i:Nat}(hx:ks[i]?=some x):(rX t (.map (some b)) x true).run P w=.ok (.tuple #[.int .i64 i,.bool true]) w:=by
 obtain⟨es,c,hb,h2,h3⟩:=h;obtain⟨l,hl⟩:=hk x (qL hx);rcases K.find w hl es.toList (fun e he=>hk e.key (by rw[<-h2];exact kY.2 ⟨e,he,rfl⟩))with⟨h1,h4⟩|⟨j,e0,h1,h4,h5⟩
 .have:x∈es.toList.map (·.key):=by rw[h2];exact qL hx
  obtain⟨e,he,q⟩:=kY.1 this;exact absurd q (h4 e he)
 .have hj:ks[j]?=some x:=by rw[<-h2,kx,h4,<-h5];rfl
  have hi:i<ae ks:=(fB.1 hx).1;have vN:i=j:=(List.getElem?_inj hi hn).1 (by rw[hx,hj]);subst vN;simp[rX,At ht,adg hb,K.check w _ hl,h1,QM,h3 i e0 h4]
theorem Ua(K:JY P k)(ht:P.underlying t=some (.map k e))(w:ay)(hz:(zeroValue e).run P w=.ok (.int .i64 0) w){b:Nat}{ks:List aq}(h:jW w b ks)(hk:∀v∈ks,ji P k v){x:aq}(hl:ji P k x)(hx:x∉ks):(rX t (.map (some b)) x true).run P w=.ok (.tuple #[.int .i64 0,.bool false]) w:=by
 obtain⟨es,c,hb,h2,h3⟩:=h;obtain⟨l,hl⟩:=hl;rcases K.find w hl es.toList (fun e he=>hk e.key (by rw[<-h2];exact kY.2 ⟨e,he,rfl⟩))with⟨h1,h4⟩|⟨j,e0,h1,h4,h5⟩
 .simp[rX,At ht,adg hb,K.check w _ hl,h1,QM,hz]
 .exact absurd (by rw[<-h2,<-h5];exact kY.2 ⟨e0,qL h4,rfl⟩) hx
theorem Ub(K:JY P k)(ht:P.underlying t=some (.map k e))(w:ay)(hz:(zeroValue e).run P w=.ok (.int .i64 0) w){x:aq}(hl:ji P k x):(rX t (.map none) x true).run P w=.ok (.tuple #[.int .i64 0,.bool false]) w:=by
 obtain⟨l,hl⟩:=hl;rcases K.find w hl [] (fun e he=>by simp at he)with⟨h1,_⟩|⟨j,e0,h1,h4,h5⟩
 .simp[rX,At ht,K.check w _ hl,h1,QM,hz]
 .simp at h4
theorem I7(K:JY P k)(ht:P.underlying t=some (.map k e))(w:ay){b:Nat}{ks:List aq}(h:jW w b ks)(hk:∀v∈ks,ji P k v){x:aq}(hl:ji P k x)(hx:x∉ks):∃o,(Qo t (.map (some b)) x (.int .i64 (ae ks))).run P w=.ok () (setBlock w b o)/\jW (setBlock w b o) b (ks ++ [x]):=by
 obtain⟨es,c,hb,h2,h3⟩:=h;obtain⟨l,hl⟩:=hl;rcases K.find w hl es.toList (fun e he=>hk e.key (by rw[<-h2];exact kY.2 ⟨e,he,rfl⟩))with⟨h1,h4⟩|⟨j,e0,h1,h4,h5⟩
 .refine⟨.map (es.push ⟨x,.int .i64 (ae ks),c⟩) (c+1),?_,es.push ⟨x,.int .i64 (ae ks),c⟩,c+1,heap_setBlock_same hb _,?_,?_⟩
  .simp[Qo,At ht,adg hb,K.check w false hl,h1,MapKept.run_setObj_map _ hb,QM,setBlock]
  .rw[ahB,List.map_append,h2];rfl
  .intro i e he;rw[ahB,List.getElem?_append]at he;split at he
   .exact h3 i e he
   .rename_i aN;(have dD:(ae es.toList)=ae ks:=by rw[<-h2,List.length_map]);have hi:i-(ae es.toList)=0:=by
     rcases Nat.eq_zero_or_pos (i-(ae es.toList))with q|q
     .exact q
     .rw[List.getElem?_eq_none (by simp only[List.length_singleton];omega)]at he;cases he
    rw[hi]at he;simp at he;subst he;show EV .i64 _=_;have:i=ae ks:=(by omega);rw[this]
 .exact absurd (by rw[<-h2,<-h5];exact kY.2 ⟨e0,qL h4,rfl⟩) hx
end
end
end
section
variable{a:Int}
abbrev cQ(a b:Int):aq:=.agg #[.int .i64 a,.int .i64 b]
theorem abP:laidOutB aB=true:=by kernel_rfl
theorem Iy:JY aB 185:=adh (deep_law_laid abP (m:=2) (by omega) (of_decide_eq_true (by kernel_rfl)) (by kernel_rfl) (by kernel_rfl))
theorem TL:JY aB 65:=adh (deep_law_laid abP (m:=2) (by omega) (of_decide_eq_true (by kernel_rfl)) (by kernel_rfl) (by kernel_rfl))
theorem Ov:JY aB 141:=adh (deep_law_laid abP (m:=3) (by omega) (of_decide_eq_true (by kernel_rfl)) (by kernel_rfl) (by kernel_rfl))
theorem TK:JY aB 3:=Maps.int_keyed (q:=.i64) ET
theorem acM:∃m,aB.types.size+1=m+3:=⟨aB.types.size-2,by have:3<=aB.types.size:=of_decide_eq_true (by kernel_rfl);omega⟩
abbrev dJ(a b:Nat):aq:=.agg #[.int .u64 (wd a 0),.int .u64 (wd a 1),.int .u64 (wd a 2),.int .u64 (wd a 3),.int .u64 (wd b 0),.int .u64 (wd b 1),.int .u64 (wd b 2),.int .u64 (wd b 3)]
theorem ao2(s i:Nat):(Lit.int .u64 (wd s i)).wf=true:=by
 have:wd s i<18446744073709551616:=by unfold wd;omega
 have:=ao1 s i;simp[Lit.wf,ac3,ac2,qa,qc];omega
theorem Pe(h1:-9223372036854775808<=a)(h2:a<=9223372036854775807):(Lit.int .i64 a).wf=true:=by
 simp[Lit.wf,ac3,ac2,qa,qc];omega
theorem alA(m:Nat){a:Int}(ha:(Lit.int .i64 a).wf=true):aB.keyLits (m+1) 3 [.int .i64 a]=some [.int .i64 a]:=by
 unfold VI;simp only[ET];rw[aA ⟨trivial,ha⟩]
theorem u64_lits(m s i:Nat):aB.keyLits (m+1) 63 [.int .u64 (wd s i)]=some [.int .u64 (wd s i)]:=by
 unfold VI;simp only[Tryz.underlying63];rw[aA ⟨trivial,ao2 s i⟩]
theorem agt{b:Int}(ha:(Lit.int .i64 a).wf=true)(hb:(Lit.int .i64 b).wf=true):ji aB 185 (cQ a b):=by
 have kt:aB.keyType 185=true:=(by kernel_rfl);have c1:aB.cellsOf 185=2:=(by kernel_rfl);have c2:aB.cellsOf 3=1:=(by kernel_rfl);have fm:(cQ a b).formed aB 185=true:=by
  simp[Value.formed,ER,c1]
 obtain⟨m,hm⟩:=acM;unfold ji keyOf;rw[hm];have kl:∃ls,aB.keyLits (m+3) 185 (cQ a b).cells.toList=some ls:=by
  unfold VI;simp only[ER,c1,uA];simp[c2,alA,ha,hb]
 obtain⟨ls,kl⟩:=kl;simp only[ER,kt,fm,kl];exact⟨_,rfl⟩
theorem acp(m s:Nat):aB.keyLits (m+2) 65 [.int .u64 (wd s 0),.int .u64 (wd s 1),.int .u64 (wd s 2),.int .u64 (wd s 3)]=some [.int .u64 (wd s 0),.int .u64 (wd s 1),.int .u64 (wd s 2),.int .u64 (wd s 3)]:=by
 have c1:aB.cellsOf 65=4:=(by kernel_rfl);have c2:aB.cellsOf 63=1:=(by kernel_rfl);unfold VI;simp only[QZ,c1];simp[c2,u64_lits,List.range,List.range.loop]
theorem aoh(s:Nat):ji aB 65 (cG s):=by
 have kt:aB.keyType 65=true:=(by kernel_rfl);have c1:aB.cellsOf 65=4:=(by kernel_rfl);have fm:(Value.agg #[.int .u64 (wd s 0),.int .u64 (wd s 1),.int .u64 (wd s 2),.int .u64 (wd s 3)]).formed aB 65=true:=by
  simp[Value.formed,QZ,c1]
 obtain⟨m,hm⟩:=acM;unfold ji keyOf;rw[hm];have kl:=acp (m+1) s;simp only[QZ,kt,fm,uA,kl];exact⟨_,rfl⟩
theorem acy(a b:Nat):ji aB 141 (dJ a b):=by
 have kt:aB.keyType 141=true:=(by kernel_rfl);have c1:aB.cellsOf 65=4:=(by kernel_rfl);have c2:aB.cellsOf 141=8:=(by kernel_rfl);have fm:(dJ a b).formed aB 141=true:=by
  simp[Value.formed,yw,c2]
 obtain⟨m,hm⟩:=acM;unfold ji keyOf;rw[hm];have k1:=acp m a;have k2:=acp m b;have kl:∃ls,aB.keyLits (m+3) 141 (dJ a b).cells.toList=some ls:=by
  unfold VI;simp only[yw,c2,uA];simp[c1,k1,k2]
 obtain⟨ls,kl⟩:=kl;simp only[yw,kt,fm,kl];exact⟨_,rfl⟩
theorem afE(ha:(Lit.int .i64 a).wf=true):ji aB 3 (.int .i64 a):=⟨_,Maps.keyOf_int_mk ET ha⟩
end
section
variable{sz off mb B:Nat}{o:Obj}
section
open Go.RowKit Go.ChangeMaps
def n6(ks:List aq):List aq:=ks.flatMap fun v=>v.cells.toList
theorem ajp(ks:List aq)(x:aq):n6 (ks ++ [x])=n6 ks++x.cells.toList:=by simp[n6]
theorem aaT{n:Nat}:∀ {ks:List aq} {i j:Nat} {x:aq},(∀v∈ks,v.cells.size=n)->ks[i]?=some x->j<n->(n6 ks)[i*n+j]?=x.cells[j]?:=by
 intro ks;induction ks with
 |nil=>intro i j x _ h;simp at h
 |cons a l ih =>
  intro i j x hn hx hj;have ha:(ae a.cells.toList)=n:=by rw[Array.length_toList];exact hn a (by simp)
  have e:n6 (a::l)=a.cells.toList++n6 l:=(by simp[n6]);rw[e];cases i with
  |zero =>
   simp at hx;subst hx;rw[Nat.zero_mul,yn,List.getElem?_append_left (by omega),uk]
  |succ i =>
   rw[List.getElem?_append_right (by rw[ha,Nat.succ_mul];omega),ha];have:=ih (fun v hv=>hn v (by simp[hv])) (i:=i) (by simpa using hx) hj;rw[<-this];congr 1;rw[Nat.succ_mul];omega
structure gy(w:ay)(T:cL)(sz:Nat)(vm vs:aq)(ks:List aq):Prop where
 map:(vm=.map none/\ks=[])\/∃mb,vm=.map (some mb)/\jW w mb ks
 row:w.ownsRow 0 T sz vs (ae ks) (n6 ks)
 nodup:ks.Nodup
 key:∀v∈ks,ji aB T v
 sizes:∀v∈ks,v.cells.size=sz
def CB:aq->List Nat
 |.map (some b)=>[b]
 |_=>[]
def dV(vm vs:aq):List Nat:=CB vm++vs.ownBlock.toList
theorem ju{vm vs:aq}{g:Nat}:g∈dV vm vs↔vm=.map (some g)\/vs.ownBlock=some g:=by
 unfold dV;rw[jr];refine or_congr ?_ ?_
 .unfold CB;split
  .rename_i b;rw[bQ];constructor
   .rintro rfl;rfl
   .intro e;cases e;rfl
  .rename_i h;constructor
   .intro e;simp at e
   .intro e;exact absurd e (h g)
 .cases vs.ownBlock<;>simp[eq_comm]
theorem gy.kp{w w':ay}{T:cL}{vm vs:aq}{ks:List aq}{xs:List Nat}(h:gy w T sz vm vs ks)(hk:Kp xs w w')(hx:∀k∈xs,k∉dV vm vs):gy w' T sz vm vs ks:=by
 refine⟨?_,aJ h.row hk (fun g e hm=>hx g hm (ju.2 (.inr e))),h.nodup,h.key,h.sizes⟩;rcases h.map with q|⟨mb,rfl,q⟩
 .exact .inl q
 .exact .inr ⟨mb,rfl,q.keep (hk.block mb q.lt (fun hm=>hx mb hm (ju.2 (.inl rfl))))⟩
theorem gy.lt{w:ay}{T:cL}{vm vs:aq}{ks:List aq}(h:gy w T sz vm vs ks):∀g∈dV vm vs,g<w.heap.size:=by
 intro g hg;rcases ju.1 hg with rfl|e
 .rcases h.map with⟨q,_⟩|⟨mb,q,r⟩
  .cases q
  .cases q;exact r.lt
 .exact(h.row.lt g e).2
theorem gy.apart{w:ay}{T:cL}{vs:aq}{ks:List aq}(h:gy w T sz (.map (some mb)) vs ks):vs.ownBlock≠some mb:=by
 intro e;rcases h.map with⟨q,_⟩|⟨m,q,es,cl,r,_⟩
 .cases q
 .cases q;rcases h.row.2 with⟨q2,_⟩|⟨g,cap,cur,q2,_,q3,_⟩
  .rw[q2]at e;simp[aK]at e
  .rw[q2]at e;simp[aK]at e;rw[e,r]at q3;cases q3
open Classical in
noncomputable def jF (ks:List aq) (x:aq):List aq:=if x∈ks then ks else ks ++ [x]
theorem uC{ks:List aq}{x:aq}(h:x∈ks):jF ks x=ks:=aA h
theorem sj{ks:List aq}{x:aq}(h:x∉ks):jF ks x=ks ++ [x]:=az h
theorem Ja{w:ay}{b:Nat}(h:b<w.heap.size):Kp [b] w (setBlock w b o):=by
 refine⟨rfl,rfl,rfl,by simp[setBlock],fun k hk hx=>?_⟩;simp only[setBlock];rw[iH (by intro e;exact hx (by simp[e]))]
abbrev D4(c:Array aq)(off:Nat)(vm vs:aq):Array aq:=(c.setIfInBounds off vm).setIfInBounds (off+1) vs
theorem YC{c:Array aq}{i:Nat}{v:aq}(h:c[i]?=some v):c.setIfInBounds i v=c:=by
 apply xY;intro k;rw[Mx];by_cases e:i=k
 .subst e;rw[aA rfl,aA (AF.1 h).1];exact h.symm
 .rw[az e]
structure rZ(B off:Nat)(c:Array aq)(tB T:cL)(sz:Nat)(vm vs:aq)(ks:List aq)(w:ay)(gK vs':aq)(ks':List aq)(w':ay):Prop where
 blk:w'.heap[B]?=some (.cells (D4 c off gK vs') tB (0,0))
 ok:gy w' T sz gK vs' ks'
 kp:Kp (B::dV vm vs) w w'
 foot:∀g∈dV gK vs',g∈dV vm vs\/w.heap.size<=g
theorem aoL{c:Array aq}{vm vs:aq}(h0:c[off]?=some vm)(h1:c[off+1]?=some vs):D4 c off vm vs=c:=by
 apply xY;intro i;simp only[D4,Mx];have l0:=(AF.1 h0).1;have l1:=(AF.1 h1).1;by_cases e:off+1=i
 .subst e;rw[aA rfl,aA (by simpa using l1)];exact h1.symm
 .rw[az e];by_cases e2:off=i
  .subst e2;rw[aA rfl,aA l0];exact h0.symm
  .rw[az e2]
theorem IT{c c2:Array aq}{tB T:cL}{Y3 vs:aq}{ks:List aq}{x:aq}{w W2 w3:ay}{g1 aP:Nat}(lB:B<w.heap.size)(gV:Kp (B::dV Y3 vs) w W2)(fm:.map (some mb)=Y3\/w.heap.size<=mb)(zE:W2.heap[B]?=some (.cells c2 tB (0,0)))(hc:∀v,c2.setIfInBounds (off+1) v=D4 c off (.map (some mb)) v)(nd:ks.Nodup)(ky:∀v∈ks,ji aB T v)(ks0:∀v∈ks,v.cells.size=sz)(DN:x.cells.size=sz)(MN:jW W2 mb (ks ++ [x]))(hx:x∉ks)(hk:ji aB T x)(lv:∀g,vs.ownBlock=some g->g<w.heap.size)(nB:vs.ownBlock≠some B)(nm:vs.ownBlock≠some mb)(mB:mb≠B)(cT:w3.ownsRow 0 T sz (.slice (some ⟨g1,0,none⟩) (ae ks+1) aP) (ae ks+1) (n6 ks++x.cells.toList))(bj:(W2.alloc o).drew.grownBy w3 vs.ownBlock)(cy:vs.ownBlock=some g1\/g1=W2.heap.size+1):rZ B off c tB T sz Y3 vs ks w (.map (some mb)) (.slice (some ⟨g1,0,none⟩) (ae ks+1) aP) (ks ++ [x]) (w3.setCell ⟨B,off+1,none⟩ (.slice (some ⟨g1,0,none⟩) (ae ks+1) aP)):=by
 have kA:Kp [] W2 (W2.alloc o).drew:=((Kp.refl [] W2).alloc _).drew;have b3:=fY bj (kA.keep zE (by simp)) nB;have YM:=gV.size;have lm2:=MN.lt;have g1B:g1≠B:=by rintro rfl;rcases cy with e|e;exact nB e;omega
 have g1m:g1≠mb:=by rintro rfl;rcases cy with e|e;exact nm e;omega
 have k3:Kp (B::dV Y3 vs) w w3:=(gV.trans kA (by simp)).grown bj (fun k e=>.inl (vq _ (ju.2 (.inr e))));have kS:Kp [B] w3 (w3.setCell ⟨B,off+1,none⟩ (.slice (some ⟨g1,0,none⟩) (ae ks+1) aP)):=(Kp.refl _ _).set (by simp) _ _;refine⟨?_,⟨.inr ⟨mb,rfl,?_⟩,?_,?_,?_,?_⟩,?_,?_⟩
 .rw[aQ,aA rfl,b3];show some (Mm _ _ _)=_;rw[eD,hc]
 .refine MN.keep ?_;rw[aQ,az mB,bj.block mb (by rw[jo,aM];omega) (fun e=>nm e.symm),eO,aC,az (bY lm2)]
 .rw[List.length_append,ajp];exact aJ cT kS (by intro g e;simp only[aK,Option.some.injEq]at e;subst e;simp[g1B])
 .rw[List.nodup_append];refine⟨nd,by simp,fun p hp q hq e=>?_⟩;rw[bQ.1 hq]at e;exact hx (e ▸ hp)
 .intro v hv;rcases jr.1 hv with q|q
  .exact ky v q
  .rw[bQ.1 q];exact hk
 .intro v hv;rcases jr.1 hv with q|q
  .exact ks0 v q
  .rw[bQ.1 q];exact DN
 .exact k3.trans kS (by simp)
 .intro g hg;rcases ju.1 hg with e|e
  .cases e;rcases fm with q|q
   .exact .inl (ju.2 (.inl q.symm))
   .exact .inr q
  .simp only[aK,Option.some.injEq]at e;subst e;rcases cy with q|q
   .exact .inl (ju.2 (.inr q))
   .right;omega
theorem Yc{c:Array aq}{tB T:cL}{vm vs:aq}{ks:List aq}{w w':ay}(hB:w.heap[B]?=some (.cells c tB (0,0)))(h0:c[off]?=some vm)(h1:c[off+1]?=some vs)(hN:gy w T sz vm vs ks)(hb:dA w.heap.size w w'):rZ B off c tB T sz vm vs ks w vm vs ks w':=by
 have k:=(Kp.refl [] w).below hb;exact⟨by rw[aoL h0 h1];exact k.keep hB (by simp),hN.kp k (by simp),k.mono (by simp),fun g hg=>.inl hg⟩
abbrev jB(a b:Int):Obj:=.cells #[.int .i64 a,.int .i64 b] 185 (0,0)
theorem D5(w:ay):(zeroValue 3).run aB w=.ok (.int .i64 0) w:=by
 have hz:Tryz.t3.zero=some (.int .i64 0):=(by kernel_rfl);simp[go_sem,zeroValue,hz]
end
end
section
open Go.RowKit Go.ChangeMaps
theorem afD:(aB.info? 141).map (fun i=>(i.zero,i.size,i.bytes))=some (some (.agg #[.int .u64 0,.int .u64 0,.int .u64 0,.int .u64 0,.int .u64 0,.int .u64 0,.int .u64 0,.int .u64 0]),8,64):=by kernel_rfl
abbrev dZ(a b:Nat):Obj:=.cells #[.int .u64 (wd a 0),.int .u64 (wd a 1),.int .u64 (wd a 2),.int .u64 (wd a 3),.int .u64 (wd b 0),.int .u64 (wd b 1),.int .u64 (wd b 2),.int .u64 (wd b 3)] 141 (0,0)
theorem pe{w:ay}{b:Nat}{x0 x1 x2 x3 x4 x5 x6 x7:aq}{e:cL}(h:w.heap[b]?=some (.cells #[x0,x1,x2,x3,x4,x5,x6,x7] e (0,0))):w.cell? ⟨b,0,none⟩=some x0/\w.cell? ⟨b,1,none⟩=some x1/\w.cell? ⟨b,2,none⟩=some x2/\w.cell? ⟨b,3,none⟩=some x3/\w.cell? ⟨b,4,none⟩=some x4/\w.cell? ⟨b,5,none⟩=some x5/\w.cell? ⟨b,6,none⟩=some x6/\w.cell? ⟨b,7,none⟩=some x7/\w.frozen? ⟨b,0,none⟩=false/\w.frozen? ⟨b,1,none⟩=false/\w.frozen? ⟨b,2,none⟩=false/\w.frozen? ⟨b,3,none⟩=false/\w.frozen? ⟨b,4,none⟩=false/\w.frozen? ⟨b,5,none⟩=false/\w.frozen? ⟨b,6,none⟩=false/\w.frozen? ⟨b,7,none⟩=false :=
 ⟨by rw[aF h];rfl,by rw[aF h];rfl,by rw[aF h];rfl,by rw[aF h];rfl,by rw[aF h];rfl,by rw[aF h];rfl,by rw[aF h];rfl,by rw[aF h];rfl,cM h _,cM h _,cM h _,cM h _,cM h _,cM h _,cM h _,cM h _⟩
theorem amH(B off:Nat)(c:Array aq)(tB:cL)(vm vs:aq)(ks:List aq)(a b:Nat)(i:Nat)(w:ay)(hB:w.heap[B]?=some (.cells c tB (0,0)))(h0:c[off]?=some vm)(h1:c[off+1]?=some vs)(hN:gy w 141 8 vm vs ks)(hi:ks[i]?=some (dJ a b)):aI aB 80 #[.pointer (some ⟨B,off,none⟩),dJ a b] w fun e w'=>e=.returned (.int .i64 i)/\dA w.heap.size w w':=by
 obtain⟨mb,rfl,hm⟩:∃mb,vm=.map (some mb)/\jW w mb ks:=by
  rcases hN.map with⟨_,q⟩|q
  .rw[q]at hi;simp at hi
  .exact q
 have c0:w.cell? ⟨B,off,none⟩=some (.map (some mb)):=by rw[aF hB];exact h0
 have lB:=aE hB;have lm:=hm.lt;have hl:∀o,(rX 130 (.map (some mb)) (dJ a b) true).run aB (w.alloc o).drew=.ok (.tuple #[.int .i64 i,.bool true]) (w.alloc o).drew:=fun o =>
  T9 Ov Nl _ (hm.keep (by rw[eO,aC,az (bY lm)])) hN.key hN.nodup hi
 clear hm hN hi h0 h1 hB;go_enter Tryz.func80,Tryz.ntmps80;go_wp2_with fail;go_region
 all_goals
  go_wp2;go_ret;exact⟨rfl,((kQ _ _).alloc (aH _) _).drew⟩
theorem amJ(B off:Nat)(c:Array aq)(tB:cL)(mb:Nat)(vs:aq)(ks:List aq)(a b:Nat)(w:ay)(hB:w.heap[B]?=some (.cells c tB (0,0)))(h0:c[off]?=some (.map (some mb)))(h1:c[off+1]?=some vs)(hN:gy w 141 8 (.map (some mb)) vs ks)(hx:dJ a b∉ks)(hk:ji aB 141 (dJ a b))(iC:B∉dV (.map (some mb)) vs)(dD:(ae ks)<100000):aI aB 80 #[.pointer (some ⟨B,off,none⟩),dJ a b] w fun e w'=>e=.returned (.int .i64 (ae ks))/\∃vs',rZ B off c tB 141 8 (.map (some mb)) vs ks w (.map (some mb)) vs' (ks ++ [dJ a b]) w':=by
 have hm:jW w mb ks:=by
  rcases hN.map with⟨q,_⟩|⟨m,q,r⟩
  .cases q
  .cases q;exact r
 have c0:w.cell? ⟨B,off,none⟩=some (.map (some mb)):=by rw[aF hB];exact h0
 have lB:=aE hB;have lm:=hm.lt;have mB:mb≠B:=fun e=>iC (ju.2 (.inl (by rw[e])))
 have hl:∀o,(rX 130 (.map (some mb)) (dJ a b) true).run aB (w.alloc o).drew=.ok (.tuple #[.int .i64 0,.bool false]) (w.alloc o).drew:=fun o =>
  Ua Ov Nl _ (D5 _) (hm.keep (by rw[eO,aC,az (bY lm)])) hN.key hk hx
 obtain⟨HN,HB,HM,H0,H1⟩:=jd hN hB hm h0 h1;have uK:∃a cap,vs=.slice a (ae ks) cap:=by
  rcases hN.row.2 with⟨rfl,e⟩|⟨g,cap,cur,rfl,_⟩
  .rw[e];exact⟨_,_,rfl⟩
  .exact⟨_,_,rfl⟩
 obtain⟨av,dG,rfl⟩:=uK;obtain⟨i0,cS,dc,dm,cW⟩:=iw afD;clear hm hN h0 h1 hB;go_enter Tryz.func80,Tryz.ntmps80;go_upto_region 1 with fail;go_region
 all_goals
  have kW:Kp [] w (w.alloc (dZ a b)).drew:=((Kp.refl [] w).alloc _).drew;have bX:(w.alloc (dZ a b)).drew.heap[w.heap.size]?=some (dZ a b):=(by rw[eO,aC,aA rfl]);generalize (w.alloc (dZ a b)).drew=W at *;have lX:=aE bX;have bB:=kW.keep HB.o (by simp);have mW:jW W mb ks:=HM.o.keep (kW.block mb lm (by simp));have b0:W.cell? ⟨B,off,none⟩=some (.map (some mb)):=by rw[aF bB];exact H0.o
  have b1:W.cell? ⟨B,off+1,none⟩=some (.slice av (ae ks) dG):=by rw[aF bB];exact H1.o
  obtain⟨x0,x1,x2,x3,x4,x5,x6,x7,_⟩:=pe bX;have tS:=fun w r=>Mg (P:=aB) w 130 _ _ r Nl
  obtain⟨o,hu,mN⟩:=I7 Ov Nl W.drew (show jW W.drew mb ks from mW) HN.o.key hk hx;obtain⟨KW,BX,BB,MN⟩:=dH kW bX bB mN;clear c0 hl mW kW bX bB mN;go_upto_region 7 with fail;go_region
  all_goals
   have T0:mb<W.heap.size:=tC lm KW.o.size;have k2:Kp [mb] W (setBlock W.drew mb o):=(Kp.refl [mb] W).drew.trans (Ja (w:=W.drew) (b:=mb) (o:=o) T0) (by simp);have mN:=MN.o;generalize setBlock W.drew mb o=W2 at *;have bB:=k2.keep BB.o (by simp;exact fun e=>mB e.symm);have bX:=k2.keep BX.o (by simp;omega);have oV:W2.ownsRow 0 141 8 (.slice av (ae ks) dG) (ae ks) (n6 ks):=aJ (aJ HN.o.row KW.o (by simp)) k2 (by
    intro g e hm;simp at hm;subst hm;exact HN.o.apart e)
   obtain⟨K2,Jo,mS,RW,vu⟩:=jd k2 bX bB oV mN;clear b0 b1 x0 x1 x2 x3 x4 x5 x6 x7 hu MN BB BX tS;(have b1:W2.cell? ⟨B,off+1,none⟩=some (.slice av (ae ks) dG):=by rw[aF bB];exact H1.o);obtain⟨x0,x1,x2,x3,x4,x5,x6,x7,_⟩:=pe bX;have TU:=aE bX;have oe:=aE bB;have Sz:∀o,(W2.alloc o).drew.frozen? ⟨B,off+1,none⟩=false:=fun o=>by
    (have:(W2.alloc o).drew.heap[B]?=some (.cells c tB (0,0)):=by rw[eO,aC,az (bY oe)];exact bB);exact cM this _
   clear bB bX oV k2 mN;go_wp2_with fail;go_region_law
    ((refine wm _ (by rfl) _ _ _ (by rfl) 0 141 i0 _ 8 64 aix cS dc dm cW rfl (by omega) (.slice av (ae ks) dG) (ae ks) (n6 ks) (by rfl) ((RW.o.alloc _).drew) ⟨W2.heap.size,0,none⟩ 1 1 [.int .u64 (wd a 0),.int .u64 (wd a 1),.int .u64 (wd a 2),.int .u64 (wd a 3),.int .u64 (wd b 0),.int .u64 (wd b 1),.int .u64 (wd b 2),.int .u64 (wd b 3)] (by rfl) (by rfl) (gN (cs:=#[.int .u64 (wd a 0),.int .u64 (wd a 1),.int .u64 (wd a 2),.int .u64 (wd a 3),.int .u64 (wd b 0),.int .u64 (wd b 1),.int .u64 (wd b 2),.int .u64 (wd b 3)]) (t:=141) (fr:=(0,0)) (jS W2 _)) (by simp[dS]) (by omega) (by unfold eB;omega) (by omega) (by simp) (W2.heap.size+1) (by simp) ?_;intro g1 aP w3 cT bj cy iz;have LM:w3.frozen? ⟨B,off+1,none⟩=false:=(cM (fY bj (b:=B) (by rw[eO,aC,az (bY oe)];exact mS.o) (fun e=>iC (ju.2 (.inr e)))) _);have nc:w3.cell? ⟨B,off+1,none⟩=some (.slice av (ae ks) dG):=(by rw[aF (fY bj (b:=B) (by rw[eO,aC,az (bY oe)];exact mS.o) (fun e=>iC (ju.2 (.inr e))))];exact H1.o)))
   all_goals
    go_wp2;go_ret;exact⟨rfl,_,IT lB ((KW.o.mono (by simp)).trans K2.o (by intro y hy;simp at hy;subst hy;exact .inl (vq _ (ju.2 (.inl rfl))))) (.inl rfl) mS.o (fun v=>by rw[D4,YC H0.o]) HN.o.nodup HN.o.key HN.o.sizes rfl vu.o hx hk
     (fun g e=>HN.o.lt g (ju.2 (.inr e))) (fun e=>iC (ju.2 (.inr e))) HN.o.apart mB cT bj cy⟩
theorem amI(B off:Nat)(c:Array aq)(tB:cL)(vs:aq)(a b:Nat)(w:ay)(hB:w.heap[B]?=some (.cells c tB (0,0)))(h0:c[off]?=some (.map none))(h1:c[off+1]?=some vs)(hN:gy w 141 8 (.map none) vs [])(hk:ji aB 141 (dJ a b))(iC:B∉dV (.map none) vs):aI aB 80 #[.pointer (some ⟨B,off,none⟩),dJ a b] w fun e w'=>e=.returned (.int .i64 0)/\∃mb vs',rZ B off c tB 141 8 (.map none) vs [] w (.map (some mb)) vs' [dJ a b] w':=by
 have c0:w.cell? ⟨B,off,none⟩=some (.map none):=by rw[aF hB];exact h0
 have lB:=aE hB;have hl:∀w',(rX 130 (.map none) (dJ a b) true).run aB w'=.ok (.tuple #[.int .i64 0,.bool false]) w':=fun w' =>
  Ub Ov Nl _ (D5 _) hk
 obtain⟨HN,HB,H0,H1⟩:=dH hN hB h0 h1;have uK:∃a cap,vs=.slice a 0 cap:=by
  rcases hN.row.2 with⟨rfl,e⟩|⟨g,cap,cur,rfl,_⟩
  .exact⟨_,_,rfl⟩
  .exact⟨_,_,rfl⟩
 obtain⟨av,dG,rfl⟩:=uK;obtain⟨i0,cS,dc,dm,cW⟩:=iw afD;clear hN h0 h1 hB;go_enter Tryz.func80,Tryz.ntmps80;go_upto_region 1 with fail;go_region
 all_goals
  have kW:Kp [] w (w.alloc (dZ a b)).drew:=((Kp.refl [] w).alloc _).drew;have bX:(w.alloc (dZ a b)).drew.heap[w.heap.size]?=some (dZ a b):=(by rw[eO,aC,aA rfl]);generalize (w.alloc (dZ a b)).drew=W at *;have lX:=aE bX;have bB:=kW.keep HB.o (by simp);have IA:=aE bB;have b0:W.cell? ⟨B,off,none⟩=some (.map none):=by rw[aF bB];exact H0.o
  have f0:=cM bB off;have tS:=fun w r=>Mg (P:=aB) w 130 _ _ r Nl
  obtain⟨KW,BX,BB⟩:=cR kW bX bB;have ig:(aad 130 none).run aB W=.ok (.map (some W.heap.size)) (W.alloc (.map #[] 0)):=run_makeMap _ W;have qi:(W.alloc (.map #[] 0)).heap[B]?=some (.cells c tB (0,0)):=by rw[aC,az (bY IA)];exact bB
  have d0:(W.alloc (.map #[] 0)).cell? ⟨B,off,none⟩=some (.map none):=by rw[aF qi];exact H0.o
  have d1:=cM qi off;clear c0 hl kW bX bB qi;go_upto_region 6 with fail;have kM:Kp [B] W ((W.setCell ⟨B,off,none⟩ (.map (some W.heap.size))).alloc (.map #[] 0)):=((Kp.refl [B] W).set (by simp) _ _).alloc _;have bB:((W.setCell ⟨B,off,none⟩ (.map (some W.heap.size))).alloc (.map #[] 0)).heap[B]?=some (.cells (c.setIfInBounds off (.map (some W.heap.size))) tB (0,0)):=by
   rw[aC,iA,az (bY IA),aQ,aA rfl,BB.o];rfl
  have mW:jW ((W.setCell ⟨B,off,none⟩ (.map (some W.heap.size))).alloc (.map #[] 0)) W.heap.size []:=by
   have:=Yb (W.setCell ⟨B,off,none⟩ (.map (some W.heap.size)));rw[iA]at this;exact this
  generalize (W.setCell ⟨B,off,none⟩ (.map (some W.heap.size))).alloc (.map #[] 0)=W1 at *;generalize Od:W.heap.size=mb at *;have bX:=kM.keep BX.o (by simp;omega);obtain⟨o,hu,mN⟩:=I7 Ov Nl W1.drew (show jW W1.drew mb [] from mW) (by simp) hk (by simp);have hu:(Qo 130 (.map (some mb)) (dJ a b) (.int .i64 0)).run aB W1.drew=.ok () (setBlock W1.drew mb o):=hu;have l0:=(AF.1 H0.o).1;have l1:=(AF.1 H1.o).1;have Ki:W1.cell? ⟨B,off,none⟩=some (.map (some mb)):=(by rw[aF bB,xZ l0]);have b1':W1.cell? ⟨B,off+1,none⟩=some (.slice av 0 dG):=by rw[aF bB,iH (by omega)];exact H1.o
  obtain⟨x0,x1,x2,x3,x4,x5,x6,x7,_⟩:=pe bX;obtain⟨KM,Gj,p8,MN⟩:=dH kM bX bB mN;have LD:=mW.lt;clear b0 f0 d0 d1 ig kM bX bB mW mN BX BB;go_upto_region 7 with fail;go_region
  all_goals
   have k2:Kp [mb] W1 (setBlock W1.drew mb o):=(Kp.refl [mb] W1).drew.trans (Ja (w:=W1.drew) (b:=mb) (o:=o) LD) (by simp);have mN:=MN.o;generalize setBlock W1.drew mb o=W2 at *;have bB:=k2.keep p8.o (by simp;omega);have bX:=k2.keep Gj.o (by simp;omega);(have fl:∀g,aK (.slice av 0 dG)=some g->g<w.heap.size:=fun g e=>HN.o.lt g (ju.2 (.inr e)));(have nB:aK (.slice av 0 dG)≠some B:=fun e=>iC (ju.2 (.inr e)));have oV:W2.ownsRow 0 141 8 (.slice av 0 dG) 0 []:=aJ (aJ (aJ HN.o.row KW.o (by simp)) KM.o (by intro g e hm;simp at hm;subst hm;exact nB e)) k2 (by
    intro g e hm;simp at hm;have:=fl g e;omega)
   obtain⟨K2,Jo,mS,RW,vu⟩:=jd k2 bX bB oV mN;clear Ki b1' x0 x1 x2 x3 x4 x5 x6 x7 hu MN p8 Gj tS;(have b1:W2.cell? ⟨B,off+1,none⟩=some (.slice av 0 dG):=by rw[aF bB,iH (by omega)];exact H1.o);obtain⟨x0,x1,x2,x3,x4,x5,x6,x7,_⟩:=pe bX;have TU:=aE bX;have oe:=aE bB;clear bB bX oV k2 mN;go_wp2_with fail;go_region_law
    ((refine wm _ (by rfl) _ _ _ (by rfl) 0 141 i0 _ 8 64 aix cS dc dm cW rfl (by omega) (.slice av 0 dG) 0 [] (by rfl) ((RW.o.alloc _).drew) ⟨W2.heap.size,0,none⟩ 1 1 [.int .u64 (wd a 0),.int .u64 (wd a 1),.int .u64 (wd a 2),.int .u64 (wd a 3),.int .u64 (wd b 0),.int .u64 (wd b 1),.int .u64 (wd b 2),.int .u64 (wd b 3)] (by rfl) (by rfl) (gN (cs:=#[.int .u64 (wd a 0),.int .u64 (wd a 1),.int .u64 (wd a 2),.int .u64 (wd a 3),.int .u64 (wd b 0),.int .u64 (wd b 1),.int .u64 (wd b 2),.int .u64 (wd b 3)]) (t:=141) (fr:=(0,0)) (jS W2 _)) (by simp[dS]) (by omega) (by unfold eB;omega) (by omega) (by simp) (W2.heap.size+1) (by simp) ?_;intro g1 aP w3 cT bj cy iz;have q3:=fY bj (b:=B) (by rw[eO,aC,az (bY oe)];exact mS.o) nB;have LM:w3.frozen? ⟨B,off+1,none⟩=false:=cM q3 _;have nc:w3.cell? ⟨B,off+1,none⟩=some (.slice av 0 dG):=(by rw[aF q3,iH (by omega)];exact H1.o);clear q3))
   all_goals
    go_wp2;go_ret;refine⟨rfl,mb,_,IT (ks:=[]) (x:=dJ a b) lB (((KW.o.mono (by simp)).trans KM.o (by intro y hy;simp at hy;subst hy;exact .inl (by simp))).trans K2.o (by intro y hy;simp at hy;subst hy;exact .inr (by omega))) (.inr (by omega)) mS.o (fun v=>rfl) (by simp) (by simp) (by simp) rfl vu.o (by simp) hk fl nB (fun e=>by have:=fl _ e;omega) (by omega) cT bj cy⟩
theorem amG(B off:Nat)(c:Array aq)(tB:cL)(vm vs:aq)(ks:List aq)(a b:Nat)(w:ay)(hB:w.heap[B]?=some (.cells c tB (0,0)))(h0:c[off]?=some vm)(h1:c[off+1]?=some vs)(hN:gy w 141 8 vm vs ks)(hk:ji aB 141 (dJ a b))(iC:B∉dV vm vs)(dD:(ae ks)<100000):aI aB 80 #[.pointer (some ⟨B,off,none⟩),dJ a b] w fun e w'=>∃(i:Nat) (gK vs':aq),e=.returned (.int .i64 i)/\(jF ks (dJ a b))[i]?=some (dJ a b)/\rZ B off c tB 141 8 vm vs ks w gK vs' (jF ks (dJ a b)) w':=by
 by_cases hx:dJ a b∈ks
 .obtain⟨i,hi⟩:=MW hx;rw[uC hx];exact(amH B off c tB vm vs ks a b i w hB h0 h1 hN hi).mono fun e w' h=>⟨i,vm,vs,h.1,hi,Yc hB h0 h1 hN h.2⟩
 .rw[sj hx];rcases hN.map with⟨rfl,rfl⟩|⟨mb,rfl,_⟩
  .exact(amI B off c tB vs a b w hB h0 h1 hN hk iC).mono fun e w' ⟨h,mb,vs',p⟩=>⟨0,_,vs',h,rfl,p⟩
  .exact(amJ B off c tB mb vs ks a b w hB h0 h1 hN hx hk iC dD).mono fun e w' ⟨h,vs',p⟩=>⟨(ae ks),_,vs',h,by simp,p⟩
end
section
variable{b:Nat}
def pC(c:Array aq):Nat->List aq->Array aq
 |_,[]=>c
 |o,v::r=>pC (c.setIfInBounds o v) (o+1) r
theorem TV:∀(vs:List aq) (o:Nat) (c:Array aq),(pC c o vs).size=c.size
 |[],_,_=>rfl
 |v::r,o,c=>by rw[pC,TV r];simp
theorem FG:∀(vs:List aq) (o:Nat) (c:Array aq) (i:Nat),i<o\/o+ae vs<=i->(pC c o vs)[i]?=c[i]?
 |[],_,_,_,_=>rfl
 |v::r,o,c,i,h=>by
  simp only[Dg]at h
  rw[pC,FG r (o+1) _ i (by omega),iH (by omega)]
theorem Lx:∀(vs:List aq) (o:Nat) (c:Array aq) (j:Nat),j<ae vs->o+ae vs<=c.size->(pC c o vs)[o+j]?=vs[j]?
 |v::r,o,c,0,_,hc=>by
  simp only[Dg]at hc
  rw[pC,FG r (o+1) _ _ (by omega)]
  simp only[yl,List.getElem?_cons_zero]
  rw[xZ (by omega)]
 |v::r,o,c,j+1,hj,hc=>by
  simp only[Dg]at hc hj
  have:=Lx r (o+1) (c.setIfInBounds o v) j (by omega) (by simp;omega)
  rw[pC,show o+(j+1)=o+1+j by omega,this]
  rfl
theorem XP(ys c:Array aq)(h:ys.size=c.size):pC c 0 ys.toList=ys:=by
 apply xY;intro i;rcases Nat.lt_or_ge i ys.size with hi|hi
 .have:=Lx ys.toList 0 c i (by simpa using hi) (by simp;omega);rw[yn]at this;rw[this,uk]
 .rw[FG _ _ _ _ (.inr (by simpa using hi)),kP (by omega),kP (by omega)]
theorem Rj(b:Nat):∀(vs:List aq) (o:Nat) (w:ay) (c:Array aq) (e:cL) (f:Nat×Nat),w.heap[b]?=some (.cells c e f)->(w.setCells b o vs).heap[b]?=some (.cells (pC c o vs) e f)
 |[],_,_,_,_,_,h=>h
 |v::r,o,w,c,e,f,h=>by
  rw[G8,pC]
  refine Rj b r (o+1) _ _ e f ?_
  rw[aQ,aA rfl,h]
  rfl
theorem TM(b:Nat):∀(vs:List aq) (o:Nat) (w0 w:ay) (xs:List Nat),b∈xs\/w0.heap.size<=b->Kp xs w0 w->Kp xs w0 (w.setCells b o vs)
 |[],_,_,_,_,_,h=>h
 |v::r,o,w0,w,xs,hb,h=>by
  rw[G8]
  exact TM b r (o+1) w0 _ xs hb (h.set hb _ _)
theorem acs(b:Nat):∀(vs:List aq) (o:Nat) (w:ay),(w.setCells b o vs).heap.size=w.heap.size
 |[],_,_=>rfl
 |v::r,o,w=>by rw[G8,acs b r,iA]
theorem YT{w:ay}{c:Array aq}{e:cL}(h:w.heap[b]?=some (.cells c e (0,0)))(o n:Nat)(hn:o+n<=c.size):w.there b o n:=fun j hj=>by
 rw[aF h,cM h]
 exact⟨by rw[Array.getElem?_eq_getElem (show o+j<c.size by omega)];rfl,rfl⟩
section
variable{ops:Array Oper}{rest:List Oper}{op:Oper}{a:Act}{w:ay}{Q:Exit->Act->ay->Prop}
theorem mR(iK:op.guard=none)(ty:cL)(x y:Operand)(ho:op.op=.store ty x y){b:Nat}{c:Array aq}{e:cL}(hb:w.heap[b]?=some (.cells c e (0,0)))(hx:a.eval x=.pointer (some ⟨b,0,none⟩)){ys:Array aq}(hy:a.eval y=.agg ys)(hn:ys.size=c.size)(hi:(aB.info? ty).map (·.size)=some ys.size)(h1:ys.all (·.oneCell')=true)(h:∀w',w'.heap[b]?=some (.cells ys e (0,0))->Kp [b] w w'->w'.heap.size=w.heap.size->wpList aB ops Q rest (a.put op.dst eT) w'):wpList aB ops Q (op::rest) a w:=by
 refine wpList_store_mid iK ty x y ho b 0 ys hx hy (YT hb 0 _ (by omega)) hi h1 (h _ ?_ ?_ ?_)
 .rw[Rj b _ 0 w c e _ hb,XP _ _ hn]
 .exact TM b _ 0 w w [b] (by simp) (Kp.refl _ _)
 .exact acs b _ 0 w
theorem acz(iK:op.guard=none)(ty:cL)(x y:Operand)(ho:op.op=.store ty x y){b o:Nat}{c:Array aq}{e:cL}(hb:w.heap[b]?=some (.cells c e (0,0)))(hx:a.eval x=.pointer (some ⟨b,o,none⟩)){ys:Array aq}(hy:a.eval y=.agg ys)(hn:o+ys.size<=c.size)(hi:(aB.info? ty).map (·.size)=some ys.size)(h1:ys.all (·.oneCell')=true)(h:∀w',w'.heap[b]?=some (.cells (pC c o ys.toList) e (0,0))->Kp [b] w w'->w'.heap.size=w.heap.size->wpList aB ops Q rest (a.put op.dst eT) w'):wpList aB ops Q (op::rest) a w:=by
 refine wpList_store_mid iK ty x y ho b o ys hx hy (YT hb o _ hn) hi h1 (h _ ?_ ?_ ?_)
 .rw[Rj b _ o w c e _ hb]
 .exact TM b _ o w w [b] (by simp) (Kp.refl _ _)
 .exact acs b _ o w
theorem xH(iK:op.guard=none)(ty:cL)(x:Operand)(ho:op.op=.load ty x){b:Nat}{c:Array aq}{e:cL}(hb:w.heap[b]?=some (.cells c e (0,0)))(hx:a.eval x=.pointer (some ⟨b,0,none⟩))(d:TypeDesc)(hu:aB.underlying ty=some d)(hd:d.isRow=true)(hi:(aB.info? ty).map (·.size)=some c.size)(h:wpList aB ops Q rest (a.put op.dst (.agg c)) w):wpList aB ops Q (op::rest) a w:=by
 refine wpList_load_mid iK ty x ho b 0 hx c.toList d (fun j v hv=>?_) hu hd (by simpa using hi) h;rw[aF hb,yn,<-uk];exact hv
theorem LF(iK:op.guard=none)(ty:cL)(x:Operand)(ho:op.op=.load ty x){b o:Nat}(ys:Array aq)(hb:∀j,j<ys.size->w.cell? ⟨b,o+j,none⟩=ys[j]?)(hx:a.eval x=.pointer (some ⟨b,o,none⟩))(d:TypeDesc)(hu:aB.underlying ty=some d)(hd:d.isRow=true)(hi:(aB.info? ty).map (·.size)=some ys.size)(h:wpList aB ops Q rest (a.put op.dst (.agg ys)) w):wpList aB ops Q (op::rest) a w:=by
 refine wpList_load_mid iK ty x ho b o hx ys.toList d (fun j v hv=>?_) hu hd (by simpa using hi) h;have hj:j<ys.size:=by have:=(fB.1 hv).1;simpa using this
 rw[hb j hj,<-uk];exact hv
end
theorem qT{ops:Array Oper}{rest:List Oper}{op:Oper}{a:Act}{w:ay}{Q:Exit->Act->ay->Prop}(iK:op.guard=none)(ty:cL)(ho:op.op=.alloc ty)(z:aq)(hz:(aB.info? ty).map (fun i=>i.zero)=some (some z))(h:wpList aB ops Q rest (a.put op.dst (.pointer (some ⟨w.heap.size,0,none⟩))) (w.alloc (.cells z.cells ty (0,0)))):wpList aB ops Q (op::rest) a w:=by
 refine wpList_plain iK fun _ hK=>?_
 cases hq:aB.info? ty with
 |none=>simp[hq]at hz
 |some i =>
  have hz':i.zero=some z:=(by simpa [hq]using hz);unfold Oper.wp execOp;simp only[ho];simp[go_sem,zeroValue,typeInfo,hq,hz'];exact hK _ _ h
theorem agD{w:ay}{c:Array aq}{e:cL}(hb:w.heap[b]?=some (.cells c e (0,0))):w.rangeAt b 0 c.toList:=fun j v hv=>by
 rw[aF hb,yn,<-uk];exact hv
end
theorem qU{ops:Array Oper}{rest:List Oper}{op:Oper}{a:Act}{w:ay}{Q:Exit->Act->ay->Prop}(iK:op.guard=none)(s x:Operand)(t:cL)(ho:op.op=.call { callee:=.builtin .append,args:=#[s,x],argTypes:=#[t,t] })(e:cL)(i:TypeInfo)(z:aq)(size bytes:Nat)(ht:aB.underlying t=some (.slice e))(hi:aB.info? e=some i)(hz:i.zero=some z)(Oi:i.size=size)(NX:i.bytes=bytes)(Tx:z.cells.size=size)(Ir:0<size)(v:aq)(n:Nat)(xs:List aq)(hs:a.eval s=v)(jP:w.ownsRow 0 e size v n xs)(ad:Addr)(m c:Nat)(news:List aq)(hx:a.eval x=.slice (some ad) m c)(hl:(ae news)=m*size)(Lg:∀j u,news[j]?=some u->w.cell? (ad.add j)=some u)(h1:∀u∈news,u.oneCell'=true)(hm:0<m)(NM:n+m<=eB)(DC:(n+m)*bytes<=140737488355328)(H:Nat)(hH:w.heap.size=H)(h:∀g cap w',w'.ownsRow 0 e size (.slice (some ⟨g,0,none⟩) (n+m) cap) (n+m) (xs++news)->w.grownBy w' v.ownBlock->(v.ownBlock=some g\/g=H)->g<w'.heap.size->wpList aB ops Q rest (a.put op.dst (.slice (some ⟨g,0,none⟩) (n+m) cap)) w'):wpList aB ops Q (op::rest) a w :=
 wpList_plain iK fun _ hK=>wp_append_lies w s x t ho 0 e i z size bytes ht hi hz Oi NX Tx Ir v n xs hs jP ad m c news hx hl Lg h1 hm NM DC (bU _) H hH (fun g cap w' p q r u=>hK _ _ (h g cap w' p q r u))
section
variable{b:Nat}{l:List Int}
abbrev iv(l:List Int):List aq:=l.map (EV .i64)
abbrev iO(l:List Int):Obj:=.cells (iv l).toArray 3 (0,0)
theorem jK{w:ay}(h:w.heap[b]?=some (iO l))(i:Nat)(hi:i<ae l):w.cell? ⟨b,i,none⟩=some (.int .i64 (l.getD i 0)):=by
 rw[aF h];simp[bD hi]
theorem rz{w:ay}(h:w.heap[b]?=some (iO l))(i:Nat):w.frozen? ⟨b,i,none⟩=false:=cM h i
theorem tV{w:ay}(h:w.heap[b]?=some (iO l))(i:Nat)(v:Int):(w.setCell ⟨b,i,none⟩ (.int .i64 v)).heap[b]?=some (iO (l.set i v)):=by
 rw[aQ,aA rfl,h];simp[Mm,List.map_set]
theorem DQ:(aB.info? 3).map (fun i=>(i.zero,i.size,i.bytes))=some (some (.int .i64 0),1,8):=by kernel_rfl
theorem Mh(n:Nat)(hn:n<=1000000)(w:ay):(Instr.makeSlice 61 (.int .i64 (n:Int)) (.int .i64 (n:Int))).run aB w=.ok (.slice (some ⟨w.heap.size,0,none⟩) n n) (w.alloc (iO (List.replicate n 0))):=by
 rw[run_make_row' 61 3 (.int .i64 0) 8 qR DQ rfl .i64 .i64 n (by omega) (by omega) w];congr 3;rw[<-Array.toArray_toList (xs:=madeCells #[EV .i64 0] n),toList_madeCells_one,iv,List.map_replicate]
theorem qV(l:List Int)(i:Nat)(v:Int)(hi:i<ae l):(l.set i v).getD i 0=v:=by
 rw[aO,List.getElem?_set_self hi];rfl
theorem tJ(l:List Int)(i j:Nat)(v:Int)(h:i≠j):(l.set i v).getD j 0=l.getD j 0:=by
 rw[aO,List.getElem?_set_ne h,<-aO]
end
section
variable{b sz t:Nat}{fn:Func}
section
open Go.RowKit Go.ChangeMaps
theorem O2{w:ay}{T:cL}{vm vs:aq}{ks:List aq}(h:gy w T sz vm vs ks):∃a cap,vs=.slice a (ae ks) cap:=by
 rcases h.row.2 with⟨rfl,e⟩|⟨g,cap,cur,rfl,_⟩
 .rw[e];exact⟨_,_,rfl⟩
 .exact⟨_,_,rfl⟩
theorem X4{w:ay}{T:cL}{vm vs:aq}{ks:List aq}(hN:gy w T sz vm vs ks){i:Nat}{x:aq}(hi:ks[i]?=some x):∃g cap,vs=.slice (some ⟨g,0,none⟩) (ae ks) cap/\g<w.heap.size/\g∈dV vm vs/\∀j,j<sz->w.cell? ⟨g,i*sz+j,none⟩=x.cells[j]?:=by
 have dx:i<ae ks:=(fB.1 hi).1;have hr:=hN.row;rcases hr.2 with⟨_,e⟩|⟨g,cap,cur,rfl,_⟩
 .omega
 .refine⟨g,cap,rfl,(hr.lt g rfl).2,ju.2 (.inr rfl),fun j hj=>?_⟩;rw[hr.cellAt (i*sz+j) (by have:(i+1)*sz<=ae ks*sz:=Nat.mul_le_mul_right _ dx;rw[Nat.add_mul,Nat.one_mul]at this;omega)];exact aaT hN.sizes hi hj
theorem D0{T:cL}{tmps:Array aq}{w:ay}{c:Array aq}{e:cL}(hf:fn.results=#[.cell t T])(ht:tmps.getD t eT=.pointer (some ⟨b,0,none⟩))(hw:w.heap[b]?=some (.cells c e (0,0)))(d:TypeDesc)(hu:aB.underlying T=some d)(hd:d.isRow=true)(hi:(aB.info? T).map (·.size)=some c.size):(eG fn tmps).run aB w=.ok (.agg c) w:=by
 have ht':tmps[t]?.getD eT=.pointer (some ⟨b,0,none⟩):=by rw[<-ht];simp
 have hl:=run_loadVar_mid (P:=aB) w b 0 T c.toList d (agD hw) hu hd (by simpa using hi);simp only[eG,hf];simp[ht',hl,Sem.run_bind,asAddr]
theorem aaY(B off:Nat)(c:Array aq)(tB:cL)(vm vs:aq)(ks:List aq)(w:ay)(hB:w.heap[B]?=some (.cells c tB (0,0)))(h1:c[off+1]?=some vs)(hN:gy w 141 8 vm vs ks):aI aB 81 #[.pointer (some ⟨B,off,none⟩)] w fun e w'=>e=.returned (.int .i64 (ae ks))/\w'=w:=by
 obtain⟨av,dG,rfl⟩:=O2 hN;have b1:w.cell? ⟨B,off+1,none⟩=some (.slice av (ae ks) dG):=by rw[aF hB];exact h1
 clear hB h1 hN;go_enter Tryz.func81,Tryz.ntmps81;go_wp2;go_ret;exact⟨rfl,rfl⟩
theorem vU:(aB.info? 141).map (·.size)=some 8:=by kernel_rfl
theorem o8{w w1:ay}(h:dA w.heap.size w w1){b o:Nat}(hb:b<w.heap.size):w1.cell? ⟨b,o,none⟩=w.cell? ⟨b,o,none⟩:=h.cell (p:=⟨b,o,none⟩) hb
theorem afZ(B off:Nat)(c:Array aq)(tB:cL)(vm vs:aq)(ks:List aq)(w:ay)(hB:w.heap[B]?=some (.cells c tB (0,0)))(h1:c[off+1]?=some vs)(hN:gy w 141 8 vm vs ks)(i a b:Nat)(hi:ks[i]?=some (dJ a b)):aI aB 82 #[.pointer (some ⟨B,off,none⟩),.int .i64 i] w fun e w'=>e=.returned (dJ a b)/\dA w.heap.size w w':=by
 have dx:i<ae ks:=(fB.1 hi).1;obtain⟨g,cap,rfl,lg,_,hc⟩:=X4 hN hi;have lB:=aE hB;have hi':(i:Int)<ae ks:=(by omega);have HB:=aj hB;have HC:=aj hc;clear hB hN hi hc;go_enter Tryz.func82,Tryz.ntmps82;go_upto_region 1 with fail;have kW:Kp [] w (w.alloc (.cells #[.int .u64 0,.int .u64 0,.int .u64 0,.int .u64 0,.int .u64 0,.int .u64 0,.int .u64 0,.int .u64 0] 141)):=(Kp.refl _ w).alloc _;have bR:(w.alloc (.cells #[.int .u64 0,.int .u64 0,.int .u64 0,.int .u64 0,.int .u64 0,.int .u64 0,.int .u64 0,.int .u64 0] 141)).heap[w.heap.size]?=some (.cells #[.int .u64 0,.int .u64 0,.int .u64 0,.int .u64 0,.int .u64 0,.int .u64 0,.int .u64 0,.int .u64 0] 141 (0,0)):=(by rw[aC,aA rfl]);generalize (w.alloc (.cells #[.int .u64 0,.int .u64 0,.int .u64 0,.int .u64 0,.int .u64 0,.int .u64 0,.int .u64 0,.int .u64 0] 141))=W at *;have b1:W.cell? ⟨B,off+1,none⟩=some (.slice (some ⟨g,0,none⟩) (ae ks) cap):=by rw[aF (kW.keep HB.o (by simp))];exact h1
 have KW:=aj kW;have BR:=aj bR;clear kW bR;apply fD
 iterate 18 go_step
 refine LF rfl _ _ rfl (b:=g) (o:=i*8) (dJ a b).cells (fun j hj=>?_) rfl _ yw rfl vU ?_
 .rw[<-HC.o j hj];exact(o8 KW.o.toBelow lg)
 refine mR rfl _ _ _ rfl BR.o rfl rfl rfl vU (by simp[dS,uA]) ?_;intro w2 b2 k2 s2;go_wp2;refine cF (v:=dJ a b) (D0 Tryz.results82 rfl b2 _ yw rfl vU) rfl ⟨rfl,(KW.o.trans k2 (by simp)).toBelow⟩
theorem agB(B off:Nat)(c:Array aq)(tB:cL)(vm vs:aq)(ks:List aq)(a b:Nat)(w:ay)(hB:w.heap[B]?=some (.cells c tB (0,0)))(h0:c[off]?=some vm)(h1:c[off+1]?=some vs)(hN:gy w 141 8 vm vs ks)(iC:B∉dV vm vs)(dD:(ae ks)<100000):aI aB 55 #[.pointer (some ⟨B,off,none⟩),dJ a b] w fun e w'=>∃(i:Nat) (gK vs':aq),e=.returned (.int .i64 i)/\(jF ks (dJ a b))[i]?=some (dJ a b)/\rZ B off c tB 141 8 vm vs ks w gK vs' (jF ks (dJ a b)) w':=by
 have lB:=aE hB;obtain⟨HB,HN,H0,H1⟩:=dH hB hN h0 h1;have HF:ax (∀g∈dV vm vs,g<w.heap.size):=hN.lt;clear hB hN h0 h1;go_enter Tryz.func55,Tryz.ntmps55;go_upto_region 1 with fail;have kW:Kp [] w (w.alloc (dZ a b)):=(Kp.refl _ w).alloc _;have bX:(w.alloc (dZ a b)).heap[w.heap.size]?=some (dZ a b):=(by rw[aC,aA rfl]);generalize (w.alloc (dZ a b))=W at *;obtain⟨x0,x1,x2,x3,x4,x5,x6,x7,_⟩:=pe bX;have KW:=aj kW;have BX:=aj bX;clear kW bX;go_region_with ((go_at_call 80;refine(amG B off c tB vm vs ks a b _ ((KW.o.drew).keep HB.o (by simp)) H0.o H1.o (HN.o.kp KW.o.drew (by simp)) (acy a b) iC dD).mono ?_;rintro _ w2 ⟨i,gK,vs',rfl,hi,hp⟩))
 all_goals
  go_wp2;go_ret;refine⟨i,gK,vs',rfl,hi,hp.blk,hp.ok,?_,?_⟩
  .exact(KW.o.drew.mono (by simp)).trans hp.kp (by intro y hy;exact .inl hy)
  .intro g hg;rcases hp.foot g hg with e|e
   .exact .inl e
   .exact .inr (j8 KW.o.size e)
theorem OZ{u:Nat}{T:cL}{tmps:Array aq}{w:ay}{c:Array aq}{e:cL}(hf:fn.results=#[.cell t T,.tmp u])(ht:tmps.getD t eT=.pointer (some ⟨b,0,none⟩)){v:aq}(hv:tmps.getD u eT=v)(hw:w.heap[b]?=some (.cells c e (0,0)))(d:TypeDesc)(hu:aB.underlying T=some d)(hd:d.isRow=true)(hi:(aB.info? T).map (·.size)=some c.size):(eG fn tmps).run aB w=.ok (.tuple #[.agg c,v]) w:=by
 have ht':tmps[t]?.getD eT=.pointer (some ⟨b,0,none⟩):=by rw[<-ht];simp
 have hv':tmps[u]?.getD eT=v:=by rw[<-hv];simp
 have hl:=run_loadVar_mid (P:=aB) w b 0 T c.toList d (agD hw) hu hd (by simpa using hi);simp only[eG,hf];simp[ht',hv',hl,Sem.run_bind,asAddr]
theorem Wa{w:ay}{x0 x1 x2 x3 x4 x5 x6 x7:aq}{e:cL}(h:w.heap[b]?=some (.cells #[x0,x1,x2,x3,x4,x5,x6,x7] e (0,0)))(v0 v1 v2 v3 v4 v5 v6 v7:aq):((((((((w.setCell ⟨b,0,none⟩ v0).setCell ⟨b,1,none⟩ v1).setCell ⟨b,2,none⟩ v2).setCell ⟨b,3,none⟩ v3).setCell ⟨b,4,none⟩ v4).setCell ⟨b,5,none⟩ v5).setCell ⟨b,6,none⟩ v6).setCell ⟨b,7,none⟩ v7).heap[b]?=some (.cells #[v0,v1,v2,v3,v4,v5,v6,v7] e (0,0)):=by
 simp only[aQ,h];simp[eD]
theorem Kp.YA{xs:List Nat}{w w1:ay}(h:Kp xs w w1){b:Nat}(hb:b∈xs\/w.heap.size<=b)(v0 v1 v2 v3 v4 v5 v6 v7:aq):Kp xs w ((((((((w1.setCell ⟨b,0,none⟩ v0).setCell ⟨b,1,none⟩ v1).setCell ⟨b,2,none⟩ v2).setCell ⟨b,3,none⟩ v3).setCell ⟨b,4,none⟩ v4).setCell ⟨b,5,none⟩ v5).setCell ⟨b,6,none⟩ v6).setCell ⟨b,7,none⟩ v7) :=
 (((((((h.set hb _ _).set hb _ _).set hb _ _).set hb _ _).set hb _ _).set hb _ _).set hb _ _).set hb _ _
abbrev jq:Obj:=.cells #[.int .u64 0,.int .u64 0,.int .u64 0,.int .u64 0,.int .u64 0,.int .u64 0,.int .u64 0,.int .u64 0] 141 (0,0)
theorem aoE(B off:Nat)(c:Array aq)(tB:cL)(vm vs:aq)(ks:List aq)(w:ay)(hB:w.heap[B]?=some (.cells c tB (0,0)))(h1:c[off+1]?=some vs)(hN:gy w 141 8 vm vs ks)(h2:c[off+2]?=some (.int .i64 (ae ks))):aI aB 57 #[.pointer (some ⟨B,off,none⟩)] w fun e w'=>e=.returned (.tuple #[dJ 0 0,.bool false])/\dA w.heap.size w w':=by
 have lB:=aE hB;obtain⟨HB,HN,H1,H2⟩:=dH hB hN h1 h2;clear hB hN h1 h2;go_enter Tryz.func57,Tryz.ntmps57;go_upto_region 1 with fail;have kW:Kp [] w (w.alloc jq):=(Kp.refl _ w).alloc _;have bR:(w.alloc jq).heap[w.heap.size]?=some jq:=(by rw[aC,aA rfl]);generalize (w.alloc jq)=W at *;have lR:=aE bR;have c2:W.cell? ⟨B,off+2,none⟩=some (.int .i64 (ae ks)):=by rw[aF (kW.keep HB.o (by simp))];exact H2.o
 have KW:=aj kW;have BR:=aj bR;clear kW bR;go_quiet ((go_at_call 81;exact Gl (aaY B off c tB vm vs ks _ (by exact KW.o.keep HB.o (by simp)) H1.o (HN.o.kp (KW.o.drewN _) (by simp)))))
 go_upto_region 3 with fail;apply fD;have bT:((W.drewN nq).alloc jq).heap[W.heap.size]?=some jq:=(by rw[aC,yx,aA rfl]);have bZ:((W.drewN nq).alloc jq).heap[w.heap.size]?=some jq:=by rw[aC,yx,az (bY lR)];exact BR.o
 refine xH rfl _ _ rfl bT rfl _ yw rfl vU ?_;refine mR rfl _ _ _ rfl bZ rfl rfl rfl vU (by simp[dS]) ?_;intro w2 b2 k2 s2;go_wp2;exact cF (v:=.tuple #[dJ 0 0,.bool false]) (OZ Tryz.results57 rfl rfl b2 _ yw rfl vU) rfl ⟨by simp[xV],(((KW.o.drewN _).alloc _).trans k2 (by simp)).toBelow⟩
theorem aoF(B off:Nat)(c:Array aq)(tB:cL)(vm vs:aq)(ks:List aq)(k a b:Nat)(w:ay)(hB:w.heap[B]?=some (.cells c tB (0,0)))(h1:c[off+1]?=some vs)(hN:gy w 141 8 vm vs ks)(h2:c[off+2]?=some (.int .i64 k))(hk:ks[k]?=some (dJ a b))(dD:(ae ks)<100000):aI aB 57 #[.pointer (some ⟨B,off,none⟩)] w fun e w'=>e=.returned (.tuple #[dJ a b,.bool true])/\w'.heap[B]?=some (.cells (c.setIfInBounds (off+2) (.int .i64 (k+1:Nat))) tB (0,0))/\Kp [B] w w':=by
 have lB:=aE hB;have dI:k<ae ks:=(fB.1 hk).1;have cP:((k:Int) == (ae ks))=false:=by simp;omega
 obtain⟨HB,HN,H1,H2,HK⟩:=jd hB hN h1 h2 hk;clear hB hN h1 h2 hk;go_enter Tryz.func57,Tryz.ntmps57;go_upto_region 1 with fail;have kW:Kp [] w (w.alloc jq):=(Kp.refl _ w).alloc _;have bR:(w.alloc jq).heap[w.heap.size]?=some jq:=(by rw[aC,aA rfl]);generalize (w.alloc jq)=W at *;have lR:=aE bR;have c2:W.cell? ⟨B,off+2,none⟩=some (.int .i64 k):=by rw[aF (kW.keep HB.o (by simp))];exact H2.o
 have KW:=aj kW;have BR:=aj bR;clear kW bR;go_quiet ((go_at_call 81;exact Gl (aaY B off c tB vm vs ks _ (by exact KW.o.keep HB.o (by simp)) H1.o (HN.o.kp (KW.o.drewN _) (by simp)))))
 go_upto_region 4 with fail;have kW:Kp [] w (W.drewN nq):=KW.o.drewN _;have bR:(W.drewN nq).heap[w.heap.size]?=some jq:=BR.o;have We:(W.drewN nq).cell? ⟨B,off+2,none⟩=some (.int .i64 k):=c2;clear c2 KW BR lR;generalize W.drewN nq=W1 at *;have lR:=aE bR;have BR:=aj bR;have KW:=aj kW;have Iz:B<W1.heap.size:=tC lB kW.size;have nB1:B≠W1.heap.size:=bY Iz;clear kW bR;go_region_with ((go_at_call 82;(first|(refine(afZ B off c tB vm vs ks _ (by exact KW.o.drew.keep HB.o (by simp)) H1.o (HN.o.kp KW.o.drew (by simp)) k a b HK.o).mono ?_;rintro _ w2 ⟨rfl,h2⟩;have kA:=(Kp.refl [] W1).drew.below h2;have sA:=kA.size)|(refine(afZ B off c tB vm vs ks _ (by exact(KW.o.drew.alloc _).keep HB.o (by simp)) H1.o (HN.o.kp (KW.o.drew.alloc _) (by simp)) k a b HK.o).mono ?_;rintro _ w2 ⟨rfl,h2⟩;have kA:=((Kp.refl [] W1).drew.alloc _).below h2;have bA:w2.heap[W1.heap.size]?=some jq:=bV h2 (by rw[aC,jo,aA rfl]);obtain⟨x0,x1,x2,x3,x4,x5,x6,x7,f0,f1,f2,f3,f4,f5,f6,f7⟩:=pe bA;have BA:=aj bA;have sA:=kA.size;clear bA))))
 all_goals
  try simp only[jo]
  first
   |(have kX:Kp [] W1 ((((((((w2.setCell ⟨W1.heap.size,0,none⟩ (.int .u64 (wd a 0))).setCell ⟨W1.heap.size,1,none⟩ (.int .u64 (wd a 1))).setCell ⟨W1.heap.size,2,none⟩ (.int .u64 (wd a 2))).setCell ⟨W1.heap.size,3,none⟩ (.int .u64 (wd a 3))).setCell ⟨W1.heap.size,4,none⟩ (.int .u64 (wd b 0))).setCell ⟨W1.heap.size,5,none⟩ (.int .u64 (wd b 1))).setCell ⟨W1.heap.size,6,none⟩ (.int .u64 (wd b 2))).setCell ⟨W1.heap.size,7,none⟩ (.int .u64 (wd b 3))):=kA.YA (.inr (aH _)) _ _ _ _ _ _ _ _
     have bX:((((((((w2.setCell ⟨W1.heap.size,0,none⟩ (.int .u64 (wd a 0))).setCell ⟨W1.heap.size,1,none⟩ (.int .u64 (wd a 1))).setCell ⟨W1.heap.size,2,none⟩ (.int .u64 (wd a 2))).setCell ⟨W1.heap.size,3,none⟩ (.int .u64 (wd a 3))).setCell ⟨W1.heap.size,4,none⟩ (.int .u64 (wd b 0))).setCell ⟨W1.heap.size,5,none⟩ (.int .u64 (wd b 1))).setCell ⟨W1.heap.size,6,none⟩ (.int .u64 (wd b 2))).setCell ⟨W1.heap.size,7,none⟩ (.int .u64 (wd b 3))).heap[W1.heap.size]?=some (dZ a b):=Wa BA.o _ _ _ _ _ _ _ _;generalize ((((((((w2.setCell ⟨W1.heap.size,0,none⟩ (.int .u64 (wd a 0))).setCell ⟨W1.heap.size,1,none⟩ (.int .u64 (wd a 1))).setCell ⟨W1.heap.size,2,none⟩ (.int .u64 (wd a 2))).setCell ⟨W1.heap.size,3,none⟩ (.int .u64 (wd a 3))).setCell ⟨W1.heap.size,4,none⟩ (.int .u64 (wd b 0))).setCell ⟨W1.heap.size,5,none⟩ (.int .u64 (wd b 1))).setCell ⟨W1.heap.size,6,none⟩ (.int .u64 (wd b 2))).setCell ⟨W1.heap.size,7,none⟩ (.int .u64 (wd b 3)))=W3 at *;clear x0 x1 x2 x3 x4 x5 x6 x7 f0 f1 f2 f3 f4 f5 f6 f7;clear BA;have sA:W1.heap.size<=W1.heap.size:=aH _;generalize hX:W1.heap.size=X at *)
   |(have kX:Kp [] W1 (w2.alloc (dZ a b)):=kA.alloc _
     have bX:(w2.alloc (dZ a b)).heap[w2.heap.size]?=some (dZ a b):=(by rw[aC,aA rfl]);generalize (w2.alloc (dZ a b))=W3 at *;generalize w2.heap.size=X at *)
  have b3:W3.heap[B]?=some (.cells c tB (0,0)):=(KW.o.trans kX (by simp)).keep HB.o (by simp);have c3:W3.cell? ⟨B,off+2,none⟩=some (.int .i64 k):=by rw[aF b3];exact H2.o
  have f3:=cM b3 (off+2);have bR:=kX.keep BR.o (by simp);have K3:=aj (KW.o.trans kX (by simp));obtain⟨BX,B3,oE⟩:=cR bX b3 bR;clear kX bX b3 bR We h2 kA;have nX:X≠B:=(by omega);have nR:w.heap.size≠B:=(by omega);try clear hX
  clear sA nB1 Iz lR;go_upto_region 6 with fail;apply fD;refine xH rfl _ _ rfl (b:=X) (c:=#[.int .u64 (wd a 0),.int .u64 (wd a 1),.int .u64 (wd a 2),.int .u64 (wd a 3),.int .u64 (wd b 0),.int .u64 (wd b 1),.int .u64 (wd b 2),.int .u64 (wd b 3)]) (by rw[aQ,az nX];exact BX.o) rfl _ yw rfl vU ?_;refine mR rfl _ _ _ rfl (b:=w.heap.size) (c:=#[.int .u64 0,.int .u64 0,.int .u64 0,.int .u64 0,.int .u64 0,.int .u64 0,.int .u64 0,.int .u64 0]) (e:=141) (by rw[aQ,az nR];exact oE.o) rfl rfl rfl vU (by simp[dS]) ?_;intro w4 b4 k4 s4;go_wp2;refine cF (v:=.tuple #[dJ a b,.bool true]) (OZ Tryz.results57 rfl rfl b4 _ yw rfl vU) rfl ⟨rfl,?_,((K3.o.mono (by simp)).set (by simp) _ _).trans k4 (by intro y hy;simp at hy;omega)⟩;refine k4.keep ?_ (by simp;omega);rw[aQ,aA rfl,B3.o];rfl
end
end
section
open Go.RowKit Go.ChangeMaps
theorem afz:(aB.info? 185).map (fun i=>(i.zero,i.size,i.bytes))=some (some (.agg #[.int .i64 0,.int .i64 0]),2,16):=by kernel_rfl
theorem amz(B off:Nat)(c:Array aq)(tB:cL)(vm vs:aq)(ks:List aq)(a b:Int)(i:Nat)(w:ay)(hB:w.heap[B]?=some (.cells c tB (0,0)))(h0:c[off]?=some vm)(h1:c[off+1]?=some vs)(hN:gy w 185 2 vm vs ks)(hi:ks[i]?=some (cQ a b)):aI aB 96 #[.pointer (some ⟨B,off,none⟩),cQ a b] w fun e w'=>e=.returned (.int .i64 i)/\dA w.heap.size w w':=by
 obtain⟨mb,rfl,hm⟩:∃mb,vm=.map (some mb)/\jW w mb ks:=by
  rcases hN.map with⟨_,q⟩|q
  .rw[q]at hi;simp at hi
  .exact q
 have c0:w.cell? ⟨B,off,none⟩=some (.map (some mb)):=by rw[aF hB];exact h0
 have lB:=aE hB;have lm:=hm.lt;have hl:∀o,(rX 146 (.map (some mb)) (cQ a b) true).run aB (w.alloc o).drew=.ok (.tuple #[.int .i64 i,.bool true]) (w.alloc o).drew:=fun o =>
  T9 Iy EO _ (hm.keep (by rw[eO,aC,az (bY lm)])) hN.key hN.nodup hi
 clear hm hN hi h0 h1 hB;go_enter Tryz.func96,Tryz.ntmps96;go_wp2_with fail;go_region
 all_goals
  go_wp2;go_ret;exact⟨rfl,((kQ _ _).alloc (aH _) _).drew⟩
theorem amB(B off:Nat)(c:Array aq)(tB:cL)(mb:Nat)(vs:aq)(ks:List aq)(a b:Int)(w:ay)(hB:w.heap[B]?=some (.cells c tB (0,0)))(h0:c[off]?=some (.map (some mb)))(h1:c[off+1]?=some vs)(hN:gy w 185 2 (.map (some mb)) vs ks)(hx:cQ a b∉ks)(hk:ji aB 185 (cQ a b))(iC:B∉dV (.map (some mb)) vs)(dD:(ae ks)<100000):aI aB 96 #[.pointer (some ⟨B,off,none⟩),cQ a b] w fun e w'=>e=.returned (.int .i64 (ae ks))/\∃vs',rZ B off c tB 185 2 (.map (some mb)) vs ks w (.map (some mb)) vs' (ks ++ [cQ a b]) w':=by
 have hm:jW w mb ks:=by
  rcases hN.map with⟨q,_⟩|⟨m,q,r⟩
  .cases q
  .cases q;exact r
 have c0:w.cell? ⟨B,off,none⟩=some (.map (some mb)):=by rw[aF hB];exact h0
 have lB:=aE hB;have lm:=hm.lt;have mB:mb≠B:=fun e=>iC (ju.2 (.inl (by rw[e])))
 have hl:∀o,(rX 146 (.map (some mb)) (cQ a b) true).run aB (w.alloc o).drew=.ok (.tuple #[.int .i64 0,.bool false]) (w.alloc o).drew:=fun o =>
  Ua Iy EO _ (D5 _) (hm.keep (by rw[eO,aC,az (bY lm)])) hN.key hk hx
 obtain⟨HN,HB,HM,H0,H1⟩:=jd hN hB hm h0 h1;have uK:∃a cap,vs=.slice a (ae ks) cap:=by
  rcases hN.row.2 with⟨rfl,e⟩|⟨g,cap,cur,rfl,_⟩
  .rw[e];exact⟨_,_,rfl⟩
  .exact⟨_,_,rfl⟩
 obtain⟨av,dG,rfl⟩:=uK;obtain⟨i0,cS,dc,dm,cW⟩:=iw afz;clear hm hN h0 h1 hB;go_enter Tryz.func96,Tryz.ntmps96;go_upto_region 1 with fail;go_region
 all_goals
  have kW:Kp [] w (w.alloc (jB a b)).drew:=((Kp.refl [] w).alloc _).drew;have bX:(w.alloc (jB a b)).drew.heap[w.heap.size]?=some (jB a b):=(by rw[eO,aC,aA rfl]);generalize (w.alloc (jB a b)).drew=W at *;have lX:=aE bX;have bB:=kW.keep HB.o (by simp);have mW:jW W mb ks:=HM.o.keep (kW.block mb lm (by simp));have b0:W.cell? ⟨B,off,none⟩=some (.map (some mb)):=by rw[aF bB];exact H0.o
  have b1:W.cell? ⟨B,off+1,none⟩=some (.slice av (ae ks) dG):=by rw[aF bB];exact H1.o
  obtain⟨x0,x1,_⟩:=two bX;have tS:=fun w r=>Mg (P:=aB) w 146 _ _ r EO
  obtain⟨o,hu,mN⟩:=I7 Iy EO W.drew (show jW W.drew mb ks from mW) HN.o.key hk hx;obtain⟨KW,BX,BB,MN⟩:=dH kW bX bB mN;clear c0 hl mW kW bX bB mN;go_upto_region 7 with fail;go_region
  all_goals
   have T0:mb<W.heap.size:=tC lm KW.o.size;have k2:Kp [mb] W (setBlock W.drew mb o):=(Kp.refl [mb] W).drew.trans (Ja (w:=W.drew) (b:=mb) (o:=o) T0) (by simp);have mN:=MN.o;generalize setBlock W.drew mb o=W2 at *;have bB:=k2.keep BB.o (by simp;exact fun e=>mB e.symm);have bX:=k2.keep BX.o (by simp;omega);have oV:W2.ownsRow 0 185 2 (.slice av (ae ks) dG) (ae ks) (n6 ks):=aJ (aJ HN.o.row KW.o (by simp)) k2 (by
    intro g e hm;simp at hm;subst hm;exact HN.o.apart e)
   obtain⟨K2,Jo,mS,RW,vu⟩:=jd k2 bX bB oV mN;clear b0 b1 x0 x1 hu MN BB BX tS;(have b1:W2.cell? ⟨B,off+1,none⟩=some (.slice av (ae ks) dG):=by rw[aF bB];exact H1.o);obtain⟨x0,x1,_⟩:=two bX;have TU:=aE bX;have oe:=aE bB;have Sz:∀o,(W2.alloc o).drew.frozen? ⟨B,off+1,none⟩=false:=fun o=>by
    (have:(W2.alloc o).drew.heap[B]?=some (.cells c tB (0,0)):=by rw[eO,aC,az (bY oe)];exact bB);exact cM this _
   clear bB bX oV k2 mN;go_wp2_with fail;go_region_law
    ((refine wm _ (by rfl) _ _ _ (by rfl) 0 185 i0 _ 2 16 aiy cS dc dm cW rfl (by omega) (.slice av (ae ks) dG) (ae ks) (n6 ks) (by rfl) ((RW.o.alloc _).drew) ⟨W2.heap.size,0,none⟩ 1 1 [.int .i64 a,.int .i64 b] (by rfl) (by rfl) (gN (cs:=#[.int .i64 a,.int .i64 b]) (t:=185) (fr:=(0,0)) (jS W2 _)) (by simp[dS]) (by omega) (by unfold eB;omega) (by omega) (by simp) (W2.heap.size+1) (by simp) ?_;intro g1 aP w3 cT bj cy iz;have LM:w3.frozen? ⟨B,off+1,none⟩=false:=(cM (fY bj (b:=B) (by rw[eO,aC,az (bY oe)];exact mS.o) (fun e=>iC (ju.2 (.inr e)))) _);have nc:w3.cell? ⟨B,off+1,none⟩=some (.slice av (ae ks) dG):=(by rw[aF (fY bj (b:=B) (by rw[eO,aC,az (bY oe)];exact mS.o) (fun e=>iC (ju.2 (.inr e))))];exact H1.o)))
   all_goals
    go_wp2;go_ret;exact⟨rfl,_,IT lB ((KW.o.mono (by simp)).trans K2.o (by intro y hy;simp at hy;subst hy;exact .inl (vq _ (ju.2 (.inl rfl))))) (.inl rfl) mS.o (fun v=>by rw[D4,YC H0.o]) HN.o.nodup HN.o.key HN.o.sizes rfl vu.o hx hk
     (fun g e=>HN.o.lt g (ju.2 (.inr e))) (fun e=>iC (ju.2 (.inr e))) HN.o.apart mB cT bj cy⟩
theorem amA(B off:Nat)(c:Array aq)(tB:cL)(vs:aq)(a b:Int)(w:ay)(hB:w.heap[B]?=some (.cells c tB (0,0)))(h0:c[off]?=some (.map none))(h1:c[off+1]?=some vs)(hN:gy w 185 2 (.map none) vs [])(hk:ji aB 185 (cQ a b))(iC:B∉dV (.map none) vs):aI aB 96 #[.pointer (some ⟨B,off,none⟩),cQ a b] w fun e w'=>e=.returned (.int .i64 0)/\∃mb vs',rZ B off c tB 185 2 (.map none) vs [] w (.map (some mb)) vs' [cQ a b] w':=by
 have c0:w.cell? ⟨B,off,none⟩=some (.map none):=by rw[aF hB];exact h0
 have lB:=aE hB;have hl:∀w',(rX 146 (.map none) (cQ a b) true).run aB w'=.ok (.tuple #[.int .i64 0,.bool false]) w':=fun w' =>
  Ub Iy EO _ (D5 _) hk
 obtain⟨HN,HB,H0,H1⟩:=dH hN hB h0 h1;have uK:∃a cap,vs=.slice a 0 cap:=by
  rcases hN.row.2 with⟨rfl,e⟩|⟨g,cap,cur,rfl,_⟩
  .exact⟨_,_,rfl⟩
  .exact⟨_,_,rfl⟩
 obtain⟨av,dG,rfl⟩:=uK;obtain⟨i0,cS,dc,dm,cW⟩:=iw afz;clear hN h0 h1 hB;go_enter Tryz.func96,Tryz.ntmps96;go_upto_region 1 with fail;go_region
 all_goals
  have kW:Kp [] w (w.alloc (jB a b)).drew:=((Kp.refl [] w).alloc _).drew;have bX:(w.alloc (jB a b)).drew.heap[w.heap.size]?=some (jB a b):=(by rw[eO,aC,aA rfl]);generalize (w.alloc (jB a b)).drew=W at *;have lX:=aE bX;have bB:=kW.keep HB.o (by simp);have IA:=aE bB;have b0:W.cell? ⟨B,off,none⟩=some (.map none):=by rw[aF bB];exact H0.o
  have f0:=cM bB off;have tS:=fun w r=>Mg (P:=aB) w 146 _ _ r EO
  obtain⟨KW,BX,BB⟩:=cR kW bX bB;have ig:(aad 146 none).run aB W=.ok (.map (some W.heap.size)) (W.alloc (.map #[] 0)):=run_makeMap _ W;have qi:(W.alloc (.map #[] 0)).heap[B]?=some (.cells c tB (0,0)):=by rw[aC,az (bY IA)];exact bB
  have d0:(W.alloc (.map #[] 0)).cell? ⟨B,off,none⟩=some (.map none):=by rw[aF qi];exact H0.o
  have d1:=cM qi off;clear c0 hl kW bX bB qi;go_upto_region 6 with fail;have kM:Kp [B] W ((W.setCell ⟨B,off,none⟩ (.map (some W.heap.size))).alloc (.map #[] 0)):=((Kp.refl [B] W).set (by simp) _ _).alloc _;have bB:((W.setCell ⟨B,off,none⟩ (.map (some W.heap.size))).alloc (.map #[] 0)).heap[B]?=some (.cells (c.setIfInBounds off (.map (some W.heap.size))) tB (0,0)):=by
   rw[aC,iA,az (bY IA),aQ,aA rfl,BB.o];rfl
  have mW:jW ((W.setCell ⟨B,off,none⟩ (.map (some W.heap.size))).alloc (.map #[] 0)) W.heap.size []:=by
   have:=Yb (W.setCell ⟨B,off,none⟩ (.map (some W.heap.size)));rw[iA]at this;exact this
  generalize (W.setCell ⟨B,off,none⟩ (.map (some W.heap.size))).alloc (.map #[] 0)=W1 at *;generalize Od:W.heap.size=mb at *;have bX:=kM.keep BX.o (by simp;omega);obtain⟨o,hu,mN⟩:=I7 Iy EO W1.drew (show jW W1.drew mb [] from mW) (by simp) hk (by simp);have hu:(Qo 146 (.map (some mb)) (cQ a b) (.int .i64 0)).run aB W1.drew=.ok () (setBlock W1.drew mb o):=hu;have l0:=(AF.1 H0.o).1;have l1:=(AF.1 H1.o).1;have Ki:W1.cell? ⟨B,off,none⟩=some (.map (some mb)):=(by rw[aF bB,xZ l0]);have b1':W1.cell? ⟨B,off+1,none⟩=some (.slice av 0 dG):=by rw[aF bB,iH (by omega)];exact H1.o
  obtain⟨x0,x1,_⟩:=two bX;obtain⟨KM,Gj,p8,MN⟩:=dH kM bX bB mN;have LD:=mW.lt;clear b0 f0 d0 d1 ig kM bX bB mW mN BX BB;go_upto_region 7 with fail;go_region
  all_goals
   have k2:Kp [mb] W1 (setBlock W1.drew mb o):=(Kp.refl [mb] W1).drew.trans (Ja (w:=W1.drew) (b:=mb) (o:=o) LD) (by simp);have mN:=MN.o;generalize setBlock W1.drew mb o=W2 at *;have bB:=k2.keep p8.o (by simp;omega);have bX:=k2.keep Gj.o (by simp;omega);(have fl:∀g,aK (.slice av 0 dG)=some g->g<w.heap.size:=fun g e=>HN.o.lt g (ju.2 (.inr e)));(have nB:aK (.slice av 0 dG)≠some B:=fun e=>iC (ju.2 (.inr e)));have oV:W2.ownsRow 0 185 2 (.slice av 0 dG) 0 []:=aJ (aJ (aJ HN.o.row KW.o (by simp)) KM.o (by intro g e hm;simp at hm;subst hm;exact nB e)) k2 (by
    intro g e hm;simp at hm;have:=fl g e;omega)
   obtain⟨K2,Jo,mS,RW,vu⟩:=jd k2 bX bB oV mN;clear Ki b1' x0 x1 hu MN p8 Gj tS;(have b1:W2.cell? ⟨B,off+1,none⟩=some (.slice av 0 dG):=by rw[aF bB,iH (by omega)];exact H1.o);obtain⟨x0,x1,_⟩:=two bX;have TU:=aE bX;have oe:=aE bB;clear bB bX oV k2 mN;go_wp2_with fail;go_region_law
    ((refine wm _ (by rfl) _ _ _ (by rfl) 0 185 i0 _ 2 16 aiy cS dc dm cW rfl (by omega) (.slice av 0 dG) 0 [] (by rfl) ((RW.o.alloc _).drew) ⟨W2.heap.size,0,none⟩ 1 1 [.int .i64 a,.int .i64 b] (by rfl) (by rfl) (gN (cs:=#[.int .i64 a,.int .i64 b]) (t:=185) (fr:=(0,0)) (jS W2 _)) (by simp[dS]) (by omega) (by unfold eB;omega) (by omega) (by simp) (W2.heap.size+1) (by simp) ?_;intro g1 aP w3 cT bj cy iz;have q3:=fY bj (b:=B) (by rw[eO,aC,az (bY oe)];exact mS.o) nB;have LM:w3.frozen? ⟨B,off+1,none⟩=false:=cM q3 _;have nc:w3.cell? ⟨B,off+1,none⟩=some (.slice av 0 dG):=(by rw[aF q3,iH (by omega)];exact H1.o);clear q3))
   all_goals
    go_wp2;go_ret;refine⟨rfl,mb,_,IT (ks:=[]) (x:=cQ a b) lB (((KW.o.mono (by simp)).trans KM.o (by intro y hy;simp at hy;subst hy;exact .inl (by simp))).trans K2.o (by intro y hy;simp at hy;subst hy;exact .inr (by omega))) (.inr (by omega)) mS.o (fun v=>rfl) (by simp) (by simp) (by simp) rfl vu.o (by simp) hk fl nB (fun e=>by have:=fl _ e;omega) (by omega) cT bj cy⟩
theorem agh(B off:Nat)(c:Array aq)(tB:cL)(vm vs:aq)(ks:List aq)(a b:Int)(w:ay)(hB:w.heap[B]?=some (.cells c tB (0,0)))(h0:c[off]?=some vm)(h1:c[off+1]?=some vs)(hN:gy w 185 2 vm vs ks)(hk:ji aB 185 (cQ a b))(iC:B∉dV vm vs)(dD:(ae ks)<100000):aI aB 96 #[.pointer (some ⟨B,off,none⟩),cQ a b] w fun e w'=>∃(i:Nat) (gK vs':aq),e=.returned (.int .i64 i)/\(jF ks (cQ a b))[i]?=some (cQ a b)/\rZ B off c tB 185 2 vm vs ks w gK vs' (jF ks (cQ a b)) w':=by
 by_cases hx:cQ a b∈ks
 .obtain⟨i,hi⟩:=MW hx;rw[uC hx];exact(amz B off c tB vm vs ks a b i w hB h0 h1 hN hi).mono fun e w' h=>⟨i,vm,vs,h.1,hi,Yc hB h0 h1 hN h.2⟩
 .rw[sj hx];rcases hN.map with⟨rfl,rfl⟩|⟨mb,rfl,_⟩
  .exact(amA B off c tB vs a b w hB h0 h1 hN hk iC).mono fun e w' ⟨h,mb,vs',p⟩=>⟨0,_,vs',h,rfl,p⟩
  .exact(amB B off c tB mb vs ks a b w hB h0 h1 hN hx hk iC dD).mono fun e w' ⟨h,vs',p⟩=>⟨(ae ks),_,vs',h,by simp,p⟩
end
section
open Go.RowKit Go.ChangeMaps
theorem aeb(B off:Nat)(c:Array aq)(tB:cL)(vm vs:aq)(ks:List aq)(w:ay)(hB:w.heap[B]?=some (.cells c tB (0,0)))(h1:c[off+1]?=some vs)(hN:gy w 185 2 vm vs ks):aI aB 104 #[.pointer (some ⟨B,off,none⟩)] w fun e w'=>e=.returned (.int .i64 (ae ks))/\w'=w:=by
 obtain⟨av,dG,rfl⟩:=O2 hN;have b1:w.cell? ⟨B,off+1,none⟩=some (.slice av (ae ks) dG):=by rw[aF hB];exact h1
 clear hB h1 hN;go_enter Tryz.func104,Tryz.ntmps104;go_wp2;go_ret;exact⟨rfl,rfl⟩
theorem DR:(aB.info? 185).map (·.size)=some 2:=by kernel_rfl
theorem afY(B off:Nat)(c:Array aq)(tB:cL)(vm vs:aq)(ks:List aq)(w:ay)(hB:w.heap[B]?=some (.cells c tB (0,0)))(h1:c[off+1]?=some vs)(hN:gy w 185 2 vm vs ks)(i:Nat)(a b:Int)(hi:ks[i]?=some (cQ a b)):aI aB 105 #[.pointer (some ⟨B,off,none⟩),.int .i64 i] w fun e w'=>e=.returned (cQ a b)/\dA w.heap.size w w':=by
 have dx:i<ae ks:=(fB.1 hi).1;obtain⟨g,cap,rfl,lg,_,hc⟩:=X4 hN hi;have lB:=aE hB;have hi':(i:Int)<ae ks:=(by omega);have HB:=aj hB;have HC:=aj hc;clear hB hN hi hc;go_enter Tryz.func105,Tryz.ntmps105;go_upto_region 1 with fail;have kW:Kp [] w (w.alloc (.cells #[.int .i64 0,.int .i64 0] 185)):=(Kp.refl _ w).alloc _;have bR:(w.alloc (.cells #[.int .i64 0,.int .i64 0] 185)).heap[w.heap.size]?=some (.cells #[.int .i64 0,.int .i64 0] 185 (0,0)):=(by rw[aC,aA rfl]);generalize (w.alloc (.cells #[.int .i64 0,.int .i64 0] 185))=W at *;have b1:W.cell? ⟨B,off+1,none⟩=some (.slice (some ⟨g,0,none⟩) (ae ks) cap):=by rw[aF (kW.keep HB.o (by simp))];exact h1
 have KW:=aj kW;have BR:=aj bR;clear kW bR;apply fD
 iterate 18 go_step
 refine LF rfl _ _ rfl (b:=g) (o:=i*2) (cQ a b).cells (fun j hj=>?_) rfl _ ER rfl DR ?_
 .rw[<-HC.o j hj];exact(o8 KW.o.toBelow lg)
 refine mR rfl _ _ _ rfl BR.o rfl rfl rfl DR (by simp[dS,uA]) ?_;intro w2 b2 k2 s2;go_wp2;refine cF (v:=cQ a b) (D0 Tryz.results105 rfl b2 _ ER rfl DR) rfl ⟨rfl,(KW.o.trans k2 (by simp)).toBelow⟩
theorem am8(B off:Nat)(c:Array aq)(tB:cL)(vm vs:aq)(ks:List aq)(a b:Int)(w:ay)(hB:w.heap[B]?=some (.cells c tB (0,0)))(h0:c[off]?=some vm)(h1:c[off+1]?=some vs)(hN:gy w 185 2 vm vs ks)(hk:ji aB 185 (cQ a b))(iC:B∉dV vm vs)(dD:(ae ks)<100000):aI aB 90 #[.pointer (some ⟨B,off,none⟩),cQ a b] w fun e w'=>∃(i:Nat) (gK vs':aq),e=.returned (.int .i64 i)/\(jF ks (cQ a b))[i]?=some (cQ a b)/\rZ B off c tB 185 2 vm vs ks w gK vs' (jF ks (cQ a b)) w':=by
 have lB:=aE hB;obtain⟨HB,HN,H0,H1⟩:=dH hB hN h0 h1;have HF:ax (∀g∈dV vm vs,g<w.heap.size):=hN.lt;clear hB hN h0 h1;go_enter Tryz.func90,Tryz.ntmps90;go_upto_region 1 with fail;have kW:Kp [] w (w.alloc (jB a b)):=(Kp.refl _ w).alloc _;have bX:(w.alloc (jB a b)).heap[w.heap.size]?=some (jB a b):=(by rw[aC,aA rfl]);generalize (w.alloc (jB a b))=W at *;obtain⟨x0,x1,_⟩:=two bX;have KW:=aj kW;have BX:=aj bX;clear kW bX;go_region_with ((go_at_call 96;refine(agh B off c tB vm vs ks a b _ ((KW.o.drew).keep HB.o (by simp)) H0.o H1.o (HN.o.kp KW.o.drew (by simp)) hk iC dD).mono ?_;rintro _ w2 ⟨i,gK,vs',rfl,hi,hp⟩))
 all_goals
  go_wp2;go_ret;refine⟨i,gK,vs',rfl,hi,hp.blk,hp.ok,?_,?_⟩
  .exact(KW.o.drew.mono (by simp)).trans hp.kp (by intro y hy;exact .inl hy)
  .intro g hg;rcases hp.foot g hg with e|e
   .exact .inl e
   .exact .inr (j8 KW.o.size e)
theorem adR{w:ay}{b:Nat}{x0 x1:aq}{e:cL}(h:w.heap[b]?=some (.cells #[x0,x1] e (0,0)))(v0 v1:aq):((w.setCell ⟨b,0,none⟩ v0).setCell ⟨b,1,none⟩ v1).heap[b]?=some (.cells #[v0,v1] e (0,0)):=by
 simp only[aQ,h];simp[eD]
theorem Kp.agX{xs:List Nat}{w w1:ay}(h:Kp xs w w1){b:Nat}(hb:b∈xs\/w.heap.size<=b)(v0 v1:aq):Kp xs w ((w1.setCell ⟨b,0,none⟩ v0).setCell ⟨b,1,none⟩ v1) :=
 (h.set hb _ _).set hb _ _
abbrev xW:Obj:=.cells #[.int .i64 0,.int .i64 0] 185 (0,0)
theorem aoC(B off:Nat)(c:Array aq)(tB:cL)(vm vs:aq)(ks:List aq)(w:ay)(hB:w.heap[B]?=some (.cells c tB (0,0)))(h1:c[off+1]?=some vs)(hN:gy w 185 2 vm vs ks)(h2:c[off+2]?=some (.int .i64 (ae ks))):aI aB 91 #[.pointer (some ⟨B,off,none⟩)] w fun e w'=>e=.returned (.tuple #[cQ 0 0,.bool false])/\dA w.heap.size w w':=by
 have lB:=aE hB;obtain⟨HB,HN,H1,H2⟩:=dH hB hN h1 h2;clear hB hN h1 h2;go_enter Tryz.func91,Tryz.ntmps91;go_upto_region 1 with fail;have kW:Kp [] w (w.alloc xW):=(Kp.refl _ w).alloc _;have bR:(w.alloc xW).heap[w.heap.size]?=some xW:=(by rw[aC,aA rfl]);generalize (w.alloc xW)=W at *;have lR:=aE bR;have c2:W.cell? ⟨B,off+2,none⟩=some (.int .i64 (ae ks)):=by rw[aF (kW.keep HB.o (by simp))];exact H2.o
 have KW:=aj kW;have BR:=aj bR;clear kW bR;go_quiet ((go_at_call 104;exact Gl (aeb B off c tB vm vs ks _ (by exact KW.o.keep HB.o (by simp)) H1.o (HN.o.kp (KW.o.drewN _) (by simp)))))
 go_upto_region 3 with fail;apply fD;have bT:((W.drewN nq).alloc xW).heap[W.heap.size]?=some xW:=(by rw[aC,yx,aA rfl]);have bZ:((W.drewN nq).alloc xW).heap[w.heap.size]?=some xW:=by rw[aC,yx,az (bY lR)];exact BR.o
 refine xH rfl _ _ rfl bT rfl _ ER rfl DR ?_;refine mR rfl _ _ _ rfl bZ rfl rfl rfl DR (by simp[dS]) ?_;intro w2 b2 k2 s2;go_wp2;exact cF (v:=.tuple #[cQ 0 0,.bool false]) (OZ Tryz.results91 rfl rfl b2 _ ER rfl DR) rfl ⟨rfl,(((KW.o.drewN _).alloc _).trans k2 (by simp)).toBelow⟩
theorem aoD(B off:Nat)(c:Array aq)(tB:cL)(vm vs:aq)(ks:List aq)(k:Nat)(a b:Int)(w:ay)(hB:w.heap[B]?=some (.cells c tB (0,0)))(h1:c[off+1]?=some vs)(hN:gy w 185 2 vm vs ks)(h2:c[off+2]?=some (.int .i64 k))(hk:ks[k]?=some (cQ a b))(dD:(ae ks)<100000):aI aB 91 #[.pointer (some ⟨B,off,none⟩)] w fun e w'=>e=.returned (.tuple #[cQ a b,.bool true])/\w'.heap[B]?=some (.cells (c.setIfInBounds (off+2) (.int .i64 (k+1:Nat))) tB (0,0))/\Kp [B] w w':=by
 have lB:=aE hB;have dI:k<ae ks:=(fB.1 hk).1;have cP:((k:Int) == (ae ks))=false:=by simp;omega
 obtain⟨HB,HN,H1,H2,HK⟩:=jd hB hN h1 h2 hk;clear hB hN h1 h2 hk;go_enter Tryz.func91,Tryz.ntmps91;go_upto_region 1 with fail;have kW:Kp [] w (w.alloc xW):=(Kp.refl _ w).alloc _;have bR:(w.alloc xW).heap[w.heap.size]?=some xW:=(by rw[aC,aA rfl]);generalize (w.alloc xW)=W at *;have lR:=aE bR;have c2:W.cell? ⟨B,off+2,none⟩=some (.int .i64 k):=by rw[aF (kW.keep HB.o (by simp))];exact H2.o
 have KW:=aj kW;have BR:=aj bR;clear kW bR;go_quiet ((go_at_call 104;exact Gl (aeb B off c tB vm vs ks _ (by exact KW.o.keep HB.o (by simp)) H1.o (HN.o.kp (KW.o.drewN _) (by simp)))))
 go_upto_region 4 with fail;have kW:Kp [] w (W.drewN nq):=KW.o.drewN _;have bR:(W.drewN nq).heap[w.heap.size]?=some xW:=BR.o;have We:(W.drewN nq).cell? ⟨B,off+2,none⟩=some (.int .i64 k):=c2;clear c2 KW BR lR;generalize W.drewN nq=W1 at *;have lR:=aE bR;have BR:=aj bR;have KW:=aj kW;have Iz:B<W1.heap.size:=tC lB kW.size;have nB1:B≠W1.heap.size:=bY Iz;clear kW bR;go_region_with ((go_at_call 105;(first|(refine(afY B off c tB vm vs ks _ (by exact KW.o.drew.keep HB.o (by simp)) H1.o (HN.o.kp KW.o.drew (by simp)) k a b HK.o).mono ?_;rintro _ w2 ⟨rfl,h2⟩;have kA:=(Kp.refl [] W1).drew.below h2;have sA:=kA.size)|(refine(afY B off c tB vm vs ks _ (by exact(KW.o.drew.alloc _).keep HB.o (by simp)) H1.o (HN.o.kp (KW.o.drew.alloc _) (by simp)) k a b HK.o).mono ?_;rintro _ w2 ⟨rfl,h2⟩;have kA:=((Kp.refl [] W1).drew.alloc _).below h2;have bA:w2.heap[W1.heap.size]?=some xW:=bV h2 (by rw[aC,jo,aA rfl]);obtain⟨x0,x1,f0,f1⟩:=two bA;have BA:=aj bA;have sA:=kA.size;clear bA))))
 all_goals
  try simp only[jo]
  first
   |(have kX:Kp [] W1 ((w2.setCell ⟨W1.heap.size,0,none⟩ (.int .i64 a)).setCell ⟨W1.heap.size,1,none⟩ (.int .i64 b)):=kA.agX (.inr (aH _)) _ _
     have bX:((w2.setCell ⟨W1.heap.size,0,none⟩ (.int .i64 a)).setCell ⟨W1.heap.size,1,none⟩ (.int .i64 b)).heap[W1.heap.size]?=some (jB a b):=adR BA.o _ _;generalize ((w2.setCell ⟨W1.heap.size,0,none⟩ (.int .i64 a)).setCell ⟨W1.heap.size,1,none⟩ (.int .i64 b))=W3 at *;clear x0 x1 f0 f1;clear BA;have sA:W1.heap.size<=W1.heap.size:=aH _;generalize hX:W1.heap.size=X at *)
   |(have kX:Kp [] W1 (w2.alloc (jB a b)):=kA.alloc _
     have bX:(w2.alloc (jB a b)).heap[w2.heap.size]?=some (jB a b):=(by rw[aC,aA rfl]);generalize (w2.alloc (jB a b))=W3 at *;generalize w2.heap.size=X at *)
  have b3:W3.heap[B]?=some (.cells c tB (0,0)):=(KW.o.trans kX (by simp)).keep HB.o (by simp);have c3:W3.cell? ⟨B,off+2,none⟩=some (.int .i64 k):=by rw[aF b3];exact H2.o
  have f3:=cM b3 (off+2);have bR:=kX.keep BR.o (by simp);have K3:=aj (KW.o.trans kX (by simp));obtain⟨BX,B3,oE⟩:=cR bX b3 bR;clear kX bX b3 bR We h2 kA;have nX:X≠B:=(by omega);have nR:w.heap.size≠B:=(by omega);try clear hX
  clear sA nB1 Iz lR;go_upto_region 6 with fail;apply fD;refine xH rfl _ _ rfl (b:=X) (c:=#[.int .i64 a,.int .i64 b]) (by rw[aQ,az nX];exact BX.o) rfl _ ER rfl DR ?_;refine mR rfl _ _ _ rfl (b:=w.heap.size) (c:=#[.int .i64 0,.int .i64 0]) (e:=185) (by rw[aQ,az nR];exact oE.o) rfl rfl rfl DR (by simp[dS]) ?_;intro w4 b4 k4 s4;go_wp2;refine cF (v:=.tuple #[cQ a b,.bool true]) (OZ Tryz.results91 rfl rfl b4 _ ER rfl DR) rfl ⟨rfl,?_,((K3.o.mono (by simp)).set (by simp) _ _).trans k4 (by intro y hy;simp at hy;omega)⟩;refine k4.keep ?_ (by simp;omega);rw[aQ,aA rfl,B3.o];rfl
theorem akH(B off:Nat)(c:Array aq)(tB:cL)(vm vs:aq)(ks:List aq)(a b:Int)(r:Bool)(w:ay)(hB:w.heap[B]?=some (.cells c tB (0,0)))(h0:c[off]?=some vm)(hN:gy w 185 2 vm vs ks)(hk:ji aB 185 (cQ a b))(hr:r=true↔cQ a b∈ks):aI aB 110 #[.pointer (some ⟨B,off,none⟩),cQ a b] w fun e w'=>e=.returned (.bool r)/\dA w.heap.size w w':=by
 have c0:w.cell? ⟨B,off,none⟩=some vm:=by rw[aF hB];exact h0
 have lB:=aE hB;have hl:∃q:Int,∀o,(rX 146 vm (cQ a b) true).run aB (w.alloc o).drew=.ok (.tuple #[.int .i64 q,.bool r]) (w.alloc o).drew:=by
  cases r with
  |true =>
   have hx:=hr.1 rfl;obtain⟨i,hi⟩:=MW hx;obtain⟨mb,rfl,hm⟩:∃mb,vm=.map (some mb)/\jW w mb ks:=by
    rcases hN.map with⟨_,q⟩|q
    .rw[q]at hi;simp at hi
    .exact q
   have lm:=hm.lt;exact⟨i,fun o=>T9 Iy EO _ (hm.keep (by rw[eO,aC,az (bY lm)])) hN.key hN.nodup hi⟩
  |false =>
   (have hx:cQ a b∉ks:=fun e=>by have:=hr.2 e;cases this);rcases hN.map with⟨rfl,_⟩|⟨mb,rfl,hm⟩
   .exact⟨0,fun o=>Ub Iy EO _ (D5 _) hk⟩
   .have lm:=hm.lt;exact⟨0,fun o=>Ua Iy EO _ (D5 _) (hm.keep (by rw[eO,aC,az (bY lm)])) hN.key hk hx⟩
 obtain⟨q,hl⟩:=hl;clear hN h0 hB hr;go_enter Tryz.func110,Tryz.ntmps110;go_wp2_with fail;go_region
 all_goals
  go_wp2;go_ret;exact⟨rfl,((kQ _ _).alloc (aH _) _).drew⟩
theorem ao3(B off:Nat)(c:Array aq)(tB:cL)(vm vs:aq)(ks:List aq)(a b:Int)(r:Bool)(w:ay)(hB:w.heap[B]?=some (.cells c tB (0,0)))(h0:c[off]?=some vm)(hN:gy w 185 2 vm vs ks)(hk:ji aB 185 (cQ a b))(hr:r=true↔cQ a b∈ks):aI aB 95 #[.pointer (some ⟨B,off,none⟩),cQ a b] w fun e w'=>e=.returned (.bool r)/\dA w.heap.size w w':=by
 obtain⟨HB,HN,H0,HR⟩:=dH hB hN h0 hr;clear hB hN h0 hr;go_enter Tryz.func95,Tryz.ntmps95;go_upto_region 1 with fail;have kW:Kp [] w (w.alloc (jB a b)):=(Kp.refl _ w).alloc _;have bX:(w.alloc (jB a b)).heap[w.heap.size]?=some (jB a b):=(by rw[aC,aA rfl]);generalize (w.alloc (jB a b))=W at *;obtain⟨x0,x1,_⟩:=two bX;have KW:=aj kW;clear kW bX;go_region_with ((go_at_call 110;refine(akH B off c tB vm vs ks a b r _ ((KW.o.drew).keep HB.o (by simp)) H0.o (HN.o.kp KW.o.drew (by simp)) hk HR.o).mono ?_;rintro _ w2 ⟨rfl,h2⟩))
 all_goals
  go_wp2;go_ret;exact⟨rfl,(KW.o.drew.below h2).toBelow⟩
theorem ali(a b:Int)(w:ay):aI aB 106 #[.int .i64 a,.int .i64 b] w fun e w'=>e=.returned (cQ (min a b) (max a b))/\dA w.heap.size w w':=by
 go_enter Tryz.func106,Tryz.ntmps106;go_wp2
 all_goals
  refine cF (v:=.agg #[_,_]) (D0 Tryz.results106 rfl (by rw[aC,aA rfl]) _ ER rfl DR) rfl ⟨?_,(kQ _ _).alloc (aH _) _⟩;simp only[cQ,Ending.returned.injEq,Value.agg.injEq,Array.mk.injEq,List.cons.injEq,Value.int.injEq,true_and,and_true];omega
end
section
open Go.RowKit Go.ChangeMaps
theorem aey{w w':ay}{r:Option Nat}(h:w.grownBy w' r):w.drew.grownBy w' r:=⟨h.os,h.tape,h.output,h.size,h.block⟩
abbrev iy(a:Int):aq:=.int .i64 a
theorem amu(B off:Nat)(c:Array aq)(tB:cL)(vm vs:aq)(ks:List aq)(a:Int)(i:Nat)(w:ay)(hB:w.heap[B]?=some (.cells c tB (0,0)))(h0:c[off]?=some vm)(h1:c[off+1]?=some vs)(hN:gy w 3 1 vm vs ks)(hi:ks[i]?=some (iy a)):aI aB 107 #[.pointer (some ⟨B,off,none⟩),iy a] w fun e w'=>e=.returned (.int .i64 i)/\w'=w:=by
 obtain⟨mb,rfl,hm⟩:∃mb,vm=.map (some mb)/\jW w mb ks:=by
  rcases hN.map with⟨_,q⟩|q
  .rw[q]at hi;simp at hi
  .exact q
 have c0:w.cell? ⟨B,off,none⟩=some (.map (some mb)):=by rw[aF hB];exact h0
 have hl:(rX 189 (.map (some mb)) (iy a) true).run aB w=.ok (.tuple #[.int .i64 i,.bool true]) w :=
  T9 TK Nm _ hm hN.key hN.nodup hi
 clear hm hN hi h0 h1 hB;go_enter Tryz.func107,Tryz.ntmps107;go_wp2;go_ret;exact⟨rfl,rfl⟩
theorem amw(B off:Nat)(c:Array aq)(tB:cL)(mb:Nat)(vs:aq)(ks:List aq)(a:Int)(w:ay)(hB:w.heap[B]?=some (.cells c tB (0,0)))(h0:c[off]?=some (.map (some mb)))(h1:c[off+1]?=some vs)(hN:gy w 3 1 (.map (some mb)) vs ks)(hx:iy a∉ks)(hk:ji aB 3 (iy a))(iC:B∉dV (.map (some mb)) vs)(dD:(ae ks)<100000):aI aB 107 #[.pointer (some ⟨B,off,none⟩),iy a] w fun e w'=>e=.returned (.int .i64 (ae ks))/\∃vs',rZ B off c tB 3 1 (.map (some mb)) vs ks w (.map (some mb)) vs' (ks ++ [iy a]) w':=by
 have hm:jW w mb ks:=by
  rcases hN.map with⟨q,_⟩|⟨m,q,r⟩
  .cases q
  .cases q;exact r
 have c0:w.cell? ⟨B,off,none⟩=some (.map (some mb)):=by rw[aF hB];exact h0
 have lB:=aE hB;have lm:=hm.lt;have mB:mb≠B:=fun e=>iC (ju.2 (.inl (by rw[e])))
 have hl:(rX 189 (.map (some mb)) (iy a) true).run aB w=.ok (.tuple #[.int .i64 0,.bool false]) w :=
  Ua TK Nm _ (D5 _) hm hN.key hk hx
 obtain⟨HN,HB,H0,H1⟩:=dH hN hB h0 h1;obtain⟨av,dG,rfl⟩:=O2 hN;obtain⟨i0,cS,dc,dm,cW⟩:=iw DQ;have b1:w.cell? ⟨B,off+1,none⟩=some (.slice av (ae ks) dG):=by rw[aF hB];exact h1
 have tS:=fun w r=>Mg (P:=aB) w 189 _ _ r Nm
 obtain⟨o,hu,mN⟩:=I7 TK Nm w hm HN.o.key hk hx;obtain⟨MN,I0,Z0,Z1,Z2⟩:=jd mN cS dc dm cW;clear hm hN h0 h1 hB mN cS dc dm cW;go_enter Tryz.func107,Tryz.ntmps107;go_upto_region 8 with fail;have k2:Kp [mb] w (setBlock w mb o):=Ja lm;have mN:=MN.o;generalize setBlock w mb o=W2 at *;have bB:=k2.keep HB.o (by simp;exact fun e=>mB e.symm);have oV:W2.ownsRow 0 3 1 (.slice av (ae ks) dG) (ae ks) (n6 ks):=aJ HN.o.row k2 (by
  intro g e hm;simp at hm;subst hm;exact HN.o.apart e)
 obtain⟨K2,mS,RW,vu⟩:=dH k2 bB oV mN;clear b1 c0 hu hl MN tS;have b1:W2.cell? ⟨B,off+1,none⟩=some (.slice av (ae ks) dG):=by rw[aF bB];exact H1.o
 have oe:=aE bB;clear bB oV k2 mN;apply fD
 iterate 21 go_step
 refine qU rfl _ _ _ rfl 3 i0 _ 1 8 qR I0.o Z0.o Z1.o Z2.o rfl (by omega) (.slice av (ae ks) dG) (ae ks) (n6 ks) rfl (RW.o.alloc _) ⟨W2.heap.size,0,none⟩ 1 1 [.int .i64 a] rfl rfl (gN (cs:=#[.int .i64 a]) (t:=3) (fr:=(0,0)) (jS W2 _)) (by simp[dS]) (by omega) (by unfold eB;omega) (by omega) (W2.heap.size+1) (by simp) ?_;intro g1 aP w3 cT bj cy iz;have q3:=fY bj (b:=B) (by rw[aC,az (bY oe)];exact mS.o) (fun e=>iC (ju.2 (.inr e)));have LM:w3.frozen? ⟨B,off+1,none⟩=false:=cM q3 _;have nc:w3.cell? ⟨B,off+1,none⟩=some (.slice av (ae ks) dG):=by rw[aF q3];exact H1.o
 clear q3;go_wp2;go_ret;exact⟨rfl,_,IT lB (K2.o.mono (by intro y hy;simp at hy;subst hy;exact vq _ (ju.2 (.inl rfl)))) (.inl rfl) mS.o (fun v=>by rw[D4,YC H0.o]) HN.o.nodup HN.o.key HN.o.sizes rfl vu.o hx hk
  (fun g e=>HN.o.lt g (ju.2 (.inr e))) (fun e=>iC (ju.2 (.inr e))) HN.o.apart mB cT (aey bj) cy⟩
theorem amv(B off:Nat)(c:Array aq)(tB:cL)(vs:aq)(a:Int)(w:ay)(hB:w.heap[B]?=some (.cells c tB (0,0)))(h0:c[off]?=some (.map none))(h1:c[off+1]?=some vs)(hN:gy w 3 1 (.map none) vs [])(hk:ji aB 3 (iy a))(iC:B∉dV (.map none) vs):aI aB 107 #[.pointer (some ⟨B,off,none⟩),iy a] w fun e w'=>e=.returned (.int .i64 0)/\∃mb vs',rZ B off c tB 3 1 (.map none) vs [] w (.map (some mb)) vs' [iy a] w':=by
 have c0:w.cell? ⟨B,off,none⟩=some (.map none):=by rw[aF hB];exact h0
 have lB:=aE hB;have hl:∀w',(rX 189 (.map none) (iy a) true).run aB w'=.ok (.tuple #[.int .i64 0,.bool false]) w':=fun w' =>
  Ub TK Nm _ (D5 _) hk
 obtain⟨HN,HB,H0,H1⟩:=dH hN hB h0 h1;obtain⟨av,dG,uK⟩:=O2 hN;simp only[List.length_nil]at uK;subst uK;obtain⟨i0,cS,dc,dm,cW⟩:=iw DQ;obtain⟨I0,Z0,Z1,Z2⟩:=dH cS dc dm cW;have tS:=fun w r=>Mg (P:=aB) w 189 _ _ r Nm
 have ig:(aad 189 none).run aB w=.ok (.map (some w.heap.size)) (w.alloc (.map #[] 0)):=run_makeMap _ w;have qi:(w.alloc (.map #[] 0)).heap[B]?=some (.cells c tB (0,0)):=by rw[aC,az (bY lB)];exact hB
 have d0:(w.alloc (.map #[] 0)).cell? ⟨B,off,none⟩=some (.map none):=by rw[aF qi];exact h0
 have d1:=cM qi off;have f0:=cM hB off;clear hN h0 h1 hB cS dc dm cW qi;go_enter Tryz.func107,Tryz.ntmps107;go_upto_region 6 with fail;have kM:Kp [B] w ((w.setCell ⟨B,off,none⟩ (.map (some w.heap.size))).alloc (.map #[] 0)):=((Kp.refl [B] w).set (by simp) _ _).alloc _;have bB:((w.setCell ⟨B,off,none⟩ (.map (some w.heap.size))).alloc (.map #[] 0)).heap[B]?=some (.cells (c.setIfInBounds off (.map (some w.heap.size))) tB (0,0)):=by
  rw[aC,iA,az (bY lB),aQ,aA rfl,HB.o];rfl
 have mW:jW ((w.setCell ⟨B,off,none⟩ (.map (some w.heap.size))).alloc (.map #[] 0)) w.heap.size []:=by
  have:=Yb (w.setCell ⟨B,off,none⟩ (.map (some w.heap.size)));rw[iA]at this;exact this
 generalize (w.setCell ⟨B,off,none⟩ (.map (some w.heap.size))).alloc (.map #[] 0)=W1 at *;generalize Od:w.heap.size=mb at *;obtain⟨o,hu,mN⟩:=I7 TK Nm W1 mW (by simp) hk (by simp);have hu:(Qo 189 (.map (some mb)) (iy a) (.int .i64 0)).run aB W1=.ok () (setBlock W1 mb o):=hu;have l0:=(AF.1 H0.o).1;have l1:=(AF.1 H1.o).1;have Ki:W1.cell? ⟨B,off,none⟩=some (.map (some mb)):=(by rw[aF bB,xZ l0]);have b1':W1.cell? ⟨B,off+1,none⟩=some (.slice av 0 dG):=by rw[aF bB,iH (by omega)];exact H1.o
 obtain⟨KM,p8,MN,HMB⟩:=dH kM bB mN Od;have LD:=mW.lt;have aqp:B≠mb:=(by omega);clear d0 d1 ig kM bB mW mN Od c0 hl f0;go_upto_region 8 with fail;have k2:Kp [mb] W1 (setBlock W1 mb o):=Ja LD;have mN:=MN.o;generalize setBlock W1 mb o=W2 at *;have bB:=k2.keep p8.o (by simp;omega);have fl:∀g,aK (.slice av 0 dG)=some g->g<w.heap.size:=fun g e=>HN.o.lt g (ju.2 (.inr e))
 have nB:aK (.slice av 0 dG)≠some B:=fun e=>iC (ju.2 (.inr e))
 have oV:W2.ownsRow 0 3 1 (.slice av 0 dG) 0 []:=aJ (aJ HN.o.row KM.o (by intro g e hm;simp at hm;subst hm;exact nB e)) k2 (by
  intro g e hm;simp at hm;have:=fl g e;have:=HMB.o;omega)
 obtain⟨K2,mS,RW,vu⟩:=dH k2 bB oV mN;clear Ki b1' hu MN p8 tS;have b1:W2.cell? ⟨B,off+1,none⟩=some (.slice av 0 dG):=by rw[aF bB,iH (by omega)];exact H1.o
 have oe:=aE bB;clear bB oV k2 mN;apply fD
 iterate 21 go_step
 refine qU rfl _ _ _ rfl 3 i0 _ 1 8 qR I0.o Z0.o Z1.o Z2.o rfl (by omega) (.slice av 0 dG) 0 [] rfl (RW.o.alloc _) ⟨W2.heap.size,0,none⟩ 1 1 [.int .i64 a] rfl rfl (gN (cs:=#[.int .i64 a]) (t:=3) (fr:=(0,0)) (jS W2 _)) (by simp[dS]) (by omega) (by unfold eB;omega) (by omega) (W2.heap.size+1) (by simp) ?_;intro g1 aP w3 cT bj cy iz;have q3:=fY bj (b:=B) (by rw[aC,az (bY oe)];exact mS.o) nB;have LM:w3.frozen? ⟨B,off+1,none⟩=false:=cM q3 _;have nc:w3.cell? ⟨B,off+1,none⟩=some (.slice av 0 dG):=by rw[aF q3,iH (by omega)];exact H1.o
 clear q3;go_wp2;go_ret;have Od:=HMB.o;refine⟨rfl,mb,_,IT (ks:=[]) (x:=iy a) (by omega) ((KM.o.mono (by simp)).trans K2.o (by intro y hy;simp at hy;subst hy;exact .inr (by omega))) (.inr (by omega)) mS.o (fun v=>rfl) (by simp) (by simp) (by simp) rfl vu.o (by simp) hk fl nB (fun e=>by have:=fl _ e;omega) (by omega) cT (aey bj) cy⟩
theorem amt(B off:Nat)(c:Array aq)(tB:cL)(vm vs:aq)(ks:List aq)(a:Int)(w:ay)(hB:w.heap[B]?=some (.cells c tB (0,0)))(h0:c[off]?=some vm)(h1:c[off+1]?=some vs)(hN:gy w 3 1 vm vs ks)(hk:ji aB 3 (iy a))(iC:B∉dV vm vs)(dD:(ae ks)<100000):aI aB 107 #[.pointer (some ⟨B,off,none⟩),iy a] w fun e w'=>∃(i:Nat) (gK vs':aq),e=.returned (.int .i64 i)/\(jF ks (iy a))[i]?=some (iy a)/\rZ B off c tB 3 1 vm vs ks w gK vs' (jF ks (iy a)) w':=by
 by_cases hx:iy a∈ks
 .obtain⟨i,hi⟩:=MW hx;rw[uC hx];exact(amu B off c tB vm vs ks a i w hB h0 h1 hN hi).mono fun e w' h=>⟨i,vm,vs,h.1,hi,by rw[h.2];exact Yc hB h0 h1 hN (kQ _ _)⟩
 .rw[sj hx];rcases hN.map with⟨rfl,rfl⟩|⟨mb,rfl,_⟩
  .exact(amv B off c tB vs a w hB h0 h1 hN hk iC).mono fun e w' ⟨h,mb,vs',p⟩=>⟨0,_,vs',h,rfl,p⟩
  .exact(amw B off c tB mb vs ks a w hB h0 h1 hN hx hk iC dD).mono fun e w' ⟨h,vs',p⟩=>⟨(ae ks),_,vs',h,by simp,p⟩
theorem aea(B off:Nat)(c:Array aq)(tB:cL)(vm vs:aq)(ks:List aq)(w:ay)(hB:w.heap[B]?=some (.cells c tB (0,0)))(h1:c[off+1]?=some vs)(hN:gy w 3 1 vm vs ks):aI aB 108 #[.pointer (some ⟨B,off,none⟩)] w fun e w'=>e=.returned (.int .i64 (ae ks))/\w'=w:=by
 obtain⟨av,dG,rfl⟩:=O2 hN;have b1:w.cell? ⟨B,off+1,none⟩=some (.slice av (ae ks) dG):=by rw[aF hB];exact h1
 clear hB h1 hN;go_enter Tryz.func108,Tryz.ntmps108;go_wp2;go_ret;exact⟨rfl,rfl⟩
theorem amd(B off:Nat)(c:Array aq)(tB:cL)(vm vs:aq)(ks:List aq)(w:ay)(hB:w.heap[B]?=some (.cells c tB (0,0)))(h1:c[off+1]?=some vs)(hN:gy w 3 1 vm vs ks)(i:Nat)(a:Int)(hi:ks[i]?=some (iy a)):aI aB 109 #[.pointer (some ⟨B,off,none⟩),.int .i64 i] w fun e w'=>e=.returned (iy a)/\w'=w:=by
 have dx:i<ae ks:=(fB.1 hi).1;obtain⟨g,cap,rfl,lg,_,hc⟩:=X4 hN hi;have b1:w.cell? ⟨B,off+1,none⟩=some (.slice (some ⟨g,0,none⟩) (ae ks) cap):=by rw[aF hB];exact h1
 have hi':(i:Int)<ae ks:=(by omega);have d0:=hc 0 (by omega);simp only[Nat.mul_one,yl,uA]at d0;have d0':w.cell? ⟨g,i,none⟩=some (iy a):=d0;clear hB h1 hN hi hc d0;go_enter Tryz.func109,Tryz.ntmps109;go_wp2;go_ret;exact⟨rfl,rfl⟩
theorem am7(B off:Nat)(c:Array aq)(tB:cL)(vm vs:aq)(ks:List aq)(a:Int)(w:ay)(hB:w.heap[B]?=some (.cells c tB (0,0)))(h0:c[off]?=some vm)(h1:c[off+1]?=some vs)(hN:gy w 3 1 vm vs ks)(hk:ji aB 3 (iy a))(iC:B∉dV vm vs)(dD:(ae ks)<100000):aI aB 93 #[.pointer (some ⟨B,off,none⟩),iy a] w fun e w'=>∃(i:Nat) (gK vs':aq),e=.returned (.int .i64 i)/\(jF ks (iy a))[i]?=some (iy a)/\rZ B off c tB 3 1 vm vs ks w gK vs' (jF ks (iy a)) w':=by
 obtain⟨HB,HN,H0,H1⟩:=dH hB hN h0 h1;clear hB hN h0 h1;go_enter Tryz.func93,Tryz.ntmps93;go_wp2_with fail;refine(amt B off c tB vm vs ks a _ HB.o H0.o H1.o HN.o hk iC dD).mono ?_;rintro _ w2 ⟨i,gK,vs',rfl,hi,hp⟩;go_wp2;go_ret;exact⟨i,gK,vs',rfl,hi,hp⟩
theorem aoA(B off:Nat)(c:Array aq)(tB:cL)(vm vs:aq)(ks:List aq)(w:ay)(hB:w.heap[B]?=some (.cells c tB (0,0)))(h1:c[off+1]?=some vs)(hN:gy w 3 1 vm vs ks)(h2:c[off+2]?=some (.int .i64 (ae ks))):aI aB 94 #[.pointer (some ⟨B,off,none⟩)] w fun e w'=>e=.returned (.tuple #[iy 0,.bool false])/\dA w.heap.size w w':=by
 obtain⟨HB,HN,H1⟩:=cR hB hN h1;have c2:w.cell? ⟨B,off+2,none⟩=some (.int .i64 (ae ks)):=by rw[aF hB];exact h2
 clear hB hN h1 h2;go_enter Tryz.func94,Tryz.ntmps94;go_upto_region 1 with fail;go_quiet ((go_at_call 108;exact Gl (aea B off c tB vm vs ks _ (by exact HB.o) H1.o (HN.o.kp ((Kp.refl [] w).drewN _) (by simp)))))
 go_wp2;go_ret2
 exact⟨rfl,((Kp.refl [] w).drewN _).toBelow⟩
theorem aoB(B off:Nat)(c:Array aq)(tB:cL)(vm vs:aq)(ks:List aq)(k:Nat)(a:Int)(w:ay)(hB:w.heap[B]?=some (.cells c tB (0,0)))(h1:c[off+1]?=some vs)(hN:gy w 3 1 vm vs ks)(h2:c[off+2]?=some (.int .i64 k))(hk:ks[k]?=some (iy a))(dD:(ae ks)<100000):aI aB 94 #[.pointer (some ⟨B,off,none⟩)] w fun e w'=>e=.returned (.tuple #[iy a,.bool true])/\w'.heap[B]?=some (.cells (c.setIfInBounds (off+2) (.int .i64 (k+1:Nat))) tB (0,0))/\Kp [B] w w':=by
 have dI:k<ae ks:=(fB.1 hk).1;have cP:((k:Int) == (ae ks))=false:=by simp;omega
 obtain⟨HB,HN,H1,HK⟩:=dH hB hN h1 hk;have c2:w.cell? ⟨B,off+2,none⟩=some (.int .i64 k):=by rw[aF hB];exact h2
 have f2:=cM hB (off+2);clear hB hN h1 h2 hk;go_enter Tryz.func94,Tryz.ntmps94;go_upto_region 1 with fail;go_quiet ((go_at_call 108;exact Gl (aea B off c tB vm vs ks _ (by exact HB.o) H1.o (HN.o.kp ((Kp.refl [] w).drewN _) (by simp)))))
 go_upto_region 4 with fail;have kW:Kp [] w (w.drewN nq):=(Kp.refl [] w).drewN _;have We:(w.drewN nq).cell? ⟨B,off+2,none⟩=some (.int .i64 k):=c2;have f2':(w.drewN nq).frozen? ⟨B,off+2,none⟩=false:=f2;clear c2 f2;generalize w.drewN nq=W1 at *;have KW:=aj kW;have nU:=aj (kW.keep HB.o (by simp));have MJ:=aj (HN.o.kp kW (by simp));clear kW;go_quiet ((go_at_call 109;exact Gl (amd B off c tB vm vs ks _ (by exact nU.o) H1.o (MJ.o.kp ((Kp.refl [] W1).drewN _) (by simp)) k a HK.o)))
 go_wp2;go_ret2
 refine⟨rfl,?_,((KW.o.mono (by simp)).drewN _).set (by simp) _ _⟩;rw[aQ,aA rfl];simp only[yx,nU.o];rfl
end
section
open Go.RowKit Go.ChangeMaps
theorem Dt{w w':ay}(h:Kp [] w w'){b o:Nat}(hb:b<w.heap.size):w'.cell? ⟨b,o,none⟩=w.cell? ⟨b,o,none⟩:=h.toBelow.cell (p:=⟨b,o,none⟩) hb
theorem Kp.fresh{xs:List Nat}{w w':ay}(h:Kp xs w w')(hx:∀x∈xs,w.heap.size<=x):Kp [] w w':=⟨h.os,h.tape,h.output,h.size,fun k hk _=>h.block k hk (fun e=>by have:=hx k e;omega)⟩
theorem aaX(g cap:Nat)(l:List Int)(w:ay)(hl:0<ae l)(dD:(ae l)<=100000)(hc:∀i,i<ae l->w.cell? ⟨g,i,none⟩=some (.int .i64 (l.getD i 0)))(hg:g<w.heap.size):aI aB 46 #[.slice (some ⟨g,0,none⟩) (ae l) cap] w fun e w'=>∃g1 aP,e=.returned (.slice (some ⟨g1,0,none⟩) (ae l) aP)/\w.heap.size<=g1/\w'.ownsRow 0 3 1 (.slice (some ⟨g1,0,none⟩) (ae l) aP) (ae l) (iv l)/\dA w.heap.size w w':=by
 obtain⟨i0,cS,dc,dm,cW⟩:=iw DQ;obtain⟨I0,Z0,Z1,Z2,HC⟩:=jd cS dc dm cW hc;have tS:=fun w=>Lib.run_eql_slice_nil (P:=aB) w 61 _ (some ⟨g,0,none⟩) (ae l) cap 0 0 qR
 clear cS dc dm cW hc;go_enter Tryz.func46,Tryz.ntmps46;go_upto_region 3 with fail;apply fD
 iterate 6 go_step
 refine qU rfl _ _ _ rfl 3 i0 _ 1 8 qR I0.o Z0.o Z1.o Z2.o rfl (by omega) (.slice (some ⟨w.heap.size,0,none⟩) 0 0) 0 [] rfl (World.ownsRow_made w #[] 0 (bU _) (by unfold eB;omega) rfl) ⟨g,0,none⟩ (ae l) cap (iv l) rfl (by simp) ?_ (by simp[dS]) hl (by unfold eB;omega) (by omega) (w.heap.size+1) (by simp) ?_
 .intro j u hj;have Cf:j<ae l:=by have:=(fB.1 hj).1;simpa using this
  rw[Addr.add_mid,yn];have:=HC.o j Cf;rw[<-Dt ((Kp.refl [] w).alloc (.cells #[] 3 (0,0))) hg]at this;rw[this];rw[kx,bD Cf]at hj;rw[aO,bD Cf];exact hj
 .intro g1 aP w3 cT bj cy iz;rw[yn]at cT;have jI:w.heap.size<=g1:=by
   rcases cy with e|e
   .simp[aK]at e;omega
   .omega
  have k3:Kp [] w w3:=(((Kp.refl [w.heap.size] w).alloc _).grown bj (fun k e=>by simp[aK]at e;exact .inl (by simp[e]))).fresh (by simp);have OWN:=aj cT;have K3:=aj k3;clear cT k3 bj cy iz tS I0 Z0 Z1 Z2;go_wp2;go_ret;exact⟨g1,aP,by simp,jI,OWN.o,K3.o.toBelow⟩
theorem ama(g cap:Nat)(l:List Int)(w:ay)(hl:0<ae l)(dD:(ae l)<=100000)(hc:∀i,i<ae l->w.cell? ⟨g,i,none⟩=some (.int .i64 (l.getD i 0))):aI aB 97 #[.slice (some ⟨g,0,none⟩) (ae l) cap] w fun e w'=>∃m:Int,e=.returned (.int .i64 m)/\(∀i,i<ae l->l.getD i 0<=m)/\(∃i,i<ae l/\l.getD i 0=m)/\w'=w:=by
 have HC:=aj hc;have c0:=hc 0 hl;have hl':¬(ae l:Int)<1:=(by omega);have DH:(0:Int)<ae l:=(by omega);clear hc;generalize yT:l.getD 0 0=x0 at *;have HX0:=aj yT;clear yT;go_enter Tryz.func97,Tryz.ntmps97;go_wp2_with fail;go_loopw [3,4] (fun s3 s4 w'=>∃(k:Nat) (m:Int),1<=k/\k<=ae l/\s3=.int .i64 m/\s4=.int .i64 k/\(∀i,i<k->l.getD i 0<=m)/\(∃i,i<ae l/\l.getD i 0=m)/\w'=w)
  (fun _ s4 _=>ae l-(intOf s4).toNat)
 case atStart=>exact⟨1,x0,by omega,by omega,rfl,rfl,fun i hi=>by rw[show i=0 by omega,HX0.o];exact Int.le_refl _,⟨0,hl,HX0.o⟩,rfl⟩
 case round =>
  obtain⟨k,m,jt,hk,rfl,rfl,iu,Ii,rfl⟩:=hrel;have HLE:=aj iu;have Gn:=aj Ii;clear iu Ii c0;by_cases aN:k<ae l
  .have gU:(k:Int)<ae l:=(by omega);have ck:=HC.o k aN;generalize hxk:l.getD k 0=xk at *;have HXK:=aj hxk;clear hxk;go_wp2;refine⟨⟨k+1,if m<xk then xk else m,by omega,by omega,rfl,by go_num,fun i hi=>?_,?_,trivial⟩,by simp[intOf];omega⟩
   .by_cases e:i=k
    .subst e;rw[HXK.o];split<;>omega
    .have:=HLE.o i (by omega);split<;>omega
   .split
    .exact⟨k,aN,HXK.o⟩
    .exact Gn.o
  .have jZ:k=ae l:=(by omega);subst jZ;go_wp2;go_ret;exact⟨m,rfl,HLE.o,Gn.o,rfl⟩
end
end Go.Proofs.YtbjdkbcfpmeneaaGreat
