/- What is proved here: what ends, lengths and Match of the document's answer give, at every tree that Read gave and every text. -/
import Derived.Test.YtbjdkbcfpmeneaaGreatM05
import Derived.Test.YtbjdkbcfpmeneaaGreatM04
import Derived.Test.YtbjdkbcfpmeneaaGreatM06
import Derived.Laws.CopyOwn
open Bool renaming false_or->UO,or_eq_true->pJ,or_true->Gk
open Go renaming Calls->aI,Value->aq,World->ay,bodyPost_ret->cF,maxLen->eB,results->eG,wpList_append_lies->Gb
open Go.Instr renaming makeSlice->pN
open Go.IntKind renaming bits->qa,i64->GA,signed->qc,wrap->tA
open Go.Proofs.Tryz renaming prog->aB,results11->QX,underlying61->qR
open Go.RowKit renaming Below->dA,intOf->aG
open Go.Value renaming bool->EU,oneCell'->dS,ownBlock->aK
open Go.Value.slice renaming injEq->fy
open Go.World renaming news_of_block->gN
open List renaming append_assoc->mH,drop_eq_getElem_cons->ac5,drop_zero->aak,getD_eq_getElem?_getD->aO,getElem?_eq_getElem->bD,getElem?_eq_none->iY,getElem?_set_ne->zo,getElem?_set_self->GH,getElem_mem->nE,length->ae,length_append->cx,length_map->mX,length_set->mq,map_append->uv,map_cons->GK,map_nil->GL,mem_append->jr,take_length->Vs,take_of_length_le->Ba,take_succ_cons->adf,take_zero->Ew
open Nat renaming le_refl->aH,lt_or_ge->eK,ne_of_lt->bY,strongRecOn->M2
open Option renaming getD_some->nV
open Option.some renaming injEq->aV
namespace Go.Proofs.YtbjdkbcfpmeneaaGreat
set_option linter.unusedVariables false
set_option linter.unusedSimpArgs false
set_option maxRecDepth 100000
set_option maxHeartbeats 16000000
open Go.RowKit
section
variable{x:List Nat}{lf o l:List Bool}{i j:Nat}
def lK(x:List Nat)(i j:Nat):List Nat:=(x.drop i).take (j-i)
theorem YK(h1:i<=j)(h2:j<=ae x):(lK x i j).length=j-i:=by
 unfold lK;rw[List.length_take,List.length_drop];omega
theorem YL(h1:i<=j)(h2:j<=ae x):lK x i j=[]↔i=j:=by
 rw[<-List.length_eq_zero_iff,YK h1 h2];omega
theorem sub_self(x:List Nat)(i:Nat):lK x i i=[]:=by simp[lK]
theorem acA{m:Nat}(h1:i<=m)(h2:m<=j):lK x i j=lK x i m++lK x m j:=by
 unfold lK;rw[show j-i=(m-i)+(j-m) by omega,List.take_add,List.drop_drop,show i+(m-i)=m by omega]
theorem YJ{A B:cC}(h1:i<=j)(h2:j<=ae x):FE A B (lK x i j)↔∃m,i<=m/\m<=j/\A (lK x i m)/\B (lK x m j):=by
 constructor
 .rintro⟨y,z,e,ha,hb⟩;have hl:=YK h1 h2;rw[e,cx]at hl;have hs:=acA (x:=x) (i:=i) (m:=i+ae y) (j:=j) (by omega) (by omega);rw[e]at hs;have hy:(lK x i (i+ae y)).length=ae y:=by rw[YK (by omega) (by omega)];omega
  obtain⟨e1,e2⟩:=List.append_inj hs hy.symm;exact⟨i+ae y,by omega,by omega,by rw[<-e1];exact ha,by rw[<-e2];exact hb⟩
 .rintro⟨m,a,b,ha,hb⟩;exact⟨_,_,acA a b,ha,hb⟩
theorem ahd(s:Nat)(h1:i<=j)(h2:j<=ae x):Lw s (lK x i j)↔j=i+1/\s.testBit (x.getD i 0)=true:=by
 constructor
 .rintro⟨c,e,hc⟩;have hl:=YK h1 h2;rw[e]at hl;simp at hl;have hj:j=i+1:=(by omega);subst hj;refine⟨rfl,?_⟩;have hi:i<ae x:=(by omega);have:lK x i (i+1)=[x[i]]:=by
   unfold lK;rw[show i+1-i=1 by omega,ac5 hi,adf,Ew]
  rw[this]at e;simp only[List.cons.injEq,and_true]at e;rw[aO,bD hi,nV,e];exact hc
 .rintro⟨rfl,hc⟩;have hi:i<ae x:=(by omega);refine⟨x[i],?_,?_⟩
  .unfold lK;rw[show i+1-i=1 by omega,ac5 hi,adf,Ew]
  .rw[aO,bD hi,nV]at hc;exact hc
structure kU(L:cC)(x:List Nat)(lf lo:List Bool):Prop where
 len:(ae lo)=ae x+1
 iff:∀j,j<=ae x->(lo.getD j false=true↔∃i,i<=j/\lf.getD i false=true/\L (lK x i j))
theorem kU.aX(h:(ae lf)=ae x+1):kU Oy x lf lf :=
 ⟨h,fun j hj=>by
  constructor
  .intro a;exact⟨j,aH _,a,sub_self x j⟩
  .rintro⟨i,a,b,c⟩
   have:=(YL a hj).1 c
   subst this;exact b⟩
theorem kU.cat{A B:cC}{l1 l2:List Bool}(h:kU A x lf l1)(k:kU B x l1 l2):kU (FE A B) x lf l2 :=
 ⟨k.len,fun j hj=>by
  rw[k.iff j hj]
  constructor
  .rintro⟨m,a,b,c⟩
   obtain⟨i,d,e,g⟩:=(h.iff m (by omega)).1 b
   exact⟨i,by omega,e,(YJ (by omega) hj).2 ⟨m,d,a,g,c⟩⟩
  .rintro⟨i,a,b,c⟩
   obtain⟨m,d,e,g,l⟩:=(YJ a hj).1 c
   exact⟨m,e,(h.iff m (by omega)).2 ⟨i,d,b,g⟩,l⟩⟩
theorem aiJ(Ms:List cC)(y:List Nat):Bk Ms y↔∃M∈Ms,M y:=by
 have key:∀(Ms:List cC) (L:cC),(Ms.foldl Lu L) y↔L y\/∃M∈Ms,M y:=by
  intro Ms;induction Ms with
  |nil=>intro L;simp
  |cons M Ms ih =>
   intro L;rw[List.foldl_cons,ih];simp only[Lu,List.mem_cons];constructor
   .rintro((a|a)|⟨N,a,b⟩)
    .exact .inl a
    .exact .inr ⟨M,.inl rfl,a⟩
    .exact .inr ⟨N,.inr a,b⟩
   .rintro(a|⟨N,rfl|a,b⟩)
    .exact .inl (.inl a)
    .exact .inl (.inr b)
    .exact .inr ⟨N,a,b⟩
 cases Ms with
 |nil=>simp[Bk,oh]
 |cons M Ms =>
  rw[Bk,key];simp
def fW(a b:List Bool):Nat->List Bool
 |0=>a
 | k+1=>(fW a b k).set k (a.getD k false || b.getD k false)
theorem rF(a b:List Bool):∀k,(fW a b k).length=ae a
 |0=>rfl
 |k+1=>by rw[fW,mq];exact rF a b k
theorem vZ(a b:List Bool):∀k q,k<=ae a->(fW a b k).getD q false=if q<k then(a.getD q false || b.getD q false) else a.getD q false:=by
 intro k;induction k with
 |zero=>intro q _;simp[fW]
 |succ k ih =>
  intro q hk;have hl:=rF a b k;rw[fW];by_cases h:q=k
  .subst h;rw[aO,GH (by omega),nV,aA (by omega)]
  .rw[aO,zo (fun e=>h e.symm),<-aO,ih q (by omega)];by_cases h2:q<k
   .rw[aA h2,aA (by omega)]
   .rw[az h2,az (by omega)]
theorem agm(a b:List Bool)(k:Nat)(hk:k<ae a)(h:(a.getD k false || b.getD k false)=a.getD k false):fW a b (k+1)=fW a b k:=by
 rw[fW,h];have g:=vZ a b k k (by omega);rw[az (by omega)]at g;rw[<-g,aO,bD (by rw[rF];exact hk),nV];simp
theorem kU.none(x:List Nat)(lf:List Bool):kU (Bk []) x lf (fl (ae x+1)) :=
 ⟨yE _,fun j _=>by
  rw[aa8,Bk]
  simp[oh]⟩
theorem kU.alt{Ms:List cC}{M:cC}(h:kU (Bk Ms) x lf o)(k:kU M x lf l):kU (Bk (Ms ++ [M])) x lf (fW o l (ae x+1)) :=
 ⟨by rw[rF];exact h.len,fun j hj=>by
  rw[vZ o l _ j (by rw[h.len];exact aH _),aA (by omega),pJ,h.iff j hj,k.iff j hj]
  simp only[aiJ,jr,List.mem_singleton]
  constructor
  .rintro(⟨i,a,b,N,c,d⟩|⟨i,a,b,c⟩)
   .exact⟨i,a,b,N,.inl c,d⟩
   .exact⟨i,a,b,M,.inr rfl,c⟩
  .rintro⟨i,a,b,N,c|rfl,d⟩
   .exact .inl ⟨i,a,b,N,c,d⟩
   .exact .inr ⟨i,a,b,d⟩⟩
def uD(s:Nat)(x:List Nat)(lf:List Bool):Nat->List Bool
 |0=>fl (ae x+1)
 |k+1=>if (lf.getD k false && s.testBit (x.getD k 0))=true then(uD s x lf k).set (k+1) true else uD s x lf k
theorem Rm(s:Nat)(x:List Nat)(lf:List Bool):∀k,(uD s x lf k).length=ae x+1
 |0=>yE _
 |k+1=>by
  rw[uD]
  split
  .rw[mq];exact Rm s x lf k
  .exact Rm s x lf k
theorem ajf(s:Nat)(x:List Nat)(lf:List Bool):∀k j,k<=ae x->((uD s x lf k).getD j false=true↔∃i,i<k/\j=i+1/\lf.getD i false=true/\s.testBit (x.getD i 0)=true):=by
 intro k;induction k with
 |zero=>intro j _;rw[uD,aa8];simp
 |succ k ih =>
  intro j hk;rw[uD];by_cases h:(lf.getD k false && s.testBit (x.getD k 0))=true
  .rw[aA h];rw[Bool.and_eq_true]at h;by_cases e:j=k+1
   .subst e;rw[aO,GH (by rw[Rm];omega),nV];constructor
    .intro _;exact⟨k,by omega,rfl,h.1,h.2⟩
    .intro _;rfl
   .rw[aO,zo (fun a=>e a.symm),<-aO,ih j (by omega)];constructor
    .rintro⟨i,a,b⟩;exact⟨i,by omega,b⟩
    .rintro⟨i,a,b,c⟩;exact⟨i,by omega,b,c⟩
  .rw[az h,ih j (by omega)];constructor
   .rintro⟨i,a,b⟩;exact⟨i,by omega,b⟩
   .rintro⟨i,a,b,c,d⟩;by_cases e:i=k
    .subst e;exact absurd (by rw[c,d];rfl) h
    .exact⟨i,by omega,b,c,d⟩
theorem kU.byte(s:Nat)(x:List Nat)(lf:List Bool):kU (Lw s) x lf (uD s x lf (ae x)) :=
 ⟨Rm _ _ _ _,fun j hj=>by
  rw[ajf s x lf _ j (aH _)]
  constructor
  .rintro⟨i,a,rfl,b,c⟩;exact⟨i,by omega,b,(ahd s (by omega) hj).2 ⟨rfl,c⟩⟩
  .rintro⟨i,a,b,c⟩
   obtain⟨rfl,d⟩:=(ahd s a hj).1 c
   exact⟨i,by omega,rfl,b,d⟩⟩
theorem afH{M:cC}:∀(n:Nat) {y z:List Nat},IB M n y->M z->IB M (n+1) (y++z)
 |0,y,z,hy,hz=>by
  have:y=[]:=hy
  subst this
  exact⟨z,[],by simp,hz,rfl⟩
 |n+1,y,z,⟨a,b,e,ha,hb⟩,hz=>by
  subst e
  exact⟨a,b++z,by simp,ha,afH n hb hz⟩
structure Bi(M:cC)(x:List Nat)(lf o:List Bool):Prop where
 len:(ae o)=ae x+1
 sound:∀j,j<=ae x->o.getD j false=true->∃i,i<=j/\lf.getD i false=true/\Lv M (lK x i j)
 base:∀i j,i<=j->j<=ae x->lf.getD i false=true->M (lK x i j)->o.getD j false=true
theorem Bi.start{M:cC}(h:kU M x lf o):Bi M x lf o :=
 ⟨h.len,fun j hj a=>by
  obtain⟨i,b,c,d⟩:=(h.iff j hj).1 a
  exact⟨i,b,c,0,_,[],by simp,d,rfl⟩,fun i j a b c d=>(h.iff j b).2 ⟨i,a,c,d⟩⟩
theorem Bi.step{M:cC}(h:Bi M x lf o)(k:kU M x o l):Bi M x lf (fW o l (ae x+1)):=by
 have g:∀j,j<=ae x->(fW o l (ae x+1)).getD j false=(o.getD j false || l.getD j false):=fun j hj=>by
  rw[vZ o l _ j (by rw[h.len];exact aH _),aA (by omega)]
 refine⟨by rw[rF];exact h.len,fun j hj a=>?_,fun i j a b c d=>?_⟩
 .rw[g j hj,pJ]at a;rcases a with a|a
  .exact h.sound j hj a
  .obtain⟨m,b,c,d⟩:=(k.iff j hj).1 a;obtain⟨i,e,f,n,p⟩:=h.sound m (by omega) c;refine⟨i,by omega,f,n+1,?_⟩;rw[acA e b];exact afH (n+1) p d
 .rw[g j b,h.base i j a b c d];rfl
theorem Bi.done{M:cC}(h:Bi M x lf o)(hc:∀m j,m<=j->j<=ae x->o.getD m false=true->M (lK x m j)->o.getD j false=true):kU (Lv M) x lf o:=by
 have key:∀n m j,m<=j->j<=ae x->o.getD m false=true->IB M n (lK x m j)->o.getD j false=true:=by
  intro n;induction n with
  |zero =>
   intro m j a b c d;have:=(YL a b).1 d;subst this;exact c
  |succ n ih =>
   intro m j a b c d;obtain⟨q,e,f,g,l⟩:=(YJ a b).1 d;exact ih q j f b (hc m q e (by omega) c g) l
 refine⟨h.len,fun j hj=>⟨h.sound j hj,?_⟩⟩;rintro⟨i,a,b,n,c⟩;obtain⟨q,e,f,g,l⟩:=(YJ a hj).1 c;exact key n q j f hj (h.base i q e (by omega) b g) l
theorem kU.star{M:cC}(h:kU (Lv M) x lf o):kU (TO M) x lf (fW o lf (ae x+1)) :=
 ⟨by rw[rF];exact h.len,fun j hj=>by
  rw[vZ o lf _ j (by rw[h.len];exact aH _),aA (by omega),pJ,h.iff j hj]
  constructor
  .rintro(⟨i,a,b,n,c⟩|a)
   .exact⟨i,a,b,n+1,c⟩
   .exact⟨j,aH _,a,0,sub_self x j⟩
  .rintro⟨i,a,b,n,c⟩
   cases n with
   |zero =>
    have:=(YL a hj).1 c
    subst this;exact .inr b
   |succ n=>exact .inl ⟨i,a,b,n,c⟩⟩
theorem kU.opt{M:cC}(h:kU M x lf o):kU (Oz M) x lf (fW o lf (ae x+1)) :=
 ⟨by rw[rF];exact h.len,fun j hj=>by
  rw[vZ o lf _ j (by rw[h.len];exact aH _),aA (by omega),pJ,h.iff j hj]
  constructor
  .rintro(⟨i,a,b,c⟩|a)
   .exact⟨i,a,b,.inr c⟩
   .exact⟨j,aH _,a,.inl (sub_self x j)⟩
  .rintro⟨i,a,b,c|c⟩
   .have:=(YL a hj).1 c
    subst this;exact .inr b
   .exact .inl ⟨i,a,b,c⟩⟩
def cf(l:List Bool):Nat:=l.count false
theorem aaU(l:List Bool)(k:Nat)(hk:k<ae l)(h:l.getD k false=false):cf (l.set k true)+1=cf l:=by
 unfold cf;rw[aO,bD hk,nV]at h;have Cm:0<l.count false:=by
  rw[List.count_pos_iff];rw[<-h];exact nE hk
 rw[List.count_set hk,h];simp;omega
end
def ahx(R:PR aD)(s:ByteArray)(n i r T:Nat)(nv:aq)(ns:List ND)(Ls:List AN)(w w':ay):Prop :=
 ∃(pv:aq) (ps:List Nat) (cY:aq) (ns':List ND),Lo 97 T pv ps r nv cY w w'/\(ae ps)<=18/\ps≠[] /\
  ((∃(L:aD) (j m:Nat) (Lm:List AN) (more:List ND),eu w' s j 0 0 r cY ns'/\ns'=ns++more/\ny w.heap.size more/\gu w' ns' (Ls++Lm)/\NP pv ns'/\i<=j/\j<=s.size/\2*(s.size-j)+2<=m/\m<=n/\R=pp s m 0 L j /\
    (∀p∈ps,p<ae ns')/\(L=xb (ps.map fun p=>(Ls++Lm).getD p cK)/\tI (ae ns) (ps.map fun p=>(Ls++Lm).getD p cK) (ae ns'))/\(ae ns')<=ae ns+2*(j-i)+1/\(ae ps)<=j-i+1) \/
   (∃iv:Int,eu w' s iv R.err R.pl r cY ns'/\R.err≠0/\R.j=s.size/\(ae ns')<=ae ns+2*(s.size-i)+1))
theorem agC(s:ByteArray)(n i r:Nat)(nv:aq)(ns:List ND)(Ls:List AN)(w:ay)(R:PR aD)(hR:R=aR s n i)(h:eu w s i 0 0 r nv ns)(t:gu w ns Ls)(hz:Nz s)(hs:s.size<=16)(hi:i<=s.size)(hf:2*(s.size-i)+2<=n)(hn:(ae ns)+2*(s.size-i)<=800)(NY:∀m,m<=n->∀(j:Nat) (cY:aq) (ns':List ND) (Bc:List AN) (w':ay),j<=s.size->2*(s.size-j)+2<=m->i<=j->ae ns'<=ae ns+2*(j-i)->eu w' s j 0 0 r cY ns'->gu w' ns' Bc->aI aB 35 #[.pointer (some ⟨r,0,none⟩)] w' (wR (pp s m 1 aD.aX j) 1 s j r cY ns' Bc w')):aI aB 21 #[.pointer (some ⟨r,0,none⟩)] w (wR R 2 s i r nv ns Ls w):=by
 obtain⟨HS,HT,HCA,HF⟩:=dH h t NY hf;have hr:=aE h.rd;have HR:ax (R=if (pp s n 1 aD.aX i).err≠0 then pp s n 1 aD.aX i else pp s n 0 (pp s n 1 aD.aX i).v (pp s n 1 aD.aX i).j):=hR;obtain⟨i0,cS,dc,dm,cW⟩:=info_parts abH;clear h t hR NY hf;go_enter Tryz.func21,Tryz.ntmps21;go_upto_region 2 with fail;have LW:=aj (Lo.start 97 r nv w HS.o.lt);have SW:=aj (HS.o.kp ((Kp.refl [] w).alloc (yX 97 (.slice none 0 0))) (by simp));have TW:=aj (HT.o.keep ((Kp.refl [] w).alloc (yX 97 (.slice none 0 0))) (kV.nil _));generalize w.alloc (yX 97 (.slice none 0 0))=W at *;generalize WN:w.heap.size=T at *;clear WN;have hA:=(Ao s hz n).2.1 aD.aX i hi;have iU:=HCA.o n (aH _) i nv ns Ls W hi HF.o (aH _) (by omega) SW.o TW.o;generalize pp s n 1 aD.aX i=A at *;have zh:=aj iU;have Nd:=aj hA;clear iU hA;go_wp2_with fail;refine zh.o.mono ?_;rintro _ WX ⟨k,mA,jw,mD,rfl,s2,k2,gw,xG,iW⟩;have iB:=aj (LW.o.step SW.o k2 gw);have tH:=aj s2;have o6:=aj iW;have Mr:=aj LW.o.kp.size;obtain⟨IL,IM,FJ,IN,_⟩:=dB iB.o.nd;generalize jJ:Value.slice none 0 0=pv at iB FJ;generalize je:([]:List Nat)=ps at iB;have HPV:=aj jJ;have Z9:=aj je;have afh:(ae ps)=0:=by rw[<-je];rfl
 clear s2 k2 gw iW zh jJ je;go_wp2_with (at_builtin;go_must (refine Gb _ rfl _ _ _ rfl w.heap.size 3 i0 _ 1 8 qR cS dc dm cW rfl (by omega) pv (ae ps) (dy ps) rfl (by exact iB.o.own.alloc _) ⟨WX.heap.size,0,none⟩ 1 1 [.int .i64 k] rfl rfl (gN (cs:=#[.int .i64 k]) (t:=3) (fr:=(0,0)) (by rw[aC,aA rfl])) (by simp[dS]) (by omega) (by unfold eB;omega) (by omega) (by rw[aM];have:=iB.o.kp.size;omega) (WX.heap.size+1) (by simp) ?_);intro g9 oO w9 jM jH at9 rE;have Bn:=iB.o.app tH.o jM jH at9;have yW:w9.heap[T]?=some (yX 97 pv):=fY jH (by rw[aC,az (bY (aE iB.o.nd))];exact iB.o.nd) (fun e=>by obtain⟨c,hc,_⟩:=Aj iB.o.own e;rw[iB.o.nd]at hc;simp only[aV,Obj.cells.injEq]at hc;exact absurd hc.2.1 (by decide));obtain⟨_,_,Yd,_,_,_,X8,_⟩:=dB yW;have Gf:=aj Bn;clear Bn yW jM jH at9 rE)
 go_wp2_with fail;go_loopw [] (fun w'=>ahx R s n i r T nv ns Ls w w') (fun w'=>CH s r w')
 case atStart =>
  have ap:=Gf.o;simp only[afh,Nat.zero_add]at ap;obtain⟨b1,b2,b3,b4⟩:=ap;rcases Nd.o with⟨a1,a2,a3,_,a5⟩|⟨a1,a2⟩
  .obtain⟨yL,JX,xJ,DK,Ij,Je,jk,xA⟩:=o6.o a1;rw[a1,a2,yL]at b2;(have np:NP pv mD:=by rw[<-HPV.o];exact NP.nil _ _ _);have Ra:=b3 _ Je np;refine⟨_,ps ++ [k],jw,mD,b1,by simp;omega,by simp,.inl ⟨A.v,A.j,n,JX,xJ,b2,DK,Ij.mono Mr.o,Ra,b4 np Je.plt,a3,a5,by have:=HF.o;omega,aH _,by rw[HR.o,az (by simp[a1])],?_,?_,by omega,by simp;omega⟩⟩
   .rw[<-Z9.o];intro p hp;simp at hp;subst hp;exact jk
   .rw[<-Z9.o];simp only[List.nil_append,GK,GL];rw[xA];exact⟨rfl,rfl,rfl⟩
  .have Sk:R=A:=(by rw[HR.o,aA a1]);rw[Sk];exact⟨_,ps ++ [k],jw,mD,b1,by simp;omega,by simp,.inr ⟨mA,b2,a1,a2,by omega⟩⟩
 case round =>
  clear iB tH Gf o6 HPV Z9 afh IL IM FJ IN Yd X8 LW SW TW xG HR Nd Mr;obtain⟨pv,ps,cY,ns',lo,je,cP,⟨L,j,m,Lm,more,st,DJ,oR,tr,np,vN,hj,hm,hmn,hR,fA,hL,dD,hpj⟩|⟨iv,st,he,hRj,dD⟩⟩:=hrel
  ·(obtain⟨m,rfl⟩:∃m',m=m'+1:=⟨m-1,by omega⟩);have MU:=aj (YB st);obtain⟨LO,ST,TR,NPH,JD,AR,JF,HL,Qe⟩:=N7 lo st tr np DJ oR fA hL hR;have DP:=nO j (by omega);clear lo st tr np DJ oR fA hL hR;go_wp2_with fail;refine(iE s j r 0 0 cY _ (by exact ST.o.rd)).mono ?_;rintro _ w1 ⟨rfl,n1,rfl⟩;have j6:ax (Lo 97 T pv ps r nv cY w (wr.drewN n1)):=LO.o.drewN n1;have oN:ax (eu (wr.drewN n1) s j 0 0 r cY ns'):=ST.o.kp ((Kp.refl [] wr).drewN n1) (by simp);have EM:ax (gu (wr.drewN n1) ns' (Ls++Lm)):=TR.o.keep ((Kp.refl [] wr).drewN n1) (kV.nil _);generalize wr.drewN n1=W1 at *;obtain⟨z0,z1,z2,z3,z4,z5,y0,y1,y2,y3,y4,y5⟩:=dM oN.o.rd;by_cases hg:gt s j=124
   .rw[hg];(have lY:j<s.size:=by have:=hz j;omega);(have JL:ax (R=if (pp s m 1 aD.aX (j+1)).err≠0 then pp s m 1 aD.aX (j+1) else pp s m 0 (aD.alt L (pp s m 1 aD.aX (j+1)).v) (pp s m 1 aD.aX (j+1)).j):=by show _=_;rw[Qe.o,OU,aA hg]);have qP:ax (eu (W1.setCell ⟨r,1,none⟩ (.int .i64 (j+1:Nat))) s (j+1:Nat) 0 0 r cY ns'):=oN.o.ou _;have GG:ax (Lo 97 T pv ps r nv cY w (W1.setCell ⟨r,1,none⟩ (.int .i64 (j+1:Nat)))):=j6.o.kr oN.o ((Kp.refl [r] W1).set (.inl (by simp)) _ _);have zx:ax (gu (W1.setCell ⟨r,1,none⟩ (.int .i64 (j+1:Nat))) ns' (Ls++Lm)):=EM.o.ou oN.o _;have hA:=(Ao s hz m).2.1 aD.aX (j+1) lY;have iU:=HCA.o m (by omega) (j+1) cY ns' (Ls++Lm) _ lY (by omega) (by omega) (by omega) qP.o zx.o;generalize pp s m 1 aD.aX (j+1)=A at *;have zh:=aj iU;have Nd:=aj hA;have FQ:=aj GG.o.FQ;clear iU hA hg;go_wp2_with fail;refine Calls.mono zh.o ?_;rintro _ WX ⟨k,mA,jw,mD,rfl,s2,k2,gw,xG,iW⟩;have iB:=aj (GG.o.step qP.o k2 gw);have tH:=aj s2;have o6:=aj iW;have Mr:=aj GG.o.kp.size;obtain⟨IL,IM,FJ,IN,_⟩:=dB iB.o.nd;clear s2 k2 gw iW zh z0 z1 z2 z3 z4 z5 y0 y1 y2 y3 y4 y5;(go_wp2_with (at_builtin;go_must (refine Gb _ rfl _ _ _ rfl w.heap.size 3 i0 _ 1 8 qR cS dc dm cW rfl (by omega) pv (ae ps) (dy ps) rfl (by exact iB.o.own.alloc _) ⟨WX.heap.size,0,none⟩ 1 1 [.int .i64 k] rfl rfl (gN (cs:=#[.int .i64 k]) (t:=3) (fr:=(0,0)) (by rw[aC,aA rfl])) (by simp[dS]) (by omega) (by unfold eB;omega) (by omega) (by rw[aM];have:=iB.o.kp.size;omega) (WX.heap.size+1) (by simp) ?_);intro g9 oO w9 jM jH at9 rE;have Bn:=iB.o.app tH.o jM jH at9;have yW:w9.heap[T]?=some (yX 97 pv):=fY jH (by rw[aC,az (bY (aE iB.o.nd))];exact iB.o.nd) (fun e=>by obtain⟨c,hc,_⟩:=Aj iB.o.own e;rw[iB.o.nd]at hc;simp only[aV,Obj.cells.injEq]at hc;exact absurd hc.2.1 (by decide));obtain⟨_,_,Yd,_,_,_,X8,_⟩:=dB yW;have Gf:=aj Bn;clear Bn yW jM jH at9 rE));go_wp2;obtain⟨b1,b2,b3,b4⟩:=Gf.o;rcases Nd.o with⟨a1,a2,a3,_,a5⟩|⟨a1,a2⟩
    .obtain⟨yL,JX,xJ,DK,Ij,Je,jk,xA⟩:=o6.o a1;rw[a1,a2,yL]at b2;(have np2:NP pv mD:=by rw[DK];exact NPH.o.more Ij FQ.o);(have DH:(ae ns')<=ae mD:=by rw[DK,cx];omega);have Ra:=b3 _ Je np2;refine⟨⟨_,ps ++ [k],jw,mD,b1,by simp;omega,by simp,.inl ⟨aD.alt L A.v,A.j,m,Lm++JX,more++xJ,b2,by rw[DK,JD.o,mH],AR.o.append (Ij.mono Mr.o),by rw[<-mH];exact Ra,b4 np2 Je.plt,by omega,a5,by omega,by omega,by rw[JL.o,az (by simp[a1])],?_,?_,by omega,by simp;omega⟩⟩,?_⟩
     .intro p hp;rcases jr.1 hp with hp|hp
      .have:=JF.o p hp;omega
      .simp at hp;subst hp;exact jk
     .rw[<-mH,uv,Ug (Ls:=Ls++Lm) (Lm:=JX) (fun p hp=>by rw[EM.o.len];exact JF.o p hp),GK,GL,xA];exact⟨by rw[aaK _ _ (by simpa using cP),<-HL.o.1],ad5 _ _ _ _ _ HL.o.2 rfl rfl⟩
     .rw[MU.o,YB b2];omega
    .have Sk:R=A:=(by rw[JL.o,aA a1]);rw[Sk];refine⟨⟨_,ps ++ [k],jw,mD,b1,by simp;omega,by simp,.inr ⟨mA,b2,a1,a2,by omega⟩⟩,?_⟩;rw[MU.o,nw b2.rd a1];omega
   ·(have q0:((gt s j:Int) == 124)=false:=by simp;omega);(have cN:ax (R=good j L):=by show _=_;rw[Qe.o,OU,az hg]);obtain⟨IL,IM,FJ,IN,_⟩:=dB j6.o.nd;clear hg;go_wp2_with fail;refine(Mb s j 0 0 r cY ns' 97 pv ps _ (by exact oN.o) (by omega) (by exact j6.o.own)).mono ?_;rintro _ w2 ⟨rfl,jw,s2,k2,gw,t2,f2⟩;have S2:=aj s2;have K2:ax (Kp (fe r nv) w w2):=j6.o.kp.trans k2 j6.o.fr;(have F2:ax (∀g∈fe r jw,g∈fe r nv\/w.heap.size<=g):=fun g hg=>by rcases gw g hg with e|e;exact j6.o.fr g e;exact .inr (by have:=j6.o.kp.size;omega));have T2:=aj (t2 (Ls++Lm) (L,ae ns,ae ns'+1) EM.o JF.o ⟨⟨HL.o.2,rfl⟩,.inr (.inl ⟨rfl,HL.o.1,cP⟩)⟩);have FF:ax (ny w.heap.size (more ++ [⟨97,.slice none 0 0,pv⟩])):=AR.o.append (f2 _ (fun g hg=>(Aj j6.o.own hg).choose_spec.2));clear s2 k2 gw t2 f2;go_wp2;go_ret;rw[cN.o];exact⟨(ae ns'),_,jw,_,rfl,S2.o,K2.o,F2.o,by simp[good];omega,fun _=>⟨rfl,Lm ++ [(L,ae ns,ae ns'+1)],more ++ [⟨97,.slice none 0 0,pv⟩],by rw[JD.o,mH],FF.o,by rw[<-mH];exact T2.o,by simp,by rw[<-mH,cx];exact Fc _ _ _ EM.o.len⟩⟩
  .have LO:=aj lo;have ST:=aj st;have HE:=aj he;clear lo st he;go_wp2_with fail;refine(D1 s iv r R.err R.pl 0 cY _ (by exact ST.o.rd) HE.o).mono ?_;rintro _ w1 ⟨rfl,n1,rfl⟩;have j6:ax (Lo 97 T pv ps r nv cY w (wr.drewN n1)):=LO.o.drewN n1;have oN:ax (eu (wr.drewN n1) s iv R.err R.pl r cY ns'):=ST.o.kp ((Kp.refl [] wr).drewN n1) (by simp);generalize wr.drewN n1=W1 at *;obtain⟨IL,IM,FJ,IN,_⟩:=dB j6.o.nd;go_wp2_with fail;refine(Mb s iv R.err R.pl r cY ns' 97 pv ps _ (by exact oN.o) (by omega) (by exact j6.o.own)).mono ?_;rintro _ w2 ⟨rfl,jw,s2,k2,gw,_,_⟩;have S2:=aj s2;have K2:ax (Kp (fe r nv) w w2):=j6.o.kp.trans k2 j6.o.fr;(have F2:ax (∀g∈fe r jw,g∈fe r nv\/w.heap.size<=g):=fun g hg=>by rcases gw g hg with e|e;exact j6.o.fr g e;exact .inr (by have:=j6.o.kp.size;omega));clear s2 k2 gw;go_wp2;go_ret;exact⟨(ae ns'),_,jw,_,rfl,S2.o,K2.o,F2.o,by simp;omega,fun e=>absurd e HE.o⟩
theorem ang(s:ByteArray)(hz:Nz s)(hs:s.size<=16)(r:Nat):∀n,(∀(i:Nat) (nv:aq) (ns:List ND) (Ls:List AN) (w:ay),eu w s i 0 0 r nv ns->gu w ns Ls->i<s.size->2*(s.size-i)+1<=n->gt s i≠124->gt s i≠41->ae ns+2*(s.size-i)<=800->aI aB 50 #[.pointer (some ⟨r,0,none⟩)] w (wR (pp s n 2 aD.aX i) 0 s i r nv ns Ls w))/\(∀(i:Nat) (nv:aq) (ns:List ND) (Ls:List AN) (w:ay),eu w s i 0 0 r nv ns->gu w ns Ls->i<=s.size->2*(s.size-i)+2<=n->ae ns+2*(s.size-i)<=800->aI aB 35 #[.pointer (some ⟨r,0,none⟩)] w (wR (pp s n 1 aD.aX i) 1 s i r nv ns Ls w)):=by
 intro n;induction n using M2 with
 |ind n ih =>
  refine⟨fun i nv ns Ls w h t hi hf h1 h2 hn=>?_,fun i nv ns Ls w h t hi hf hn=>?_⟩
  ·(obtain⟨k,rfl⟩:∃k,n=k+1:=⟨n-1,by omega⟩);(have h0:gt s i≠0:=fun e=>by have:=(hz i).1 e;omega);by_cases g1:gt s i=40
   .refine anm s i r nv ns Ls (aR s k (i+1)) aD.aX w h t hi hs g1 (fun w' h' t'=>?_) ?_ _ (adM s k i aD.aX g1)
    .exact agC s k (i+1) r nv ns Ls w' _ rfl h' t' hz hs hi (by omega) (by omega) (fun m hm j cY ns' Bc w'' hj Cd vN hl h'' t''=>(ih m (by omega)).2 j cY ns' Bc w'' h'' t'' hj Cd (by omega))
    .rcases V1 s hz k (i+1) hi with⟨a1,a2,a3,a4,_⟩|a
     .exact .inl ⟨a1,a2,a3,a4⟩
     .exact .inr a
   .by_cases g2:gt s i=91
    .exact ann s i r nv ns Ls w h t hi hs (by omega) g2 hz aD.aX _ (by rw[DY,az g1,aA g2])
    .by_cases g3:gt s i=46
     .rw[DY,az g1,az g2,aA g3];exact anj s i r nv ns Ls w h t hi hs (by omega) g3
     .by_cases g4:gt s i=92
      .rw[DY,az g1,az g2,az g3,aA g4];by_cases g5:gt s (i+1)=0
       .rw[aA g5];exact anl s i r nv ns Ls w h t hi hs (by omega) g4 g5 aD.aX
       .rw[az g5];exact ank s i r nv ns Ls w h t hi hs (by omega) g4 g5
      .rw[DY,az g1,az g2,az g3,az g4];by_cases g5:gt s i=42\/gt s i=43\/gt s i=63\/gt s i=93
       .rw[aA g5];exact anh s i r nv ns Ls w h t hi hs (by omega) g5 aD.aX
       .rw[az g5];exact ani s i r nv ns Ls w h t hi hs (by omega) g1 g2 g3 g4 (by omega) (by omega) (by omega) (by omega)
  .exact ano s n i r nv ns Ls w _ rfl h t hz hs hi hf hn (fun m hm j cY ns' Bc w' hj Cd q1 q2 vN hl h' t'=>(ih m hm).1 j cY ns' Bc w' h' t' hj Cd q1 q2 (by omega))
structure VU(w:ay)(B r k:Nat)(L:aD):Prop where
 ex:∃(s:ByteArray) (i e pl:Int) (nv:aq) (ns:List ND) (Ls:List AN),w.heap[r]?=some (fh s i e pl nv k)/\w.ownsRow 0 104 4 nv (ae ns) (xe ns)/\nv.ownBlock≠some r/\gu w ns Ls/\k<ae ns/\Ls.getD k cK=(L,0,ae ns)/\B<=r/\(∀g,nv.ownBlock=some g->B<=g)/\(ae ns)<=100
def aaw(R:PR aD)(w:ay)(x:Ending)(w':ay):Prop :=
 Kp [] w w'/\((R.err≠0/\x=.returned (.tuple #[.pointer none,.int .i64 R.err,.int .i64 R.pl])) \/
  (R.err=0/\R.pl=0/\∃r k,x=.returned (.tuple #[.pointer (some ⟨r,4,none⟩),.int .i64 0,.int .i64 0])/\VU w' w.heap.size r k R.v))
theorem anN(s:ByteArray)(w:ay)(h:16<s.size):aI aB 11 #[.string s] w (aaw (cO s) w):=by
 have hR:ax (cO s=⟨2,0,0,aD.aX⟩):=by show _=_;rw[cO,aA h]
 have q:(16:Int)<s.size:=(by omega);clear h;go_enter Tryz.func11,Tryz.ntmps11;go_wp2;refine cF (v:=.tuple #[.pointer none,.int .i64 2,.int .i64 0]) ?_ rfl ⟨Kp.refl _ _,.inl ⟨by rw[hR.o];decide,by rw[hR.o]⟩⟩;simp[eG,QX,go_sem]
theorem anO(s:ByteArray)(w:ay)(hs:s.size<=16):aI aB 11 #[.string s] w (aaw (cO s) w):=by
 have q:(s.size:Int)<=16:=(by omega);have Sj:ax (∀k,fb s s.size 0=some k->cO s=⟨3,k,0,aD.aX⟩):=agI s hs;have sC:ax (fb s s.size 0=none->cO s=if (aR s 40 0).err≠0 then aR s 40 0 else if (aR s 40 0).j=s.size then aR s 40 0 else⟨5,(aR s 40 0).j,0,aD.aX⟩):=agJ s hs;generalize cO s=R at *;go_enter Tryz.func11,Tryz.ntmps11;go_wp2_with fail;go_loopw [5] (fun i w'=>∃k:Nat,k<=s.size/\i=.int .i64 k/\w'=w/\fb s s.size 0=fb s (s.size-k) k)
  (fun i _=>s.size-(aG i).toNat)
 case atStart=>exact⟨0,by omega,rfl,rfl,rfl⟩
 case round =>
  obtain⟨k,hk,rfl,rfl,yJ⟩:=hrel;by_cases aN:k<s.size
  .have hk':(k:Int)<s.size:=(by omega);have hg:=Dz s k aN;have hF:fb s (s.size-k) k=if gt s k<32\/126<gt s k then some k else fb s (s.size-(k+1)) (k+1):=by
    rw[show s.size-k=(s.size-(k+1))+1 by omega,fb]
   rw[hg]at hF;have HF:ax _:=yJ.trans hF;clear yJ hF hg;by_cases b1:s[k].toNat<32
   .have b1':(s[k].toNat:Int)<32:=(by omega);have HB:=aj b1;clear b1;go_wp2;have cN:R=⟨3,k,0,aD.aX⟩:=Sj.o k (by rw[HF.o,aA (by have:=HB.o;omega)]);refine cF (v:=.tuple #[.pointer none,.int .i64 3,.int .i64 k]) ?_ rfl ⟨Kp.refl _ _,.inl ⟨by rw[cN];simp,by rw[cN]⟩⟩;simp[eG,QX,go_sem]
   .have b1':(32:Int)<=s[k].toNat:=(by omega);have HB:=aj b1;clear b1;by_cases b2:126<s[k].toNat
    .have b2':(126:Int)<s[k].toNat:=(by omega);have mG:=aj b2;clear b2;go_wp2;have cN:R=⟨3,k,0,aD.aX⟩:=Sj.o k (by rw[HF.o,aA (by have:=mG.o;omega)]);refine cF (v:=.tuple #[.pointer none,.int .i64 3,.int .i64 k]) ?_ rfl ⟨Kp.refl _ _,.inl ⟨by rw[cN];simp,by rw[cN]⟩⟩;simp[eG,QX,go_sem]
    .have b2':(s[k].toNat:Int)<=126:=(by omega);have mG:=aj b2;clear b2;go_wp2;refine⟨⟨k+1,by omega,by go_num,trivial,?_⟩,by simp[aG];omega⟩;rw[HF.o,az (by have:=HB.o;have:=mG.o;omega)]
  .have jZ:k=s.size:=(by omega);subst jZ;rw[Nat.sub_self]at yJ;have HF:ax (fb s s.size 0=none):=yJ;clear yJ aN;have hz:Nz s:=ab4 s HF.o;go_upto_region 9 with fail;have kR:Kp [] wr (wr.alloc (fh s 0 0 0 (.slice none 0 0) 0)):=(Kp.refl _ _).alloc _;have S1:eu (wr.alloc (fh s 0 0 0 (.slice none 0 0) 0)) s (0:Nat) 0 0 wr.heap.size (.slice none 0 0) []:=⟨by rw[aC,aA rfl];rfl,⟨rfl,.inl ⟨rfl,rfl⟩⟩,by simp[aK]⟩;have T1:gu (wr.alloc (fh s 0 0 0 (.slice none 0 0) 0)) [] []:=⟨rfl,fun k nd h=>by simp at h⟩;obtain⟨KR,VP,TH1⟩:=cR kR S1 T1;clear kR S1 T1;generalize wr.alloc (fh s 0 0 0 (.slice none 0 0) 0)=W1 at *;generalize hr:wr.heap.size=r at *;have Qf:=aj hr;clear hr;go_wp2_with fail;refine(agC s 40 0 r _ [] [] _ (aR s 40 0) rfl (by exact VP.o) (by exact TH1.o) hz hs (by omega) (by omega) (by simp;omega) (fun m hm j cY ns' Bc w'' hj Cd vN hl h'' t''=>(ang s hz hs r m).2 j cY ns' Bc w'' h'' t'' hj Cd (by simp at hl;omega))).mono ?_;rintro _ w2 ⟨k,iv,jw,mD,rfl,s2,k2,gw,xG,iW⟩;have nH:=aj (sC.o HF.o);have qz:=aj (V1 s hz 40 0 (by omega));generalize aR s 40 0=A at *;have K2:ax (Kp [] wr w2):=KR.o.trans k2 (by intro y hy;have:=xO.1 hy;simp[aK]at this;right;have:=Qf.o;omega);have S2:=aj s2;have o6:=aj iW;obtain⟨c0,c1,c2,c3,c4,c5,f0,f1,f2,f3,f4,f5⟩:=dM s2.rd;(have jy:(w2.setCell ⟨r,5,none⟩ (.int .i64 k)).heap[r]?=some (fh s iv A.err A.pl jw k):=by rw[aQ,aA rfl,s2.rd];simp[eD]);have K3:ax (Kp [r] w2 (w2.setCell ⟨r,5,none⟩ (.int .i64 k))):=(Kp.refl _ _).set (.inl (by simp)) _ _;have qN:=aj jy;have l1:=aE VP.o.rd;have jN:ax (∀g,jw.ownBlock=some g->r<=g):=fun g hg=>by
    rcases gw g (xO.2 (.inr hg))with e|e
    .rcases xO.1 e with e|e
     .omega
     .simp[aK]at e
    .omega
   have JU:=aj xG;clear s2 k2 gw iW jy l1 xG;go_upto_region 10 with fail;generalize w2.setCell ⟨r,5,none⟩ (.int .i64 k)=W3 at *;have K3':ax (Kp [] wr W3):=K2.o.trans K3.o (by intro y hy;simp at hy;right;have:=Qf.o;omega);clear c0 c1 c2 c3 c4 c5 f0 f1 f2 f3 f4 f5;rcases qz.o with⟨a1,a2,a3,a4,a5⟩|⟨a1,a2⟩
   .obtain⟨yL,Lm,more,DJ,oR,tr,jk,xA⟩:=o6.o a1;have jy:=qN.o;rw[a1,a2,yL]at jy;have yo:=aj jy;obtain⟨c0,c1,c2,c3,c4,c5,f0,f1,f2,f3,f4,f5⟩:=dM jy;have vB:=aj (tr.keep K3.o S2.o.NH);have VF:=aj (aJ S2.o.own K3.o (fun g hg hm=>by simp at hm;subst hm;exact S2.o.ne hg));have Ef:=aj jk;have HV2:=aj xA;clear jy tr jk xA DJ oR yL;go_wp2_with fail;refine(iE s A.j r 0 k jw _ (by exact yo.o)).mono ?_;rintro _ w4 ⟨rfl,n4,rfl⟩;by_cases hj:A.j=s.size
    .have g0:gt s A.j=0:=aeC s A.j (by omega);rw[g0];have cN:R=A:=(by rw[nH.o,az (by simp[a1]),aA hj]);clear g0;go_wp2;refine cF (v:=.tuple #[.pointer (some ⟨r,4,none⟩),.int .i64 0,.int .i64 0]) ?_ rfl ⟨K3'.o.drewN n4,.inr ⟨by rw[cN];exact a1,by rw[cN];exact a2,r,k,rfl,⟨s,A.j,0,0,jw,mD,_,yo.o,VF.o,S2.o.ne,vB.o.keep ((Kp.refl [] W3).drewN n4) (kV.nil _),Ef.o,by rw[cN];exact HV2.o,by have:=Qf.o;omega,by rw[Qf.o];exact jN.o,by have:=JU.o;simp at this;omega⟩⟩⟩;simp[eG,QX,go_sem]
    ·(have g0:gt s A.j≠0:=fun e=>by have:=(hz A.j).1 e;omega);(have q0:((gt s A.j:Int) != 0)=true:=by simp;omega);have cN:R=⟨5,A.j,0,aD.aX⟩:=(by rw[nH.o,az (by simp[a1]),az hj]);have fT:=aj cN;clear g0 cN;go_wp2_with fail;refine(rH s A.j r 0 k 5 A.j jw _ (by exact yo.o)).mono ?_;rintro _ w5 ⟨rfl,h5,k5⟩;have K5:ax (Kp [] wr w5):=K3'.o.trans k5.kL (by intro y hy;simp at hy;right;have:=Qf.o;omega);obtain⟨c0,c1,c2,c3,c4,c5,f0,f1,f2,f3,f4,f5⟩:=dM h5;clear h5 k5;go_wp2_with fail;(go_quiet (fail));go_wp2;refine cF (v:=.tuple #[.pointer none,.int .i64 5,.int .i64 A.j]) ?_ rfl ⟨K5.o.drewN _,.inl ⟨by rw[fT.o];simp,by rw[fT.o]⟩⟩;simp[eG,QX,go_sem]
   .have HE:=aj a1;have cN:R=A:=(by rw[nH.o,aA a1]);have fT:=aj cN;(have cP:(A.err != 0)=true:=by simp[a1]);obtain⟨c0,c1,c2,c3,c4,c5,f0,f1,f2,f3,f4,f5⟩:=dM qN.o;clear a1 cN;go_wp2_with fail;refine(D1 s iv r A.err A.pl k jw _ (by exact qN.o) HE.o).mono ?_;rintro _ w4 ⟨rfl,n4,rfl⟩;go_wp2_with fail;(go_quiet (fail));go_wp2;refine cF (v:=.tuple #[.pointer none,.int .i64 A.err,.int .i64 A.pl]) ?_ rfl ⟨(K3'.o.drewN _).drewN _,.inl ⟨by rw[fT.o];exact HE.o,by rw[fT.o]⟩⟩;simp[eG,QX,go_sem]
theorem acm(s:ByteArray)(w:ay):aI aB 11 #[.string s] w (aaw (cO s) w):=by
 rcases eK 16 s.size with hs|hs
 .exact anN s w hs
 .exact anO s w hs
def tx(t:ByteArray):List Nat:=t.data.toList.map UInt8.toNat
theorem xU(t:ByteArray):(tx t).length=t.size:=by simp[tx]
theorem ahn(t:ByteArray)(k:Nat)(hk:k<t.size):(tx t).drop k=gt t k::(tx t).drop (k+1):=by
 rw[ac5 (by rw[xU];exact hk)];congr 1;have h1:k<ae t.data.toList:=(by simpa using hk);have h2:k<t.data.size:=hk;simp only[tx,List.getElem_map,gt,Array.getElem?_eq_getElem h2,nV,Array.getElem_toList]
theorem aoy(bs:List Nat)(c:Nat):∀k,eW bs c k<2 ^ k:=by
 intro k;apply Nat.lt_pow_two_of_testBit;intro i hi;cases h:(eW bs c k).testBit i with
 |false=>rfl
 |true=>have:=(YP bs c i k).1 h;omega
theorem al9(p:Nat)(e:Bool)(f l:Nat)(t:ByteArray)(bs fs:List Nat)(vb vf:aq)(w:ay)(h:dN w p bs fs vb vf)(hn:(ae bs)<=200)(ht:t.size<=100000):aI aB 24 #[.pointer (some ⟨p,0,none⟩),dQ e f l,.string t] w fun x w'=>x=.returned (.bool (wj bs fs l f e (tx t)))/\dA w.heap.size w w':=by
 have HP:=aj h;have hp:=aE h.blk;clear h;go_enter Tryz.func24,Tryz.ntmps24;go_upto_region 1 with fail;have kW:Kp [] w (w.alloc (cZ e f l)):=(Kp.refl _ w).alloc _;have bE:(w.alloc (cZ e f l)).heap[w.heap.size]?=some (cZ e f l):=(by rw[aC,aA rfl]);generalize w.alloc (cZ e f l)=W at *;obtain⟨⟨oy,oz,oB,oC,sR,sS,sU,sV,sX⟩,_⟩:=gC bE;have lE:=aE bE;have KW:=aj kW;have BE:=aj bE;clear kW bE;go_region;have Fz:Kp [] w (W.alloc (dX f)).drew:=(KW.o.alloc _).drew;have bE2:(W.alloc (dX f)).drew.heap[w.heap.size]?=some (cZ e f l):=by rw[eO,aC,az (bY lE)];exact BE.o
 have bO2:(W.alloc (dX f)).drew.heap[W.heap.size]?=some (dX f):=(by rw[eO,aC,aA rfl]);generalize (W.alloc (dX f)).drew=W2 at *;generalize W.heap.size=Oq at *;generalize hE:w.heap.size=E at *;obtain⟨HE,GF,BE2,Jm⟩:=dH hE Fz bE2 bO2;have hEO:E≠Oq:=bY lE;have HOQ:ax (w.heap.size<=Oq):=by show _<=_;omega
 clear Fz bE2 bO2 oy oz oB oC sR sS sU sV sX KW BE hE;go_wp2_with fail;go_loopw [17,8] (fun i d w'=>∃(k O:Nat) (d0:Bool),k<=t.size/\i=.int .i64 k/\d=.bool d0/\Kp [] w w'/\w'.heap[E]?=some (cZ e f l)/\w'.heap[Oq]?=some (dX O)/\wj bs fs l f e (tx t)=wj bs fs l O d0 ((tx t).drop k))
  (fun i _ _=>t.size-(aG i).toNat)
 case atStart=>exact⟨0,f,e,by omega,rfl,rfl,GF.o,BE2.o,Jm.o,rfl⟩
 case round =>
  obtain⟨k,O,d0,hk,rfl,rfl,kp,be,bo,Tn⟩:=hrel;obtain⟨KP,BE,BO⟩:=cR kp be bo;have P:=aj (HP.o.kp kp (by simp));have lO:=aE bo;have lE2:=aE be;clear kp;by_cases aN:k<t.size
  .have hk':(k:Int)<t.size:=(by omega);have U8:=aj aN;have hg:=Dz t k aN;rw[ahn t k aN,wj]at Tn;have hc:gt t k<256:=kj t k;have SI:O &&& eW bs (gt t k) (ae bs)<2 ^ 256:=Nat.lt_of_le_of_lt Nat.and_le_right (Nat.lt_trans (aoy bs (gt t k) (ae bs)) (Nat.pow_lt_pow_right (by decide) (by omega)));(have aeR:∀w',aI aB 37 #[cG O,cG (eW bs (gt t k) (ae bs))] w' fun e w''=>e=.returned (cG (O &&& eW bs (gt t k) (ae bs)))/\dA w'.heap.size w' w'':=fun w'=>aaZ O _ w');have Tr:∀w',dN w' p bs fs vb vf->aI aB 38 #[.pointer (some ⟨p,0,none⟩),.int .u8 (t[k].toNat:Int)] w' fun x w''=>x=.returned (cG (eW bs (gt t k) (ae bs)))/\dA w'.heap.size w' w'':=fun w' h'=>by
    have:=ahj p (gt t k) bs fs vb vf w' h' hn hc;rw[hg]at this |-;exact this
   have HT:=aj Tr;generalize eW bs (gt t k) (ae bs)=T at *;have HC:=aj aeR;generalize O &&& T=cz at *;have ac1:=aj Tn;clear Tn aeR Tr hg hc;have hcO:∀w':ay,w'.heap[Oq]?=some (dX O)->w'.cell? ⟨Oq,0,none⟩=some (.int .u64 (wd O 0))/\w'.cell? ⟨Oq,1,none⟩=some (.int .u64 (wd O 1))/\w'.cell? ⟨Oq,2,none⟩=some (.int .u64 (wd O 2))/\w'.cell? ⟨Oq,3,none⟩=some (.int .u64 (wd O 3)):=fun w' h'=>by
    obtain⟨a,b,c,d,_⟩:=dB h';exact⟨a,b,c,d⟩
   have WU:wr.drew.heap[Oq]?=some (dX O):=bo;have ld0:Oq<wr.drew.heap.size:=lO;clear be bo;go_upto_region 5 with fail;go_region_held3 (fun w':ay=>w'.heap[Oq]?=some (dX O))
    (first|with_reducible exact R3|with_reducible exact R2|with_reducible exact WU|(simp only[aQ,az (bY l2)];with_reducible exact R3)|(simp only[aQ,az (bY lO)];with_reducible exact R3)|(rw[eO,aC,az (bY lO)];with_reducible exact BO.o)|(rw[aC,az (bY (by first|with_reducible exact l3|with_reducible exact l2|with_reducible exact ld0))];first|with_reducible exact R3|with_reducible exact R2|with_reducible exact WU))
    (first|(go_at_call 38;refine(HT.o _ (P.o.kp (xs:=[]) ?hk (by simp))).mono ?_;(case hk=>first|with_reducible exact(Kp.refl [] wr).drew|exact((Kp.refl [] wr).alloc _).drew);rintro _ w2 ⟨rfl,h2⟩;have k2:Kp [] wr w2:=(by first|exact((Kp.refl [] wr).drew).below h2|exact(((Kp.refl [] wr).alloc _).drew).below h2);have R2:=bV h2 (by first|with_reducible exact WU|(rw[eO,aC,az (bY lO)];exact BO.o));have l2:=aE R2;(first|(refine(fun(H2:w2.heap[wr.heap.size]?=some dg)=>?_) ?hx;(case hx=>(refine bV h2 ?_;rw[eO,aC,aA rfl];done)))|skip))|(go_at_call 37;refine(HC.o _).mono ?_;rintro _ w3 ⟨rfl,h3⟩;have k3:Kp [] wr w3:=(by first|exact k2.below h3|exact(k2.alloc _).below h3);have R3:=bV h3 (by first|with_reducible exact R2|(rw[aC,az (bY l2)];exact R2));have l3:=aE R3;(first|(have H3:=bV h3 (by exact H2);obtain⟨WS,zM,sD,zN,hf0,hf1,KY,hf3⟩:=dB H3;have PY:=aj H3;clear H2 H3)|(refine(fun(H3:w3.heap[w2.heap.size]?=some dg)=>?_) ?hx;(case hx=>(refine bV h3 ?_;rw[aC,aA rfl];done));obtain⟨WS,zM,sD,zN,hf0,hf1,KY,hf3⟩:=dB H3;have PY:=aj H3;clear H3)|skip)))
   all_goals
    (skip);(try clear WS zM sD zN hf0 hf1 KY hf3);(first|(have Rg:w3.heap[w2.heap.size]?=some dg:=PY.o;have k6:Kp [] wr ((((w3.setCell ⟨w2.heap.size,0,none⟩ (.int .u64 (wd cz 0))).setCell ⟨w2.heap.size,1,none⟩ (.int .u64 (wd cz 1))).setCell ⟨w2.heap.size,2,none⟩ (.int .u64 (wd cz 2))).setCell ⟨w2.heap.size,3,none⟩ (.int .u64 (wd cz 3))):=k3.nu (.inr k2.size) _ _ _ _;have bh:((((w3.setCell ⟨w2.heap.size,0,none⟩ (.int .u64 (wd cz 0))).setCell ⟨w2.heap.size,1,none⟩ (.int .u64 (wd cz 1))).setCell ⟨w2.heap.size,2,none⟩ (.int .u64 (wd cz 2))).setCell ⟨w2.heap.size,3,none⟩ (.int .u64 (wd cz 3))).heap[w2.heap.size]?=some (dX cz):=(by simp only[aQ,Rg];simp[eD]);have hB:wr.heap.size<=w2.heap.size:=k2.size;generalize ((((w3.setCell ⟨w2.heap.size,0,none⟩ (.int .u64 (wd cz 0))).setCell ⟨w2.heap.size,1,none⟩ (.int .u64 (wd cz 1))).setCell ⟨w2.heap.size,2,none⟩ (.int .u64 (wd cz 2))).setCell ⟨w2.heap.size,3,none⟩ (.int .u64 (wd cz 3)))=W6 at *;clear Rg PY;generalize w2.heap.size=B at *)|(have Rg:w3.heap[wr.heap.size]?=some dg:=PY.o;have k6:Kp [] wr ((((w3.setCell ⟨wr.heap.size,0,none⟩ (.int .u64 (wd cz 0))).setCell ⟨wr.heap.size,1,none⟩ (.int .u64 (wd cz 1))).setCell ⟨wr.heap.size,2,none⟩ (.int .u64 (wd cz 2))).setCell ⟨wr.heap.size,3,none⟩ (.int .u64 (wd cz 3))):=k3.nu (.inr (aH _)) _ _ _ _;have bh:((((w3.setCell ⟨wr.heap.size,0,none⟩ (.int .u64 (wd cz 0))).setCell ⟨wr.heap.size,1,none⟩ (.int .u64 (wd cz 1))).setCell ⟨wr.heap.size,2,none⟩ (.int .u64 (wd cz 2))).setCell ⟨wr.heap.size,3,none⟩ (.int .u64 (wd cz 3))).heap[wr.heap.size]?=some (dX cz):=(by simp only[aQ,Rg];simp[eD]);have hB:wr.heap.size<=wr.heap.size:=(aH _);generalize ((((w3.setCell ⟨wr.heap.size,0,none⟩ (.int .u64 (wd cz 0))).setCell ⟨wr.heap.size,1,none⟩ (.int .u64 (wd cz 1))).setCell ⟨wr.heap.size,2,none⟩ (.int .u64 (wd cz 2))).setCell ⟨wr.heap.size,3,none⟩ (.int .u64 (wd cz 3)))=W6 at *;clear Rg PY;generalize wr.heap.size=B at *)|(have k6:Kp [] wr (w3.alloc (dX cz)):=k3.alloc _;have bh:(w3.alloc (dX cz)).heap[w3.heap.size]?=some (dX cz):=(by rw[aC,aA rfl]);have hB:wr.heap.size<=w3.heap.size:=k3.size;generalize w3.alloc (dX cz)=W6 at *;generalize w3.heap.size=B at *));have K6:=aj (KP.o.trans k6 (by simp));have be6:=k6.keep BE.o (by simp);have bo6:=k6.keep BO.o (by simp);have P6:=aj (HP.o.kp K6.o (by simp));have hBE:B≠E:=(by omega);have hBO:B≠Oq:=(by omega);have lB:=aE bh;obtain⟨WS,zM,sD,zN,_⟩:=dB bh;obtain⟨Po,BE6,BO6⟩:=cR bh be6 bo6;(have qq:=fun w=>agR cz w SI);clear k6 bh be6 bo6 R2 R3 WU ld0 hcO k2 k3 h2 h3 l2 l3 lO lE2 hB;by_cases h0:cz=0
    ·(have q':∀w,(Op.equalIn 10000 65 (cG cz) (.agg #[.int .u64 0,.int .u64 0,.int .u64 0,.int .u64 0])).run aB w=.ok true w:=fun w=>by rw[qq w,h0];rfl);have H0:=aj h0;clear qq h0;go_wp2;go_ret;exact⟨by rw[ac1.o,aA H0.o];rfl,K6.o.toBelow⟩
    ·(have q':∀w,(Op.equalIn 10000 65 (cG cz) (.agg #[.int .u64 0,.int .u64 0,.int .u64 0,.int .u64 0])).run aB w=.ok false w:=fun w=>by rw[qq w,beq_eq_false_iff_ne.2 h0]);have H0:=aj h0;clear qq h0;go_upto_region 8 with fail;have WT:∀w':ay,w'.heap[E]?=some (cZ e f l)/\w'.heap[B]?=some (dX cz)->w'.cell? ⟨E,5,none⟩=some (.int .u64 (wd l 0))/\w'.cell? ⟨E,6,none⟩=some (.int .u64 (wd l 1))/\w'.cell? ⟨E,7,none⟩=some (.int .u64 (wd l 2))/\w'.cell? ⟨E,8,none⟩=some (.int .u64 (wd l 3)) /\
       w'.cell? ⟨B,0,none⟩=some (.int .u64 (wd cz 0))/\w'.cell? ⟨B,1,none⟩=some (.int .u64 (wd cz 1))/\w'.cell? ⟨B,2,none⟩=some (.int .u64 (wd cz 2))/\w'.cell? ⟨B,3,none⟩=some (.int .u64 (wd cz 3)):=fun w' h'=>by
      obtain⟨⟨_,_,_,_,_,y5,y6,y7,y8⟩,_⟩:=gC h'.1;obtain⟨a,b,c,d,_⟩:=dB h'.2;exact⟨y5,y6,y7,y8,a,b,c,d⟩
     have hd6:W6.drew.heap[E]?=some (cZ e f l)/\W6.drew.heap[B]?=some (dX cz):=⟨BE6.o,Po.o⟩;clear WS zM sD zN;go_region_held3 (fun w':ay=>w'.heap[E]?=some (cZ e f l)/\w'.heap[B]?=some (dX cz))
      (first|with_reducible exact R8|with_reducible exact R7|with_reducible exact hd6|(simp only[aQ,az hEO,az hBO];with_reducible exact R8))
      (first|(go_at_call 39;refine(adO p cz bs fs vb vf _ (by exact P6.o.kp ((Kp.refl [] W6).drew) (by simp)) (by rw[P6.o.len];exact hn)).mono ?_;rintro _ w7 ⟨rfl,h7⟩;have R7:w7.heap[E]?=some (cZ e f l)/\w7.heap[B]?=some (dX cz):=⟨bV h7 (by exact BE6.o),bV h7 (by exact Po.o)⟩;have O7:w7.heap[Oq]?=some (dX O):=bV h7 (by exact BO6.o);have K7:=aj (K6.o.drew.below h7);clear h7)|(go_at_call 40;refine(afX cz l _ SI).mono ?_;rintro _ w8 ⟨rfl,h8⟩;have R8:w8.heap[E]?=some (cZ e f l)/\w8.heap[B]?=some (dX cz):=⟨bV h8 R7.1,bV h8 R7.2⟩;have O8:w8.heap[Oq]?=some (dX O):=bV h8 O7;have K8:=aj (K7.o.below h8);obtain⟨Ac,Ad,Ae,Af,Ag,Ah,vW,xM⟩:=dB O8;have HO8:=aj O8;clear O8 h8))
     all_goals
      go_wp2;refine⟨⟨k+1,ke fs cz (ae fs),cz &&& l != 0,U8.o,by go_num,rfl,K8.o.nu (.inr HOQ.o) _ _ _ _,?_,?_,?_⟩,by have:=U8.o;simp[aG];omega⟩
      .simp only[aQ,az hEO];exact R8.1
      .simp only[aQ,HO8.o];simp[eD]
      .rw[ac1.o,az H0.o]
  .have jZ:k=t.size:=(by omega);subst jZ;have hd:wj bs fs l f e (tx t)=d0:=(by rw[Tn,List.drop_eq_nil_of_le (by rw[xU];exact aH _),wj]);have HD:=aj hd;clear Tn hd be bo;go_wp2;go_ret;exact⟨by rw[HD.o];rfl,KP.o.toBelow⟩
section
variable{r:Nat}{ns:List ND}
structure TS(w:ay)(r:Nat)(nv:aq)(ns:List ND)(Ls:List cC):Prop where
 rd:∃s i e pl top,w.heap[r]?=some (fh s i e pl nv top)
 own:∃c:List aq,w.ownsRow 0 104 4 nv (ae ns) c/\∀k nd,ns[k]?=some nd->c[k*4]?=some (.int .u8 nd.kind)/\c[k*4+1]?=some nd.hv/\c[k*4+2]?=some nd.pv/\∃q:Int,c[k*4+3]?=some (.int .i64 q)
 tr:Ni w ns Ls
theorem TS.kp{w w':ay}{nv:aq}{Ls:List cC}(h:TS w r nv ns Ls)(hk:Kp [] w w'):TS w' r nv ns Ls:=by
 obtain⟨s,i,e,pl,top,h1⟩:=h.rd;obtain⟨c,o,oc⟩:=h.own;exact⟨⟨s,i,e,pl,top,hk.keep h1 (by simp)⟩,⟨c,aJ o hk (by simp),oc⟩,h.tr.keep hk (kV.nil _)⟩
theorem Hx:∀(ns:List ND) (k:Nat) (nd:ND),ns[k]?=some nd->∀i,i<4->(xe ns)[k*4+i]?=(DV nd)[i]?:=by
 intro ns;induction ns with
 |nil=>intro k nd h;simp at h
 |cons n ns ih =>
  intro k nd h i hi;have e:xe (n::ns)=DV n++xe ns:=(by simp[xe]);rw[e];cases k with
  |zero =>
   simp only[List.getElem?_cons_zero,aV]at h;subst h;rw[List.getElem?_append_left (by simp[DV];omega)];simp
  |succ k =>
   rw[List.getElem?_cons_succ]at h;rw[List.getElem?_append_right (by simp[DV];omega),show(k+1)*4+i-(DV n).length=k*4+i by simp[DV];omega];exact ih k nd h i hi
theorem TS.row{w:ay}{nv:aq}{Ls:List cC}(h:TS w r nv ns Ls){k:Nat}{nd:ND}(hk:ns[k]?=some nd):∃(g cap:Nat) (q4:Int),nv=.slice (some ⟨g,0,none⟩) (ae ns) cap/\g<w.heap.size/\w.cell? ⟨g,k*4,none⟩=some (.int .u8 nd.kind)/\w.cell? ⟨g,k*4+1,none⟩=some nd.hv/\w.cell? ⟨g,k*4+2,none⟩=some nd.pv/\w.cell? ⟨g,k*4+3,none⟩=some (.int .i64 q4):=by
 have aN:k<ae ns:=by
  rcases eK k (ae ns) with a|a
  .exact a
  .rw[iY a]at hk;cases hk
 obtain⟨cs,own,oc⟩:=h.own;obtain⟨o0,o1,o2,q4,o3⟩:=oc k nd hk;rcases own.2 with⟨_,e⟩|⟨g,cap,cur,e,_,hc,_⟩
 .omega
 .subst e;have c:∀i,i<4->w.cell? ⟨g,k*4+i,none⟩=cs[k*4+i]?:=fun i hi=>own.cellAt (k*4+i) (by omega)
  exact⟨g,cap,q4,rfl,aE hc,(c 0 (by omega)).trans o0,(c 1 (by omega)).trans o1,(c 2 (by omega)).trans o2,(c 3 (by omega)).trans o3⟩
theorem TS.plain{w:ay}{nv:aq}{Ls:List cC}(rd:∃s i e pl top,w.heap[r]?=some (fh s i e pl nv top))(own:w.ownsRow 0 104 4 nv (ae ns) (xe ns))(tr:Ni w ns Ls):TS w r nv ns Ls :=
 ⟨rd,⟨xe ns,own,fun k nd hk=>⟨Hx ns k nd hk 0 (by omega),Hx ns k nd hk 1 (by omega),Hx ns k nd hk 2 (by omega),0,Hx ns k nd hk 3 (by omega)⟩⟩,tr⟩
def p9(L:cC)(t:ByteArray)(lf:List Bool)(w:ay)(x:Ending)(w':ay):Prop :=
 ∃bo lo,x=.returned (.slice (some ⟨bo,0,none⟩) (t.size+1) (t.size+1))/\w'.heap[bo]?=some (aW lo)/\w.heap.size<=bo/\kU L (tx t) lf lo/\Kp [] w w'
theorem aoN(t:ByteArray)(k:Nat):(tx t).getD k 0=gt t k:=by
 unfold tx gt;rw[aO,List.getElem?_map];simp only[Array.getElem?_toList];cases t.data[k]? <;> rfl
theorem Pg(i:Nat)(hi:i<=1000000):GA.wrap ((i:Int)+1)=((i+1:Nat):Int):=by simp[tA,qa,qc];omega
theorem ajS(r k bf b:Nat)(nv:aq)(ns:List ND)(Ls:List cC)(t:ByteArray)(lf:List Bool)(nd:ND)(q:Nat)(w:ay)(h:TS w r nv ns Ls)(hk:ns[k]?=some nd)(hl:(ae lf)=t.size+1)(hf:w.heap[bf]?=some (aW lf))(ht:t.size<=100000)(h1:nd.kind=98)(h2:nd.hv=.slice (some ⟨b,0,none⟩) 256 256)(h4:nd.pv=.slice none 0 0)(h3:w.heap[b]?=some (aW (js q))):aI aB 41 #[.pointer (some ⟨r,4,none⟩),.int .i64 k,.string t,.slice (some ⟨bf,0,none⟩) (t.size+1) (t.size+1)] w (p9 (Lw q) t lf w):=by
 obtain⟨s,i,e,pl,top,rd⟩:=h.rd;obtain⟨g,cap,q4,rfl,hg,n0,n1,n2,n3⟩:=h.row hk;have dI:k<ae ns:=by
  rcases eK k (ae ns) with a|a
  .exact a
  .rw[iY a]at hk;cases hk
 have j3:(k:Int)<ae ns:=(by omega);obtain⟨_,_,_,_,c4,_⟩:=dM rd;have hm:∀w,(pN 80 (.int .i64 ((t.size:Int)+1)) (.int .i64 ((t.size:Int)+1))).run aB w=.ok (.slice (some ⟨w.heap.size,0,none⟩) (t.size+1) (t.size+1)) (w.alloc (aW (fl (t.size+1)))):=fun w=>yZ (t.size+1) (by omega) w
 have BF:=aj hf;have B3:=aj h3;rw[h1]at n0;rw[h2]at n1;rw[h4]at n2;have HS:=aj h;clear h rd hf h3 hk;go_enter Tryz.func41,Tryz.ntmps41;go_upto_region 3 with fail;have kW:Kp [] w ((w.alloc (.cells #[.int .u8 98,.slice (some ⟨b,0,none⟩) 256 256,.slice none 0 0,.int .i64 q4] 104)).alloc (aW (fl (t.size+1)))):=((Kp.refl _ _).alloc _).alloc _;have bT:((w.alloc (.cells #[.int .u8 98,.slice (some ⟨b,0,none⟩) 256 256,.slice none 0 0,.int .i64 q4] 104)).alloc (aW (fl (t.size+1)))).heap[w.heap.size]?=some (.cells #[.int .u8 98,.slice (some ⟨b,0,none⟩) 256 256,.slice none 0 0,.int .i64 q4] 104 (0,0)):=by
  rw[aC,aM,az (by omega),aC,aA rfl]
 have bO:((w.alloc (.cells #[.int .u8 98,.slice (some ⟨b,0,none⟩) 256 256,.slice none 0 0,.int .i64 q4] 104)).alloc (aW (fl (t.size+1)))).heap[w.heap.size+1]?=some (aW (fl (t.size+1))):=by
  rw[aC,aM,aA rfl]
 generalize (w.alloc (.cells #[.int .u8 98,.slice (some ⟨b,0,none⟩) 256 256,.slice none 0 0,.int .i64 q4] 104)).alloc (aW (fl (t.size+1)))=W at *;obtain⟨d0,d1,d2,d3,_⟩:=dB bT;obtain⟨KW,BT,BO⟩:=cR kW bT bO;have m8:(tx t).length=t.size:=xU t;clear kW bT bO hm n0 n1 n2 n3 c4;go_wp2_with fail;go_loopw [11] (fun c w'=>∃j:Nat,j<=t.size/\c=.int .i64 j/\w'.heap[w.heap.size]?=some (.cells #[.int .u8 98,.slice (some ⟨b,0,none⟩) 256 256,.slice none 0 0,.int .i64 q4] 104 (0,0))/\w'.heap[w.heap.size+1]?=some (aW (uD q (tx t) lf j))/\Kp [] w w')
  (fun c _=>t.size-(aG c).toNat)
 case atStart=>exact⟨0,by omega,rfl,BT.o,by rw[uD,m8];exact BO.o,KW.o⟩
 case round =>
  clear d0 d1 d2 d3;obtain⟨j,hj,rfl,bt,bo,kk⟩:=hrel;obtain⟨AM,um,nD⟩:=cR bt bo kk;obtain⟨d0,d1,d2,d3,_⟩:=dB bt;by_cases aN:j<t.size
  .have gU:(j:Int)<t.size:=(by omega);have Xh:(j:Int)<(t.size:Int)+1:=(by omega);have cf0:=gz (kk.keep BF.o (by simp)) j (by omega);have hgj:=Dz t j aN;have hg8:=kj t j;rw[hgj]at hg8;have cb:=gz (kk.keep B3.o (by simp)) (t[j].toNat) (by rw[kC];exact hg8);rw[V8 _ _ hg8]at cb;have apE:(t[j].toNat:Int)<256:=(by omega);(have Om:GA.wrap (t[j].toNat:Int)=t[j].toNat:=by simp[tA,qa,qc];omega);have co:=gz bo (j+1) (by rw[Rm,m8];omega);have fo:=kJ bo (j+1);have DP:=Pg j (by omega);have Ig:ax (uD q (tx t) lf (j+1)=if (lf.getD j false && q.testBit (t[j].toNat))=true then(uD q (tx t) lf j).set (j+1) true else uD q (tx t) lf j):=by
    show _=_;rw[uD,aoN,hgj]
   generalize (uD q (tx t) lf j).getD (j+1) false=ov at co;generalize Ss:q.testBit (t[j].toNat)=bq at *;generalize pq:lf.getD j false=bl at *;clear bt bo kk hgj Ss pq;cases bl
   .go_wp2_with fail;(go_quiet (fail));go_wp2;refine⟨⟨j+1,by omega,by go_num,AM.o,?_,nD.o.drewN _⟩,by simp[aG];omega⟩;rw[Ig.o,az (by simp)];exact um.o
   .cases bq
    .go_wp2_with fail;(go_quiet (fail));go_wp2;refine⟨⟨j+1,by omega,by go_num,AM.o,?_,nD.o.drewN _⟩,by simp[aG];omega⟩;rw[Ig.o,az (by simp)];exact um.o
    .go_wp2_with fail;(go_quiet (fail));go_wp2;refine⟨⟨j+1,by omega,by go_num,?_,?_,(nD.o.drewN _).set (.inr (by omega)) _ _⟩,by simp[aG];omega⟩
     .rw[aQ,az (by omega)];exact AM.o
     .rw[Ig.o,aA (by simp)];exact nF (by exact um.o) (j+1) true
  .have yM:j=t.size:=(by omega);subst yM;clear bt bo kk aN;go_wp2;go_ret;exact⟨w.heap.size+1,uD q (tx t) lf t.size,rfl,um.o,by omega,by have:=kU.byte q (tx t) lf;rw[m8]at this;exact this,nD.o⟩
end
theorem Kp.setRow{w w1:ay}(h:Kp [] w w1){g:Nat}(hg:w.heap.size<=g)(cs:Array aq):Kp [] w (w1.setRow g cs) :=
 ⟨h.os,h.tape,h.output,by rw[setRow_size];exact h.size,fun k hk hx=>by rw[setRow_other _ _ _ _ (by omega)];exact h.block k hk hx⟩
theorem Ph(i:Nat)(hi:i+1<=9223372036854775807):GA.wrap ((i:Int)+1)=((i+1:Nat):Int):=by simp[tA,qa,qc];omega
theorem ahi{α β:Type}(f:α->β)(ps:List α)(j:Nat)(hj:j<ae ps):(ps.take (j+1)).map f=(ps.take j).map f ++ [f ps[j]]:=by
 rw[List.take_succ_eq_append_getElem hj,uv];rfl
theorem aev{ps:List Nat}{j:Nat}(hj:j<ae ps):ps.getD j 0∈ps/\ps.getD j 0=ps[j]:=by
 rw[aO,bD hj,nV];exact⟨nE hj,rfl⟩
theorem ajT(r k bf:Nat)(nv:aq)(ns:List ND)(Ls:List cC)(t:ByteArray)(lf:List Bool)(nd:ND)(ps:List Nat)(L:cC)(w:ay)(h:TS w r nv ns Ls)(hk:ns[k]?=some nd)(hl:(ae lf)=t.size+1)(hf:w.heap[bf]?=some (aW lf))(ht:t.size<=100000)(h1:nd.kind=99)(h2:nd.hv=.slice none 0 0)(own:w.ownsRow 0 3 1 nd.pv (ae ps) (dy ps))(hL:L=Ko (ps.map fun p=>Ls.getD p oh))(l9:∀p∈ps,∀(bf:Nat) (lf:List Bool) (w':ay),TS w' r nv ns Ls->ae lf=t.size+1->w'.heap[bf]?=some (aW lf)->aI aB 41 #[.pointer (some ⟨r,4,none⟩),.int .i64 p,.string t,.slice (some ⟨bf,0,none⟩) (t.size+1) (t.size+1)] w' (p9 (Ls.getD p oh) t lf w')):aI aB 41 #[.pointer (some ⟨r,4,none⟩),.int .i64 k,.string t,.slice (some ⟨bf,0,none⟩) (t.size+1) (t.size+1)] w (p9 L t lf w):=by
 obtain⟨s,i,e,pl,top,rd⟩:=h.rd;have HP:=aj l9;obtain⟨pa,pc,jJ⟩:∃pa pc,nd.pv=.slice pa (ae ps) pc:=by
  rcases own.2 with⟨e1,e2⟩|⟨g,cap,cur,e1,_⟩
  .rw[e1,e2];exact⟨_,_,rfl⟩
  .exact⟨_,_,e1⟩
 rw[jJ]at own;have A6:=aj h;obtain⟨g,cap,q4,uF,hg,n0,n1,n2,n3⟩:=h.row hk;have dI:k<ae ns:=by
  rcases eK k (ae ns) with a|a
  .exact a
  .rw[iY a]at hk;cases hk
 have j3:(k:Int)<ae ns:=(by omega);obtain⟨_,_,_,_,c4,_⟩:=dM rd;rw[uF]at c4;have hm:∀w,(pN 80 (.int .i64 ((t.size:Int)+1)) (.int .i64 ((t.size:Int)+1))).run aB w=.ok (.slice (some ⟨w.heap.size,0,none⟩) (t.size+1) (t.size+1)) (w.alloc (aW (fl (t.size+1)))):=fun w=>yZ (t.size+1) (by omega) w
 have BF:=aj hf;rw[h1]at n0;rw[h2]at n1;rw[jJ]at n2;have vP:ax (∀w':ay,Kp [] w w'->∀j,j<ae ps->∃gp,pa=some ⟨gp,0,none⟩/\w'.cell? ⟨gp,j,none⟩=some (.int .i64 (ps.getD j 0))):=fun w' hk' j hj=>by
  have pY:=aJ own hk' (by simp);rcases pY.2 with⟨_,e2⟩|⟨gp,cap,cur,e1,_⟩
  .omega
  .simp only[fy]at e1;refine⟨gp,e1.1,?_⟩;rw[e1.1]at pY;have:=pY.cellAt j (by omega);rw[this];simp[dy,bD hj]
 have Xp:(ae ps)<=9223372036854775807:=by
  rcases own.2 with⟨_,e2⟩|⟨_,_,_,_,_,_,e5,e6,_⟩
  .omega
  .unfold eB at e6;omega
 have m8:(tx t).length=t.size:=xU t;have HL:=aj hL;clear h rd hf hk l9 own jJ hL;go_enter Tryz.func41,Tryz.ntmps41;go_upto_region 3 with fail;have kW:Kp [] w ((w.alloc (.cells #[.int .u8 99,.slice none 0 0,.slice pa (ae ps) pc,.int .i64 q4] 104 (0,0))).alloc (aW (fl (t.size+1)))):=((Kp.refl _ _).alloc _).alloc _;have bT:((w.alloc (.cells #[.int .u8 99,.slice none 0 0,.slice pa (ae ps) pc,.int .i64 q4] 104 (0,0))).alloc (aW (fl (t.size+1)))).heap[w.heap.size]?=some (.cells #[.int .u8 99,.slice none 0 0,.slice pa (ae ps) pc,.int .i64 q4] 104 (0,0)):=by
  rw[aC,aM,az (by omega),aC,aA rfl]
 have bO:((w.alloc (.cells #[.int .u8 99,.slice none 0 0,.slice pa (ae ps) pc,.int .i64 q4] 104 (0,0))).alloc (aW (fl (t.size+1)))).heap[w.heap.size+1]?=some (aW (fl (t.size+1))):=by
  rw[aC,aM,aA rfl]
 generalize (w.alloc (.cells #[.int .u8 99,.slice none 0 0,.slice pa (ae ps) pc,.int .i64 q4] 104 (0,0))).alloc (aW (fl (t.size+1)))=W at *;obtain⟨d0,d1,d2,d3,_⟩:=dB bT;obtain⟨KW,BT,BO⟩:=cR kW bT bO;clear kW bT bO hm n0 n1 n2 n3 c4;have Ir:(aB.info? 4).map (·.size)=some 1:=(by kernel_rfl);have hcp:(Builtin.copy_ #[80,80] 3 #[.slice (some ⟨w.heap.size+1,0,none⟩) (t.size+1) (t.size+1),.slice (some ⟨bf,0,none⟩) (t.size+1) (t.size+1)]).run aB W=.ok (goInt (t.size+1)) (W.setRow (w.heap.size+1) (lf.map EU).toArray):=by
  have:=run_copy_row (P:=aB) W 80 80 3 4 (w.heap.size+1) 0 (t.size+1) (t.size+1) ⟨bf,0,none⟩ (t.size+1) (t.size+1) _ _ (lf.map EU) Tryz.underlying80 Ir BO.o (by rw[mX,hl];exact(Nat.min_self _).symm) (gN (cs:=(lf.map EU).toArray) (t:=4) (fr:=(0,0)) (KW.o.keep BF.o (by simp))) (by simp[yE,hl]) (by intro v hv;obtain⟨b,_,rfl⟩:=List.mem_map.1 hv;rfl);rw[this,mX,hl];congr 2;simp[yE,hl]
 have Bq:(W.setRow (w.heap.size+1) (lf.map EU).toArray).heap[w.heap.size+1]?=some (aW lf):=setRow_heap _ _ _ _ _ _ BO.o;have bt2:(W.setRow (w.heap.size+1) (lf.map EU).toArray).heap[w.heap.size]?=some (.cells #[.int .u8 99,.slice none 0 0,.slice pa (ae ps) pc,.int .i64 q4] 104 (0,0)):=by rw[setRow_other _ _ _ _ (by omega)];exact BT.o
 have k2:Kp [] w (W.setRow (w.heap.size+1) (lf.map EU).toArray):=KW.o.setRow (by omega) _;generalize W.setRow (w.heap.size+1) (lf.map EU).toArray=W2 at *;obtain⟨Jm,CY,K2⟩:=cR Bq bt2 k2;clear Bq bt2 k2;go_wp2_with fail;clear hcp d0 d1 d2 d3;go_loopw [12,10] (fun c o w'=>∃(j bk:Nat) (lk:List Bool),j<=ae ps/\c=.int .i64 j/\o=.slice (some ⟨bk,0,none⟩) (t.size+1) (t.size+1)/\w.heap.size<=bk/\w'.heap[bk]?=some (aW lk)/\w'.heap[w.heap.size]?=some (.cells #[.int .u8 99,.slice none 0 0,.slice pa (ae ps) pc,.int .i64 q4] 104 (0,0))/\Kp [] w w'/\kU (Ko ((ps.take j).map fun p=>Ls.getD p oh)) (tx t) lf lk)
  (fun c _ _=>ae ps-(aG c).toNat)
 case atStart=>exact⟨0,w.heap.size+1,lf,by omega,rfl,rfl,by omega,Jm.o,CY.o,K2.o,kU.aX (by rw[m8];exact hl)⟩
 case round =>
  obtain⟨j,bk,lk,hj,rfl,rfl,Cb,bo,bt,kk,ek⟩:=hrel;obtain⟨d0,d1,d2,d3,_⟩:=dB bt;obtain⟨AM,um,nD,EK⟩:=dH bt bo kk ek;by_cases aN:j<ae ps
  .have gU:(j:Int)<ae ps:=(by omega);obtain⟨gp,zS,cp⟩:=vP.o wr kk j aN;have mO:=aev aN;have iU:=aj (HP.o (ps.getD j 0) mO.1 bk lk wr (A6.o.kp kk) (by have:=ek.len;omega) bo);have HM:=aj mO.2;generalize ps.getD j 0=p at *;subst zS;have DP:=Ph j (by omega);clear bt bo kk ek mO;go_wp2_with fail;refine iU.o.mono ?_;rintro _ w3 ⟨Du,Ab,rfl,mK,abl,Bz,k3⟩;have KT:ax (Kp [] w w3):=nD.o.trans k3 (by simp);have CZ:=aj (k3.keep AM.o (by simp));have D7:=aj mK;have zf:=aj Bz;(have HG3:ax (w.heap.size<=Du):=by show _<=_;have:=nD.o.size;omega);clear k3 mK Bz;go_wp2;refine⟨⟨j+1,Du,Ab,by omega,by go_num,rfl,HG3.o,D7.o,CZ.o,KT.o,?_⟩,by simp[aG];omega⟩;rw[ahi _ _ _ aN,ajl,<-HM.o];exact EK.o.cat zf.o
  .have yM:j=ae ps:=(by omega);subst yM;clear bt bo kk ek aN;go_wp2;go_ret;refine⟨bk,lk,rfl,um.o,Cb,?_,nD.o⟩;rw[HL.o];have:=EK.o;rwa [Vs]at this
theorem ajR(r k bf:Nat)(nv:aq)(ns:List ND)(Ls:List cC)(t:ByteArray)(lf:List Bool)(nd:ND)(ps:List Nat)(L:cC)(w:ay)(h:TS w r nv ns Ls)(hk:ns[k]?=some nd)(hl:(ae lf)=t.size+1)(hf:w.heap[bf]?=some (aW lf))(ht:t.size<=100000)(h1:nd.kind=97)(h2:nd.hv=.slice none 0 0)(own:w.ownsRow 0 3 1 nd.pv (ae ps) (dy ps))(hL:L=Bk (ps.map fun p=>Ls.getD p oh))(l9:∀p∈ps,∀(bf:Nat) (lf:List Bool) (w':ay),TS w' r nv ns Ls->ae lf=t.size+1->w'.heap[bf]?=some (aW lf)->aI aB 41 #[.pointer (some ⟨r,4,none⟩),.int .i64 p,.string t,.slice (some ⟨bf,0,none⟩) (t.size+1) (t.size+1)] w' (p9 (Ls.getD p oh) t lf w')):aI aB 41 #[.pointer (some ⟨r,4,none⟩),.int .i64 k,.string t,.slice (some ⟨bf,0,none⟩) (t.size+1) (t.size+1)] w (p9 L t lf w):=by
 obtain⟨s,i,e,pl,top,rd⟩:=h.rd;have HP:=aj l9;obtain⟨pa,pc,jJ⟩:∃pa pc,nd.pv=.slice pa (ae ps) pc:=by
  rcases own.2 with⟨e1,e2⟩|⟨g,cap,cur,e1,_⟩
  .rw[e1,e2];exact⟨_,_,rfl⟩
  .exact⟨_,_,e1⟩
 rw[jJ]at own;have A6:=aj h;obtain⟨g,cap,q4,uF,hg,n0,n1,n2,n3⟩:=h.row hk;have dI:k<ae ns:=by
  rcases eK k (ae ns) with a|a
  .exact a
  .rw[iY a]at hk;cases hk
 have j3:(k:Int)<ae ns:=(by omega);obtain⟨_,_,_,_,c4,_⟩:=dM rd;rw[uF]at c4;have hm:∀w,(pN 80 (.int .i64 ((t.size:Int)+1)) (.int .i64 ((t.size:Int)+1))).run aB w=.ok (.slice (some ⟨w.heap.size,0,none⟩) (t.size+1) (t.size+1)) (w.alloc (aW (fl (t.size+1)))):=fun w=>yZ (t.size+1) (by omega) w
 have BF:=aj hf;rw[h1]at n0;rw[h2]at n1;rw[jJ]at n2;have vP:ax (∀w':ay,Kp [] w w'->∀j,j<ae ps->∃gp,pa=some ⟨gp,0,none⟩/\w'.cell? ⟨gp,j,none⟩=some (.int .i64 (ps.getD j 0))):=fun w' hk' j hj=>by
  have pY:=aJ own hk' (by simp);rcases pY.2 with⟨_,e2⟩|⟨gp,cap,cur,e1,_⟩
  .omega
  .simp only[fy]at e1;refine⟨gp,e1.1,?_⟩;rw[e1.1]at pY;have:=pY.cellAt j (by omega);rw[this];simp[dy,bD hj]
 have Xp:(ae ps)<=9223372036854775807:=by
  rcases own.2 with⟨_,e2⟩|⟨_,_,_,_,_,_,e5,e6,_⟩
  .omega
  .unfold eB at e6;omega
 have m8:(tx t).length=t.size:=xU t;have HL:=aj hL;clear h rd hf hk l9 own jJ hL;go_enter Tryz.func41,Tryz.ntmps41;go_upto_region 3 with fail;have kW:Kp [] w ((w.alloc (.cells #[.int .u8 97,.slice none 0 0,.slice pa (ae ps) pc,.int .i64 q4] 104 (0,0))).alloc (aW (fl (t.size+1)))):=((Kp.refl _ _).alloc _).alloc _;have bT:((w.alloc (.cells #[.int .u8 97,.slice none 0 0,.slice pa (ae ps) pc,.int .i64 q4] 104 (0,0))).alloc (aW (fl (t.size+1)))).heap[w.heap.size]?=some (.cells #[.int .u8 97,.slice none 0 0,.slice pa (ae ps) pc,.int .i64 q4] 104 (0,0)):=by
  rw[aC,aM,az (by omega),aC,aA rfl]
 have bO:((w.alloc (.cells #[.int .u8 97,.slice none 0 0,.slice pa (ae ps) pc,.int .i64 q4] 104 (0,0))).alloc (aW (fl (t.size+1)))).heap[w.heap.size+1]?=some (aW (fl (t.size+1))):=by
  rw[aC,aM,aA rfl]
 generalize (w.alloc (.cells #[.int .u8 97,.slice none 0 0,.slice pa (ae ps) pc,.int .i64 q4] 104 (0,0))).alloc (aW (fl (t.size+1)))=W at *;obtain⟨d0,d1,d2,d3,_⟩:=dB bT;obtain⟨KW,BT,BO⟩:=cR kW bT bO;clear kW bT bO hm n0 n1 n2 n3 c4;go_wp2_with fail;clear d0 d1 d2 d3;go_loopw [13] (fun c w'=>∃(j:Nat) (lk:List Bool),j<=ae ps/\c=.int .i64 j/\w'.heap[w.heap.size+1]?=some (aW lk)/\w'.heap[w.heap.size]?=some (.cells #[.int .u8 97,.slice none 0 0,.slice pa (ae ps) pc,.int .i64 q4] 104 (0,0))/\Kp [] w w'/\kU (Bk ((ps.take j).map fun p=>Ls.getD p oh)) (tx t) lf lk)
  (fun c _=>ae ps-(aG c).toNat)
 case atStart=>exact⟨0,fl (t.size+1),by omega,rfl,BO.o,BT.o,KW.o,by have:=kU.none (tx t) lf;rw[m8]at this;exact this⟩
 case round =>
  obtain⟨j,lk,hj,rfl,bo,bt,kk,ek⟩:=hrel;obtain⟨d0,d1,d2,d3,_⟩:=dB bt;obtain⟨AM,um,nD,EK⟩:=dH bt bo kk ek;by_cases aN:j<ae ps
  .have gU:(j:Int)<ae ps:=(by omega);obtain⟨gp,zS,cp⟩:=vP.o wr kk j aN;have mO:=aev aN;have iU:=aj (HP.o (ps.getD j 0) mO.1 bf lf wr (A6.o.kp kk) hl (kk.keep BF.o (by simp)));have HM:=aj mO.2;generalize ps.getD j 0=p at *;subst zS;have DP:=Ph j (by omega);clear bt bo kk ek mO;go_wp2_with fail;refine iU.o.mono ?_;rintro _ w3 ⟨Du,Ab,rfl,mK,abl,Bz,k3⟩;have KT:ax (Kp [] w w3):=nD.o.trans k3 (by simp);have CZ:=aj (k3.keep AM.o (by simp));have Pp:=aj (k3.keep um.o (by simp));have D7:=aj mK;have zf:=aj Bz;have apU:w.heap.size+1<wr.heap.size:=aE um.o;have S8:Du≠w.heap.size+1:=(by omega);have apZ:Du≠w.heap.size:=(by omega);clear k3 mK Bz d0 d1 d2 d3;go_wp2_with fail;go_loopw [15] (fun c w'=>∃q:Nat,q<=t.size+1/\c=.int .i64 q/\w'.heap[w.heap.size+1]?=some (aW (fW lk Ab q))/\w'.heap[Du]?=some (aW Ab)/\w'.heap[w.heap.size]?=some (.cells #[.int .u8 97,.slice none 0 0,.slice (some ⟨gp,0,none⟩) (ae ps) pc,.int .i64 q4] 104 (0,0))/\Kp [] w w')
    (fun c _=>t.size+1-(aG c).toNat)
   case atStart=>exact⟨0,by omega,rfl,Pp.o,D7.o,CZ.o,KT.o⟩
   case round =>
    obtain⟨q,hq,rfl,bq,b3,bt,kq⟩:=hrel;obtain⟨BQ,AG,wD,KQ⟩:=dH bq b3 bt kq;by_cases Fp:q<=t.size
    .have Fq:(q:Int)<=t.size:=(by omega);have Xr:(q:Int)<(t.size:Int)+1:=(by omega);have SR:=EK.o.len;have yO:=zf.o.len;have XF:=Pg q (by omega);have cq:=gz bq q (by rw[rF];omega);rw[vZ lk Ab q q (by omega),az (by omega)]at cq;have fq:=kJ bq q;have c3:=gz b3 q (by omega);have eM:ax (fW lk Ab (q+1)=(fW lk Ab q).set q (lk.getD q false || Ab.getD q false)):=rfl;generalize lk.getD q false=va at *;generalize Ab.getD q false=vb at *;clear bq b3 bt kq SR yO;cases va<;>cases vb
     all_goals
      go_wp2;refine⟨⟨q+1,by omega,by go_num,?_,?_,?_,KQ.o.set (.inr (by omega)) _ _⟩,by simp[aG];omega⟩
      .rw[eM.o];exact nF BQ.o q _
      .rw[aQ,az S8];exact AG.o
      .rw[aQ,az (by omega)];exact wD.o
    .have Fm:q=t.size+1:=(by omega);subst Fm;have Fq:¬(((t.size+1:Nat):Int)<=t.size):=(by omega);clear bq b3 bt kq Fp;go_wp2;refine⟨⟨j+1,fW lk Ab (t.size+1),by omega,by go_num,BQ.o,wD.o,KQ.o,?_⟩,by simp[aG];omega⟩;rw[ahi _ _ _ aN,<-HM.o];have:=EK.o.alt zf.o;rw[m8]at this;exact this
  .have yM:j=ae ps:=(by omega);subst yM;clear bt bo kk ek aN;go_wp2;go_ret;refine⟨w.heap.size+1,lk,rfl,um.o,by omega,?_,nD.o⟩;rw[HL.o];have:=EK.o;rwa [Vs]at this
def isF:aq->Bool
 |.bool false=>true
 |_=>false
def Nv(w:ay)(b:Nat):Nat:=match w.heap[b]? with
 |some (.cells c _ _)=>c.toList.countP isF
 |_=>0
def E3:aq->Nat
 |.bool true=>1
 |_=>0
theorem Rt{w:ay}{b:Nat}{l:List Bool}(h:w.heap[b]?=some (aW l)):Nv w b=cf l:=by
 unfold Nv;rw[h];show(l.map EU).countP isF=cf l;rw[List.countP_map,cf,List.count];congr 1;funext b;cases b<;>rfl
theorem ajU(r k bf:Nat)(nv:aq)(ns:List ND)(Ls:List cC)(t:ByteArray)(lf:List Bool)(nd:ND)(ps:List Nat)(L:cC)(w:ay)(h:TS w r nv ns Ls)(hk:ns[k]?=some nd)(hl:(ae lf)=t.size+1)(hf:w.heap[bf]?=some (aW lf))(ht:t.size<=100000)(h1:nd.kind=63)(h2:nd.hv=.slice none 0 0)(own:w.ownsRow 0 3 1 nd.pv (ae ps) (dy ps))(p:Nat)(je:ps=[p])(M:cC)(hM:Ls.getD p oh=M)(hL:L=Oz M)(l9:∀p∈ps,∀(bf:Nat) (lf:List Bool) (w':ay),TS w' r nv ns Ls->ae lf=t.size+1->w'.heap[bf]?=some (aW lf)->aI aB 41 #[.pointer (some ⟨r,4,none⟩),.int .i64 p,.string t,.slice (some ⟨bf,0,none⟩) (t.size+1) (t.size+1)] w' (p9 (Ls.getD p oh) t lf w')):aI aB 41 #[.pointer (some ⟨r,4,none⟩),.int .i64 k,.string t,.slice (some ⟨bf,0,none⟩) (t.size+1) (t.size+1)] w (p9 L t lf w):=by
 obtain⟨s,i,e,pl,top,rd⟩:=h.rd;have HP:=aj l9;obtain⟨pa,pc,jJ⟩:∃pa pc,nd.pv=.slice pa (ae ps) pc:=by
  rcases own.2 with⟨e1,e2⟩|⟨g,cap,cur,e1,_⟩
  .rw[e1,e2];exact⟨_,_,rfl⟩
  .exact⟨_,_,e1⟩
 rw[jJ]at own;have A6:=aj h;obtain⟨g,cap,q4,uF,hg,n0,n1,n2,n3⟩:=h.row hk;have dI:k<ae ns:=by
  rcases eK k (ae ns) with a|a
  .exact a
  .rw[iY a]at hk;cases hk
 have j3:(k:Int)<ae ns:=(by omega);obtain⟨_,_,_,_,c4,_⟩:=dM rd;rw[uF]at c4;have hm:∀w,(pN 80 (.int .i64 ((t.size:Int)+1)) (.int .i64 ((t.size:Int)+1))).run aB w=.ok (.slice (some ⟨w.heap.size,0,none⟩) (t.size+1) (t.size+1)) (w.alloc (aW (fl (t.size+1)))):=fun w=>yZ (t.size+1) (by omega) w
 have BF:=aj hf;rw[h1]at n0;rw[h2]at n1;rw[jJ]at n2;have vP:ax (∀w':ay,Kp [] w w'->∀j,j<ae ps->∃gp,pa=some ⟨gp,0,none⟩/\w'.cell? ⟨gp,j,none⟩=some (.int .i64 (ps.getD j 0))):=fun w' hk' j hj=>by
  have pY:=aJ own hk' (by simp);rcases pY.2 with⟨_,e2⟩|⟨gp,cap,cur,e1,_⟩
  .omega
  .simp only[fy]at e1;refine⟨gp,e1.1,?_⟩;rw[e1.1]at pY;have:=pY.cellAt j (by omega);rw[this];simp[dy,bD hj]
 have Xp:(ae ps)<=9223372036854775807:=by
  rcases own.2 with⟨_,e2⟩|⟨_,_,_,_,_,_,e5,e6,_⟩
  .omega
  .unfold eB at e6;omega
 have m8:(tx t).length=t.size:=xU t;have HL:=aj hL;have vQ:ax (ae ps=1):=by show _=_;rw[je];rfl
 have Cl:ps.getD 0 0=p:=by rw[je];rfl
 have uI:p∈ps:=by rw[je];simp
 have Eh:=aj hM;clear h rd hf hk l9 own jJ hL je hM;go_enter Tryz.func41,Tryz.ntmps41;go_upto_region 3 with fail;have kW:Kp [] w ((w.alloc (.cells #[.int .u8 63,.slice none 0 0,.slice pa (ae ps) pc,.int .i64 q4] 104 (0,0))).alloc (aW (fl (t.size+1)))):=((Kp.refl _ _).alloc _).alloc _;have bT:((w.alloc (.cells #[.int .u8 63,.slice none 0 0,.slice pa (ae ps) pc,.int .i64 q4] 104 (0,0))).alloc (aW (fl (t.size+1)))).heap[w.heap.size]?=some (.cells #[.int .u8 63,.slice none 0 0,.slice pa (ae ps) pc,.int .i64 q4] 104 (0,0)):=by
  rw[aC,aM,az (by omega),aC,aA rfl]
 have bO:((w.alloc (.cells #[.int .u8 63,.slice none 0 0,.slice pa (ae ps) pc,.int .i64 q4] 104 (0,0))).alloc (aW (fl (t.size+1)))).heap[w.heap.size+1]?=some (aW (fl (t.size+1))):=by
  rw[aC,aM,aA rfl]
 generalize (w.alloc (.cells #[.int .u8 63,.slice none 0 0,.slice pa (ae ps) pc,.int .i64 q4] 104 (0,0))).alloc (aW (fl (t.size+1)))=W at *;obtain⟨d0,d1,d2,d3,_⟩:=dB bT;obtain⟨KW,BT,BO⟩:=cR kW bT bO;clear kW bT bO hm n0 n1 n2 n3 c4;have Ej:ax (∀(bf:Nat) (lf:List Bool) (w':ay),TS w' r nv ns Ls->ae lf=t.size+1->w'.heap[bf]?=some (aW lf)->aI aB 41 #[.pointer (some ⟨r,4,none⟩),.int .i64 p,.string t,.slice (some ⟨bf,0,none⟩) (t.size+1) (t.size+1)] w' (p9 M t lf w')):=fun bf lf w' a b c=>by
  have:=HP.o p uI bf lf w' a b c;rw[Eh.o]at this;exact this
 obtain⟨gp,zS,cp⟩:=vP.o W KW.o 0 (by have:=vQ.o;omega);have eZ:ax (∀w':ay,Kp [] w w'->w'.cell? ⟨gp,0,none⟩=some (.int .i64 p)):=fun w' hk'=>by
  obtain⟨g',e1,e2⟩:=vP.o w' hk' 0 (by have:=vQ.o;omega);rw[zS]at e1;simp only[aV,Addr.mk.injEq]at e1;rw[<-e1.1,Cl]at e2;exact e2
 rw[Cl]at cp;subst zS;have Io:(0:Int)<ae ps:=by have:=vQ.o;omega
 have iU:=aj (Ej.o bf lf W (A6.o.kp KW.o) hl (KW.o.keep BF.o (by simp)));clear vP HP Eh uI Cl;go_wp2_with fail;refine iU.o.mono ?_;rintro _ w1 ⟨B1,l1,rfl,dL,ae1,Hw,k1⟩;have K1:ax (Kp [] w w1):=KW.o.trans k1 (by simp);have uzc:=aj (k1.keep BT.o (by simp));have p8:=aj dL;have PD:=aj Hw;have Mr:w.heap.size+1<W.heap.size:=aE BO.o;have Fg:w.heap.size<=B1:=(by omega);have WD:B1≠w.heap.size:=(by omega);clear k1 dL Hw d0 d1 d2 d3 cp iU BO;obtain⟨d0,d1,d2,d3,_⟩:=dB uzc.o;go_wp2_with fail;go_rounds 1
 have BOX:=p8;have KX:=K1;have Jw:=PD;go_loopw [19] (fun c w'=>∃q:Nat,q<=t.size+1/\c=.int .i64 q/\w'.heap[B1]?=some (aW (fW l1 lf q))/\Kp [] w w') (fun c _=>t.size+1-(aG c).toNat)
 case atStart=>exact⟨0,by omega,rfl,BOX.o,KX.o⟩
 case round =>
  obtain⟨q,hq,rfl,bq,kq⟩:=hrel;have BQ:=aj bq;have KQ:=aj kq;by_cases Fp:q<=t.size
  .have Fq:(q:Int)<=t.size:=(by omega);have Xr:(q:Int)<(t.size:Int)+1:=(by omega);have SR:=Jw.o.len;have XF:=Pg q (by omega);have cq:=gz bq q (by rw[rF];omega);rw[vZ l1 lf q q (by omega),az (by omega)]at cq;have fq:=kJ bq q;have c3:=gz (kq.keep BF.o (by simp)) q (by omega);have eM:ax (fW l1 lf (q+1)=(fW l1 lf q).set q (l1.getD q false || lf.getD q false)):=rfl;generalize l1.getD q false=va at *;generalize lf.getD q false=vb at *;clear bq kq SR;cases va<;>cases vb
   all_goals
    go_wp2;refine⟨⟨q+1,by omega,by go_num,?_,KQ.o.set (.inr Fg) _ _⟩,by simp[aG];omega⟩;rw[eM.o];exact nF BQ.o q _
  .have Fm:q=t.size+1:=(by omega);subst Fm;have Fq:¬(((t.size+1:Nat):Int)<=t.size):=(by omega);clear bq kq Fp;go_wp2;go_ret;refine⟨B1,fW l1 lf (t.size+1),rfl,BQ.o,Fg,?_,KQ.o⟩;rw[HL.o];have:=Jw.o.opt;rw[m8]at this;exact this
theorem ajV(r k bf:Nat)(nv:aq)(ns:List ND)(Ls:List cC)(t:ByteArray)(lf:List Bool)(nd:ND)(ps:List Nat)(L:cC)(w:ay)(h:TS w r nv ns Ls)(hk:ns[k]?=some nd)(hl:(ae lf)=t.size+1)(hf:w.heap[bf]?=some (aW lf))(ht:t.size<=100000)(h1:nd.kind=43)(h2:nd.hv=.slice none 0 0)(own:w.ownsRow 0 3 1 nd.pv (ae ps) (dy ps))(p:Nat)(je:ps=[p])(M:cC)(hM:Ls.getD p oh=M)(hL:L=Lv M)(l9:∀p∈ps,∀(bf:Nat) (lf:List Bool) (w':ay),TS w' r nv ns Ls->ae lf=t.size+1->w'.heap[bf]?=some (aW lf)->aI aB 41 #[.pointer (some ⟨r,4,none⟩),.int .i64 p,.string t,.slice (some ⟨bf,0,none⟩) (t.size+1) (t.size+1)] w' (p9 (Ls.getD p oh) t lf w')):aI aB 41 #[.pointer (some ⟨r,4,none⟩),.int .i64 k,.string t,.slice (some ⟨bf,0,none⟩) (t.size+1) (t.size+1)] w (p9 L t lf w):=by
 obtain⟨s,i,e,pl,top,rd⟩:=h.rd;have HP:=aj l9;obtain⟨pa,pc,jJ⟩:∃pa pc,nd.pv=.slice pa (ae ps) pc:=by
  rcases own.2 with⟨e1,e2⟩|⟨g,cap,cur,e1,_⟩
  .rw[e1,e2];exact⟨_,_,rfl⟩
  .exact⟨_,_,e1⟩
 rw[jJ]at own;have A6:=aj h;obtain⟨g,cap,q4,uF,hg,n0,n1,n2,n3⟩:=h.row hk;have dI:k<ae ns:=by
  rcases eK k (ae ns) with a|a
  .exact a
  .rw[iY a]at hk;cases hk
 have j3:(k:Int)<ae ns:=(by omega);obtain⟨_,_,_,_,c4,_⟩:=dM rd;rw[uF]at c4;have hm:∀w,(pN 80 (.int .i64 ((t.size:Int)+1)) (.int .i64 ((t.size:Int)+1))).run aB w=.ok (.slice (some ⟨w.heap.size,0,none⟩) (t.size+1) (t.size+1)) (w.alloc (aW (fl (t.size+1)))):=fun w=>yZ (t.size+1) (by omega) w
 have BF:=aj hf;rw[h1]at n0;rw[h2]at n1;rw[jJ]at n2;have vP:ax (∀w':ay,Kp [] w w'->∀j,j<ae ps->∃gp,pa=some ⟨gp,0,none⟩/\w'.cell? ⟨gp,j,none⟩=some (.int .i64 (ps.getD j 0))):=fun w' hk' j hj=>by
  have pY:=aJ own hk' (by simp);rcases pY.2 with⟨_,e2⟩|⟨gp,cap,cur,e1,_⟩
  .omega
  .simp only[fy]at e1;refine⟨gp,e1.1,?_⟩;rw[e1.1]at pY;have:=pY.cellAt j (by omega);rw[this];simp[dy,bD hj]
 have Xp:(ae ps)<=9223372036854775807:=by
  rcases own.2 with⟨_,e2⟩|⟨_,_,_,_,_,_,e5,e6,_⟩
  .omega
  .unfold eB at e6;omega
 have m8:(tx t).length=t.size:=xU t;have HL:=aj hL;have vQ:ax (ae ps=1):=by show _=_;rw[je];rfl
 have Cl:ps.getD 0 0=p:=by rw[je];rfl
 have uI:p∈ps:=by rw[je];simp
 have Eh:=aj hM;clear h rd hf hk l9 own jJ hL je hM;go_enter Tryz.func41,Tryz.ntmps41;go_upto_region 3 with fail;have kW:Kp [] w ((w.alloc (.cells #[.int .u8 43,.slice none 0 0,.slice pa (ae ps) pc,.int .i64 q4] 104 (0,0))).alloc (aW (fl (t.size+1)))):=((Kp.refl _ _).alloc _).alloc _;have bT:((w.alloc (.cells #[.int .u8 43,.slice none 0 0,.slice pa (ae ps) pc,.int .i64 q4] 104 (0,0))).alloc (aW (fl (t.size+1)))).heap[w.heap.size]?=some (.cells #[.int .u8 43,.slice none 0 0,.slice pa (ae ps) pc,.int .i64 q4] 104 (0,0)):=by
  rw[aC,aM,az (by omega),aC,aA rfl]
 have bO:((w.alloc (.cells #[.int .u8 43,.slice none 0 0,.slice pa (ae ps) pc,.int .i64 q4] 104 (0,0))).alloc (aW (fl (t.size+1)))).heap[w.heap.size+1]?=some (aW (fl (t.size+1))):=by
  rw[aC,aM,aA rfl]
 generalize (w.alloc (.cells #[.int .u8 43,.slice none 0 0,.slice pa (ae ps) pc,.int .i64 q4] 104 (0,0))).alloc (aW (fl (t.size+1)))=W at *;obtain⟨d0,d1,d2,d3,_⟩:=dB bT;obtain⟨KW,BT,BO⟩:=cR kW bT bO;clear kW bT bO hm n0 n1 n2 n3 c4;have Ej:ax (∀(bf:Nat) (lf:List Bool) (w':ay),TS w' r nv ns Ls->ae lf=t.size+1->w'.heap[bf]?=some (aW lf)->aI aB 41 #[.pointer (some ⟨r,4,none⟩),.int .i64 p,.string t,.slice (some ⟨bf,0,none⟩) (t.size+1) (t.size+1)] w' (p9 M t lf w')):=fun bf lf w' a b c=>by
  have:=HP.o p uI bf lf w' a b c;rw[Eh.o]at this;exact this
 obtain⟨gp,zS,cp⟩:=vP.o W KW.o 0 (by have:=vQ.o;omega);have eZ:ax (∀w':ay,Kp [] w w'->w'.cell? ⟨gp,0,none⟩=some (.int .i64 p)):=fun w' hk'=>by
  obtain⟨g',e1,e2⟩:=vP.o w' hk' 0 (by have:=vQ.o;omega);rw[zS]at e1;simp only[aV,Addr.mk.injEq]at e1;rw[<-e1.1,Cl]at e2;exact e2
 rw[Cl]at cp;subst zS;have Io:(0:Int)<ae ps:=by have:=vQ.o;omega
 have iU:=aj (Ej.o bf lf W (A6.o.kp KW.o) hl (KW.o.keep BF.o (by simp)));clear vP HP Eh uI Cl;go_wp2_with fail;refine iU.o.mono ?_;rintro _ w1 ⟨B1,l1,rfl,dL,ae1,Hw,k1⟩;have K1:ax (Kp [] w w1):=KW.o.trans k1 (by simp);have uzc:=aj (k1.keep BT.o (by simp));have p8:=aj dL;have PD:=aj Hw;have Mr:w.heap.size+1<W.heap.size:=aE BO.o;have Fg:w.heap.size<=B1:=(by omega);have WD:B1≠w.heap.size:=(by omega);clear k1 dL Hw d0 d1 d2 d3 cp iU BO;obtain⟨d0,d1,d2,d3,_⟩:=dB uzc.o;go_wp2_with fail;clear d0 d1 d2 d3;go_loopw [16] (fun mo w'=>∃(m0:Bool) (o:List Bool),mo=.bool m0/\w'.heap[B1]?=some (aW o)/\w'.heap[w.heap.size]?=some (.cells #[.int .u8 43,.slice none 0 0,.slice (some ⟨gp,0,none⟩) (ae ps) pc,.int .i64 q4] 104 (0,0))/\Kp [] w w'/\Bi M (tx t) lf o/\(m0=false->∀m j,m<=j->j<=(tx t).length->o.getD m false=true->M (lK (tx t) m j)->o.getD j false=true))
  (fun mo w'=>2*Nv w' B1+E3 mo)
 case atStart=>exact⟨true,l1,rfl,p8.o,uzc.o,K1.o,Bi.start PD.o,fun e=>by cases e⟩
 case round =>
  obtain⟨m0,o,rfl,bo,bt,kk,pi,dw⟩:=hrel;obtain⟨d0,d1,d2,d3,_⟩:=dB bt;obtain⟨AM,um,nD,PI⟩:=dH bt bo kk pi;have MU:=aj (Rt bo);have hol:(ae o)=t.size+1:=by have:=pi.len;omega
  cases m0
  .have Jw:=aj (pi.done (dw rfl));have BOX:=um;have KX:=nD;clear bt bo kk pi dw;go_wp2;go_ret;exact⟨B1,o,rfl,BOX.o,Fg,by rw[HL.o];exact Jw.o,KX.o⟩
  .have cp:=eZ.o wr kk;have iU:=aj (Ej.o B1 o wr (A6.o.kp kk) hol bo);have ahC:=aE bo;clear bt bo kk pi dw;go_wp2_with fail;refine iU.o.mono ?_;rintro _ w3 ⟨b3,l3,rfl,mK,abl,Bz,k3⟩;have KT:ax (Kp [] w w3):=nD.o.trans k3 (by simp);have CZ:=aj (k3.keep AM.o (by simp));have Pp:=aj (k3.keep um.o (by simp));have D7:=aj mK;have zf:=aj Bz;have S8:b3≠B1:=(by omega);clear k3 mK Bz d0 d1 d2 d3 cp iU;go_wp2_with fail;go_loopw [18,16] (fun c mo w'=>∃(q:Nat) (m1:Bool),q<=t.size+1/\c=.int .i64 q/\mo=.bool m1/\w'.heap[B1]?=some (aW (fW o l3 q))/\w'.heap[b3]?=some (aW l3)/\w'.heap[w.heap.size]?=some (.cells #[.int .u8 43,.slice none 0 0,.slice (some ⟨gp,0,none⟩) (ae ps) pc,.int .i64 q4] 104 (0,0))/\Kp [] w w'/\cf (fW o l3 q)<=cf o/\(m1=true->cf (fW o l3 q)<cf o)/\(m1=false->∀j,j<q->l3.getD j false=true->o.getD j false=true))
    (fun c _ _=>t.size+1-(aG c).toNat)
   case atStart=>exact⟨0,false,by omega,rfl,rfl,Pp.o,D7.o,CZ.o,KT.o,aH _,(fun e=>by cases e),fun _ j hj=>by omega⟩
   case round =>
    obtain⟨q,m1,hq,rfl,rfl,bq,E0,bt,kq,zM,sD,zN⟩:=hrel;obtain⟨BQ,AG,wD,KQ,yc,Ec,Ed⟩:=DG bq E0 bt kq zM sD zN;by_cases Fp:q<=t.size
    .have Fq:(q:Int)<=t.size:=(by omega);have Xr:(q:Int)<(t.size:Int)+1:=(by omega);have yO:=zf.o.len;have XF:=Pg q (by omega);have cq:=gz bq q (by rw[rF];omega);have gq:=vZ o l3 q q (by omega);rw[az (by omega)]at gq;rw[gq]at cq;have fq:=kJ bq q;have c3:=gz E0 q (by omega);have eM:ax (fW o l3 (q+1)=(fW o l3 q).set q (o.getD q false || l3.getD q false)):=rfl;have oT:ax ((o.getD q false || l3.getD q false)=o.getD q false->fW o l3 (q+1)=fW o l3 q):=agm o l3 q (by omega);(have KS:ax (o.getD q false=false->cf ((fW o l3 q).set q true)+1=cf (fW o l3 q)):=fun e=>aaU _ q (by rw[rF];omega) (by rw[gq];exact e));have HA:ax (o.getD q false=o.getD q false):=rfl;generalize sJ:o.getD q false=va at cq eM oT KS;generalize Fw:l3.getD q false=vb at c3 eM oT;have Qk:=aj sJ;have HVB:=aj Fw;clear bq E0 bt kq yO zM sD zN gq sJ Fw HA;cases va<;>cases vb
     .go_wp2;refine⟨⟨q+1,m1,by omega,by go_num,rfl,by rw[oT.o rfl];exact BQ.o,AG.o,wD.o,KQ.o,by rw[oT.o rfl];exact yc.o,by rw[oT.o rfl];exact Ec.o,fun e j hj h3=>?_⟩,by simp[aG];omega⟩;by_cases ej:j=q
      .subst ej;rw[HVB.o]at h3;cases h3
      .exact Ed.o e j (by omega) h3
     .go_wp2;refine⟨⟨q+1,true,by omega,by go_num,rfl,by rw[eM.o];exact nF BQ.o q _,?_,?_,KQ.o.set (.inr Fg) _ _,?_,fun _=>?_,fun e=>by cases e⟩,by simp[aG];omega⟩
      .rw[aQ,az S8];exact AG.o
      .rw[aQ,az (Ne.symm WD)];exact wD.o
      .rw[eM.o];have:=KS.o rfl;have:=yc.o;simp only[UO];omega
      .rw[eM.o];have:=KS.o rfl;have:=yc.o;simp only[UO];omega
     .go_wp2;refine⟨⟨q+1,m1,by omega,by go_num,rfl,by rw[oT.o rfl];exact BQ.o,AG.o,wD.o,KQ.o,by rw[oT.o rfl];exact yc.o,by rw[oT.o rfl];exact Ec.o,fun e j hj h3=>?_⟩,by simp[aG];omega⟩;by_cases ej:j=q
      .subst ej;exact Qk.o
      .exact Ed.o e j (by omega) h3
     .go_wp2;refine⟨⟨q+1,m1,by omega,by go_num,rfl,by rw[oT.o rfl];exact BQ.o,AG.o,wD.o,KQ.o,by rw[oT.o rfl];exact yc.o,by rw[oT.o rfl];exact Ec.o,fun e j hj h3=>?_⟩,by simp[aG];omega⟩;by_cases ej:j=q
      .subst ej;exact Qk.o
      .exact Ed.o e j (by omega) h3
    .have Fm:q=t.size+1:=(by omega);subst Fm;have Fq:¬(((t.size+1:Nat):Int)<=t.size):=(by omega);have Ma:=PI.o.step zf.o;rw[m8]at Ma;have Nb:=aj Ma;clear bq E0 bt kq Fp zM sD zN Ma;go_wp2;refine⟨⟨m1,fW o l3 (t.size+1),rfl,BQ.o,wD.o,KQ.o,Nb.o,fun e m j hmj hj hm hM=>?_⟩,?_⟩
     .have hx:=hj;rw[m8]at hx;have g:∀i,i<=t.size->(fW o l3 (t.size+1)).getD i false=(o.getD i false || l3.getD i false):=fun i hi=>by
       rw[vZ o l3 _ i (by omega),aA (by omega)]
      rw[g m (by omega),pJ]at hm;have hom:o.getD m false=true:=by
       rcases hm with a|a
       .exact a
       .exact Ed.o e m (by omega) a
      have:=(zf.o.iff j hj).2 ⟨m,hmj,hom,hM⟩;rw[g j (by omega),this,Gk]
     .rw[MU.o,Rt BQ.o];have:=yc.o;cases m1
      .simp only[E3];omega
      .have:=Ec.o rfl;simp only[E3];omega
theorem ajW(r k bf:Nat)(nv:aq)(ns:List ND)(Ls:List cC)(t:ByteArray)(lf:List Bool)(nd:ND)(ps:List Nat)(L:cC)(w:ay)(h:TS w r nv ns Ls)(hk:ns[k]?=some nd)(hl:(ae lf)=t.size+1)(hf:w.heap[bf]?=some (aW lf))(ht:t.size<=100000)(h1:nd.kind=42)(h2:nd.hv=.slice none 0 0)(own:w.ownsRow 0 3 1 nd.pv (ae ps) (dy ps))(p:Nat)(je:ps=[p])(M:cC)(hM:Ls.getD p oh=M)(hL:L=TO M)(l9:∀p∈ps,∀(bf:Nat) (lf:List Bool) (w':ay),TS w' r nv ns Ls->ae lf=t.size+1->w'.heap[bf]?=some (aW lf)->aI aB 41 #[.pointer (some ⟨r,4,none⟩),.int .i64 p,.string t,.slice (some ⟨bf,0,none⟩) (t.size+1) (t.size+1)] w' (p9 (Ls.getD p oh) t lf w')):aI aB 41 #[.pointer (some ⟨r,4,none⟩),.int .i64 k,.string t,.slice (some ⟨bf,0,none⟩) (t.size+1) (t.size+1)] w (p9 L t lf w):=by
 obtain⟨s,i,e,pl,top,rd⟩:=h.rd;have HP:=aj l9;obtain⟨pa,pc,jJ⟩:∃pa pc,nd.pv=.slice pa (ae ps) pc:=by
  rcases own.2 with⟨e1,e2⟩|⟨g,cap,cur,e1,_⟩
  .rw[e1,e2];exact⟨_,_,rfl⟩
  .exact⟨_,_,e1⟩
 rw[jJ]at own;have A6:=aj h;obtain⟨g,cap,q4,uF,hg,n0,n1,n2,n3⟩:=h.row hk;have dI:k<ae ns:=by
  rcases eK k (ae ns) with a|a
  .exact a
  .rw[iY a]at hk;cases hk
 have j3:(k:Int)<ae ns:=(by omega);obtain⟨_,_,_,_,c4,_⟩:=dM rd;rw[uF]at c4;have hm:∀w,(pN 80 (.int .i64 ((t.size:Int)+1)) (.int .i64 ((t.size:Int)+1))).run aB w=.ok (.slice (some ⟨w.heap.size,0,none⟩) (t.size+1) (t.size+1)) (w.alloc (aW (fl (t.size+1)))):=fun w=>yZ (t.size+1) (by omega) w
 have BF:=aj hf;rw[h1]at n0;rw[h2]at n1;rw[jJ]at n2;have vP:ax (∀w':ay,Kp [] w w'->∀j,j<ae ps->∃gp,pa=some ⟨gp,0,none⟩/\w'.cell? ⟨gp,j,none⟩=some (.int .i64 (ps.getD j 0))):=fun w' hk' j hj=>by
  have pY:=aJ own hk' (by simp);rcases pY.2 with⟨_,e2⟩|⟨gp,cap,cur,e1,_⟩
  .omega
  .simp only[fy]at e1;refine⟨gp,e1.1,?_⟩;rw[e1.1]at pY;have:=pY.cellAt j (by omega);rw[this];simp[dy,bD hj]
 have Xp:(ae ps)<=9223372036854775807:=by
  rcases own.2 with⟨_,e2⟩|⟨_,_,_,_,_,_,e5,e6,_⟩
  .omega
  .unfold eB at e6;omega
 have m8:(tx t).length=t.size:=xU t;have HL:=aj hL;have vQ:ax (ae ps=1):=by show _=_;rw[je];rfl
 have Cl:ps.getD 0 0=p:=by rw[je];rfl
 have uI:p∈ps:=by rw[je];simp
 have Eh:=aj hM;clear h rd hf hk l9 own jJ hL je hM;go_enter Tryz.func41,Tryz.ntmps41;go_upto_region 3 with fail;have kW:Kp [] w ((w.alloc (.cells #[.int .u8 42,.slice none 0 0,.slice pa (ae ps) pc,.int .i64 q4] 104 (0,0))).alloc (aW (fl (t.size+1)))):=((Kp.refl _ _).alloc _).alloc _;have bT:((w.alloc (.cells #[.int .u8 42,.slice none 0 0,.slice pa (ae ps) pc,.int .i64 q4] 104 (0,0))).alloc (aW (fl (t.size+1)))).heap[w.heap.size]?=some (.cells #[.int .u8 42,.slice none 0 0,.slice pa (ae ps) pc,.int .i64 q4] 104 (0,0)):=by
  rw[aC,aM,az (by omega),aC,aA rfl]
 have bO:((w.alloc (.cells #[.int .u8 42,.slice none 0 0,.slice pa (ae ps) pc,.int .i64 q4] 104 (0,0))).alloc (aW (fl (t.size+1)))).heap[w.heap.size+1]?=some (aW (fl (t.size+1))):=by
  rw[aC,aM,aA rfl]
 generalize (w.alloc (.cells #[.int .u8 42,.slice none 0 0,.slice pa (ae ps) pc,.int .i64 q4] 104 (0,0))).alloc (aW (fl (t.size+1)))=W at *;obtain⟨d0,d1,d2,d3,_⟩:=dB bT;obtain⟨KW,BT,BO⟩:=cR kW bT bO;clear kW bT bO hm n0 n1 n2 n3 c4;have Ej:ax (∀(bf:Nat) (lf:List Bool) (w':ay),TS w' r nv ns Ls->ae lf=t.size+1->w'.heap[bf]?=some (aW lf)->aI aB 41 #[.pointer (some ⟨r,4,none⟩),.int .i64 p,.string t,.slice (some ⟨bf,0,none⟩) (t.size+1) (t.size+1)] w' (p9 M t lf w')):=fun bf lf w' a b c=>by
  have:=HP.o p uI bf lf w' a b c;rw[Eh.o]at this;exact this
 obtain⟨gp,zS,cp⟩:=vP.o W KW.o 0 (by have:=vQ.o;omega);have eZ:ax (∀w':ay,Kp [] w w'->w'.cell? ⟨gp,0,none⟩=some (.int .i64 p)):=fun w' hk'=>by
  obtain⟨g',e1,e2⟩:=vP.o w' hk' 0 (by have:=vQ.o;omega);rw[zS]at e1;simp only[aV,Addr.mk.injEq]at e1;rw[<-e1.1,Cl]at e2;exact e2
 rw[Cl]at cp;subst zS;have Io:(0:Int)<ae ps:=by have:=vQ.o;omega
 have iU:=aj (Ej.o bf lf W (A6.o.kp KW.o) hl (KW.o.keep BF.o (by simp)));clear vP HP Eh uI Cl;go_wp2_with fail;refine iU.o.mono ?_;rintro _ w1 ⟨B1,l1,rfl,dL,ae1,Hw,k1⟩;have K1:ax (Kp [] w w1):=KW.o.trans k1 (by simp);have uzc:=aj (k1.keep BT.o (by simp));have p8:=aj dL;have PD:=aj Hw;have Mr:w.heap.size+1<W.heap.size:=aE BO.o;have Fg:w.heap.size<=B1:=(by omega);have WD:B1≠w.heap.size:=(by omega);clear k1 dL Hw d0 d1 d2 d3 cp iU BO;obtain⟨d0,d1,d2,d3,_⟩:=dB uzc.o;go_wp2_with fail;clear d0 d1 d2 d3;go_loopw [16] (fun mo w'=>∃(m0:Bool) (o:List Bool),mo=.bool m0/\w'.heap[B1]?=some (aW o)/\w'.heap[w.heap.size]?=some (.cells #[.int .u8 42,.slice none 0 0,.slice (some ⟨gp,0,none⟩) (ae ps) pc,.int .i64 q4] 104 (0,0))/\Kp [] w w'/\Bi M (tx t) lf o/\(m0=false->∀m j,m<=j->j<=(tx t).length->o.getD m false=true->M (lK (tx t) m j)->o.getD j false=true))
  (fun mo w'=>2*Nv w' B1+E3 mo)
 case atStart=>exact⟨true,l1,rfl,p8.o,uzc.o,K1.o,Bi.start PD.o,fun e=>by cases e⟩
 case round =>
  obtain⟨m0,o,rfl,bo,bt,kk,pi,dw⟩:=hrel;obtain⟨d0,d1,d2,d3,_⟩:=dB bt;obtain⟨AM,um,nD,PI⟩:=dH bt bo kk pi;have MU:=aj (Rt bo);have hol:(ae o)=t.size+1:=by have:=pi.len;omega
  cases m0
  .have Jw:=aj (pi.done (dw rfl));have BOX:=um;have KX:=nD;clear bt bo kk pi dw;go_wp2_with fail;go_loopw [19] (fun c w'=>∃q:Nat,q<=t.size+1/\c=.int .i64 q/\w'.heap[B1]?=some (aW (fW o lf q))/\Kp [] w w') (fun c _=>t.size+1-(aG c).toNat)
   case atStart=>exact⟨0,by omega,rfl,BOX.o,KX.o⟩
   case round =>
    obtain⟨q,hq,rfl,bq,kq⟩:=hrel;have BQ:=aj bq;have KQ:=aj kq;by_cases Fp:q<=t.size
    .have Fq:(q:Int)<=t.size:=(by omega);have Xr:(q:Int)<(t.size:Int)+1:=(by omega);have SR:=Jw.o.len;have XF:=Pg q (by omega);have cq:=gz bq q (by rw[rF];omega);rw[vZ o lf q q (by omega),az (by omega)]at cq;have fq:=kJ bq q;have c3:=gz (kq.keep BF.o (by simp)) q (by omega);have eM:ax (fW o lf (q+1)=(fW o lf q).set q (o.getD q false || lf.getD q false)):=rfl;generalize o.getD q false=va at *;generalize lf.getD q false=vb at *;clear bq kq SR;cases va<;>cases vb
     all_goals
      go_wp2;refine⟨⟨q+1,by omega,by go_num,?_,KQ.o.set (.inr Fg) _ _⟩,by simp[aG];omega⟩;rw[eM.o];exact nF BQ.o q _
    .have Fm:q=t.size+1:=(by omega);subst Fm;have Fq:¬(((t.size+1:Nat):Int)<=t.size):=(by omega);clear bq kq Fp;go_wp2;go_ret;refine⟨B1,fW o lf (t.size+1),rfl,BQ.o,Fg,?_,KQ.o⟩;rw[HL.o];have:=Jw.o.star;rw[m8]at this;exact this
  .have cp:=eZ.o wr kk;have iU:=aj (Ej.o B1 o wr (A6.o.kp kk) hol bo);have ahC:=aE bo;clear bt bo kk pi dw;go_wp2_with fail;refine iU.o.mono ?_;rintro _ w3 ⟨b3,l3,rfl,mK,abl,Bz,k3⟩;have KT:ax (Kp [] w w3):=nD.o.trans k3 (by simp);have CZ:=aj (k3.keep AM.o (by simp));have Pp:=aj (k3.keep um.o (by simp));have D7:=aj mK;have zf:=aj Bz;have S8:b3≠B1:=(by omega);clear k3 mK Bz d0 d1 d2 d3 cp iU;go_wp2_with fail;go_loopw [18,16] (fun c mo w'=>∃(q:Nat) (m1:Bool),q<=t.size+1/\c=.int .i64 q/\mo=.bool m1/\w'.heap[B1]?=some (aW (fW o l3 q))/\w'.heap[b3]?=some (aW l3)/\w'.heap[w.heap.size]?=some (.cells #[.int .u8 42,.slice none 0 0,.slice (some ⟨gp,0,none⟩) (ae ps) pc,.int .i64 q4] 104 (0,0))/\Kp [] w w'/\cf (fW o l3 q)<=cf o/\(m1=true->cf (fW o l3 q)<cf o)/\(m1=false->∀j,j<q->l3.getD j false=true->o.getD j false=true))
    (fun c _ _=>t.size+1-(aG c).toNat)
   case atStart=>exact⟨0,false,by omega,rfl,rfl,Pp.o,D7.o,CZ.o,KT.o,aH _,(fun e=>by cases e),fun _ j hj=>by omega⟩
   case round =>
    obtain⟨q,m1,hq,rfl,rfl,bq,E0,bt,kq,zM,sD,zN⟩:=hrel;obtain⟨BQ,AG,wD,KQ,yc,Ec,Ed⟩:=DG bq E0 bt kq zM sD zN;by_cases Fp:q<=t.size
    .have Fq:(q:Int)<=t.size:=(by omega);have Xr:(q:Int)<(t.size:Int)+1:=(by omega);have yO:=zf.o.len;have XF:=Pg q (by omega);have cq:=gz bq q (by rw[rF];omega);have gq:=vZ o l3 q q (by omega);rw[az (by omega)]at gq;rw[gq]at cq;have fq:=kJ bq q;have c3:=gz E0 q (by omega);have eM:ax (fW o l3 (q+1)=(fW o l3 q).set q (o.getD q false || l3.getD q false)):=rfl;have oT:ax ((o.getD q false || l3.getD q false)=o.getD q false->fW o l3 (q+1)=fW o l3 q):=agm o l3 q (by omega);(have KS:ax (o.getD q false=false->cf ((fW o l3 q).set q true)+1=cf (fW o l3 q)):=fun e=>aaU _ q (by rw[rF];omega) (by rw[gq];exact e));have HA:ax (o.getD q false=o.getD q false):=rfl;generalize sJ:o.getD q false=va at cq eM oT KS;generalize Fw:l3.getD q false=vb at c3 eM oT;have Qk:=aj sJ;have HVB:=aj Fw;clear bq E0 bt kq yO zM sD zN gq sJ Fw HA;cases va<;>cases vb
     .go_wp2;refine⟨⟨q+1,m1,by omega,by go_num,rfl,by rw[oT.o rfl];exact BQ.o,AG.o,wD.o,KQ.o,by rw[oT.o rfl];exact yc.o,by rw[oT.o rfl];exact Ec.o,fun e j hj h3=>?_⟩,by simp[aG];omega⟩;by_cases ej:j=q
      .subst ej;rw[HVB.o]at h3;cases h3
      .exact Ed.o e j (by omega) h3
     .go_wp2;refine⟨⟨q+1,true,by omega,by go_num,rfl,by rw[eM.o];exact nF BQ.o q _,?_,?_,KQ.o.set (.inr Fg) _ _,?_,fun _=>?_,fun e=>by cases e⟩,by simp[aG];omega⟩
      .rw[aQ,az S8];exact AG.o
      .rw[aQ,az (Ne.symm WD)];exact wD.o
      .rw[eM.o];have:=KS.o rfl;have:=yc.o;simp only[UO];omega
      .rw[eM.o];have:=KS.o rfl;have:=yc.o;simp only[UO];omega
     .go_wp2;refine⟨⟨q+1,m1,by omega,by go_num,rfl,by rw[oT.o rfl];exact BQ.o,AG.o,wD.o,KQ.o,by rw[oT.o rfl];exact yc.o,by rw[oT.o rfl];exact Ec.o,fun e j hj h3=>?_⟩,by simp[aG];omega⟩;by_cases ej:j=q
      .subst ej;exact Qk.o
      .exact Ed.o e j (by omega) h3
     .go_wp2;refine⟨⟨q+1,m1,by omega,by go_num,rfl,by rw[oT.o rfl];exact BQ.o,AG.o,wD.o,KQ.o,by rw[oT.o rfl];exact yc.o,by rw[oT.o rfl];exact Ec.o,fun e j hj h3=>?_⟩,by simp[aG];omega⟩;by_cases ej:j=q
      .subst ej;exact Qk.o
      .exact Ed.o e j (by omega) h3
    .have Fm:q=t.size+1:=(by omega);subst Fm;have Fq:¬(((t.size+1:Nat):Int)<=t.size):=(by omega);have Ma:=PI.o.step zf.o;rw[m8]at Ma;have Nb:=aj Ma;clear bq E0 bt kq Fp zM sD zN Ma;go_wp2;refine⟨⟨m1,fW o l3 (t.size+1),rfl,BQ.o,wD.o,KQ.o,Nb.o,fun e m j hmj hj hm hM=>?_⟩,?_⟩
     .have hx:=hj;rw[m8]at hx;have g:∀i,i<=t.size->(fW o l3 (t.size+1)).getD i false=(o.getD i false || l3.getD i false):=fun i hi=>by
       rw[vZ o l3 _ i (by omega),aA (by omega)]
      rw[g m (by omega),pJ]at hm;have hom:o.getD m false=true:=by
       rcases hm with a|a
       .exact a
       .exact Ed.o e m (by omega) a
      have:=(zf.o.iff j hj).2 ⟨m,hmj,hom,hM⟩;rw[g j (by omega),this,Gk]
     .rw[MU.o,Rt BQ.o];have:=yc.o;cases m1
      .simp only[E3];omega
      .have:=Ec.o rfl;simp only[E3];omega
theorem ajQ(r:Nat)(nv:aq)(ns:List ND)(Ls:List cC)(t:ByteArray)(ht:t.size<=100000):∀k,k<ae ns->∀(bf:Nat) (lf:List Bool) (w:ay),TS w r nv ns Ls->ae lf=t.size+1->w.heap[bf]?=some (aW lf)->aI aB 41 #[.pointer (some ⟨r,4,none⟩),.int .i64 k,.string t,.slice (some ⟨bf,0,none⟩) (t.size+1) (t.size+1)] w (p9 (Ls.getD k oh) t lf w):=by
 intro k;induction k using M2 with
 |ind k ih =>
  intro hk bf lf w h hl hf;have eZ:ns[k]?=some ns[k]:=bD hk;have l9:∀ps:List Nat,(∀p∈ps,p<k)->∀p∈ps,∀(bf:Nat) (lf:List Bool) (w':ay),TS w' r nv ns Ls->ae lf=t.size+1->w'.heap[bf]?=some (aW lf)->aI aB 41 #[.pointer (some ⟨r,4,none⟩),.int .i64 p,.string t,.slice (some ⟨bf,0,none⟩) (t.size+1) (t.size+1)] w' (p9 (Ls.getD p oh) t lf w') :=
   fun ps je p hp bf lf w' a b c=>ih p (je p hp) (by have:=je p hp;omega) bf lf w' a b c
  rcases h.tr.ok k _ eZ with⟨h1,h0,b,q,h2,h3,h4⟩|⟨h0,ps,own,je,⟨h1,h2⟩|⟨h1,h2⟩|⟨p,h1,h2,h3⟩⟩
  .rw[h4];exact ajS r k bf b nv ns Ls t lf ns[k] q w h eZ hl hf ht h1 h2 h0 h3
  .exact ajT r k bf nv ns Ls t lf ns[k] ps _ w h eZ hl hf ht h1 h0 own h2 (l9 ps je)
  .exact ajR r k bf nv ns Ls t lf ns[k] ps _ w h eZ hl hf ht h1 h0 own h2 (l9 ps je)
  .rcases h2 with e|e|e
   .exact ajW r k bf nv ns Ls t lf ns[k] ps _ w h eZ hl hf ht e h0 own p h1 _ rfl (by rw[h3,e];rfl) (l9 ps je)
   .exact ajV r k bf nv ns Ls t lf ns[k] ps _ w h eZ hl hf ht e h0 own p h1 _ rfl (by rw[h3,e];rfl) (l9 ps je)
   .exact ajU r k bf nv ns Ls t lf ns[k] ps _ w h eZ hl hf ht e h0 own p h1 _ rfl (by rw[h3,e];rfl) (l9 ps je)
def BD(n:Nat):List Bool:=(fl (n+1)).set 0 true
theorem aj7(n:Nat):(BD n).length=n+1:=by rw[BD,mq,yE]
theorem Ws(n i:Nat):(BD n).getD i false=true↔i=0:=by
 unfold BD;by_cases h:i=0
 .subst h;rw[aO,GH (by rw[yE];omega)];simp
 .rw[aO,zo (fun e=>h e.symm),<-aO,aa8];simp[h]
theorem afJ(r k:Nat)(nv:aq)(ns:List ND)(Ls:List cC)(L:cC)(t:ByteArray)(w:ay)(pV:TS w r nv ns Ls)(Tg:∃s i e pl,w.heap[r]?=some (fh s i e pl nv k))(hk:k<ae ns)(hL:Ls.getD k oh=L)(ht:t.size<=100000):aI aB 25 #[.pointer (some ⟨r,4,none⟩),.string t] w (p9 L t (BD t.size) w):=by
 obtain⟨s,i,e,pl,rd⟩:=Tg;have pM:=aj pV;have HL:=aj hL;obtain⟨_,_,_,_,c4,c5,_⟩:=dM rd;have hr:=aE rd;have hm:∀w,(pN 80 (.int .i64 ((t.size:Int)+1)) (.int .i64 ((t.size:Int)+1))).run aB w=.ok (.slice (some ⟨w.heap.size,0,none⟩) (t.size+1) (t.size+1)) (w.alloc (aW (fl (t.size+1)))):=fun w=>yZ (t.size+1) (by omega) w
 have RD:=aj rd;clear rd hL pV;go_enter Tryz.func25,Tryz.ntmps25;go_upto_region 2 with fail;have k1:Kp [] w (w.alloc (aW (fl (t.size+1)))):=(Kp.refl _ _).alloc _;have b1:(w.alloc (aW (fl (t.size+1)))).heap[w.heap.size]?=some (aW (fl (t.size+1))):=(by rw[aC,aA rfl]);generalize w.alloc (aW (fl (t.size+1)))=W at *;have cc:=gz b1 0 (by rw[yE];omega);have fc:=kJ b1 0;have dc:(0:Int)<(t.size:Int)+1:=(by omega);have B1:=aj b1;have K1:=aj k1;clear b1 k1 hm c4 c5;go_upto_region 3 with fail;have k2:Kp [] w (W.setCell ⟨w.heap.size,0,none⟩ (.bool true)):=K1.o.set (.inr (aH _)) _ _;have b2:(W.setCell ⟨w.heap.size,0,none⟩ (.bool true)).heap[w.heap.size]?=some (aW (BD t.size)):=nF B1.o 0 true;generalize W.setCell ⟨w.heap.size,0,none⟩ (.bool true)=W2 at *;obtain⟨_,_,_,_,_,c5,_⟩:=dM (k2.keep RD.o (by simp));have iU:=aj (ajQ r nv ns Ls t ht k hk w.heap.size (BD t.size) W2 (pM.o.kp k2) (aj7 _) b2);have K2:=aj k2;clear k2 b2 cc fc;go_wp2_with fail;refine iU.o.mono ?_;rintro _ w3 ⟨bo,lo,rfl,hb,sE,ek,k3⟩;have K3:ax (Kp [] w w3):=K2.o.trans k3 (by simp);have EK:=aj ek;have HB:=aj hb;have akP:w.heap.size<=bo:=by have:=K2.o.size;omega
 clear ek hb k3;go_wp2;go_ret;exact⟨bo,lo,rfl,HB.o,akP,by rw[<-HL.o];exact EK.o,K3.o⟩
theorem alJ(B r k:Nat)(L:aD)(t:ByteArray)(w:ay)(h:VU w B r k L)(ht:t.size<=100000):aI aB 25 #[.pointer (some ⟨r,4,none⟩),.string t] w (p9 L.fV t (BD t.size) w):=by
 obtain⟨s,i,e,pl,nv,ns,Ls,rd,own,cP,tr,hk,hL,_⟩:=h.ex;exact afJ r k nv ns (Ls.map Bm) L.fV t w (TS.plain ⟨s,i,e,pl,k,rd⟩ own tr.fV) ⟨s,i,e,pl,rd⟩ hk (by rw[R1 Ls k (by rw[tr.len];exact hk),hL]) ht
open Classical in
theorem anG(s t:ByteArray)(w:ay)(ht:t.size<=100000):aI aB 14 #[.string s,.string t] w fun x w'=>x=.returned (.tuple #[.bool (decide ((cO s).err=0/\(cO s).v.fV (tx t))),.int .i64 (cO s).err])/\dA w.heap.size w w':=by
 go_enter Tryz.func14,Tryz.ntmps14;go_wp2_with fail;refine(acm s _).mono ?_;rintro _ w2 ⟨k2,⟨h0,rfl⟩|⟨h0,fA,r,k,rfl,sI⟩⟩
 .have hq:((cO s).err != 0)=true:=by simp[h0]
  have H0:=aj h0;have K2:=aj k2;clear h0 k2;go_wp2;refine cF (v:=.tuple #[.bool false,.int .i64 (cO s).err]) ?_ rfl ⟨?_,K2.o.toBelow⟩
  .simp[eG,Tryz.results14,go_sem]
  .rw[show decide ((cO s).err=0/\(cO s).v.fV (tx t))=false from by simp[H0.o]]
 .have H0:=aj h0;have K2:=aj k2;have iU:=aj (alJ _ r k _ t w2 sI ht);clear h0 k2 sI fA;go_wp2_with fail;refine iU.o.mono ?_;rintro _ w3 ⟨bo,lo,rfl,hb,sE,ek,k3⟩;have K3:ax (Kp [] w w3):=K2.o.trans k3 (by simp);have dD:=ek.len;rw[xU]at dD;have cc:=gz hb t.size (by omega);have aN:(t.size:Int)<(t.size:Int)+1:=(by omega);have Xa:ax (lo.getD t.size false=true↔(cO s).v.fV (tx t)):=by
   have:=ek.iff t.size (by rw[xU];exact aH _);show _↔_;rw[this];constructor
   .rintro⟨i,a,b,c⟩;have:=(Ws _ _).1 b;subst this;unfold lK at c;rwa [aak,Ba (by rw[xU];omega)]at c
   .intro a;refine⟨0,by omega,(Ws _ _).2 rfl,?_⟩;unfold lK;rwa [aak,Ba (by rw[xU];omega)]
  generalize lo.getD t.size false=bb at *;clear hb ek k3 dD;go_wp2;refine cF (v:=.tuple #[.bool bb,.int .i64 0]) ?_ rfl ⟨?_,K3.o.toBelow⟩
  .simp[eG,Tryz.results14,go_sem]
  .rw[H0.o];have:bb=decide ((0:Int)=0/\(cO s).v.fV (tx t)):=by
    rw[Bool.eq_iff_iff,Xa.o];simp
   rw[this]
end Go.Proofs.YtbjdkbcfpmeneaaGreat
