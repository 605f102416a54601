/- What is proved here: what the script's Scan finds: the program's tokens are the document's. -/
import Derived.Test.YtbjdkbcfpmeneaaGreatM08
import Derived.Deep.DeepAppendWide
open Array renaming ext_getElem?->xY,getElem?_eq_none->kP,getElem?_toList->uk,length_toList->Jj
open Bool renaming eq_iff_iff->C1,or_eq_true->pJ,or_true->Gk,true_or->Px
open Classical renaming byContradiction->ur,choose->Zt,choose_spec->Zu
open Go renaming Calls->aI,TypeId->cL,Value->aq,World->ay,bodyPost_ret->cF,heap_alloc_new->jS,info_parts->iw,maxLen->eB,results->eG,run_underlying->At,undef->eT,wpAnyH_take->mE,wp_region_lit->fD
open Go.Act renaming put->fj
open Go.Addr.mk renaming injEq->oD
open Go.AllReadyH renaming cons->qG,nil->ug
open Go.Instr renaming fill->oZ
open Go.Obj.cells renaming injEq->fE
open Go.Proofs.Tryz renaming prog->aB,results26->VV,results34->QY,results76->aaH,underlying3->ET,underlying57->VY
open Go.Result.ok renaming injEq->aiq
open Go.RowKit renaming Below->dA,intOf->aG
open Go.RowKit.Below renaming alloc->uo,drew->uq,refl->kQ,setCell->wE,trans->Jt
open Go.Value renaming agg->si,oneCell'->dS,ownBlock->aK,slice->uB
open Go.Value.slice renaming injEq->fy
open Go.World renaming cell?->vE,news_of_block->gN,ownsRow_nil->j9
open Int renaming toNat_natCast->mj
open List renaming drop_zero->aak,flatMap_append->ac7,getD_eq_getElem?_getD->aO,getElem?_append_left->iI,getElem?_append_right->mU,getElem?_cons_succ->mV,getElem?_cons_zero->j7,getElem?_eq_getElem->bD,getElem?_eq_none->iY,getElem?_eq_some_iff->fB,getElem?_map->kx,getElem?_take->Eu,getElem_inj->Vo,getElem_mem->nE,getElem_of_mem->Df,length->ae,length_append->cx,length_cons->Dg,length_drop->Qx,length_map->mX,length_singleton->iq,length_take->GJ,map_cons->GK,map_nil->GL,mem_append->jr,mem_cons->gH,mem_cons_of_mem->vq,mem_cons_self->GN,mem_of_getElem?->qL,mem_of_mem_drop->aan,mem_singleton->bQ,setIfInBounds_toArray->fx,set_cons_succ->eU,set_cons_zero->eX
open Nat renaming add_mul->J1,eq_of_testBit_eq->Ex,eq_zero_or_pos->M0,le_refl->aH,le_trans->j8,lt_of_lt_of_le->tC,lt_or_ge->eK,lt_trichotomy->ym,mul_le_mul_right->Ez,ne_of_lt->bY,not_lt_zero->Vz,one_shiftLeft->qM,pow_le_pow_right->EA,strongRecOn->M2,sub_self->uw,testBit_and->GU,testBit_or->jD,testBit_two_pow->ux,two_pow_pos->GV,zero_le->bU,zero_testBit->M7
open Option.some renaming inj->Na,injEq->aV
namespace Go.Proofs.YtbjdkbcfpmeneaaGreat
set_option linter.unusedVariables false
set_option linter.unusedSimpArgs false
set_option maxRecDepth 100000
set_option maxHeartbeats 16000000
open Go.RowKit
section
variable{bs fs Ks gs:List Nat}{ps:List (Bool×Nat×Nat)}{S:List (Nat×Nat)}{cl:Nat->Nat}{tb:Nat}{rows:List (List Int)}{aL:List Int}
section
open Go.RowKit Go.ChangeMaps
theorem yp.small{y:Nat×Nat}(h:yp bs fs ps y)(p:Nat)(pz:∀q,fs.getD q 0<2 ^ p)(hf:cH (fR ps) (ae ps)<2 ^ p):y.1<2 ^ p/\y.2<2 ^ (ae ps):=by
 obtain⟨⟨x,_,rfl⟩,_⟩:=h;by_cases e:x=[]
 .subst e;exact⟨hf,GV _⟩
 .obtain⟨z,c,rfl⟩:=acw e;rw[Y4];exact aou bs fs (lR ps) (ae ps) p _ c pz
def qg.T(cl:Nat->Nat)(rows:List (List Int))(aL:List Int)(N C:Nat):bw:=⟨cl,fun j m=>(rows.getD j []).getD m 0,fun j=>aL.getD j 0,N,C⟩
theorem qg.pos{w w':ay}{vn va:aq}(h:qg w bs fs ps Ks cl S tb gs rows aL vn va w'):0<ae S :=
 (fB.1 h.zero).1
theorem qg.built{w w':ay}{vn va:aq}(h:qg w bs fs ps Ks cl S tb gs rows aL vn va w')(pz:∀q,fs.getD q 0<2 ^ 256)(hf:cH (fR ps) (ae ps)<2 ^ 256)(hn:(ae ps)<=6):Ea bs fs (fR ps) (lR ps) (ae ps) S cl (fun j m=>(rows.getD j []).getD m 0) (fun j=>aL.getD j 0) (ae Ks):=by
 have hp:2 ^ (ae ps)<2 ^ 256:=Nat.pow_lt_pow_right (by decide) (by omega);refine⟨h.pos,fun c hc=>(h.XM c hc).1,fun s k hs hk=>?_,?_,fun s c hs hc=>?_,fun s hs=>h.Dq s hs⟩
 .show -1<=(rows.getD s []).getD k 0/\(rows.getD s []).getD k 0<ae S;rcases h.ok s hs k hk with⟨_,_,e⟩|⟨_,i,e,hi⟩
  .rw[e];have:=h.pos;omega
  .have:=(fB.1 hi).1;rw[mX]at this;rw[e];omega
 .rw[aO,h.zero];rfl
 .have q:=h.ok s hs (cl c) (h.XM c hc).1;rw[(h.XM c hc).2]at q;rcases q with⟨a,b,e⟩|⟨_,i,e,hi⟩
  .refine .inl ⟨?_,e⟩;show((jl fs ps (S.getD s (0,0)).1 (eW bs c (ae bs))).1,(jl fs ps (S.getD s (0,0)).1 (eW bs c (ae bs))).2)=(0,0);rw[a,b]
  .obtain⟨hl,_⟩:=fB.1 hi;rw[mX]at hl;refine .inr ⟨i,e,hl,?_⟩;rw[kx,bD hl]at hi;have hy:=(h.nK _ (nE hl)).small 256 pz hf;have hv:dJ (S[i]).1 (S[i]).2=dJ (jl fs ps (S.getD s (0,0)).1 (eW bs c (ae bs))).1 (jl fs ps (S.getD s (0,0)).1 (eW bs c (ae bs))).2:=Na hi;obtain⟨q1,q2⟩:=ag5 hy.1 (by omega) (adN pz _ _) (by have:=ahr (lR ps) ((S.getD s (0,0)).1 &&& eW bs c (ae bs)) (ae ps);exact Nat.lt_trans this hp) hv;rw[aO,bD hl];exact Prod.ext q1 q2
theorem qg.ac0{w w':ay}{vn va:aq}(h:qg w bs fs ps Ks cl S tb gs rows aL vn va w'):aL.getD 0 0=-1:=by
 rcases h.Dq 0 h.pos with⟨e,_⟩|⟨i,_,_,e,_⟩
 .exact e
 .rw[aO,h.zero]at e;simp at e
theorem qg.plain{w w':ay}{vn va:aq}(h:qg w bs fs ps Ks cl S tb gs rows aL vn va w')(pz:∀q,fs.getD q 0<2 ^ 256)(hf:cH (fR ps) (ae ps)<2 ^ 256)(hn:(ae ps)<=6):wQ (qg.T cl rows aL (ae S) (ae Ks)):=by
 have b:=h.built pz hf hn;refine⟨b.pos,b.cl,b.ik,fun k hk=>h.inv.za k (by rw[mX];exact hk),fun c k hc hk=>?_⟩;obtain⟨d,h1,h2⟩:=h.inv.ord c k hc hk;exact⟨d,h1,h2⟩
theorem qg.Mt{w w':ay}{vn va:aq}(h:qg w bs fs ps Ks cl S tb gs rows aL vn va w'):kz w' vn va (qg.T cl rows aL (ae S) (ae Ks)):=h.tab.Mt h.lg h.la h.pos (fun _ _=>rfl)
theorem qg.told{w w':ay}{vn va:aq}(h:qg w bs fs ps Ks cl S tb gs rows aL vn va w')(pz:∀q,fs.getD q 0<2 ^ 256)(hf:cH (fR ps) (ae ps)<2 ^ 256)(hn:(ae ps)<=6){lo:Nat->Nat}{e:Nat->Bool}{L:Nat->cC}(r:ED (fun q=>bs.getD q 0) (fun q=>fs.getD q 0) (ae ps) lo e (fR ps) (lR ps) L):∀x,lQ x->(qg.T cl rows aL (ae S) (ae Ks)).o 0 x=Go.Proofs.YtbjdkbcfpmeneaaGreat.told L (ae ps) x :=
 uz.told (T:=qg.T cl rows aL (ae S) (ae Ks)) ((h.built pz hf hn).ok r) h.ac0
theorem aj3(hd:(S.map sv).Nodup)(hr:∀y∈S,yp bs fs ps y)(p:Nat)(pz:∀q,fs.getD q 0<2 ^ p)(hf:cH (fR ps) (ae ps)<2 ^ p):(ae S)<=2 ^ p*2 ^ (ae ps) :=
 aj4 p (ae ps) S (List.Pairwise.of_map sv (fun a b h e=>h (congrArg sv e)) hd) (fun s hs=>(hr s hs).small p pz hf)
end
end
section
variable{x:List Nat}{n p m k N C:Nat}{cls:Nat->Nat}{nx:Nat->Nat->Int}{s r:Int}{ac:Nat->Int}{ts:List (Int×Nat×Nat)}
structure yb(L:Nat->cC)(n:Nat)(x:List Nat)(ts:List (Int×Nat×Nat))(p:Nat):Prop where
 le:p<=ae x
 few:(ae ts)<=p
 cut:∀us e,ya L n x p us e->ya L n x 0 (ts++us) e
theorem yb.start(L:Nat->cC)(n:Nat)(x:List Nat):yb L n x [] 0:=⟨bU _,aH _,fun _ _ h=>h⟩
theorem yb.done{L:Nat->cC}(h:yb L n x ts p)(hb:(jG L n (x.drop p) (ae x-p)).1=-1):ya L n x 0 ts p:=by
 have:=h.cut [] p (ajG h.le hb);rwa [List.append_nil]at this
theorem ai6{L:Nat->cC}:∀m,(jG L n x m).1≠-1->0<(jG L n x m).2:=by
 intro m;induction m with
 |zero=>intro h;exact absurd rfl h
 |succ m ih =>
  intro h;rw[jG]at h |-
  by_cases e:oP L n (x.take (m+1))≠-1
  .rw[aA e];exact Nat.succ_pos _
  .rw[az e]at h |-;exact ih h
theorem yb.token{L:Nat->cC}(h:yb L n x ts p){r:Int}{k:Nat}(hb:jG L n (x.drop p) (ae x-p)=(r,k))(hr:r≠-1):yb L n x (ts ++ [(r,p,p+k)]) (p+k)/\0<k:=by
 have hk:=(Rf L n (x.drop p) (ae x-p)).2.1;have hp:=ai6 (L:=L) (n:=n) (x:=x.drop p) (ae x-p) (by rw[hb];exact hr);rw[hb]at hk hp;have hk':k<=ae x-p:=hk;refine⟨⟨by have:=h.le;omega,by have:=h.few;have hp':0<k:=hp;simp;omega,fun us e hc=>?_⟩,hp⟩;rw[List.append_assoc];exact h.cut _ _ (ajH h.le hb hr hc)
structure uh(L:Nat->cC)(n:Nat)(cls:Nat->Nat)(nx:Nat->Nat->Int)(x:List Nat)(p m:Nat)(s:Int)(r:Int)(k:Nat):Prop where
 st:uT cls nx ((x.drop p).take m)=s
 ne:s≠-1
 le:p+m<=ae x
 Hs:jG L n (x.drop p) m=(r,k)
theorem uh.start(L:Nat->cC)(n:Nat)(cls:Nat->Nat)(nx:Nat->Nat->Int){x:List Nat}{p:Nat}(hp:p<=ae x):uh L n cls nx x p 0 0 (-1) 0:=⟨rfl,by omega,by omega,rfl⟩
theorem uh.full{L:Nat->cC}(h:uh L n cls nx x p m s r k)(hm:p+m=ae x):jG L n (x.drop p) (ae x-p)=(r,k):=by
 rw[<-h.Hs];congr 1;omega
theorem Pb(h:p+m<ae x):(x.drop p).take (m+1)=(x.drop p).take m ++ [x.getD (p+m) 0]:=by
 rw[List.take_add_one,List.getElem?_drop,bD h,aO,bD h];rfl
theorem uh.next{L:Nat->cC}(h:uh L n cls nx x p m s r k)(hm:p+m<ae x):uT cls nx ((x.drop p).take (m+1))=nx s.toNat (cls (x.getD (p+m) 0)):=by
 rw[Pb hm,ahp,h.st];unfold qE;rw[az h.ne]
theorem uh.dead{L:Nat->cC}(h:uh L n cls nx x p m s r k)(ok:uz L n cls nx ac N C)(hx:∀c∈x,c<256)(hm:p+m<ae x)(hd:nx s.toNat (cls (x.getD (p+m) 0))=-1):jG L n (x.drop p) (ae x-p)=(r,k):=by
 have:=ok.ai5 (x.drop p) (fun c hc=>hx c (aan hc)) m (by rw[Qx];omega) (by rw[h.next hm,hd]);rw[Qx]at this;rw[this,h.Hs]
theorem uh.step{L:Nat->cC}(h:uh L n cls nx x p m s r k)(ok:uz L n cls nx ac N C)(hx:∀c∈x,c<256)(hm:p+m<ae x){t:Int}(ht:nx s.toNat (cls (x.getD (p+m) 0))=t)(hd:t≠-1):(ac t.toNat≠-1->uh L n cls nx x p (m+1) t (ac t.toNat) (m+1))/\(ac t.toNat=-1->uh L n cls nx x p (m+1) t r k):=by
 have hn:=h.next hm;rw[ht]at hn;have:=ok.ai7 (x.drop p) (fun c hc=>hx c (aan hc)) m (by rw[Qx];omega) t hn hd;refine⟨fun e=>⟨hn,hd,by omega,by rw[this,aA e]⟩,fun e=>⟨hn,hd,by omega,by rw[this,az (by simp[e]),h.Hs]⟩⟩
theorem uh.lt{L:Nat->cC}(h:uh L n cls nx x p m s r k)(ok:uz L n cls nx ac N C)(hx:∀c∈x,c<256):0<=s/\s<N:=by
 have:=ok.at ((x.drop p).take m) (fun c hc=>hx c (aan (List.mem_of_mem_take hc)));rw[h.st]at this;have:=h.ne;omega
end
section
variable{P:Program}{a:Act}{c:Code}
section
open Go
def z8(J:Nat->Act->ay->Prop)(Q:Exit->Act->ay->Prop):Exit->Act->ay->Prop
 |.goto l,a,w=>J l a w
 |e,a,w=>Q e a w
theorem ao8{w:ay}{Q:Exit->Act->ay->Prop}(rest:Nat->Code)(J:Nat->Act->ay->Prop)(μ:Nat->Act->ay->Nat)(hf:∀l a w,J l a w->findLabel c l=some (rest l))(first:c.wp P (z8 J Q) a w)(pass:∀l a w,J l a w->(rest l).wp P (z8 (fun l' a' w'=>J l' a' w'/\μ l' a' w' < μ l a w) Q) a w):(Code.scope c).wp P Q a w:=by
 intro b k cs;have hg:∀l a w,J l a w->gotoIn l (.inScope c::k)=some (.code (rest l) :: .inScope c::k):=fun l a w h=>by simp[gotoIn,hf l a w h]
 have key:∀n l a w,μ l a w=n->J l a w->∃e a' w',Q e a' w'/\Arrives P (lone (b.at a (.code (rest l) :: .inScope c::k)) cs w) b k cs e a' w':=by
  intro n;induction n using M2 with
  |_ n ih =>
   intro l a w hn hJ;obtain⟨e,a₁,w₁,hq,tN⟩:=pass l a w hJ b (.inScope c::k) cs;cases e with
   |normal=>exact⟨.normal,a₁,w₁,hq,Steps.trans tN (.one step_inScope)⟩
   |exit id=>exact⟨.exit id,a₁,w₁,hq,fun k' hk=>tN k' (by simp[exitTo,hk])⟩
   |goto l' =>
    obtain⟨hJ',aN⟩:=hq;obtain⟨e₂,a₂,w₂,hq₂,tN₂⟩:=ih _ (by omega) l' a₁ w₁ rfl hJ';exact⟨e₂,a₂,w₂,hq₂,.of_steps (tN _ (hg l' a₁ w₁ hJ')) tN₂⟩
   |ret=>exact⟨_,a₁,w₁,hq,tN⟩
   |panic ch=>exact⟨_,a₁,w₁,hq,tN⟩
   |outgrown=>exact⟨_,a₁,w₁,hq,tN⟩
 obtain⟨e,a₁,w₁,hq,tN⟩:=first b (.inScope c::k) cs;cases e with
 |normal=>exact⟨.normal,a₁,w₁,hq,.head step_scope (Steps.trans tN (.one step_inScope))⟩
 |exit id=>exact⟨.exit id,a₁,w₁,hq,fun k' hk=>.head step_scope (tN k' (by simp[exitTo,hk]))⟩
 |goto l' =>
  have hJ':J l' a₁ w₁:=hq;obtain⟨e₂,a₂,w₂,hq₂,tN₂⟩:=key _ l' a₁ w₁ rfl hJ';exact⟨e₂,a₂,w₂,hq₂,.of_steps (.head step_scope (tN _ (hg l' a₁ w₁ hJ'))) tN₂⟩
 |ret=>exact⟨_,a₁,w₁,hq,.of_steps (.one step_scope) tN⟩
 |panic ch=>exact⟨_,a₁,w₁,hq,.of_steps (.one step_scope) tN⟩
 |outgrown=>exact⟨_,a₁,w₁,hq,.of_steps (.one step_scope) tN⟩
theorem ao7{w:ay}{Q:Exit->Act->ay->Prop}(J:Nat->Act->ay->Prop)(μ:Nat->Act->ay->Nat)(hf:∀l a w,J l a w->∃r,findLabel c l=some r)(first:c.wp P (z8 J Q) a w)(pass:∀l r a w,J l a w->findLabel c l=some r->r.wp P (z8 (fun l' a' w'=>J l' a' w'/\μ l' a' w' < μ l a w) Q) a w):(Code.scope c).wp P Q a w:=by
 refine ao8 (fun l=>(findLabel c l).getD c) J μ (fun l a w h=>?_) first (fun l a w h=>?_)
 .obtain⟨r,e⟩:=hf l a w h;rw[e];rfl
 .obtain⟨r,e⟩:=hf l a w h;have:=pass l r a w h e;show((findLabel c l).getD c).wp _ _ _ _;rw[e];exact this
end
end
section
open Go
theorem afG{J J':Nat->Act->ay->Prop}{Q:Exit->Act->ay->Prop}(h:∀l a w,J l a w->J' l a w):∀e a w,z8 J Q e a w->z8 J' Q e a w:=by
 intro e a w hq;cases e with
 |goto l=>exact h l a w hq
 |_=>exact hq
theorem ao6{P:Program}{a:Act}{w:ay}{Q:Exit->Act->ay->Prop}{c:Code}(J:Nat->Act->ay->Prop)(μ:Nat->Act->ay->Nat)(ρ:Nat->Nat)(hf:∀l a w,J l a w->∃x,findLabel c l=some (.seq .skip x))(first:(∀l x a w,J l a w->findLabel c l=some (.seq .skip x)->x.wp P (z8 J Q) a w)->c.wp P (z8 J Q) a w)(pass:∀l x a w,J l a w->findLabel c l=some (.seq .skip x)->(∀l' x' a' w',ρ l' < ρ l->J l' a' w'->findLabel c l'=some (.seq .skip x')->μ l' a' w'<=μ l a w->x'.wp P (z8 (fun l'' a'' w''=>J l'' a'' w''/\μ l'' a'' w'' < μ l a w) Q) a' w')->x.wp P (z8 (fun l' a' w'=>J l' a' w'/\μ l' a' w' < μ l a w) Q) a w):(Code.scope c).wp P Q a w:=by
 have key:∀n l x a w,ρ l=n->J l a w->findLabel c l=some (.seq .skip x)->x.wp P (z8 (fun l' a' w'=>J l' a' w'/\μ l' a' w' < μ l a w) Q) a w:=by
  intro n;induction n using M2 with
  |_ n ih =>
   intro l x a w hn hJ hl;refine pass l x a w hJ hl (fun l' x' a' w' hr hJ' hl' hm=>?_);exact Code.wp_mono (afG fun l2 a2 w2 h=>⟨h.1,tC h.2 hm⟩) (ih _ (by omega) l' x' a' w' rfl hJ' hl')
 refine ao7 J μ (fun l a w hJ=>?_) (first fun l x a w hJ hl=>Code.wp_mono (afG fun _ _ _ h=>h.1) (key _ l x a w rfl hJ hl)) (fun l r a w hJ hl=>?_)
 .obtain⟨x,e⟩:=hf l a w hJ;exact⟨_,e⟩
 .obtain⟨x,e⟩:=hf l a w hJ;rw[e]at hl;cases hl;exact wp_seq (wp_skip (key _ l x a w rfl hJ e))
end
theorem ajP(f1 l1 f2 l2:Nat)(e2:Bool)(w:ay):aI aB 76 #[dQ true f1 l1,dQ e2 f2 l2] w fun x w'=>x=.returned (dQ true (f1 ||| f2) (l1 ||| l2))/\dA w.heap.size w w':=by
 go_enter Tryz.func76,Tryz.ntmps76;go_wp2_with fail;have bA:(((w.alloc (cZ true f1 l1)).alloc (cZ e2 f2 l2)).alloc cJ).heap[w.heap.size]?=some (cZ true f1 l1):=by simp only[aC,aM];rw[az (by omega),az (by omega),if_true]
 have bB:(((w.alloc (cZ true f1 l1)).alloc (cZ e2 f2 l2)).alloc cJ).heap[w.heap.size+1]?=some (cZ e2 f2 l2):=by simp only[aC,aM];rw[az (by omega),if_true]
 have bZ:(((w.alloc (cZ true f1 l1)).alloc (cZ e2 f2 l2)).alloc cJ).heap[w.heap.size+1+1]?=some cJ:=by simp only[aC,aM];rw[if_true]
 have bK:dA w.heap.size w (((w.alloc (cZ true f1 l1)).alloc (cZ e2 f2 l2)).alloc cJ):=(((Kp.refl [] _).alloc _).alloc _).alloc _ |>.toBelow
 generalize ((w.alloc (cZ true f1 l1)).alloc (cZ e2 f2 l2)).alloc cJ=W at *;have BZ:=aj bZ;have lZ:=aE bZ;have BK:=aj bK;generalize hA:w.heap.size=A at *;have HA:=aj hA;have cA:∀w',dA (A+2) W w'->w'.cell? ⟨A,0,none⟩=some (.bool true)/\w'.cell? ⟨A,1,none⟩=some (.int .u64 (wd f1 0))/\w'.cell? ⟨A,2,none⟩=some (.int .u64 (wd f1 1))/\w'.cell? ⟨A,3,none⟩=some (.int .u64 (wd f1 2))/\w'.cell? ⟨A,4,none⟩=some (.int .u64 (wd f1 3))/\w'.cell? ⟨A,5,none⟩=some (.int .u64 (wd l1 0))/\w'.cell? ⟨A,6,none⟩=some (.int .u64 (wd l1 1))/\w'.cell? ⟨A,7,none⟩=some (.int .u64 (wd l1 2))/\w'.cell? ⟨A,8,none⟩=some (.int .u64 (wd l1 3)) :=
  fun w' h=>Ym _ _ _ _ _ _ _ _ _ _ w' (by rw[h.block A (by omega)];exact bA)
 have cB:∀w',dA (A+2) W w'->w'.cell? ⟨A+1,0,none⟩=some (.bool e2)/\w'.cell? ⟨A+1,1,none⟩=some (.int .u64 (wd f2 0))/\w'.cell? ⟨A+1,2,none⟩=some (.int .u64 (wd f2 1))/\w'.cell? ⟨A+1,3,none⟩=some (.int .u64 (wd f2 2))/\w'.cell? ⟨A+1,4,none⟩=some (.int .u64 (wd f2 3))/\w'.cell? ⟨A+1,5,none⟩=some (.int .u64 (wd l2 0))/\w'.cell? ⟨A+1,6,none⟩=some (.int .u64 (wd l2 1))/\w'.cell? ⟨A+1,7,none⟩=some (.int .u64 (wd l2 2))/\w'.cell? ⟨A+1,8,none⟩=some (.int .u64 (wd l2 3)) :=
  fun w' h=>Ym _ _ _ _ _ _ _ _ _ _ w' (by rw[h.block (A+1) (by omega)];exact bB)
 clear bZ bA bB bK hA;have nA:A+2<=W.heap.size:=(by omega);refine wp_region_held_drew (S:=fun w'=>dA (A+2) W w') (by kernel_rfl) (uq (kQ _ _)) (fun fQ=>?_);refine mE (i:=0) (v:=?v0) rfl (by kernel_rfl) (by kernel_rfl) (by kernel_rfl) (fun _ _ _ h=>h) (Or.inl ⟨by rfl,?y0⟩) (by assumption) ?r0
 case y0=>intro w gS;(try dsimp only at gS);go_simp;first|done|with_reducible rfl
 case' r0=>try simp only[fj,fx,eX,eU]
 refine mE (i:=1) (v:=?v1) rfl (by kernel_rfl) (by kernel_rfl) (by kernel_rfl) (fun _ _ _ h=>h) (Or.inl ⟨by rfl,?y1⟩) (by assumption) ?r1
 case y1=>intro w gS;(try dsimp only at gS);go_simp;first|done|with_reducible rfl
 case' r1=>try simp only[fj,fx,eX,eU]
 refine mE (i:=2) (v:=?v2) rfl (by kernel_rfl) (by kernel_rfl) (by kernel_rfl) (fun _ _ _ h=>h) (Or.inl ⟨by rfl,?y2⟩) (by assumption) ?r2
 case y2=>intro w gS;(try dsimp only at gS);go_simp;first|done|with_reducible rfl
 case' r2=>try simp only[fj,fx,eX,eU]
 refine mE (i:=3) (v:=eT) rfl (by kernel_rfl) (by kernel_rfl) (by kernel_rfl) (fun _ _ _ h=>h) (Or.inr ⟨by rfl,rfl⟩) (by assumption) ?_;try simp only[fj,fx,eX,eU]
 refine mE (i:=4) (v:=eT) rfl (by kernel_rfl) (by kernel_rfl) (by kernel_rfl) (fun _ _ _ h=>h) (Or.inr ⟨by rfl,rfl⟩) (by assumption) ?_;try simp only[fj,fx,eX,eU]
 refine mE (i:=5) (v:=?v5) rfl (by kernel_rfl) (by kernel_rfl) (by kernel_rfl) (fun _ _ _ h=>h) (Or.inl ⟨by rfl,?y5⟩) (by assumption) ?r5
 case y5=>intro w gS;(try dsimp only at gS);go_simp;first|done|with_reducible rfl
 case' r5=>try simp only[fj,fx,eX,eU]
 refine mE (i:=6) (v:=?v6) rfl (by kernel_rfl) (by kernel_rfl) (by kernel_rfl) (fun _ _ _ h=>h) (Or.inl ⟨by rfl,?y6⟩) (by assumption) ?r6
 case y6=>intro w gS;(try dsimp only at gS);go_simp;first|done|with_reducible rfl
 case' r6=>try simp only[fj,fx,eX,eU]
 refine mE (i:=7) (v:=?v7) rfl (by kernel_rfl) (by kernel_rfl) (by kernel_rfl) (fun _ _ _ h=>h) (Or.inl ⟨by rfl,?y7⟩) (by assumption) ?r7
 case y7=>intro w gS;(try dsimp only at gS);go_simp;first|done|with_reducible rfl
 case' r7=>try simp only[fj,fx,eX,eU]
 refine mE (i:=8) (v:=?v8) rfl (by kernel_rfl) (by kernel_rfl) (by kernel_rfl) (fun _ _ _ h=>h) (Or.inl ⟨by rfl,?y8⟩) (by assumption) ?r8
 case y8=>intro w gS;(try dsimp only at gS);go_simp;first|done|with_reducible rfl
 case' r8=>try simp only[fj,fx,eX,eU]
 refine mE (i:=9) (v:=?v9) rfl (by kernel_rfl) (by kernel_rfl) (by kernel_rfl) (fun _ _ _ h=>h) (Or.inl ⟨by rfl,?y9⟩) (by assumption) ?r9
 case y9=>intro w gS;(try dsimp only at gS);go_simp;first|done|with_reducible rfl
 case' r9=>try simp only[fj,fx,eX,eU]
 refine mE (i:=12) (v:=?v12) rfl (by kernel_rfl) (by kernel_rfl) (by kernel_rfl) (fun _ _ _ h=>h) (Or.inl ⟨by rfl,?y12⟩) (by assumption) ?r12
 case y12=>intro w gS;(try dsimp only at gS);go_simp;first|done|with_reducible rfl
 case' r12=>try simp only[fj,fx,eX,eU]
 refine mE (i:=13) (v:=?v13) rfl (by kernel_rfl) (by kernel_rfl) (by kernel_rfl) (fun _ _ _ h=>h) (Or.inl ⟨by rfl,?y13⟩) (by assumption) ?r13
 case y13=>intro w gS;(try dsimp only at gS);go_simp;first|done|with_reducible rfl
 case' r13=>try simp only[fj,fx,eX,eU]
 refine mE (i:=14) (v:=?v14) rfl (by kernel_rfl) (by kernel_rfl) (by kernel_rfl) (fun _ _ _ h=>h) (Or.inl ⟨by rfl,?y14⟩) (by assumption) ?r14
 case y14=>intro w gS;(try dsimp only at gS);go_simp;first|done|with_reducible rfl
 case' r14=>try simp only[fj,fx,eX,eU]
 refine mE (i:=15) (v:=?v15) rfl (by kernel_rfl) (by kernel_rfl) (by kernel_rfl) (fun _ _ _ h=>h) (Or.inl ⟨by rfl,?y15⟩) (by assumption) ?r15
 case y15=>intro w gS;(try dsimp only at gS);go_simp;first|done|with_reducible rfl
 case' r15=>try simp only[fj,fx,eX,eU]
 refine wpAnyH_ready (rs:=[10,16]) (by kernel_rfl) (by simp) ?_;refine qG rfl (fun K hK=>?_) (qG rfl (fun K hK=>?_) ug)
 .skip
  go_simp;refine hK.out _ _ ?hS (fun jc=>?_)
  case hS=>(repeat (any_goals (first|with_reducible exact S3|with_reducible exact S2|with_reducible exact fQ|with_reducible exact kQ _ _|with_reducible refine uq ?_|with_reducible refine wE ?_ ?_ _|with_reducible refine uo ?_ ?_ _|omega|(simp[aM,jo];done)|(simp[aM,jo];omega))))
  clear hK K fQ;have fQ:=jc;clear jc;try simp only[fj,fx,eX,eU]
  refine wpAnyH_ready (rs:=[11,16]) (by kernel_rfl) (by simp) ?_;refine qG rfl (fun K hK=>?_) (qG rfl (fun K hK=>?_) ug)
  ·(skip);go_simp
   (refine(AD f1 f2 _ _ ?hs).mono ?_;(case hs=>first|(simp only[eO,aC,aM];simp;done));rintro _ w2 ⟨rfl,h2⟩;have S2:dA (A+2) W w2:=Jt fQ (h2.mono (by simp[aM,jo];omega));have YM:=S2.size;have z2:w2.heap[A+1+1]?=some cJ:=bV h2 (by simp only[eO,aC,aM];(first|(rw[az (by omega),az (by omega)];exact BZ.o)|(rw[az (by omega)];exact BZ.o)));have Z2:=aj z2;have yV:=aE z2;clear z2)
   go_wp2_with fail;refine hK.out _ _ ?hS (fun jc=>?_)
   case hS=>(repeat (any_goals (first|with_reducible exact S3|with_reducible exact S2|with_reducible exact fQ|with_reducible exact kQ _ _|with_reducible refine uq ?_|with_reducible refine wE ?_ ?_ _|with_reducible refine uo ?_ ?_ _|omega|(simp[aM,jo];done)|(simp[aM,jo];omega))))
   clear hK K fQ;have fQ:=jc;clear jc;(try simp only[fj,fx,eX,eU]);refine wpAnyH_ready (rs:=[16]) (by kernel_rfl) (by simp) ?_;refine qG rfl (fun K hK=>?_) ug;go_simp;refine hK.out _ _ ?hS (fun jc=>?_)
   case hS=>(repeat (any_goals (first|with_reducible exact S3|with_reducible exact S2|with_reducible exact fQ|with_reducible exact kQ _ _|with_reducible refine uq ?_|with_reducible refine wE ?_ ?_ _|with_reducible refine uo ?_ ?_ _|omega|(simp[aM,jo];done)|(simp[aM,jo];omega))))
   clear hK K fQ;have fQ:=jc;clear jc;(try simp only[fj,fx,eX,eU]);refine wpAnyH_ready (rs:=[17]) (by kernel_rfl) (by simp) ?_;refine qG rfl (fun K hK=>?_) ug;go_simp
   (refine(AD l1 l2 _ _ ?hs).mono ?_;(case hs=>first|(rw[aC,aA rfl];done)|(refine bV h2 ?_;simp only[eO,aC,aM];simp;done));rintro _ w3 ⟨rfl,h3⟩;have S3:dA (A+2) W w3:=Jt fQ (h3.mono (by first|omega|(simp[aM];omega)));have sz3:=S3.size;(have z3:w3.heap[A+1+1]?=some cJ:=by refine bV h3 ?hz;(case hz=>first|(with_reducible exact Z2.o)|(rw[aC,az (bY yV)];exact Z2.o)));obtain⟨⟨oy,oz,oB,oC,sR,sS,sU,sV,sX⟩,pF,pG,pH,pI,uU,uV,uW,uX,uY⟩:=gC z3;have Z3:=aj z3;clear z3)
   go_wp2_with fail;refine hK.out _ _ ?hS (fun jc=>?_)
   case hS=>(repeat (any_goals (first|with_reducible exact S3|with_reducible exact S2|with_reducible exact fQ|with_reducible exact kQ _ _|with_reducible refine uq ?_|with_reducible refine wE ?_ ?_ _|with_reducible refine uo ?_ ?_ _|omega|(simp[aM,jo];done)|(simp[aM,jo];omega))))
   clear hK K fQ;have fQ:=jc;clear jc;(try simp only[fj,fx,eX,eU]);refine mE (i:=18) (v:=?aqu) rfl (by kernel_rfl) (by kernel_rfl) (by kernel_rfl) (fun _ _ _ h=>h) (Or.inl ⟨by rfl,?apb⟩) (by assumption) ?ana
   case apb=>intro w gS;(try dsimp only at gS);go_simp;first|done|with_reducible rfl
   case' ana=>try simp only[fj,fx,eX,eU]
   refine wpAnyH_ready (rs:=[19]) (by kernel_rfl) (by simp) ?_;refine qG rfl (fun K hK=>?_) ug;go_simp;refine hK.out _ _ ?hS (fun jc=>?_)
   case hS=>(repeat (any_goals (first|with_reducible exact S3|with_reducible exact S2|with_reducible exact fQ|with_reducible exact kQ _ _|with_reducible refine uq ?_|with_reducible refine wE ?_ ?_ _|with_reducible refine uo ?_ ?_ _|omega|(simp[aM,jo];done)|(simp[aM,jo];omega))))
   clear hK K fQ;have fQ:=jc;clear jc;(try simp only[fj,fx,eX,eU]);refine wpAnyH_done (by kernel_rfl) ?_ _;go_wp2;refine cF (v:=dQ true (f1 ||| f2) (l1 ||| l2)) (kN (b:=A+1+1) aaH rfl (by simp only[aQ,Z3.o];simp[eD])) rfl ⟨rfl,?_⟩;rw[HA.o];exact((((((((((BK.o.trans (S3.mono (by omega))).setCell (by simp;omega) _).setCell (by simp;omega) _).setCell (by simp;omega) _).setCell (by simp;omega) _).setCell (by simp;omega) _).setCell (by simp;omega) _).setCell (by simp;omega) _).setCell (by simp;omega) _).setCell (by simp;omega) _)
  ·(skip);go_simp;refine hK.out _ _ ?hS (fun jc=>?_)
   case hS=>(repeat (any_goals (first|with_reducible exact S3|with_reducible exact S2|with_reducible exact fQ|with_reducible exact kQ _ _|with_reducible refine uq ?_|with_reducible refine wE ?_ ?_ _|with_reducible refine uo ?_ ?_ _|omega|(simp[aM,jo];done)|(simp[aM,jo];omega))))
   clear hK K fQ;have fQ:=jc;clear jc;(try simp only[fj,fx,eX,eU]);refine wpAnyH_ready (rs:=[11]) (by kernel_rfl) (by simp) ?_;refine qG rfl (fun K hK=>?_) ug;go_simp
   (refine(AD f1 f2 _ _ ?hs).mono ?_;(case hs=>first|(simp only[eO,aC,aM];simp;done));rintro _ w2 ⟨rfl,h2⟩;have S2:dA (A+2) W w2:=Jt fQ (h2.mono (by simp[aM,jo];omega));have YM:=S2.size;have z2:w2.heap[A+1+1]?=some cJ:=bV h2 (by simp only[eO,aC,aM];(first|(rw[az (by omega),az (by omega)];exact BZ.o)|(rw[az (by omega)];exact BZ.o)));have Z2:=aj z2;have yV:=aE z2;clear z2)
   go_wp2_with fail;refine hK.out _ _ ?hS (fun jc=>?_)
   case hS=>(repeat (any_goals (first|with_reducible exact S3|with_reducible exact S2|with_reducible exact fQ|with_reducible exact kQ _ _|with_reducible refine uq ?_|with_reducible refine wE ?_ ?_ _|with_reducible refine uo ?_ ?_ _|omega|(simp[aM,jo];done)|(simp[aM,jo];omega))))
   clear hK K fQ;have fQ:=jc;clear jc;(try simp only[fj,fx,eX,eU]);refine wpAnyH_ready (rs:=[17]) (by kernel_rfl) (by simp) ?_;refine qG rfl (fun K hK=>?_) ug;go_simp
   (refine(AD l1 l2 _ _ ?hs).mono ?_;(case hs=>first|(rw[aC,aA rfl];done)|(refine bV h2 ?_;simp only[eO,aC,aM];simp;done));rintro _ w3 ⟨rfl,h3⟩;have S3:dA (A+2) W w3:=Jt fQ (h3.mono (by first|omega|(simp[aM];omega)));have sz3:=S3.size;(have z3:w3.heap[A+1+1]?=some cJ:=by refine bV h3 ?hz;(case hz=>first|(with_reducible exact Z2.o)|(rw[aC,az (bY yV)];exact Z2.o)));obtain⟨⟨oy,oz,oB,oC,sR,sS,sU,sV,sX⟩,pF,pG,pH,pI,uU,uV,uW,uX,uY⟩:=gC z3;have Z3:=aj z3;clear z3)
   go_wp2_with fail;refine hK.out _ _ ?hS (fun jc=>?_)
   case hS=>(repeat (any_goals (first|with_reducible exact S3|with_reducible exact S2|with_reducible exact fQ|with_reducible exact kQ _ _|with_reducible refine uq ?_|with_reducible refine wE ?_ ?_ _|with_reducible refine uo ?_ ?_ _|omega|(simp[aM,jo];done)|(simp[aM,jo];omega))))
   clear hK K fQ;have fQ:=jc;clear jc;(try simp only[fj,fx,eX,eU]);refine mE (i:=18) (v:=?aqv) rfl (by kernel_rfl) (by kernel_rfl) (by kernel_rfl) (fun _ _ _ h=>h) (Or.inl ⟨by rfl,?apc⟩) (by assumption) ?anb
   case apc=>intro w gS;(try dsimp only at gS);go_simp;first|done|with_reducible rfl
   case' anb=>try simp only[fj,fx,eX,eU]
   refine wpAnyH_ready (rs:=[19]) (by kernel_rfl) (by simp) ?_;refine qG rfl (fun K hK=>?_) ug;go_simp;refine hK.out _ _ ?hS (fun jc=>?_)
   case hS=>(repeat (any_goals (first|with_reducible exact S3|with_reducible exact S2|with_reducible exact fQ|with_reducible exact kQ _ _|with_reducible refine uq ?_|with_reducible refine wE ?_ ?_ _|with_reducible refine uo ?_ ?_ _|omega|(simp[aM,jo];done)|(simp[aM,jo];omega))))
   clear hK K fQ;have fQ:=jc;clear jc;(try simp only[fj,fx,eX,eU]);refine wpAnyH_done (by kernel_rfl) ?_ _;go_wp2;refine cF (v:=dQ true (f1 ||| f2) (l1 ||| l2)) (kN (b:=A+1+1) aaH rfl (by simp only[aQ,Z3.o];simp[eD])) rfl ⟨rfl,?_⟩;rw[HA.o];exact((((((((((BK.o.trans (S3.mono (by omega))).setCell (by simp;omega) _).setCell (by simp;omega) _).setCell (by simp;omega) _).setCell (by simp;omega) _).setCell (by simp;omega) _).setCell (by simp;omega) _).setCell (by simp;omega) _).setCell (by simp;omega) _).setCell (by simp;omega) _)
 .skip
  go_simp;refine hK.out _ _ ?hS (fun jc=>?_)
  case hS=>(repeat (any_goals (first|with_reducible exact S3|with_reducible exact S2|with_reducible exact fQ|with_reducible exact kQ _ _|with_reducible refine uq ?_|with_reducible refine wE ?_ ?_ _|with_reducible refine uo ?_ ?_ _|omega|(simp[aM,jo];done)|(simp[aM,jo];omega))))
  clear hK K fQ;have fQ:=jc;clear jc;try simp only[fj,fx,eX,eU]
  refine wpAnyH_ready (rs:=[10]) (by kernel_rfl) (by simp) ?_;refine qG rfl (fun K hK=>?_) ug;go_simp;refine hK.out _ _ ?hS (fun jc=>?_)
  case hS=>(repeat (any_goals (first|with_reducible exact S3|with_reducible exact S2|with_reducible exact fQ|with_reducible exact kQ _ _|with_reducible refine uq ?_|with_reducible refine wE ?_ ?_ _|with_reducible refine uo ?_ ?_ _|omega|(simp[aM,jo];done)|(simp[aM,jo];omega))))
  clear hK K fQ;have fQ:=jc;clear jc;try simp only[fj,fx,eX,eU]
  refine wpAnyH_ready (rs:=[11]) (by kernel_rfl) (by simp) ?_;refine qG rfl (fun K hK=>?_) ug;go_simp
  (refine(AD f1 f2 _ _ ?hs).mono ?_;(case hs=>first|(simp only[eO,aC,aM];simp;done));rintro _ w2 ⟨rfl,h2⟩;have S2:dA (A+2) W w2:=Jt fQ (h2.mono (by simp[aM,jo];omega));have YM:=S2.size;have z2:w2.heap[A+1+1]?=some cJ:=bV h2 (by simp only[eO,aC,aM];(first|(rw[az (by omega),az (by omega)];exact BZ.o)|(rw[az (by omega)];exact BZ.o)));have Z2:=aj z2;have yV:=aE z2;clear z2)
  go_wp2_with fail;refine hK.out _ _ ?hS (fun jc=>?_)
  case hS=>(repeat (any_goals (first|with_reducible exact S3|with_reducible exact S2|with_reducible exact fQ|with_reducible exact kQ _ _|with_reducible refine uq ?_|with_reducible refine wE ?_ ?_ _|with_reducible refine uo ?_ ?_ _|omega|(simp[aM,jo];done)|(simp[aM,jo];omega))))
  clear hK K fQ;have fQ:=jc;clear jc;try simp only[fj,fx,eX,eU]
  refine wpAnyH_ready (rs:=[17]) (by kernel_rfl) (by simp) ?_;refine qG rfl (fun K hK=>?_) ug;go_simp
  (refine(AD l1 l2 _ _ ?hs).mono ?_;(case hs=>first|(rw[aC,aA rfl];done)|(refine bV h2 ?_;simp only[eO,aC,aM];simp;done));rintro _ w3 ⟨rfl,h3⟩;have S3:dA (A+2) W w3:=Jt fQ (h3.mono (by first|omega|(simp[aM];omega)));have sz3:=S3.size;(have z3:w3.heap[A+1+1]?=some cJ:=by refine bV h3 ?hz;(case hz=>first|(with_reducible exact Z2.o)|(rw[aC,az (bY yV)];exact Z2.o)));obtain⟨⟨oy,oz,oB,oC,sR,sS,sU,sV,sX⟩,pF,pG,pH,pI,uU,uV,uW,uX,uY⟩:=gC z3;have Z3:=aj z3;clear z3)
  go_wp2_with fail;refine hK.out _ _ ?hS (fun jc=>?_)
  case hS=>(repeat (any_goals (first|with_reducible exact S3|with_reducible exact S2|with_reducible exact fQ|with_reducible exact kQ _ _|with_reducible refine uq ?_|with_reducible refine wE ?_ ?_ _|with_reducible refine uo ?_ ?_ _|omega|(simp[aM,jo];done)|(simp[aM,jo];omega))))
  clear hK K fQ;have fQ:=jc;clear jc;try simp only[fj,fx,eX,eU]
  refine mE (i:=18) (v:=?aqw) rfl (by kernel_rfl) (by kernel_rfl) (by kernel_rfl) (fun _ _ _ h=>h) (Or.inl ⟨by rfl,?apd⟩) (by assumption) ?anc
  case apd=>intro w gS;(try dsimp only at gS);go_simp;first|done|with_reducible rfl
  case' anc=>try simp only[fj,fx,eX,eU]
  refine wpAnyH_ready (rs:=[19]) (by kernel_rfl) (by simp) ?_;refine qG rfl (fun K hK=>?_) ug;go_simp;refine hK.out _ _ ?hS (fun jc=>?_)
  case hS=>(repeat (any_goals (first|with_reducible exact S3|with_reducible exact S2|with_reducible exact fQ|with_reducible exact kQ _ _|with_reducible refine uq ?_|with_reducible refine wE ?_ ?_ _|with_reducible refine uo ?_ ?_ _|omega|(simp[aM,jo];done)|(simp[aM,jo];omega))))
  clear hK K fQ;have fQ:=jc;clear jc;try simp only[fj,fx,eX,eU]
  refine wpAnyH_done (by kernel_rfl) ?_ _;go_wp2;refine cF (v:=dQ true (f1 ||| f2) (l1 ||| l2)) (kN (b:=A+1+1) aaH rfl (by simp only[aQ,Z3.o];simp[eD])) rfl ⟨rfl,?_⟩;rw[HA.o];exact((((((((((BK.o.trans (S3.mono (by omega))).setCell (by simp;omega) _).setCell (by simp;omega) _).setCell (by simp;omega) _).setCell (by simp;omega) _).setCell (by simp;omega) _).setCell (by simp;omega) _).setCell (by simp;omega) _).setCell (by simp;omega) _).setCell (by simp;omega) _)
theorem aei(e1 e2:Bool)(f1 l1 f2 l2:Nat)(w:ay):aI aB 76 #[dQ e1 f1 l1,dQ e2 f2 l2] w fun x w'=>x=.returned (dQ (e1 || e2) (f1 ||| f2) (l1 ||| l2))/\dA w.heap.size w w':=by
 cases e1
 .exact ajO f1 l1 f2 l2 e2 w
 .exact ajP f1 l1 f2 l2 e2 w
def aau(R:PR aD)(p:Nat)(bs fs:List Nat)(vb vf:aq)(w:ay)(x:Ending)(w':ay):Prop :=
 ∃(e:Bool) (f l:Nat),x=.returned (.tuple #[dQ e f l,.int .i64 R.err,.int .i64 R.pl])/\Kp (foot p vb vf) w w' /\
  (R.err≠0->e=false/\f=0/\l=0) /\
  (R.err=0->∃(bs' fs':List Nat) (eg dP:aq),dN w' p bs' fs' eg dP/\(∀g∈foot p eg dP,g∈foot p vb vf\/w.heap.size<=g)/\(ae bs)<=ae bs'/\(ae bs')<=ae bs+min R.j 16/\bs'.take (ae bs)=bs/\fs'.take (ae bs)=fs /\
   gI (fun q=>bs'.getD q 0) (fun q=>fs'.getD q 0) (ae bs) (ae bs') e f l R.v)
theorem OS:dQ false 0 0=.agg #[.bool false,.int .u64 0,.int .u64 0,.int .u64 0,.int .u64 0,.int .u64 0,.int .u64 0,.int .u64 0,.int .u64 0]:=by simp[dQ,xV]
theorem am5(s:ByteArray)(p:Nat)(bs fs:List Nat)(vb vf:aq)(w:ay)(h:16<s.size):aI aB 34 #[.pointer (some ⟨p,0,none⟩),.string s] w (aau (cO s) p bs fs vb vf w):=by
 have hR:ax (cO s=⟨2,0,0,aD.aX⟩):=by show _=_;rw[cO,aA h]
 have q:(16:Int)<s.size:=(by omega);clear h;go_enter Tryz.func34,Tryz.ntmps34;go_wp2;refine cF (v:=.tuple #[dQ false 0 0,.int .i64 2,.int .i64 0]) ?_ rfl ⟨false,0,0,by rw[hR.o],((Kp.refl _ w).alloc _),fun _=>⟨rfl,rfl,rfl⟩,fun e=>absurd e (by rw[hR.o];decide)⟩;simp[eG,QY,go_sem,OS]
theorem am6(s:ByteArray)(p:Nat)(bs fs:List Nat)(vb vf:aq)(w:ay)(h:dN w p bs fs vb vf)(hs:s.size<=16)(hn:(ae bs)<=100):aI aB 34 #[.pointer (some ⟨p,0,none⟩),.string s] w (aau (cO s) p bs fs vb vf w):=by
 have HP:=aj h;have q:(s.size:Int)<=16:=(by omega);have Sj:ax (∀k,fb s s.size 0=some k->cO s=⟨3,k,0,aD.aX⟩):=agI s hs;have sC:ax (fb s s.size 0=none->cO s=if (aR s 40 0).err≠0 then aR s 40 0 else if (aR s 40 0).j=s.size then aR s 40 0 else⟨5,(aR s 40 0).j,0,aD.aX⟩):=agJ s hs;generalize cO s=R at *;clear h;go_enter Tryz.func34,Tryz.ntmps34;go_upto_region 3 with fail;have kW:Kp [] w (w.alloc cJ):=(Kp.refl _ w).alloc _;have bZ:(w.alloc cJ).heap[w.heap.size]?=some cJ:=(by rw[aC,aA rfl]);generalize w.alloc cJ=W at *;have lZ:=aE bZ;obtain⟨⟨oy,oz,oB,oC,sR,sS,sU,sV,sX⟩,pF,pG,pH,pI,uU,uV,uW,uX,uY⟩:=gC bZ;have KW:=aj kW;have BZ:=aj bZ;clear kW bZ;go_wp2_with fail;go_loopw [16] (fun i w'=>∃k:Nat,k<=s.size/\i=.int .i64 k/\w'=W/\fb s s.size 0=fb s (s.size-k) k)
  (fun i _=>s.size-(aG i).toNat)
 case atStart=>exact⟨0,by omega,rfl,rfl,rfl⟩
 case round =>
  obtain⟨k,hk,rfl,rfl,yJ⟩:=hrel;by_cases aN:k<s.size
  .have hk':(k:Int)<s.size:=(by omega);have hg:=Dz s k aN;have hF:fb s (s.size-k) k=if gt s k<32\/126<gt s k then some k else fb s (s.size-(k+1)) (k+1):=by
    rw[show s.size-k=(s.size-(k+1))+1 by omega,fb]
   rw[hg]at hF;have HF:ax _:=yJ.trans hF;clear yJ hF hg;by_cases b1:s[k].toNat<32
   .have b1':(s[k].toNat:Int)<32:=(by omega);have HB:=aj b1;clear b1;go_wp2;have cN:R=⟨3,k,0,aD.aX⟩:=Sj.o k (by rw[HF.o,aA (by have:=HB.o;omega)]);have e0:(((((((((wr.setCell ⟨w.heap.size,0,none⟩ (.bool false)).setCell ⟨w.heap.size,1,none⟩ (.int .u64 0)).setCell ⟨w.heap.size,2,none⟩ (.int .u64 0)).setCell ⟨w.heap.size,3,none⟩ (.int .u64 0)).setCell ⟨w.heap.size,4,none⟩ (.int .u64 0)).setCell ⟨w.heap.size,5,none⟩ (.int .u64 0)).setCell ⟨w.heap.size,6,none⟩ (.int .u64 0)).setCell ⟨w.heap.size,7,none⟩ (.int .u64 0)).setCell ⟨w.heap.size,8,none⟩ (.int .u64 0)).heap[w.heap.size]?=some cJ:=by
     simp only[aQ,BZ.o];simp[eD]
    obtain⟨⟨x0,x1,x2,x3,x4,x5,x6,x7,x8⟩,_⟩:=gC e0;refine cF (v:=.tuple #[dQ false 0 0,.int .i64 3,.int .i64 k]) ?_ rfl ⟨false,0,0,by rw[cN],(KW.o.mono (by simp)).mQ (.inr (aH _)) _ _ _ _ _ _ _ _ _,fun _=>⟨rfl,rfl,rfl⟩,fun e=>absurd e (by rw[cN];simp)⟩;simp[eG,QY,go_sem,OS,x0,x1,x2,x3,x4,x5,x6,x7,x8]
   .have b1':(32:Int)<=s[k].toNat:=(by omega);have HB:=aj b1;clear b1;by_cases b2:126<s[k].toNat
    .have b2':(126:Int)<s[k].toNat:=(by omega);have mG:=aj b2;clear b2;go_wp2;have cN:R=⟨3,k,0,aD.aX⟩:=Sj.o k (by rw[HF.o,aA (by have:=mG.o;omega)]);have e0:(((((((((wr.setCell ⟨w.heap.size,0,none⟩ (.bool false)).setCell ⟨w.heap.size,1,none⟩ (.int .u64 0)).setCell ⟨w.heap.size,2,none⟩ (.int .u64 0)).setCell ⟨w.heap.size,3,none⟩ (.int .u64 0)).setCell ⟨w.heap.size,4,none⟩ (.int .u64 0)).setCell ⟨w.heap.size,5,none⟩ (.int .u64 0)).setCell ⟨w.heap.size,6,none⟩ (.int .u64 0)).setCell ⟨w.heap.size,7,none⟩ (.int .u64 0)).setCell ⟨w.heap.size,8,none⟩ (.int .u64 0)).heap[w.heap.size]?=some cJ:=by
      simp only[aQ,BZ.o];simp[eD]
     obtain⟨⟨x0,x1,x2,x3,x4,x5,x6,x7,x8⟩,_⟩:=gC e0;refine cF (v:=.tuple #[dQ false 0 0,.int .i64 3,.int .i64 k]) ?_ rfl ⟨false,0,0,by rw[cN],(KW.o.mono (by simp)).mQ (.inr (aH _)) _ _ _ _ _ _ _ _ _,fun _=>⟨rfl,rfl,rfl⟩,fun e=>absurd e (by rw[cN];simp)⟩;simp[eG,QY,go_sem,OS,x0,x1,x2,x3,x4,x5,x6,x7,x8]
    .have b2':(s[k].toNat:Int)<=126:=(by omega);have mG:=aj b2;clear b2;go_wp2;refine⟨⟨k+1,by omega,by go_num,trivial,?_⟩,by simp[aG];omega⟩;rw[HF.o,az (by have:=HB.o;have:=mG.o;omega)]
  .have jZ:k=s.size:=(by omega);subst jZ;rw[uw]at yJ;have HF:ax (fb s s.size 0=none):=yJ;clear yJ aN;have hz:Nz s:=ab4 s HF.o;have lZr:=aE BZ.o;go_upto_region 10 with fail;have kR:Kp [] w (wr.alloc (dF s 0 0 0 p)):=KW.o.alloc _;have bR:(wr.alloc (dF s 0 0 0 p)).heap[wr.heap.size]?=some (dF s 0 0 0 p):=(by rw[aC,aA rfl]);(have bZ:(wr.alloc (dF s 0 0 0 p)).heap[w.heap.size]?=some cJ:=by rw[aC,az (bY lZr)];exact BZ.o);generalize wr.alloc (dF s 0 0 0 p)=W1 at *;generalize hr:wr.heap.size=r at *;have xy:w.heap.size<r:=lZr;have S1:St W1 s 0 0 0 p r bs fs vb vf:=⟨bR,HP.o.kp kR (by simp),fun hm=>by have:=HP.o.lt r hm;omega⟩;obtain⟨Jq,K1,VP⟩:=cR bZ kR S1;clear hr S1 kR bR bZ oy oz oB oC sR sS sU sV sX pF pG pH pI uU uV uW uX uY;go_wp2_with fail;refine(adK s 40 0 p r bs fs vb vf _ (aR s 40 0) rfl (by exact VP.o) hz hs (by omega) (by omega) (by omega) aei (fun m hm j bs' fs' eg dP w'' hj Cd _ _ hl h''=>(aiH aei s hz hs p r (ae bs) (by omega) m).2 j bs' fs' eg dP w'' h'' (by omega) hj Cd)).mono ?_;rintro _ w2 ⟨e,f,l,bs',fs',eg,dP,rfl,S2,k2,gw,xG,iW⟩;have nH:=aj (sC.o HF.o);have qz:=aj (V1 s hz 40 0 (by omega));generalize aR s 40 0=A at *;have K2:ax (Kp (foot p vb vf) w w2):=(K1.o.mono (by simp)).trans k2 (by intro y hy;rcases gH.1 hy with rfl|hy;exact .inr (by omega);exact .inl hy);have Br:w2.heap[w.heap.size]?=some cJ:=k2.keep Jq.o (by intro hm;rcases gH.1 hm with e|hm;omega;have:=HP.o.lt _ hm;omega);have yV:=aE Br;have OA:=aE S2.rd;(have lf2:∀g∈foot p eg dP,g<w2.heap.size:=S2.ps.lt);(have jN:ax (∀g∈foot p eg dP,g∈foot p vb vf\/w.heap.size<=g):=fun g hg=>by rcases gw g hg with e|e;exact .inl e;exact .inr (by have:=K1.o.size;omega));have nz:ax (w.heap.size∉foot p eg dP):=fun hm=>by
    rcases gw _ hm with e|e
    .have:=HP.o.lt _ e;omega
    .have:=K1.o.size;have:=aE Jq.o;omega
   go_upto_region 11 with fail;have k3:Kp [] w2 (w2.alloc (cZ e f l)):=(Kp.refl _ _).alloc _;have Rk:(w2.alloc (cZ e f l)).heap[w2.heap.size]?=some (cZ e f l):=(by rw[aC,aA rfl]);generalize hP:w2.heap.size=P at *;generalize w2.alloc (cZ e f l)=W3 at *;have S3:St W3 s A.j A.err A.pl p r bs' fs' eg dP:=⟨k3.keep S2.rd (by simp),S2.ps.kp k3 (by simp),S2.ap⟩;have Jr:=aj (k3.keep Br (by simp));have Jn:=aj Rk;have SH3:=aj S3;have K3:ax (Kp (foot p vb vf) w W3):=K2.o.trans k3 (by simp);have o6:=aj iW;have JU:=aj xG;have hzP:w.heap.size≠P:=(by omega);have hrP:r≠P:=(by omega);have hrz:w.heap.size≠r:=(by omega);clear S2 S3 k2 gw Br Rk k3 iW xG hP;rcases qz.o with⟨a1,a2,a3,a4,a5⟩|⟨a1,a2⟩
   .have jy:=SH3.o.rd;rw[a1,a2]at jy;by_cases hj:A.j=s.size
    .rw[hj]at jy;have qN:=aj jy;have cN:R=A:=(by rw[nH.o,az (by simp[a1]),aA hj]);clear jy;go_wp2_with fail;refine(yC s p r 0 0 _ (by exact qN.o)).mono ?_;rintro _ w4 ⟨rfl,n,rfl⟩;have Bs:(W3.drewN n).heap[w.heap.size]?=some cJ:=Jr.o;have bp5:(W3.drewN n).heap[P]?=some (cZ e f l):=Jn.o;have DZ:(W3.drewN n).heap[r]?=some (dF s s.size 0 0 p):=qN.o;have K5:ax (Kp (foot p vb vf) w (W3.drewN n)):=K3.o.drewN n;have P5:ax (dN (W3.drewN n) p bs' fs' eg dP):=SH3.o.ps.kp ((Kp.refl [] W3).drewN n) (by simp);generalize W3.drewN n=W5 at *;obtain⟨⟨oy,oz,oB,oC,sR,sS,sU,sV,sX⟩,pF,pG,pH,pI,uU,uV,uW,uX,uY⟩:=gC Bs;obtain⟨⟨Ut,Uu,pc2,pc3,pc4,pc5,pc6,pc7,pc8⟩,_⟩:=gC bp5;(have rc3:W5.cell? ⟨r,3,none⟩=some (.int .i64 0):=by rw[aF DZ];rfl);have Js:=aj Bs;clear Bs bp5 DZ;go_wp2;have e0:((((((((((W5.setCell ⟨w.heap.size,0,none⟩ (.bool e)).setCell ⟨w.heap.size,1,none⟩ (.int .u64 (wd f 0))).setCell ⟨w.heap.size,2,none⟩ (.int .u64 (wd f 1))).setCell ⟨w.heap.size,3,none⟩ (.int .u64 (wd f 2))).setCell ⟨w.heap.size,4,none⟩ (.int .u64 (wd f 3))).setCell ⟨w.heap.size,5,none⟩ (.int .u64 (wd l 0))).setCell ⟨w.heap.size,6,none⟩ (.int .u64 (wd l 1))).setCell ⟨w.heap.size,7,none⟩ (.int .u64 (wd l 2))).setCell ⟨w.heap.size,8,none⟩ (.int .u64 (wd l 3)))).heap[w.heap.size]?=some (cZ e f l):=by
      simp only[aQ,Js.o];simp[eD]
     obtain⟨⟨x0,x1,x2,x3,x4,x5,x6,x7,x8⟩,_⟩:=gC e0;refine cF (v:=.tuple #[dQ e f l,.int .i64 0,.int .i64 0]) ?_ rfl ⟨e,f,l,by rw[cN,a1,a2],K5.o.mQ (.inr (aH _)) _ _ _ _ _ _ _ _ _,fun h=>absurd (by rw[cN];exact a1) h,fun _=>⟨bs',fs',eg,dP,P5.o.kp ((Kp.refl [w.heap.size] _).mQ (.inl (by simp)) _ _ _ _ _ _ _ _ _) (by intro k hk;simp at hk;subst hk;exact nz.o),jN.o,(o6.o a1).1,by have:=JU.o;rw[cN];omega,(o6.o a1).2.1,(o6.o a1).2.2.1,by rw[cN];exact(o6.o a1).2.2.2⟩⟩;simp[eG,QY,go_sem,x0,x1,x2,x3,x4,x5,x6,x7,x8]
    .have qN:=aj jy;have cN:R=⟨5,A.j,0,aD.aX⟩:=(by rw[nH.o,az (by simp[a1]),az hj]);clear jy;go_wp2_with fail;refine(yB s A.j p r 0 0 _ (by exact qN.o) (by omega)).mono ?_;rintro _ w4 ⟨rfl,n,rfl⟩;(have rc1:W3.cell? ⟨r,1,none⟩=some (.int .i64 A.j):=by rw[aF qN.o];rfl);go_wp2_with fail;refine(NA s A.j p r 0 5 A.j _ (by exact qN.o)).mono ?_;rintro _ W5 ⟨rfl,DZ,k5⟩;have Bs:W5.heap[w.heap.size]?=some cJ:=k5.keep (by exact Jr.o) (by simp[hrz]);have K5:ax (Kp (foot p vb vf) w W5):=(K3.o.drewN n).trans k5 (by intro y hy;simp at hy;exact .inr (by omega));obtain⟨⟨oy,oz,oB,oC,sR,sS,sU,sV,sX⟩,pF,pG,pH,pI,uU,uV,uW,uX,uY⟩:=gC Bs;(have rc3:W5.cell? ⟨r,3,none⟩=some (.int .i64 5):=by rw[aF DZ];rfl);(have rc4:W5.cell? ⟨r,4,none⟩=some (.int .i64 A.j):=by rw[aF DZ];rfl);have Js:=aj Bs;clear Bs DZ k5 rc1;go_wp2_with fail;go_region
     all_goals
      have e0:((((((((((W5.setCell ⟨w.heap.size,0,none⟩ (.bool false)).setCell ⟨w.heap.size,1,none⟩ (.int .u64 0)).setCell ⟨w.heap.size,2,none⟩ (.int .u64 0)).setCell ⟨w.heap.size,3,none⟩ (.int .u64 0)).setCell ⟨w.heap.size,4,none⟩ (.int .u64 0)).setCell ⟨w.heap.size,5,none⟩ (.int .u64 0)).setCell ⟨w.heap.size,6,none⟩ (.int .u64 0)).setCell ⟨w.heap.size,7,none⟩ (.int .u64 0)).setCell ⟨w.heap.size,8,none⟩ (.int .u64 0))).drew.heap[w.heap.size]?=some cJ:=by
       simp only[aQ,eO,Js.o];simp[eD]
      go_wp2;obtain⟨⟨x0,x1,x2,x3,x4,x5,x6,x7,x8⟩,_⟩:=gC e0;refine cF (v:=.tuple #[dQ false 0 0,.int .i64 5,.int .i64 A.j]) ?_ rfl ⟨false,0,0,by rw[cN],(K5.o.mQ (.inr (aH _)) _ _ _ _ _ _ _ _ _).drew,fun _=>⟨rfl,rfl,rfl⟩,fun e=>absurd e (by rw[cN];first|exact HE.o|simp)⟩;simp[eG,QY,go_sem,OS,x0,x1,x2,x3,x4,x5,x6,x7,x8]
   .have jy:=SH3.o.rd;rw[a2]at jy;have qN:=aj jy;have cN:R=A:=(by rw[nH.o,aA a1]);have HE:=aj a1;(have cP:(A.err != 0)=true:=by simp[a1]);clear jy;go_wp2_with fail;refine(yC s p r A.err A.pl _ (by exact qN.o)).mono ?_;rintro _ w4 ⟨rfl,n,rfl⟩;have Bs:(W3.drewN n).heap[w.heap.size]?=some cJ:=Jr.o;have DZ:(W3.drewN n).heap[r]?=some (dF s s.size A.err A.pl p):=qN.o;have K5:ax (Kp (foot p vb vf) w (W3.drewN n)):=K3.o.drewN n;generalize W3.drewN n=W5 at *;obtain⟨⟨oy,oz,oB,oC,sR,sS,sU,sV,sX⟩,pF,pG,pH,pI,uU,uV,uW,uX,uY⟩:=gC Bs;(have rc3:W5.cell? ⟨r,3,none⟩=some (.int .i64 A.err):=by rw[aF DZ];rfl);(have rc4:W5.cell? ⟨r,4,none⟩=some (.int .i64 A.pl):=by rw[aF DZ];rfl);have Js:=aj Bs;clear Bs DZ a1;go_wp2_with fail;go_region
    all_goals
     have e0:((((((((((W5.setCell ⟨w.heap.size,0,none⟩ (.bool false)).setCell ⟨w.heap.size,1,none⟩ (.int .u64 0)).setCell ⟨w.heap.size,2,none⟩ (.int .u64 0)).setCell ⟨w.heap.size,3,none⟩ (.int .u64 0)).setCell ⟨w.heap.size,4,none⟩ (.int .u64 0)).setCell ⟨w.heap.size,5,none⟩ (.int .u64 0)).setCell ⟨w.heap.size,6,none⟩ (.int .u64 0)).setCell ⟨w.heap.size,7,none⟩ (.int .u64 0)).setCell ⟨w.heap.size,8,none⟩ (.int .u64 0))).drew.heap[w.heap.size]?=some cJ:=by
      simp only[aQ,eO,Js.o];simp[eD]
     go_wp2;obtain⟨⟨x0,x1,x2,x3,x4,x5,x6,x7,x8⟩,_⟩:=gC e0;refine cF (v:=.tuple #[dQ false 0 0,.int .i64 A.err,.int .i64 A.pl]) ?_ rfl ⟨false,0,0,by rw[cN],(K5.o.mQ (.inr (aH _)) _ _ _ _ _ _ _ _ _).drew,fun _=>⟨rfl,rfl,rfl⟩,fun e=>absurd e (by rw[cN];first|exact HE.o|simp)⟩;simp[eG,QY,go_sem,OS,x0,x1,x2,x3,x4,x5,x6,x7,x8]
theorem agA(s:ByteArray)(p:Nat)(bs fs:List Nat)(vb vf:aq)(w:ay)(h:dN w p bs fs vb vf)(hn:(ae bs)<=100):aI aB 34 #[.pointer (some ⟨p,0,none⟩),.string s] w (aau (cO s) p bs fs vb vf w):=by
 rcases eK 16 s.size with hs|hs
 .exact am5 s p bs fs vb vf w hs
 .exact am6 s p bs fs vb vf w h hs hn
theorem amV(s:ByteArray):∀(n:Nat) (L:aD) (i:Nat),(iQ s n L i).v.np=L.np/\i<=(iQ s n L i).j:=by
 intro n;induction n with
 |zero=>intro L i;exact⟨rfl,aH _⟩
 |succ n ih =>
  intro L i;unfold iQ;split
  .have:=ih (aD.star L) (i+1);exact⟨this.1,by omega⟩
  .split
   .have:=ih (aD.plus L) (i+1);exact⟨this.1,by omega⟩
   .split
    .have:=ih (aD.opt L) (i+1);exact⟨this.1,by omega⟩
    .exact⟨rfl,aH _⟩
theorem agx(s:ByteArray)(hz:Nz s):∀(n tag:Nat) (acc:aD) (i:Nat),(pp s n tag acc i).err=0->(pp s n tag acc i).v.np+i<=acc.np+(pp s n tag acc i).j:=by
 intro n;induction n with
 |zero=>intro tag acc i h;cases h
 |succ n ih =>
  intro tag acc i h;unfold pp at h |-
  dsimp only at h |-
  have e0:aD.aX.np=0:=rfl;split
  .rename_i t0;rw[aA t0]at h;split
   .rename_i g;rw[aA g]at h;split
    .rename_i e;rw[aA e]at h;exact absurd h e
    .rename_i e;rw[az e]at h;have a1:=ih 1 aD.aX (i+1) (by omega);have a2:=ih _ _ _ h;have e1:(aD.alt acc (pp s n 1 aD.aX (i+1)).v).np=acc.np+(pp s n 1 aD.aX (i+1)).v.np:=rfl;omega
   .exact aH _
  .rename_i t0;rw[az t0]at h;split
   .rename_i t1;rw[aA t1]at h;split
    .exact aH _
    .rename_i g;rw[az g]at h;split
     .rename_i e;rw[aA e]at h;exact absurd h e
     .rename_i e;rw[az e]at h;have a1:=ih 2 aD.aX i (by omega);have a2:=ih _ _ _ h;obtain⟨b1,b2⟩:=amV s 20 (pp s n 2 aD.aX i).v (pp s n 2 aD.aX i).j;have e1:(aD.cat acc (iQ s 20 (pp s n 2 aD.aX i).v (pp s n 2 aD.aX i).j).v).np=acc.np+(iQ s 20 (pp s n 2 aD.aX i).v (pp s n 2 aD.aX i).j).v.np:=rfl;omega
   .rename_i t1;rw[az t1]at h;split
    .rename_i g;rw[aA g]at h;split
     .rename_i e;rw[aA e]at h;exact absurd h e
     .rename_i e;rw[az e]at h;split
      .rename_i e2;rw[aA e2]at h;exact absurd h e2
      .rename_i e2;rw[az e2]at h;have a1:=ih 1 aD.aX (i+1) (by omega);have a2:=ih 0 _ (pp s n 1 aD.aX (i+1)).j (ur e2);split
       .rename_i e3;rw[aA e3]at h;cases h
       .show(pp s n 0 _ _).v.np+i<=acc.np+((pp s n 0 _ _).j+1);omega
    .rename_i g;rw[az g]at h;(have e1:∀m,(aD.set m).np=1:=fun _=>rfl);split
     .rename_i g2;rw[aA g2]at h;split
      .rename_i e;rw[aA e]at h;exact absurd h e
      .rename_i e;rcases Ur s (i+1) hz with q|q
       .show(aD.set _).np+i<=acc.np+(gG s (i+1)).j;rw[e1];omega
       .exact absurd q.1 e
     .rename_i g2;rw[az g2]at h;split
      .show(aD.set _).np+i<=acc.np+(i+1);rw[e1];omega
      .rename_i g3;rw[az g3]at h;split
       .rename_i g4;rw[aA g4]at h;split
        .rename_i g5;rw[aA g5]at h;cases h
        .show(aD.set _).np+i<=acc.np+(i+2);rw[e1];omega
       .rename_i g4;rw[az g4]at h;split
        .rename_i g5;rw[aA g5]at h;cases h
        .show(aD.set _).np+i<=acc.np+(i+1);rw[e1];omega
theorem anr(s:ByteArray)(h:(cO s).err=0):(cO s).v.np<=16:=by
 unfold cO at h |-
 split
 .exact bU _
 .rename_i hs;rw[az hs]at h;split
  .exact bU _
  .rename_i hf;rw[hf]at h;dsimp only at h;have hz:Nz s:=ab4 s hf;split
   .rename_i e;rw[aA e]at h;exact absurd h e
   .rename_i e;rw[az e]at h;split
    .rename_i ej;have key:(aR s 40 0).v.np<=(aR s 40 0).j:=by
      (unfold aR at e |-);split
      .rename_i e2;rw[aA e2]at e;exact absurd e2 e
      .rename_i e2;rw[az e2]at e;have a1:=agx s hz 40 1 aD.aX 0 (ur e2);have a2:=agx s hz 40 0 _ _ (ur e);have e0:aD.aX.np=0:=rfl;omega
     omega
    .exact bU _
section
variable{rs:Nat->ByteArray}{i:Nat}{bs fs:List Nat}{ps:List (Bool×Nat×Nat)}{lo:Nat->Nat}
structure oM(rs:Nat->ByteArray)(i:Nat)(bs fs:List Nat)(ps:List (Bool×Nat×Nat))(lo:Nat->Nat):Prop where
 len:(ae ps)=i
 zero:lo 0=0
 last:lo i=ae bs
 mono:∀k,k<i->lo k<=lo (k+1)
 hi:∀k,k<i->lo (k+1)<=lo k+min (cO (rs k)).j 16
 part:∀k,k<i->gI (fun q=>bs.getD q 0) (fun q=>fs.getD q 0) (lo k) (lo (k+1)) (eR ps k) (fR ps k) (lR ps k) (cO (rs k)).v
 ok:∀k,k<i->(cO (rs k)).err=0
theorem oM.le(h:oM rs i bs fs ps lo):∀k j,k<=j->j<=i->lo k<=lo j:=by
 intro k j hkj hj;induction j with
 |zero=>rw[show k=0 by omega];exact aH _
 |succ j ih =>
  by_cases e:k=j+1
  .rw[e];exact aH _
  .have:=ih (by omega) (by omega);have:=h.mono j (by omega);omega
theorem oM.few(h:oM rs i bs fs ps lo):∀k,k<=i->lo k<=16*k:=by
 intro k hk;induction k with
 |zero=>rw[h.zero];omega
 |succ k ih =>
  have:=ih (by omega);have:=h.hi k (by omega);omega
theorem oM.start(rs:Nat->ByteArray):oM rs 0 [] [] [] (fun _=>0):=⟨rfl,rfl,rfl,fun k hk=>by omega,fun k hk=>by omega,fun k hk=>by omega,fun k hk=>by omega⟩
theorem aew{l l':List Nat}{n q:Nat}(h:l'.take n=l)(hq:q<ae l):l'.getD q 0=l.getD q 0:=by
 subst h;rw[aO,aO,Eu,aA];rw[GJ]at hq;omega
theorem oM.step{bs' fs':List Nat}{e:Bool}{f l:Nat}(h:oM rs i bs fs ps lo)(hl:(ae fs)=ae bs)(h0:(cO (rs i)).err=0)(h1:(ae bs)<=ae bs')(h2:(ae bs')<=ae bs+min (cO (rs i)).j 16)(h3:bs'.take (ae bs)=bs)(h4:fs'.take (ae bs)=fs)(h5:gI (fun q=>bs'.getD q 0) (fun q=>fs'.getD q 0) (ae bs) (ae bs') e f l (cO (rs i)).v):oM rs (i+1) bs' fs' (ps ++ [(e,f,l)]) (fun k=>if k=i+1 then (ae bs') else lo k):=by
 have je:=h.len;have old:∀k,k<i->(ps ++ [(e,f,l)]).getD k (false,0,0)=ps.getD k (false,0,0):=fun k hk=>by
  rw[aO,iI (by omega),<-aO]
 have new:(ps ++ [(e,f,l)]).getD i (false,0,0)=(e,f,l):=by
  rw[aO,<-je];simp
 refine⟨by simp[je],by simp[h.zero],by simp,fun k hk=>?_,fun k hk=>?_,fun k hk=>?_,fun k hk=>?_⟩
 .show(if k=i+1 then (ae bs') else lo k)<=(if k+1=i+1 then (ae bs') else lo (k+1));rw[az (by omega)];by_cases q:k=i
  .rw[aA (by omega),q,h.last];exact h1
  .rw[az (by omega)];exact h.mono k (by omega)
 .show(if k+1=i+1 then (ae bs') else lo (k+1))<=(if k=i+1 then (ae bs') else lo k)+_;rw[az (show ¬k=i+1 by omega)];by_cases q:k=i
  .rw[aA (by omega),q,h.last];exact h2
  .rw[az (by omega)];exact h.hi k (by omega)
 .show gI _ _ (if k=i+1 then (ae bs') else lo k) (if k+1=i+1 then (ae bs') else lo (k+1)) _ _ _ _;rw[az (show ¬k=i+1 by omega)];by_cases q:k=i
  .subst q;rw[aA rfl,h.last];unfold eR fR lR;rw[new];exact h5
  .rw[az (by omega)];unfold eR fR lR;rw[old k (by omega)];(have jt:lo (k+1)<=ae bs:=by rw[<-h.last];exact h.le (k+1) i (by omega) (aH _));exact(h.part k (by omega)).congr (fun q hq=>aew h3 (by omega)) (fun q _ hq=>aew h4 (by omega))
 .by_cases q:k=i
  .rw[q];exact h0
  .exact h.ok k (by omega)
theorem oM.rules(h:oM rs i bs fs ps lo):ED (fun q=>bs.getD q 0) (fun q=>fs.getD q 0) (ae ps) lo (eR ps) (fR ps) (lR ps) (fun k=>(cO (rs k)).v.fV):=by
 rw[h.len];exact⟨fun k hk=>(h.part k hk).part,h.le⟩
theorem oM.which(h:oM rs i bs fs ps lo):∀k,k<=i->∀q,q<lo k->∃j,j<k/\lo j<=q/\q<lo (j+1):=by
 intro k;induction k with
 |zero=>intro _ q hq;rw[h.zero]at hq;omega
 |succ k ih =>
  intro hk q hq;by_cases e:lo k<=q
  .exact⟨k,by omega,e,hq⟩
  .obtain⟨j,h1,h2⟩:=ih (by omega) q (by omega);exact⟨j,by omega,h2⟩
theorem oM.small(h:oM rs i bs fs ps lo)(hl:(ae fs)=ae bs):(∀q,fs.getD q 0<2 ^ (ae bs))/\cH (fR ps) (ae ps)<2 ^ (ae bs):=by
 have sm:=h.rules.small;rw[h.len,h.last]at sm;refine⟨fun q=>?_,aka _ _ _ (fun k hk=>sm.1 k (by rw[h.len]at hk;exact hk))⟩;by_cases hq:q<ae bs
 .obtain⟨j,h1,h2,h3⟩:=h.which i (aH _) q (by rw[h.last];exact hq);exact sm.2 j q h1 h2 h3
 .rw[aO,iY (by omega)];exact GV _
theorem oM.big(h:oM rs i bs fs ps lo)(hl:(ae fs)=ae bs)(hi:i<=6):(ae bs)<=96/\(∀q,fs.getD q 0<2 ^ 256)/\cH (fR ps) (ae ps)<2 ^ 256:=by
 have e:=h.few i (aH _);rw[h.last]at e;have p:2 ^ (ae bs)<=2 ^ 256:=EA (by decide) (by omega);have s:=h.small hl;exact⟨by omega,fun q=>tC (s.1 q) p,tC s.2 p⟩
end
section
variable{S F:Nat->Nat}{ru:List Nat}{c s r:Nat}
structure j5(rs:Nat->ByteArray)(n:Nat)(bs fs:List Nat)(ps:List (Bool×Nat×Nat))(lo:Nat->Nat)(ts:List TD)(S:Nat->Nat)(ru:List Nat):Prop where
 rd:oM rs n bs fs ps lo
 fl:(ae fs)=ae bs
 tl:(ae ts)=n
 a:∀k,k<n->(ts.getD k dT).a=(cO (rs k)).v
 np:∀k,k<n->(ts.getD k dT).a.np=(ts.getD k dT).m
 bt:∀k,k<n->∀q,q<(ts.getD k dT).a.np->(ts.getD k dT).a.ie q=S (aZ ts k+q)
 ro:∀j p,aZ ts j<=p->p<aZ ts (j+1)->p<aZ ts (ae ts)->ru.getD p 0=j
section
variable{rs:Nat->ByteArray}{n:Nat}{bs fs:List Nat}{ps:List (Bool×Nat×Nat)}{lo:Nat->Nat}{ts:List TD}{S:Nat->Nat}{ru:List Nat}
theorem j5.base(h:j5 rs n bs fs ps lo ts S ru):∀k,k<=n->aZ ts k=lo k:=by
 intro k;induction k with
 |zero=>intro _;exact h.rd.zero.symm
 |succ k ih =>
  intro hk;show aZ ts k+(ts.getD k dT).m=lo (k+1);rw[ih (by omega),<-h.np k (by omega),h.a k (by omega),(h.rd.part k (by omega)).n]
theorem j5.len(h:j5 rs n bs fs ps lo ts S ru):aZ ts (ae ts)=ae bs:=by
 rw[h.tl,h.base n (aH _),h.rd.last]
theorem j5.which(h:j5 rs n bs fs ps lo ts S ru){p:Nat}(hp:p<ae bs):∃k,k<n/\lo k<=p/\p<lo (k+1):=by
 obtain⟨j,h1,h2,h3⟩:=h.rd.which n (aH _) p (by rw[h.rd.last];exact hp);exact⟨j,h1,h2,h3⟩
theorem j5.sets(h:j5 rs n bs fs ps lo ts S ru){p:Nat}(hp:p<ae bs):S p=bs.getD p 0:=by
 obtain⟨k,h1,h2,h3⟩:=h.which hp;have pg:=h.rd.part k h1;have e:=pg.by' p h2 h3
 have hn:=pg.n;rw[show bs.getD p 0=(cO (rs k)).v.ie (p-lo k) from e];have:=h.bt k h1 (p-lo k) (by rw[h.a k h1];omega);rw[h.a k h1,h.base k (by omega),show lo k+(p-lo k)=p by omega]at this;exact this.symm
theorem j5.fol(h:j5 rs n bs fs ps lo ts S ru){p:Nat}(hp:p<ae bs):jb ts (ae ts) p=fs.getD p 0:=by
 obtain⟨k,h1,h2,h3⟩:=h.which hp;have pg:=h.rd.part k h1;have key:∀i,k<i->i<=n->jb ts i p=(cO (rs k)).v.fo (lo k) p:=by
  intro i;induction i with
  |zero=>intro q;omega
  |succ i ih =>
   intro q1 q2;show(if aZ ts i<=p/\p<aZ ts i+(ts.getD i dT).a.np then(ts.getD i dT).a.fo (aZ ts i) p else jb ts i p)=_;have hb:aZ ts (i+1)=aZ ts i+(ts.getD i dT).m:=rfl;rw[h.np i (by omega),<-hb,h.base i (by omega),h.base (i+1) q2];by_cases e:i=k
   .subst e;rw[aA ⟨h2,h3⟩,h.a i h1]
   .rw[az (by have:=h.rd.le (k+1) i (by omega) (by omega);omega)];exact ih (by omega) (by omega)
 rw[h.tl,key n h1 (aH _)];exact(pg.BJ p h2 h3).symm
theorem j5.la(h:j5 rs n bs fs ps lo ts S ru){k:Nat}(hk:k<n):j4 ts k=lR ps k/\gR ts k=fR ps k:=by
 have pg:=h.rd.part k hk;unfold j4 gR;rw[h.a k hk,h.base k (by omega),pg.xF,pg.yD];exact⟨rfl,rfl⟩
theorem aj9{f g:Nat->Nat}:∀n,(∀k,k<n->f k=g k)->cH f n=cH g n:=by
 intro n h;apply Ex;intro q;rw[C1,Fa,Fa];constructor
 .rintro⟨i,h1,h2⟩;exact⟨i,h1,by rw[<-h i h1];exact h2⟩
 .rintro⟨i,h1,h2⟩;exact⟨i,h1,by rw[h i h1];exact h2⟩
theorem j5.first(h:j5 rs n bs fs ps lo ts S ru):cH (gR ts) (ae ts)=cH (fR ps) n:=by
 rw[h.tl];exact aj9 n (fun k hk=>(h.la hk).2)
theorem ag8{la:Nat}:∀p,(eJ S F la ru c s p).1.testBit r=true↔∃q,q<p/\(s.testBit q=true/\(S q).testBit c=true)/\(F q).testBit r=true:=by
 intro p;induction p with
 |zero=>simp[eJ]
 |succ p ih =>
  show((if s.testBit p=true/\(S p).testBit c=true then _ else eJ S F la ru c s p):Nat×Nat).1.testBit r=true↔_;by_cases h:s.testBit p=true/\(S p).testBit c=true
  .rw[aA h];show((eJ S F la ru c s p).1 ||| F p).testBit r=true↔_;rw[jD,pJ,ih];constructor
   .rintro(⟨q,h1,h2⟩|h1)
    .exact⟨q,by omega,h2⟩
    .exact⟨p,by omega,h,h1⟩
   .rintro⟨q,h1,h2,h3⟩;by_cases e:q=p
    .subst e;exact .inr h3
    .exact .inl ⟨q,by omega,h2,h3⟩
  .rw[az h,ih];constructor
   .rintro⟨q,h1,h2⟩;exact⟨q,by omega,h2⟩
   .rintro⟨q,h1,h2,h3⟩;by_cases e:q=p
    .subst e;exact absurd h2 h
    .exact⟨q,by omega,h2,h3⟩
theorem ag9{la:Nat}:∀p,(eJ S F la ru c s p).2.testBit r=true↔∃q,q<p/\(s.testBit q=true/\(S q).testBit c=true)/\la.testBit q=true/\ru.getD q 0=r:=by
 intro p;induction p with
 |zero=>simp[eJ]
 |succ p ih =>
  show((if s.testBit p=true/\(S p).testBit c=true then _ else eJ S F la ru c s p):Nat×Nat).2.testBit r=true↔_;by_cases h:s.testBit p=true/\(S p).testBit c=true
  .rw[aA h];show(if la.testBit p then(eJ S F la ru c s p).2 ||| 1 <<< ru.getD p 0 else(eJ S F la ru c s p).2).testBit r=true↔_;by_cases hl:la.testBit p=true
   .rw[aA hl,jD,pJ,ih,qM,ux,decide_eq_true_eq];constructor
    .rintro(⟨q,h1,h2⟩|h1)
     .exact⟨q,by omega,h2⟩
     .exact⟨p,by omega,h,hl,h1⟩
    .rintro⟨q,h1,h2,h3,h4⟩;by_cases e:q=p
     .subst e;exact .inr h4
     .exact .inl ⟨q,by omega,h2,h3,h4⟩
   .rw[az hl,ih];constructor
    .rintro⟨q,h1,h2⟩;exact⟨q,by omega,h2⟩
    .rintro⟨q,h1,h2,h3,h4⟩;by_cases e:q=p
     .subst e;exact absurd h3 hl
     .exact⟨q,by omega,h2,h3,h4⟩
  .rw[az h,ih];constructor
   .rintro⟨q,h1,h2⟩;exact⟨q,by omega,h2⟩
   .rintro⟨q,h1,h2,h3⟩;by_cases e:q=p
    .subst e;exact absurd h2 h
    .exact⟨q,by omega,h2,h3⟩
theorem aiK{a b:Nat}:a &&& b≠0↔∃q,a.testBit q=true/\b.testBit q=true:=by
 constructor
 .intro h;obtain⟨q,hq⟩:=Ul h;rw[GU,Bool.and_eq_true]at hq;exact⟨q,hq⟩
 .rintro⟨q,h1,h2⟩ e;have:(a &&& b).testBit q=true:=by rw[GU,h1,h2];rfl
  rw[e,M7]at this;cases this
theorem j5.step(h:j5 rs n bs fs ps lo ts S ru)(s:Nat×Nat)(c:Nat):xR S (jb ts (ae ts)) (cH (j4 ts) (ae ts)) ru (aZ ts (ae ts)) s c=sP bs fs (lR ps) n s c:=by
 have hl:=h.len;have cz:∀q,(s.1 &&& eW bs c (ae bs)).testBit q=true↔q<ae bs/\s.1.testBit q=true/\(S q).testBit c=true:=fun q=>by
  rw[SJ];constructor
  .rintro⟨h1,h2⟩;have:=RZ h2;exact⟨this,h1,by rw[h.sets this];exact h2⟩
  .rintro⟨h0,h1,h2⟩;exact⟨h1,by rw[<-h.sets h0];exact h2⟩
 refine Prod.ext ?_ ?_
 .apply Ex;intro r;rw[C1];show(eJ _ _ _ _ _ _ _).1.testBit r=true↔(ke fs (s.1 &&& eW bs c (ae bs)) (ae fs)).testBit r=true;rw[ag8,Hl];constructor
  .rintro⟨q,h1,h2,h3⟩;have hq:q<ae bs:=(by omega);exact⟨q,by rw[h.fl];exact hq,(cz q).2 ⟨hq,h2.1,h2.2⟩,by rw[<-h.fol hq];exact h3⟩
  .rintro⟨q,h1,h2,h3⟩;obtain⟨q1,q2,q3⟩:=(cz q).1 h2;exact⟨q,by omega,⟨q2,q3⟩,by rw[h.fol q1];exact h3⟩
 .apply Ex;intro r;rw[C1];show(eJ _ _ _ _ _ _ _).2.testBit r=true↔(qF (lR ps) (s.1 &&& eW bs c (ae bs)) n).testBit r=true;rw[ag9,UK,aiK];constructor
  .rintro⟨q,h1,h2,h3,h4⟩;have hq:q<ae bs:=(by omega);obtain⟨j,hj,hb⟩:=(Fa _ q _).1 h3;(have hj':j<n:=by rw[<-h.tl];exact hj);rw[(h.la hj').1]at hb;have iL:=(h.rd.part j hj').la q hb;have e:=h.ro j q (by rw[h.base j (by omega)];exact iL.1) (by rw[h.base (j+1) (by omega)];exact iL.2) h1;rw[e]at h4;subst h4;exact⟨hj',q,(cz q).2 ⟨hq,h2.1,h2.2⟩,hb⟩
  .rintro⟨hr,q,h1,h2⟩;obtain⟨q1,q2,q3⟩:=(cz q).1 h1;have iL:=(h.rd.part r hr).la q h2;refine⟨q,by omega,⟨q2,q3⟩,(Fa _ q _).2 ⟨r,by rw[h.tl];exact hr,by rw[(h.la hr).1];exact h2⟩,?_⟩;exact h.ro r q (by rw[h.base r (by omega)];exact iL.1) (by rw[h.base (r+1) (by omega)];exact iL.2) (by omega)
end
end
theorem af8{α:Type}[DecidableEq α]:∀(l m:List α),l.Nodup->(∀x∈l,x∈m)->ae l<=ae m:=by
 intro l;induction l with
 |nil=>intro m _ _;exact bU _
 |cons a l ih =>
  intro m hn hs;rw[List.nodup_cons]at hn;have ha:a∈m:=hs a GN;have h2:=ih (m.erase a) hn.2 (fun x hx=>by
   refine(List.mem_erase_of_ne (fun e=>hn.1 (by rw[<-e];exact hx))).2 (hs x (vq _ hx)))
  rw[List.length_erase_of_mem ha]at h2;have:0<ae m:=List.length_pos_of_mem ha;simp only[Dg];omega
theorem aot(bs fs:List Nat)(l:Nat->Nat)(n c:Nat):sP bs fs l n (0,0) c=(0,0):=by
 unfold sP;simp only[Nat.zero_and];refine Prod.ext ?_ ?_
 .apply Ex;intro r;rw[M7];cases e:(ke fs 0 (ae fs)).testBit r with
  |false=>rfl
  |true =>
   obtain⟨q,_,h,_⟩:=(Hl fs 0 r (ae fs)).1 e;rw[M7]at h;cases h
 .apply Ex;intro r;rw[M7];cases e:(qF l 0 n).testBit r with
  |false=>rfl
  |true =>
   have:=(UK l 0 r n).1 e;exact absurd (Nat.zero_and _) this.2
section
variable{rs:Nat->ByteArray}{n:Nat}{bs fs:List Nat}{ps:List (Bool×Nat×Nat)}{lo:Nat->Nat}{ts:List TD}{S:Nat->Nat}{ru:List Nat}
theorem j5.amM(h:j5 rs n bs fs ps lo ts S ru){L:List (Nat×Nat)}{rows:List (List Int)}{p m:Nat}(g:kH (xR S (jb ts (ae ts)) (cH (j4 ts) (ae ts)) ru (aZ ts (ae ts))) (cH (gR ts) (ae ts),0) p m L rows)(hr:(ae rows)=ae L):∀x:List Nat,(∀c∈x,c<256)->wu bs fs (lR ps) n (cH (fR ps) n,0) x∈L\/wu bs fs (lR ps) n (cH (fR ps) n,0) x=(0,0):=by
 have key:∀(x:List Nat) (s:Nat×Nat),(∀c∈x,c<256)->(s∈L\/s=(0,0))->wu bs fs (lR ps) n s x∈L\/wu bs fs (lR ps) n s x=(0,0):=by
  intro x;induction x with
  |nil=>intro s _ hs;exact hs
  |cons c x ih =>
   intro s hx hs;show wu bs fs (lR ps) n (sP bs fs (lR ps) n s c) x∈L\/_;refine ih _ (fun d hd=>hx d (vq _ hd)) ?_;rcases hs with hs|hs
   .obtain⟨i,hi,e⟩:=Df hs;(have e2:L.getD i (0,0)=s:=by rw[aO,bD hi,e];rfl);have ok:=g.ok i c (by omega) (hx c GN);rw[e2]at ok;rcases ok with⟨q,_⟩|⟨_,k,_,q⟩
    .right;rw[<-h.step];exact q
    .left;rw[<-h.step];exact qL q
   .right;rw[hs];exact aot _ _ _ _ _
 intro x hx;refine key x _ hx (.inl ?_);rw[<-h.first];exact qL g.zero
theorem j5.few(h:j5 rs n bs fs ps lo ts S ru){L:List (Nat×Nat)}{rows:List (List Int)}{p m:Nat}(g:kH (xR S (jb ts (ae ts)) (cH (j4 ts) (ae ts)) ru (aZ ts (ae ts))) (cH (gR ts) (ae ts),0) p m L rows)(hr:(ae rows)=ae L){T:List (Nat×Nat)}(hd:(T.map sv).Nodup)(hT:∀y∈T,yp bs fs ps y):(ae T)<=250:=by
 have je:(ae ps)=n:=h.rd.len;have nd:T.Nodup:=List.Pairwise.of_map sv (fun a b q e=>q (congrArg sv e)) hd;refine j8 (af8 T L nd (fun y hy=>?_)) g.few;obtain⟨⟨x,hx,e⟩,hz⟩:=hT y hy;rw[je]at e hz;rcases h.amM g hr x hx with q|q
 .rw[e];exact q
 .rw[<-e]at q;rcases hz with z|z
  .rw[z,<-h.first];exact qL g.zero
  .exact absurd q z
theorem j5.alz(h:j5 rs n bs fs ps lo ts S ru){T:List (Nat×Nat)}{cl:Nat->Nat}{nx:Nat->Nat->Int}{ac:Nat->Int}{C:Nat}(b:Ea bs fs (fR ps) (lR ps) n T cl nx ac C){y:Nat×Nat}(hy:yq (xR S (jb ts (ae ts)) (cH (j4 ts) (ae ts)) ru (aZ ts (ae ts))) (cH (gR ts) (ae ts),0) y):y∈T:=by
 have mem:∀i,i<ae T->T.getD i (0,0)∈T:=fun i hi=>by
  rw[aO,bD hi];exact nE hi
 induction hy with
 |zero=>rw[h.first,<-b.zero];exact mem 0 b.pos
 |step s c hs hc hn ih =>
  obtain⟨i,hi,e⟩:=Df ih;have e2:T.getD i (0,0)=s:=by rw[aO,bD hi,e];rfl
  rw[h.step]at hn |-
  rcases b.next i c hi hc with⟨q,_⟩|⟨k,_,hk,q⟩
  .rw[e2]at q;exact absurd q hn
  .rw[e2]at q;rw[<-q];exact mem k hk
theorem j5.aj2(h:j5 rs n bs fs ps lo ts S ru){T:List (Nat×Nat)}{cl:Nat->Nat}{nx:Nat->Nat->Int}{ac:Nat->Int}{C:Nat}(b:Ea bs fs (fR ps) (lR ps) n T cl nx ac C){L:List (Nat×Nat)}(hd:L.Nodup)(hL:∀y∈L,yq (xR S (jb ts (ae ts)) (cH (j4 ts) (ae ts)) ru (aZ ts (ae ts))) (cH (gR ts) (ae ts),0) y):(ae L)<=ae T :=
 af8 L T hd (fun y hy=>h.alz b (hL y hy))
end
section
variable{nx:Nat->Nat->Int}{ac:Nat->Int}{N:Nat}{ls:List Nat}{U:bw}
theorem acf{i k c:Nat}(h:iJ (pE nx ac N) (i:Int) (k:Int))(hc:c<256):iJ (pE nx ac N) (nx i c) (nx k c):=fun z hz=>by
 have:=h (c::z) (hz.cons hc)
 rw[yY,yY]at this
 exact this
theorem iJ.refl{T:bw}(a:Int):iJ T a a:=fun _ _=>rfl
theorem aov(h:VM nx ac N ls U)(hN:0<N)(ik:∀s c,s<N->c<256->-1<=nx s c/\nx s c<N)(jT:∀c,c<256->ls.getD c 0<256/\ls.getD (ls.getD c 0) 0=ls.getD c 0/\∀s,s<N->nx s (ls.getD c 0)=nx s c)(alive:∀s c,s<N->c<256->0<=nx s c->∃z,lQ z/\(pE nx ac N).o (nx s c) z≠-1)(reach:∀P:Nat->Prop,P 0->(∀s c t:Nat,s<N->c<256->P s->nx s c=t->P t)->∀s,s<N->P s):gL U (fun x=>(pE nx ac N).o 0 x):=by
 obtain⟨D,ld,aS,cl,ws,R,ap,sh,rj,SQ,cm,wi,hC,KJ,dw,ry,eP⟩:=h.ex;have apI:∀i k,i<N->k<N->((D i).testBit k=true↔Ap nx ac i k):=fun i k hi hk=>Ap.iff ap sh ik jT hi hk
 have lead:∀s,s<N->∃l:Nat,ld.getD s 0=l/\l<=s/\iJ (pE nx ac N) (l:Int) (s:Int)/\∀k:Nat,k<l->¬iJ (pE nx ac N) (k:Int) (s:Int):=fun s hs=>by
  obtain⟨l,h1,h2,h3,h4⟩:=SQ s hs;refine⟨l,h1,h2,?_,fun k hk q=>?_⟩
  .rcases h3 with e|e
   .rw[e];exact iJ.refl _
   .intro z hz;refine(an3 ik z s l hz hs (by omega) (fun a=>?_)).symm;rw[(apI s l hs (by omega)).2 a]at e;cases e
  .exact aiM ik alive ((apI s k hs (by omega)).1 (h4 k hk)) hs (by omega) q.symm
 have leq:∀a b,a<N->b<N->(ld.getD a 0=ld.getD b 0↔iJ (pE nx ac N) (a:Int) (b:Int)):=fun a b ha hb=>by
  obtain⟨l,h1,h2,h3,h4⟩:=lead a ha;obtain⟨l',k1,k2,k3,k4⟩:=lead b hb;rw[h1,k1];refine⟨fun e=>?_,fun e=>?_⟩
  .have:l=l':=(by omega);subst this;exact h3.symm.trans k3
  .rcases ym l l' with q|q|q
   .exact absurd (h3.trans e) (k4 l q)
   .rw[q]
   .exact absurd (k3.trans e.symm) (h4 l' q)
 have dead:∀s c,s<N->c<256->0<=nx s c->¬iJ (pE nx ac N) (-1) (nx s c):=fun s c hs hc h0 q=>by
  obtain⟨z,hz,cP⟩:=alive s c hs hc h0;have:=q z hz;rw[bw.Ai]at this;exact cP this.symm
 have pA:∀k,k<ae aS->aS.getD k 0<256:=fun k hk=>(cm.xN k hk).1
 have alk:∀c d,c<256->d<256->pZ nx ld N c d->∀i,i<N->iJ (pE nx ac N) (nx i c) (nx i d):=fun c d hc hd h i hi=>by
  have r1:=ik i c hi hc;have r2:=ik i d hi hd;obtain⟨h1,h2⟩:=h i hi;by_cases q:nx i c<0
  .have q2:=h1.1 q;rw[show nx i c=-1 by omega,show nx i d=-1 by omega];exact iJ.refl _
  ·(have q2:¬nx i d<0:=fun z=>q (h1.2 z));have e:=h2 (by omega);(obtain⟨a,ha⟩:∃a:Nat,nx i c=a:=⟨(nx i c).toNat,by omega⟩);(obtain⟨b,hb⟩:∃b:Nat,nx i d=b:=⟨(nx i d).toNat,by omega⟩);rw[ha,hb,mj,mj]at e;rw[ha,hb];exact(leq a b (by omega) (by omega)).1 e
 generalize Sl:(⟨cl,fun s k=>nx s (aS.getD k 0),ac,N,ae aS⟩:bw)=T2 at *;have O6:∀c,T2.cls c=cl c:=fun c=>by rw[<-Sl]
 have YN:∀s k,T2.nx s k=nx s (aS.getD k 0):=fun s k=>by rw[<-Sl]
 have ahe:∀s,T2.ac s=ac s:=fun s=>by rw[<-Sl]
 have UE:T2.N=N:=(by rw[<-Sl]);have F7:T2.C=ae aS:=(by rw[<-Sl]);have out:∀(z:List Nat) (s:Nat),lQ z->s<N->T2.o s z=(pE nx ac N).o s z:=by
  intro z;induction z with
  |nil=>intro s _ _;rw[T2.L1,OX,ahe]
  |cons c z ih =>
   intro s hz hs;have hc:=hz c (by simp);(have hz':lQ z:=fun d hd=>hz d (by simp[hd]));obtain⟨c1,c2,_,_⟩:=cm.lt c hc;rw[T2.OO,yY,O6,YN,alk c _ hc (pA _ c1) c2 s hs z hz'];have r2:=ik s _ hs (pA _ c1);by_cases q:nx s (aS.getD (cl c) 0)<0
   .rw[show nx s (aS.getD (cl c) 0)=-1 by omega,bw.Ai,bw.Ai]
   ·(obtain⟨a,ha⟩:∃a:Nat,nx s (aS.getD (cl c) 0)=a:=⟨(nx s (aS.getD (cl c) 0)).toNat,by omega⟩);rw[ha];exact ih a hz' (by omega)
 have Yi:∀(z:List Nat) (s:Int),lQ z->-1<=s->s<N->T2.o s z=(pE nx ac N).o s z:=fun z s hz h1 h2=>by
  by_cases q:s<0
  .rw[show s=-1 by omega,bw.Ai,bw.Ai]
  ·(obtain⟨a,rfl⟩:∃a:Nat,s=a:=⟨s.toNat,by omega⟩);exact out z a hz (by omega)
 have aco:∀a b:Int,-1<=a->a<N->-1<=b->b<N->(iJ T2 a b↔iJ (pE nx ac N) a b):=fun a b h1 h2 h3 h4 =>
  ⟨fun q z hz=>by rw[<-Yi z a hz h1 h2,<-Yi z b hz h3 h4];exact q z hz,fun q z hz=>by rw[Yi z a hz h1 h2,Yi z b hz h3 h4];exact q z hz⟩
 have plain:wQ T2:=by
  refine⟨by rw[UE];exact hN,fun c hc=>by rw[O6,F7];exact(cm.lt c hc).1,fun s k hs hk=>?_,fun k hk=>?_,fun c k hc hk=>?_⟩
  .rw[UE]at hs;rw[F7]at hk;rw[YN,UE];exact ik s _ hs (pA k hk)
  .rw[F7]at hk;exact⟨_,pA k hk,by rw[O6];exact(cm.xN k hk).2⟩
  .rw[O6]at hk;obtain⟨c1,_,_,c4⟩:=cm.lt c hc;have:=cm.inc k (cl c) hk c1;exact⟨aS.getD k 0,by omega,by rw[O6];exact(cm.xN k (by omega)).2⟩
 have getD:∀i v,ws[i]?=some v->ws.getD i 0=v:=fun i v e=>by rw[aO,e];rfl
 have CV:∀j,j<ae ws->ws.getD j 0<N:=fun j hj=>by have:=wi.lt _ (Wz hj);rw[UE]at this;exact this
 have pl:0<ae ws:=(fB.1 wi.first).1;have row:∀j k,j<ae ws->k<ae aS->(nx (ws.getD j 0) (aS.getD k 0)=-1/\R j k=-1)\/(0<=nx (ws.getD j 0) (aS.getD k 0)/\∃i:Nat,R j k=i/\i<ae ws/\iJ (pE nx ac N) (ws.getD i 0:Nat) (nx (ws.getD j 0) (aS.getD k 0))):=fun j k hj hk=>by
  have ij:=wi.row j k (.inl hj) (by rw[F7];exact hk);have r2:=ik _ _ (CV j hj) (pA k hk);unfold Aa at ij;rw[YN]at ij;by_cases e:nx (ws.getD j 0) (aS.getD k 0)=-1
  .rw[aA e]at ij;rcases ij with⟨_,z⟩|⟨i,_,v,z,_⟩
   .exact .inl ⟨e,z⟩
   .omega
  .rw[az e]at ij;(obtain⟨n,hn⟩:∃n:Nat,nx (ws.getD j 0) (aS.getD k 0)=n:=⟨(nx (ws.getD j 0) (aS.getD k 0)).toNat,by omega⟩);rw[hn,mj]at ij;rw[hn];obtain⟨l,l1,_,l3,_⟩:=lead n (by omega);rw[l1]at ij;rcases ij with⟨z1,z2⟩|⟨i,z1,v,z2,z3⟩
   .omega
   .refine .inr ⟨by omega,i,z1,(fB.1 z3).1,?_⟩;rw[getD i v z3,show v=l by omega];exact l3
 have shr:aaF T2 ws R:=by
  refine⟨getD 0 0 wi.first,pl,wi.nodup,wi.lt,fun j k hj hk=>?_,fun i h1 h2 t h3 h4 hs=>?_,fun t h1 h2=>?_,fun s k t u h1 h2 h3 h4 h5=>?_⟩
  .rw[F7]at hk;have r2:=ik _ _ (CV j hj) (pA k hk);rw[YN];rcases row j k hj hk with⟨e,z⟩|⟨e,i,z1,z2,z3⟩
   .rw[e];exact .inl ⟨iJ.refl _,z⟩
   .refine .inr ⟨fun q=>?_,i,z1,z2,?_⟩
    .exact dead _ _ (CV j hj) (pA k hk) e ((aco _ _ (by omega) (by omega) (by omega) (by omega)).1 q)
    .have:=CV i z2;exact(aco _ _ (by omega) (by omega) (by omega) (by omega)).2 z3
  .have hw:=CV i h2;have hs':=(aco _ _ (by omega) (by omega) (by omega) (by omega)).1 hs;by_cases q:t<0
   .rw[show t=-1 by omega]at hs';obtain⟨s,k,a,b,c,d⟩:=wi.xQ i h1 h2;rw[F7]at c;rcases row s k (by omega) c with⟨e,z⟩|⟨e,i',z1,z2,z3⟩
    .omega
    .have:i'=i:=(by omega);subst this;exact dead _ _ (CV s (by omega)) (pA k c) e (hs'.trans z3)
   ·(obtain⟨k,rfl⟩:∃k:Nat,t=k:=⟨t.toNat,by omega⟩);obtain⟨s,s1,s2⟩:=wi.Ot i h1 h2;rw[UE]at s1;obtain⟨l,l1,_,l3,l4⟩:=lead s s1;have:l=ws.getD i 0:=(by omega);rw[<-this]at hs' h4;exact l4 k (by omega) (hs'.trans l3)
  .obtain⟨s,k,a,b,c,d⟩:=wi.xQ t h1 h2;exact⟨s,k,a,c,d⟩
  .obtain⟨s',k',a,b,c,d⟩:=wi.Ay s k t u (.inl h1) h2 h3 h4 h5;refine⟨s',k',?_,b,c,d⟩;rcases a with z|⟨z,y⟩
   .exact z
   .omega
 have all:∀s,s<N->∃j,j<ae ws/\iJ (pE nx ac N) (s:Int) (ws.getD j 0:Nat):=by
  refine reach _ ⟨0,pl,by rw[getD 0 0 wi.first];exact iJ.refl _⟩ (fun s c t hs hc hP ht=>?_);obtain⟨j,hj,Oj⟩:=hP;obtain⟨c1,c2,_,_⟩:=cm.lt c hc;have q1:=acf Oj hc;have q2:=alk c _ hc (pA _ c1) c2 _ (CV j hj);rw[ht]at q1;rcases row j (cl c) hj c1 with⟨e,z⟩|⟨e,i,z1,z2,z3⟩
  .rw[e]at q2;have:=dead s c hs hc (by omega);rw[ht]at this;exact absurd ((q1.trans q2).symm) this
  .exact⟨i,z2,(q1.trans q2).trans z3.symm⟩
 have joi:Vk (ae ws) T2.C R (fun k=>k) T2.C:=by
  refine⟨fun k hk=>hk,fun m hm=>⟨m,hm,rfl⟩,fun k k' hk hk'=>⟨fun e j _=>by rw[show k=k' from e],fun e=>?_⟩,fun k m hk hm=>⟨m,hm,rfl⟩⟩;rw[F7]at hk hk';have one:∀k k',k<ae aS->k' < (ae aS)->(∀j,j<ae ws->R j k=R j k')->pZ nx ld N (aS.getD k 0) (aS.getD k' 0):=fun k k' hk hk' e i hi=>by
   obtain⟨j,hj,Oj⟩:=all i hi;have p1:=acf Oj (pA k hk);have p2:=acf Oj (pA k' hk');have r1:=ik i _ hi (pA k hk);have r2:=ik i _ hi (pA k' hk');have e2:=e j hj;rcases row j k hj hk with⟨a,z⟩|⟨a,i1,z1,z2,z3⟩
   .rcases row j k' hj hk' with⟨a',z'⟩|⟨a',i1',z1',z2',z3'⟩
    .rw[a]at p1;rw[a']at p2;(have n1:nx i (aS.getD k 0)<0:=ur fun q=>dead i _ hi (pA k hk) (by omega) p1.symm);(have n2:nx i (aS.getD k' 0)<0:=ur fun q=>dead i _ hi (pA k' hk') (by omega) p2.symm);exact⟨⟨fun _=>n2,fun _=>n1⟩,fun q=>by omega⟩
    .omega
   .rcases row j k' hj hk' with⟨a',z'⟩|⟨a',i1',z1',z2',z3'⟩
    .omega
    .have ei:i1=i1':=(by omega);subst ei;(have n1:0<=nx i (aS.getD k 0):=ur fun q=>dead _ _ (CV j hj) (pA k hk) a (by rw[show nx i (aS.getD k 0)=-1 by omega]at p1;exact p1));(have n2:0<=nx i (aS.getD k' 0):=ur fun q=>dead _ _ (CV j hj) (pA k' hk') a' (by rw[show nx i (aS.getD k' 0)=-1 by omega]at p2;exact p2));refine⟨⟨fun _=>by omega,fun _=>by omega⟩,fun _=>?_⟩;have sm:=(p1.trans z3.symm).trans (z3'.trans p2.symm);(obtain⟨x,hx⟩:∃x:Nat,nx i (aS.getD k 0)=x:=⟨(nx i (aS.getD k 0)).toNat,by omega⟩);(obtain⟨y,hy⟩:∃y:Nat,nx i (aS.getD k' 0)=y:=⟨(nx i (aS.getD k' 0)).toNat,by omega⟩);rw[hx,hy,mj,mj];rw[hx,hy]at sm;exact(leq x y (by omega) (by omega)).2 sm
  have a1:=one k k' hk hk' e;show k=k';rcases ym k k' with q|q|q
  .have:=(cm.lt _ (pA k' hk')).2.2.1;rw[(cm.xN k' hk').2]at this;exact absurd a1.symm (this k q)
  .exact q
  .have:=(cm.lt _ (pA k hk)).2.2.1;rw[(cm.xN k hk).2]at this;exact absurd a1 (this k' q)
 refine(af3 plain shr joi (U:=U) (by rw[F7];exact hC) KJ (fun c hc=>by rw[O6];exact dw c hc) (fun j k hj hk=>ry j k hj (by rw[F7]at hk;exact hk)) (fun j hj=>by rw[ahe];exact eP j hj)).congr (fun x hx=>out x 0 hx hN)
end
section
variable{m b:Nat}
inductive EN (lo hi:Nat) (F:Nat->Nat) (la:Nat):Nat->Prop where
 |last (p:Nat) (h1:lo<=p) (h2:p<hi) (h:la.testBit p=true):EN lo hi F la p
 |step (p q:Nat) (h1:lo<=p) (h2:p<hi) (h:(F p).testBit q=true) (k:EN lo hi F la q):EN lo hi F la p
theorem EN.to{lo hi:Nat}{F:Nat->Nat}{la p:Nat}{P:Nat->Prop}(h:EN lo hi F la p)(hl:∀p,lo<=p->p<hi->la.testBit p=true->P p)(hs:∀p q,lo<=p->p<hi->(F p).testBit q=true->P q->P p):P p:=by
 induction h with
 |last p h1 h2 h=>exact hl p h1 h2 h
 |step p q h1 h2 h _ ih=>exact hs p q h1 h2 h ih
theorem aD.Wu:∀(a:aD) (lo:Nat),a.em=false->∃q,lo<=q/\q<lo+a.np/\(a.fi lo).testBit q=true:=by
 intro a;induction a with
 |aX=>intro lo h;cases h
 |set m=>intro lo _;exact⟨lo,aH _,Nat.lt_succ_self _,by simp[aD.fi]⟩
 |cat a b iha ihb =>
  intro lo h;have h':(a.em && b.em)=false:=h;cases ea:a.em
  .obtain⟨q,h1,h2,h3⟩:=iha lo ea;refine⟨q,h1,?_,?_⟩
   .show q<lo+(a.np+b.np);omega
   .show(if a.em then a.fi lo ||| b.fi (lo+a.np) else a.fi lo).testBit q=true;rw[ea];exact h3
  .have eb:b.em=false:=(by simpa [ea]using h');obtain⟨q,h1,h2,h3⟩:=ihb (lo+a.np) eb;refine⟨q,by omega,?_,?_⟩
   .show q<lo+(a.np+b.np);omega
   .show(if a.em then a.fi lo ||| b.fi (lo+a.np) else a.fi lo).testBit q=true;rw[ea,aA rfl,jD,h3,Gk]
 |alt a b iha ihb =>
  intro lo h;have h':(a.em || b.em)=false:=h;have ea:a.em=false:=by cases e:a.em<;>simp_all
  obtain⟨q,h1,h2,h3⟩:=iha lo ea;refine⟨q,h1,?_,?_⟩
  .show q<lo+(a.np+b.np);omega
  .show(a.fi lo ||| b.fi (lo+a.np)).testBit q=true;rw[jD,h3,Px]
 |star a _=>intro lo h;cases h
 |plus a iha=>intro lo h;exact iha lo h
 |opt a _=>intro lo h;cases h
theorem aD.acG:∀(a:aD) (lo p:Nat),lo<=p->p<lo+a.np->EN lo (lo+a.np) (a.fo lo) (a.la lo) p:=by
 intro a;induction a with
 |aX=>intro lo p h1 h2;exact absurd h2 (by show ¬p<lo+0;omega)
 |set m =>
  intro lo p h1 h2;have h2':p<lo+1:=h2;have:p=lo:=(by omega);subst this;exact .last p h1 h2 (by simp[aD.la])
 |cat a b iha ihb =>
  intro lo p h1 h2;have h2':p<lo+(a.np+b.np):=h2;have fa:∀q,q<lo+a.np->(aD.cat a b).fo lo q=if (a.la lo).testBit q then a.fo lo q ||| b.fi (lo+a.np) else a.fo lo q:=fun q hq=>by
   show(if q<lo+a.np then _ else _)=_;rw[aA hq]
  have fb:∀q,lo+a.np<=q->(aD.cat a b).fo lo q=b.fo (lo+a.np) q:=fun q hq=>by
   show(if q<lo+a.np then _ else _)=_;rw[az (by omega)]
  have hb:∀q,lo+a.np<=q->q<lo+(a.np+b.np)->EN lo (lo+(a.np+b.np)) ((aD.cat a b).fo lo) ((aD.cat a b).la lo) q:=fun q q1 q2=>by
   refine(ihb (lo+a.np) q q1 (by omega)).to (fun p p1 p2 hp=>?_) (fun p q p1 p2 hp hq=>?_)
   .refine .last p (by omega) (by omega) ?_;show(if b.em then a.la lo ||| b.la (lo+a.np) else b.la (lo+a.np)).testBit p=true;cases b.em
    .exact hp
    .rw[aA rfl,jD,hp,Gk]
   .exact .step p q (by omega) (by omega) (by rw[fb p p1];exact hp) hq
  by_cases hp:p<lo+a.np
  .refine(iha lo p h1 hp).to (fun p p1 p2 hp=>?_) (fun p q p1 p2 hp hq=>?_)
   .cases eb:b.em
    .obtain⟨q,q1,q2,q3⟩:=b.Wu (lo+a.np) eb;refine .step p q p1 (by show p<lo+(a.np+b.np);omega) ?_ (hb q q1 (by omega));rw[fa p p2,aA hp,jD,q3,Gk]
    .refine .last p p1 (by show p<lo+(a.np+b.np);omega) ?_;show(if b.em then a.la lo ||| b.la (lo+a.np) else b.la (lo+a.np)).testBit p=true;rw[eb,aA rfl,jD,hp,Px]
   .refine .step p q p1 (by show p<lo+(a.np+b.np);omega) ?_ hq;rw[fa p p2];by_cases e:(a.la lo).testBit p=true
    .rw[aA e,jD,hp,Px]
    .rw[az e];exact hp
  .exact hb p (by omega) h2'
 |alt a b iha ihb =>
  intro lo p h1 h2;have h2':p<lo+(a.np+b.np):=h2;by_cases hp:p<lo+a.np
  .refine(iha lo p h1 hp).to (fun p p1 p2 hp=>?_) (fun p q p1 p2 hp hq=>?_)
   .refine .last p p1 (by show p<lo+(a.np+b.np);omega) ?_;show(a.la lo ||| b.la (lo+a.np)).testBit p=true;rw[jD,hp,Px]
   .refine .step p q p1 (by show p<lo+(a.np+b.np);omega) ?_ hq;show(if p<lo+a.np then a.fo lo p else b.fo (lo+a.np) p).testBit q=true;rw[aA p2];exact hp
  .refine(ihb (lo+a.np) p (by omega) (by omega)).to (fun p p1 p2 hp=>?_) (fun p q p1 p2 hp hq=>?_)
   .refine .last p (by omega) (by show p<lo+(a.np+b.np);omega) ?_;show(a.la lo ||| b.la (lo+a.np)).testBit p=true;rw[jD,hp,Gk]
   .refine .step p q (by omega) (by show p<lo+(a.np+b.np);omega) ?_ hq;show(if p<lo+a.np then a.fo lo p else b.fo (lo+a.np) p).testBit q=true;rw[az (by omega)];exact hp
 |star a iha =>
  intro lo p h1 h2;refine(iha lo p h1 h2).to (fun p p1 p2 hp=>.last p p1 p2 hp) (fun p q p1 p2 hp hq=>.step p q p1 p2 ?_ hq);show(if (a.la lo).testBit p then a.fo lo p ||| a.fi lo else a.fo lo p).testBit q=true;by_cases e:(a.la lo).testBit p=true
  .rw[aA e,jD,hp,Px]
  .rw[az e];exact hp
 |plus a iha =>
  intro lo p h1 h2;refine(iha lo p h1 h2).to (fun p p1 p2 hp=>.last p p1 p2 hp) (fun p q p1 p2 hp hq=>.step p q p1 p2 ?_ hq);show(if (a.la lo).testBit p then a.fo lo p ||| a.fi lo else a.fo lo p).testBit q=true;by_cases e:(a.la lo).testBit p=true
  .rw[aA e,jD,hp,Px]
  .rw[az e];exact hp
 |opt a iha=>intro lo p h1 h2;exact iha lo p h1 h2
def aD.full(a:aD):Prop:=∀q,q<a.np->∃c,c<256/\(a.ie q).testBit c=true
theorem aD.NJ:aD.aX.full:=fun q hq=>absurd hq (Vz q)
theorem aD.Ww{c:Nat}(hc:c<256)(h:m.testBit c=true):(aD.set m).full:=fun _ _=>⟨c,hc,h⟩
theorem aD.ako{a b:aD}(ha:a.full)(hb:b.full):(aD.cat a b).full:=fun q hq=>by
 have hq':q<a.np+b.np:=hq
 show ∃c,c<256/\(if q<a.np then a.ie q else b.ie (q-a.np)).testBit c=true
 by_cases e:q<a.np
 .rw[aA e];exact ha q e
 .rw[az e];exact hb (q-a.np) (by omega)
theorem aD.akn{a b:aD}(ha:a.full)(hb:b.full):(aD.alt a b).full:=fun q hq=>by
 have hq':q<a.np+b.np:=hq
 show ∃c,c<256/\(if q<a.np then a.ie q else b.ie (q-a.np)).testBit c=true
 by_cases e:q<a.np
 .rw[aA e];exact ha q e
 .rw[az e];exact hb (q-a.np) (by omega)
theorem amT(s:ByteArray):∀(n:Nat) (L:aD) (i:Nat),L.full->(iQ s n L i).v.full:=by
 intro n;induction n with
 |zero=>intro L i h;exact h
 |succ n ih =>
  intro L i h;unfold iQ;split
  .exact ih _ _ h
  .split
   .exact ih _ _ h
   .split
    .exact ih _ _ h
    .exact h
theorem ag2(a c:Nat):∀k,(dY a k).testBit c=true↔a<=c/\c<k:=by
 intro k;induction k with
 |zero=>simp[dY]
 |succ k ih =>
  unfold dY;by_cases h:a<=k
  .rw[aA h,jD,pJ,ih,qM,ux];simp only[decide_eq_true_eq];omega
  .rw[az h,ih];omega
theorem amS(s:ByteArray)(i:Nat)(h:(bI s i).err=0):0<(bI s i).v/\(bI s i).v<256:=by
 have g1:=kj s i;have g2:=kj s (i+1);unfold bI at h |-
 split
 .rename_i e;rw[aA e]at h;cases h
 .rename_i e;rw[az e]at h;split
  .rename_i e2;rw[aA e2]at h;split
   .rename_i e3;rw[aA e3]at h;cases h
   .rename_i e3;show 0<gt s (i+1)/\gt s (i+1)<256;omega
  .rename_i e2;rw[az e2]at h;split
   .rename_i e3;rw[aA e3]at h;cases h
   .show 0<gt s i/\gt s i<256;omega
def Zz(m:Nat):Prop:=(∃c,c<256/\m.testBit c=true)/\m.testBit 0=false
theorem ael{a:Nat}(h0:0<a)(ha:a<256)(h:a<=b):Zz (dY a (b+1)):=by
 refine⟨⟨a,ha,(ag2 a a (b+1)).2 ⟨aH _,by omega⟩⟩,?_⟩;cases e:(dY a (b+1)).testBit 0
 .rfl
 .have:=(ag2 a 0 (b+1)).1 e;omega
theorem amR(s:ByteArray)(i:Nat)(h:(dz s i).err=0):Zz (dz s i).v:=by
 unfold dz at h |-
 dsimp only at h |-
 by_cases e1:(bI s i).err≠0
 .rw[aA e1]at h;exact absurd h e1
 .rw[az e1]at h |-
  have v1:=amS s i (by omega);by_cases e2:gt s (bI s i).j=45
  ·(rw[aA e2]at h |-);by_cases e3:(bI s ((bI s i).j+1)).err≠0
   .rw[aA e3]at h;exact absurd h e3
   ·(rw[az e3]at h |-);by_cases e4:(bI s ((bI s i).j+1)).v<(bI s i).v
    .rw[aA e4]at h;cases h
    .rw[az e4];exact ael v1.1 v1.2 (by omega)
  .rw[az e2];exact ael v1.1 v1.2 (aH _)
theorem agq(s:ByteArray):∀(n acc i:Nat),acc.testBit 0=false->(gg s n acc i).err=0->Zz (gg s n acc i).v:=by
 intro n;induction n with
 |zero=>intro acc i _ h;cases h
 |succ n ih =>
  intro acc i ha h;unfold gg at h |-
  dsimp only at h |-
  by_cases e1:(dz s i).err≠0
  .rw[aA e1]at h;exact absurd h e1
  ·(rw[az e1]at h |-);obtain⟨⟨c,hc,hb⟩,h0⟩:=amR s i (by omega);by_cases e2:gt s (dz s i).j=0
   .rw[aA e2]at h;cases h
   ·(rw[az e2]at h |-);by_cases e3:gt s (dz s i).j=93
    .rw[aA e3];exact⟨⟨c,hc,by show(acc ||| (dz s i).v).testBit c=true;rw[jD,hb,Gk]⟩,by show(acc ||| (dz s i).v).testBit 0=false;rw[jD,ha,h0];rfl⟩
    ·(rw[az e3]at h |-);exact ih _ _ (by rw[jD,ha,h0];rfl) h
theorem amX(s:ByteArray)(i:Nat)(h:(gG s i).err=0):(aD.set (gG s i).v).full:=by
 unfold gG at h |-
 dsimp only at h |-
 by_cases e1:gt s i=94
 .rw[aA e1]at h |-
  by_cases e2:(gg s 20 0 (i+1)).err≠0
  .rw[aA e2]at h;exact absurd h e2
  .rw[az e2];have f:=agq s 20 0 (i+1) (by simp) (by omega);exact aD.Ww (c:=0) (by decide) (by show(kZ _).testBit 0=true;rw[Rx,f.2];rfl)
 .rw[az e1]at h |-
  obtain⟨⟨c,hc,hb⟩,_⟩:=agq s 20 0 i (by simp) h;exact aD.Ww hc hb
theorem aet(s:ByteArray)(i:Nat):(aD.set (1 <<< gt s i)).full:=aD.Ww (kj s i) (by rw[qM,ux];simp)
theorem agw(s:ByteArray):∀(n tag:Nat) (acc:aD) (i:Nat),acc.full->(pp s n tag acc i).v.full:=by
 intro n;induction n with
 |zero=>intro tag acc i h;exact h
 |succ n ih =>
  intro tag acc i h;unfold pp;dsimp only;have f0:=ih 1 aD.aX (i+1) aD.NJ;split
  .split
   .split
    .exact f0
    .exact ih _ _ _ (aD.akn h f0)
   .exact h
  .split
   .split
    .exact h
    .have f2:=ih 2 aD.aX i aD.NJ;split
     .exact f2
     .exact ih _ _ _ (aD.ako h (amT s 20 _ _ f2))
   .split
    .split
     .exact f0
     .have f3:=ih 0 _ (pp s n 1 aD.aX (i+1)).j f0;split
      .exact f3
      .split
       .exact h
       .exact f3
    .split
     .by_cases e:(gG s (i+1)).err≠0
      .rw[aA e];exact h
      .rw[az e];exact amX s (i+1) (by omega)
     .split
      .exact aD.Ww (c:=0) (by decide) (by show(kZ _).testBit 0=true;rw[Rx];rfl)
      .split
       .split
        .exact h
        .exact aet s (i+1)
       .split
        .exact h
        .exact aet s i
theorem adF(s:ByteArray)(n i:Nat):(aR s n i).v.full:=by
 unfold aR;have f:=agw s n 1 aD.aX i aD.NJ;split
 .exact f
 .exact agw s n 0 _ _ f
theorem adQ{x:Nat}(h:x.testBit b=true)(hx:x<2 ^ m):b<m:=by
 rcases eK b m with q|q
 .exact q
 .have:=Nat.testBit_lt_two_pow (tC hx (EA (by decide) q));rw[this]at h;cases h
theorem anq(s:ByteArray):(cO s).v.full:=by
 unfold cO;split
 .exact aD.NJ
 .split
  .exact aD.NJ
  .split
   .exact adF s 40 0
   .split
    .exact adF s 40 0
    .exact aD.NJ
theorem aeu{L:List (Nat×Nat)}{i:Nat}(hi:i<ae L):L.getD i (0,0)∈L:=by
 rw[aO,bD hi];exact nE hi
section
variable{rs:Nat->ByteArray}{n:Nat}{bs fs:List Nat}{ps:List (Bool×Nat×Nat)}{lo:Nat->Nat}{ts:List TD}{S:Nat->Nat}{ru:List Nat}{L:List (Nat×Nat)}{rows:List (List Int)}{p m:Nat}
abbrev xh(ts:List TD)(S:Nat->Nat)(ru:List Nat):Nat×Nat->Nat->Nat×Nat:=xR S (jb ts (ae ts)) (cH (j4 ts) (ae ts)) ru (aZ ts (ae ts))
noncomputable abbrev Sc (ts:List TD) (L:List (Nat×Nat)) (rows:List (List Int)):bw:=pE (fun i c=>(rows.getD i []).getD c 0) (mZ (ae ts) L) (ae L)
theorem kH.built(h:j5 rs n bs fs ps lo ts S ru)(g:kH (xh ts S ru) (cH (gR ts) (ae ts),0) p m L rows)(hr:(ae rows)=ae L):Ea bs fs (fR ps) (lR ps) n L (fun c=>c) (fun i c=>(rows.getD i []).getD c 0) (mZ (ae ts) L) 256:=by
 have pos:0<ae L:=(fB.1 g.zero).1;refine⟨pos,fun c hc=>hc,fun s k hs hk=>?_,?_,fun s c hs hc=>?_,fun s hs=>?_⟩
 .rcases g.ok s k (by omega) hk with⟨_,e⟩|⟨_,q,e,hq⟩
  .show -1<=(rows.getD s []).getD k 0/\(rows.getD s []).getD k 0<ae L;omega
  .have:=(fB.1 hq).1;show -1<=(rows.getD s []).getD k 0/\(rows.getD s []).getD k 0<ae L;omega
 .rw[aO,g.zero,h.first];rfl
 .rw[<-h.step];rcases g.ok s c (by omega) hc with⟨e1,e⟩|⟨_,q,e,hq⟩
  .exact .inl ⟨e1,e⟩
  .exact .inr ⟨q,e,(fB.1 hq).1,by rw[aO,hq];rfl⟩
 .have:=Q4 (ae ts) L s;rw[h.tl]at this |-
  exact this
theorem kH.told(h:j5 rs n bs fs ps lo ts S ru)(g:kH (xh ts S ru) (cH (gR ts) (ae ts),0) p m L rows)(hr:(ae rows)=ae L):∀x,lQ x->(Sc ts L rows).o 0 x=Go.Proofs.YtbjdkbcfpmeneaaGreat.told (fun k=>(cO (rs k)).v.fV) n x:=by
 have rl:=h.rd.rules;rw[h.rd.len]at rl;refine uz.told (T:=Sc ts L rows) ((kH.built h g hr).ok rl) ?_;show mZ (ae ts) L 0=-1;have z:L.getD 0 (0,0)=(cH (gR ts) (ae ts),0):=by rw[aO,g.zero];rfl
 rcases Q4 (ae ts) L 0 with⟨e,_⟩|⟨i,_,_,e,_⟩
 .exact e
 .rw[z]at e;simp at e
theorem kH.reach(g:kH (xh ts S ru) (cH (gR ts) (ae ts),0) p m L rows)(hr:(ae rows)=ae L)(P:Nat->Prop)(h0:P 0)(hs:∀s c t:Nat,s<ae L->c<256->P s->(rows.getD s []).getD c 0=t->P t):∀s,s<ae L->P s:=by
 have key:∀y,yq (xh ts S ru) (cH (gR ts) (ae ts),0) y->∃i,L[i]?=some y/\P i:=fun y hy=>by
  induction hy with
  |zero=>exact⟨0,g.zero,h0⟩
  |step s c _ hc hn ih =>
   obtain⟨i,hi,hP⟩:=ih;have hl:=(fB.1 hi).1;(have eL:L.getD i (0,0)=s:=by rw[aO,hi];rfl);rcases g.ok i c (by omega) hc with⟨e1,_⟩|⟨_,k,e,hk⟩
   .rw[eL]at e1;exact absurd e1 hn
   .rw[eL]at hk;exact⟨k,hk,hs i c k hl hc hP e⟩
 intro s Ll;obtain⟨i,hi,hP⟩:=key _ (g.nK _ (nE Ll));obtain⟨hl,e⟩:=fB.1 hi;rw[(Vo g.nd).1 e]at hP;exact hP
theorem j5.acG(h:j5 rs n bs fs ps lo ts S ru){p:Nat}(hp:p<ae bs):EN 0 (ae bs) (jb ts (ae ts)) (cH (j4 ts) (ae ts)) p:=by
 obtain⟨k,h1,h2,h3⟩:=h.which hp;have pg:=h.rd.part k h1;have iu:lo (k+1)<=ae bs:=by rw[<-h.rd.last];exact h.rd.le (k+1) n h1 (aH _)
 have hn:=pg.n;refine((cO (rs k)).v.acG (lo k) p h2 (by omega)).to (fun q q1 q2 hq=>?_) (fun q r q1 q2 hq hr=>?_)
 .refine .last q (bU _) (by omega) ((Fa _ _ _).2 ⟨k,by rw[h.tl];exact h1,?_⟩);rw[(h.la h1).1,pg.xF];exact hq
 .refine .step q r (bU _) (by omega) ?_ hr;rw[h.fol (by omega)];have:=pg.BJ q q1 (by omega);rw[show fs.getD q 0=_ from this];exact hq
theorem j5.full(h:j5 rs n bs fs ps lo ts S ru){p:Nat}(hp:p<ae bs):∃c,c<256/\(S p).testBit c=true:=by
 obtain⟨k,h1,h2,h3⟩:=h.which hp;have pg:=h.rd.part k h1;have hn:=pg.n;have:=pg.by' p h2 h3
 rw[h.sets hp,show bs.getD p 0=_ from this];exact anq (rs k) (p-lo k) (by omega)
theorem kH.alive(h:j5 rs n bs fs ps lo ts S ru)(g:kH (xh ts S ru) (cH (gR ts) (ae ts),0) (aZ ts (ae ts)) (ae ts) L rows)(hr:(ae rows)=ae L)(s c:Nat)(hs:s<ae L)(hc:c<256)(h0:0<=(rows.getD s []).getD c 0):∃z,lQ z/\(Sc ts L rows).o ((rows.getD s []).getD c 0) z≠-1:=by
 have dD:=h.len;have atr:∀t:Nat,t<ae L->(L.getD t (0,0)).2≠0->(Sc ts L rows).o t []≠-1:=fun t ht cP=>by
  rw[OX];obtain⟨b,hb⟩:=Ul cP;have Sq:b<ae ts:=adQ hb (g.sm _ (aeu ht)).2;rcases Q4 (ae ts) L t with⟨_,e⟩|⟨i,e,_⟩
  .rw[e b Sq]at hb;cases hb
  .rw[e];omega
 have key:∀p,EN 0 (ae bs) (jb ts (ae ts)) (cH (j4 ts) (ae ts)) p->∀t:Nat,t<ae L->(L.getD t (0,0)).1.testBit p=true->∃z,lQ z/\(Sc ts L rows).o t z≠-1:=fun p hp=>by
  induction hp with
  |last p p1 p2 hl =>
   intro t ht hb;obtain⟨d,hd,vM⟩:=h.full p2;(have Jd:((xh ts S ru (L.getD t (0,0)) d).2).testBit (ru.getD p 0)=true:=ag9 _ |>.2 ⟨p,by omega,⟨hb,vM⟩,hl,rfl⟩);rcases g.ok t d (by omega) hd with⟨e1,_⟩|⟨_,k,e,hk⟩
   .rw[e1]at Jd;simp at Jd
   .refine⟨[d],fun x hx=>by rw[bQ.1 hx];exact hd,?_⟩;rw[yY,e];refine atr k (fB.1 hk).1 ?_;rw[aO,hk];intro q;have q':(xh ts S ru (L.getD t (0,0)) d).2=0:=q;rw[q']at Jd;simp at Jd
  |step p q p1 p2 hq _ ih =>
   intro t ht hb;obtain⟨d,hd,vM⟩:=h.full p2;(have CK:((xh ts S ru (L.getD t (0,0)) d).1).testBit q=true:=ag8 _ |>.2 ⟨p,by omega,⟨hb,vM⟩,hq⟩);rcases g.ok t d (by omega) hd with⟨e1,_⟩|⟨_,k,e,hk⟩
   .rw[e1]at CK;simp at CK
   .obtain⟨z,hz,cW⟩:=ih k (fB.1 hk).1 (by rw[aO,hk];exact CK);refine⟨d::z,hz.cons hd,?_⟩;rw[yY,e];exact cW
 rcases g.ok s c (by omega) hc with⟨_,e⟩|⟨cP,k,e,hk⟩
 .omega
 .rw[e];have dI:=(fB.1 hk).1;have eL:L.getD k (0,0)=xh ts S ru (L.getD s (0,0)) c:=by rw[aO,hk];rfl
  by_cases q2:(L.getD k (0,0)).2=0
  ·(have q1:(L.getD k (0,0)).1≠0:=fun q1=>cP (by rw[<-eL];exact Prod.ext q1 q2));obtain⟨b,hb⟩:=Ul q1;have pq:b<ae bs:=by
    rw[<-dD];exact adQ hb (g.sm _ (aeu dI)).1
   exact key b (h.acG pq) k dI hb
  .exact⟨[],fun x hx=>by simp at hx,atr k dI q2⟩
theorem ans(h:j5 rs n bs fs ps lo ts S ru)(g:kH (xh ts S ru) (cH (gR ts) (ae ts),0) (aZ ts (ae ts)) (ae ts) L rows)(hr:(ae rows)=ae L){ls:List Nat}(rj:(ae ls)=256)(jT:Dd S (aZ ts (ae ts)) ls){U:bw}(hU:VM (fun i c=>(rows.getD i []).getD c 0) (mZ (ae ts) L) (ae L) ls U):gL U (told (fun k=>(cO (rs k)).v.fV) n):=by
 have b:=kH.built h g hr;refine(aov hU b.pos b.ik (fun c hc=>?_) (fun s c hs hc h0=>kH.alive h g hr s c hs hc h0) (kH.reach g hr)).congr (kH.told h g hr);obtain⟨h1,h2,_⟩:=jT c (by omega);refine⟨by omega,jT.idem (by omega),fun s hs=>?_⟩;have e:xh ts S ru (L.getD s (0,0)) (ls.getD c 0)=xh ts S ru (L.getD s (0,0)) c:=ag7 h2 _ _ (aH _);show(rows.getD s []).getD (ls.getD c 0) 0=(rows.getD s []).getD c 0;rcases g.ok s c (by omega) hc with⟨_,q1⟩|⟨cP,k,q1,q2⟩
 .rcases g.ok s (ls.getD c 0) (by omega) (by omega)with⟨_,r1⟩|⟨rne,k',r1,r2⟩
  .rw[q1,r1]
  .rename_i e1;rw[e]at rne;exact absurd e1 rne
 .rcases g.ok s (ls.getD c 0) (by omega) (by omega)with⟨e1,_⟩|⟨rne,k',r1,r2⟩
  .rw[e]at e1;exact absurd e1 cP
  .rw[e]at r2;obtain⟨k1,k2⟩:=fB.1 q2;obtain⟨k3,k4⟩:=fB.1 r2;rw[q1,r1,(Vo g.nd).1 (k2.trans k4.symm)]
end
end
section
variable{ga n:Nat}{ps:List (Bool×Nat×Nat)}
def TX:Nat->Option (Nat×Nat)
 |0=>some (0,258)
 |_=>none
theorem alp:(aB.info? 115).map (fun i=>i.zero)=some (some (.agg (aY dR (.slice none 0 0) (.slice none 0 0)))):=by kernel_rfl
theorem adT(parts:List (Nat×aq)):aB.built 115 parts=oZ TX (aY dR (.slice none 0 0) (.slice none 0 0)) parts:=by
 have hz:=alp;obtain⟨i,hi⟩:∃i,aB.info? 115=some i:=by
  cases h:aB.info? 115 with
  |none=>rw[h]at hz;cases hz
  |some i=>exact⟨i,rfl⟩
 rw[hi]at hz;have hz':i.zero=some (.agg (aY dR (.slice none 0 0) (.slice none 0 0))):=(by simpa using hz);unfold Program.built;simp only[hi,Tryz.underlying115,hz'];have hp:((aB.info? 91).map fun i=>(0,i.size))=some (0,258):=by kernel_rfl
 simp only[List.mapM_cons,List.mapM_nil,hp];have e:(fun x=>([(0,258)]:List (Nat×Nat)).toArray[x]?)=TX:=by
  funext x
  match x with
  |0=>rfl
  |n+1=>rfl
 rw[<-e];rfl
theorem aj5{c:Array aq}(h:c.size=256)(vn va:aq):oZ TX (aY dR (.slice none 0 0) (.slice none 0 0)) [(0,.agg (aY c vn va))]=some (aY c vn va):=by
 rw[oZ];simp only[TX,Value.cells,fG h,fG kG];have:=Wv 0 (aY c vn va).toList 0 (aY dR (.slice none 0 0) (.slice none 0 0));simp only[Nat.add_zero]at this;rw[XP _ _ (by rw[fG h,fG kG])]at this;rw[az (by simp)];show some _=_;congr 1;refine Eq.trans ?_ this;rw[<-Array.foldl_toList];simp
section
variable{ops:Array Oper}{rest:List Oper}{op:Oper}{a:Act}{w:ay}{Q:Exit->Act->ay->Prop}
theorem ajb(iK:op.guard=none)(parts:List (Nat×Operand))(ho:op.op=.build 115 parts.toArray)(cells:Array aq)(hf:oZ TX (aY dR (.slice none 0 0) (.slice none 0 0)) (parts.map fun q=>(q.1,a.eval q.2))=some cells)(h:wpList aB ops Q rest (a.put op.dst (.agg cells)) w):wpList aB ops Q (op::rest) a w:=by
 have e:(parts.toArray.map fun(i,x)=>(i,a.eval x)).toList=parts.map fun q=>(q.1,a.eval q.2):=(by simp)
 refine wpList_plain iK fun _ hK=>wp_build 115 parts.toArray ho ?_ (hK _ _ ?_)
 .rw[adT,e,hf];rfl
 .rw[adT,e,hf];exact h
end
theorem alu:(aB.info? 67).map (fun i=>(i.zero,i.size,i.bytes))=some (some (.agg #[.bool false,.int .u64 0,.int .u64 0,.int .u64 0,.int .u64 0,.int .u64 0,.int .u64 0,.int .u64 0,.int .u64 0]),9,72):=by kernel_rfl
theorem an0(n:Nat)(hn:n<=1000)(w:ay):(Instr.makeSlice 110 (.int .i64 (n:Int)) (.int .i64 (n:Int))).run aB w=.ok (.slice (some ⟨w.heap.size,0,none⟩) n n) (w.alloc (.cells (madeCells (dQ false 0 0).cells (n*9)) 67)):=by
 obtain⟨i0,cS,dc,dm,cW⟩:=iw alu;have hb:(i0.bytes:Int)*(n:Int)<=281474976710656:=by rw[cW];omega
 have q:=run_make (P:=aB) w 110 67 i0 _ Tryz.underlying110 cS dc .i64 .i64 (n:Int) (n:Int) (by omega) (Int.le_refl _) hb (by omega);rw[dm,mj]at q;rw[OS];exact q
structure Bh(w:ay)(ga n:Nat)(ps:List (Bool×Nat×Nat)):Prop where
 row:∃c:Array aq,w.heap[ga]?=some (.cells c 67 (0,0))/\c.size=n*9/\∀k j,k<ae ps->j<9->c[k*9+j]?=(pv (ps.getD k (false,0,0))).cells[j]?
theorem Bh.kp{w w':ay}{xs:List Nat}(h:Bh w ga n ps)(hk:Kp xs w w')(hx:ga∉xs):Bh w' ga n ps:=by
 obtain⟨c,h1,h2⟩:=h.row;exact⟨c,hk.keep h1 hx,h2⟩
theorem am9(x:Bool×Nat×Nat):(pv x).cells.size=9:=rfl
theorem Bh.set{w':ay}{c:Array aq}{x:Bool×Nat×Nat}(hc:w'.heap[ga]?=some (.cells (pC c (ae ps*9) (pv x).cells.toList) 67 (0,0)))(hs:c.size=n*9)(hp:(ae ps)<n)(h:∀k j,k<ae ps->j<9->c[k*9+j]?=(pv (ps.getD k (false,0,0))).cells[j]?):Bh w' ga n (ps ++ [x]):=by
 refine⟨_,hc,by rw[TV];exact hs,fun k j hk hj=>?_⟩;have hl:(pv x).cells.toList.length=9:=by rw[Jj];rfl
 rw[cx,iq]at hk;by_cases e:k=ae ps
 .subst e;rw[Lx _ _ _ _ (by rw[hl];exact hj) (by rw[hl,hs];omega),uk];congr 3;rw[aO];simp
 .rw[FG _ _ _ _ (.inl (by omega)),h k j (by omega) hj];congr 3;rw[aO,aO,iI (by omega)]
theorem Bh.rules{w:ay}(h:Bh w ga (ae ps) ps)(hn:(ae ps)<=1000):yu w (.slice (some ⟨ga,0,none⟩) (ae ps) (ae ps)) ps:=by
 obtain⟨c,h1,h2,h3⟩:=h.row;have hl:(n6 (ps.map pv)).length=ae ps*9:=by
  clear h h1 h2 h3 hn;induction ps with
  |nil=>rfl
  |cons a l ih =>
   have e:n6 ((a::l).map pv)=(pv a).cells.toList++n6 (l.map pv):=(by simp[n6]);rw[e,cx,ih,Jj,am9,Dg];omega
 have he:c.toList=n6 (ps.map pv):=by
  apply List.ext_getElem?;intro i;rcases eK i (ae ps*9)with hi|hi
  .have hk:i / 9<ae ps:=(by omega);have hj:i % 9<9:=(by omega);have q:=h3 (i / 9) (i % 9) hk hj;have e:i / 9*9+i % 9=i:=(by omega);have r:=aaT (n:=9) (ks:=ps.map pv) (i:=i / 9) (j:=i % 9) (x:=pv (ps.getD (i / 9) (false,0,0))) (fun v hv=>by obtain⟨x,_,rfl⟩:=List.mem_map.1 hv;rfl) (by rw[kx,bD hk,aO,bD hk];rfl) hj;rw[e]at q r;rw[uk,q,r]
  .rw[iY (by rw[Jj,h2];exact hi),iY (by rw[hl];exact hi)]
 exact⟨hl,.inr ⟨ga,ae ps,c,rfl,bU _,h1,aH _,by unfold eB;omega,h2,by rw[<-he,List.take_of_length_le (by rw[Jj,h2];exact aH _)]⟩⟩
structure EE(w:ay)(g o n:Nat)(rs:Nat->ByteArray):Prop where
 lt:g<w.heap.size
 at_:∀i,i<n->w.cell? ⟨g,o+i,none⟩=some (.string (rs i))
theorem EE.kp{w w':ay}{g o:Nat}{rs:Nat->ByteArray}(h:EE w g o n rs)(hk:Kp [] w w'):EE w' g o n rs :=
 ⟨by have:=hk.size;have:=h.lt;omega,fun i hi=>by rw[Dt hk h.lt];exact h.at_ i hi⟩
structure ac4(w:ay)(lb:Nat)(U:bw):Prop where
 lex:∃vn va,w.heap[lb]?=some (.cells (aY (cI U.cls 256) vn va) 115 (0,0))/\kz w vn va U
end
section
open Go.RowKit Go.ChangeMaps
def adi(rs:Nat->ByteArray)(n:Nat)(w:ay)(e:Ending)(w':ay):Prop:=dA w.heap.size w w' /\
 ((∃i:Nat,i<n/\(∀k,k<i->(cO (rs k)).err=0)/\(cO (rs i)).err≠0/\e=.returned (.tuple #[.pointer none,.int .i64 (cO (rs i)).err,.int .i64 i,.int .i64 (cO (rs i)).pl])) \/
  ((∀k,k<n->(cO (rs k)).err=0)/\∃(bs fs:List Nat) (ps:List (Bool×Nat×Nat)) (lo:Nat->Nat) (S:List (Nat×Nat)),oM rs n bs fs ps lo/\(ae fs)=ae bs/\(S.map sv).Nodup/\(∀y∈S,yp bs fs ps y) /\
  ((∃(lb:Nat) (U:bw) (cl:Nat->Nat) (nx:Nat->Nat->Int) (ac:Nat->Int) (C:Nat),e=.returned (.tuple #[.pointer (some ⟨lb,0,none⟩),.int .i64 0,.int .i64 0,.int .i64 0])/\(ae S)<=250/\Ea bs fs (fR ps) (lR ps) n S cl nx ac C/\w.heap.size<=lb/\ac4 w' lb U/\Er w.heap.size w' lb U/\gL U (told (fun k=>(cO (rs k)).v.fV) n)/\U.N<=250/\U.C<=256) \/
   (e=.returned (.tuple #[.pointer none,.int .i64 7,.int .i64 0,.int .i64 0])/\250<ae S))))
theorem al6(a:Option Addr)(n cap:Nat)(w:ay)(hn:n=0\/6<n):aI aB 26 #[.slice a n cap] w fun e w'=>e=.returned (.tuple #[.pointer none,.int .i64 1,.int .i64 0,.int .i64 0])/\w'=w:=by
 go_enter Tryz.func26,Tryz.ntmps26;rcases hn with rfl|hn
 .go_wp2;refine cF (v:=.tuple #[.pointer none,.int .i64 1,.int .i64 0,.int .i64 0]) ?_ rfl ⟨rfl,rfl⟩;simp[eG,VV,go_sem]
 .have h1:¬(n:Int)=0:=(by omega);have h2:(6:Int)<n:=(by omega);go_wp2;refine cF (v:=.tuple #[.pointer none,.int .i64 1,.int .i64 0,.int .i64 0]) ?_ rfl ⟨rfl,rfl⟩;simp[eG,VV,go_sem]
theorem al4(g o n cap:Nat)(rs:Nat->ByteArray)(w:ay)(hR:EE w g o n rs)(h0:0<n)(h6:n<=6):aI aB 26 #[.slice (some ⟨g,o,none⟩) n cap] w (adi rs n w):=by
 have HR:=aj hR;have lg:=hR.lt;clear hR;have h1:¬(n:Int)=0:=(by omega);have h2:¬(6:Int)<n:=(by omega);go_enter Tryz.func26,Tryz.ntmps26;have ig:=an0 n (by omega);go_upto_region 5 with fail;clear ig;have ps1:dN ((w.alloc (.cells #[.slice none 0 0,.slice none 0 0] 100)).alloc (.cells (madeCells (dQ false 0 0).cells (n*9)) 67)) w.heap.size [] [] (.slice none 0 0) (.slice none 0 0) :=
  ⟨by rw[aC,aM,az (by omega),aC,aA rfl],j9 _ _ _ _,j9 _ _ _ _,rfl,by simp[aK],by simp[aK],fun g e=>by simp[aK]at e⟩
 have pi1:Bh ((w.alloc (.cells #[.slice none 0 0,.slice none 0 0] 100)).alloc (.cells (madeCells (dQ false 0 0).cells (n*9)) 67)) (w.heap.size+1) n [] :=
  ⟨_,by rw[aC,aM,aA rfl],size_madeCells _ _,fun k j hk=>by simp at hk⟩
 have k1:Kp [] w ((w.alloc (.cells #[.slice none 0 0,.slice none 0 0] 100)).alloc (.cells (madeCells (dQ false 0 0).cells (n*9)) 67)):=((Kp.refl [] w).alloc _).alloc _;obtain⟨PS1,PI1,K1⟩:=cR ps1 pi1 k1;clear ps1 pi1 k1;go_wp2_with fail;go_loopw [30] (fun s w'=>∃(i:Nat) (bs fs:List Nat) (vb vf:aq) (ps:List (Bool×Nat×Nat)) (lo:Nat->Nat),s=.int .i64 i/\i<=n/\dN w' w.heap.size bs fs vb vf/\(∀x∈foot w.heap.size vb vf,w.heap.size<=x/\x≠w.heap.size+1)/\Bh w' (w.heap.size+1) n ps/\oM rs i bs fs ps lo/\Kp [] w w')
  (fun s _=>n-(aG s).toNat)
 case atStart=>exact⟨0,[],[],_,_,[],_,rfl,by omega,PS1.o,fun x hx=>by simp[foot,aK]at hx;omega,PI1.o,oM.start rs,K1.o⟩
 case round =>
  obtain⟨i,bs,fs,vb,vf,ps,lo,rfl,hi,je,oR,hpi,Tg,kp⟩:=hrel;have big:=Tg.big je.len (by omega);have qw:=je.len;obtain⟨PS,FR,PI,RD,KP,AJ,U2⟩:=DG je oR hpi Tg kp big qw;clear je oR hpi Tg kp big qw PS1 PI1 K1;by_cases iL:i<n
  .have abn:(i:Int)<n:=(by omega);have cr:=(HR.o.kp KP.o).at_ i iL;go_wp2_with fail;refine(agA (rs i) w.heap.size bs fs vb vf _ PS.o (by have:=AJ.o.1;omega)).mono ?_;rintro _ w2 ⟨e,f,l,rfl,k2,aeX,yQ⟩;clear cr;have K2:=aj (KP.o.trans k2 (fun x hx=>.inr (FR.o x hx).1));have Nb:=aj (PI.o.kp k2 (fun hm=>(FR.o _ hm).2 rfl));(have l2:w.heap.size+1<w2.heap.size:=by obtain⟨c,q,_⟩:=Nb.o.row;exact aE q);by_cases N4:(cO (rs i)).err=0
   .obtain⟨bs',fs',eg,dP,ps2,gw,ln1,ln2,tk1,tk2,prt⟩:=yQ N4;(have hq:((cO (rs i)).err != 0)=false:=by simp[N4]);have J9:=aj (RD.o.step U2.o N4 ln1 ln2 tk1 tk2 prt);have PS2:=aj ps2;have jN:ax (∀x∈foot w.heap.size eg dP,w.heap.size<=x/\x≠w.heap.size+1):=fun x hx=>by
     rcases gw x hx with q|q
     .exact FR.o x q
     .obtain⟨c,b,_⟩:=PI.o.row;have:=aE b;omega
    have fA:=RD.o.len;clear yQ k2 ps2 gw ln1 ln2 tk1 tk2 prt aeX N4 PS PI RD KP FR AJ U2;go_upto_region 11 with fail;apply fD
    iterate 6 go_step
    refine xH rfl _ _ rfl (b:=w2.heap.size) (c:=(pv (e,f,l)).cells) (by rw[aC,aA rfl];rfl) rfl _ Tryz.underlying67 rfl Iw ?_
    iterate 3 go_step
    obtain⟨c,bc,eY,gE⟩:=Nb.o.row;refine acz rfl _ _ _ rfl (b:=w.heap.size+1) (o:=i*9) (c:=c) (by rw[aC,az (by omega)];exact bc) ?ad rfl (by rw[eY];show i*9+9<=n*9;omega) Iw (by simp[dS]) ?_
    case ad=>first|rfl|simp[go_sem]
    intro w9 b9 k9 s9;have k29:Kp [w.heap.size+1] w2 w9:=(((Kp.refl [w.heap.size+1] w2).alloc _).trans k9 (by simp));have PS9:=aj (PS2.o.kp k29 (fun x hx hm=>by rw[bQ.1 hx]at hm;exact(jN.o _ hm).2 rfl));have PI9:ax (Bh w9 (w.heap.size+1) n (ps ++ [(e,f,l)])):=Bh.set (by rw[fA];exact b9) eY (by omega) gE;have K9:ax (Kp [] w w9):=K2.o.trans k29 (by simp);clear b9 k9 s9 k29 bc eY gE;go_wp2;refine⟨⟨i+1,bs',fs',eg,dP,ps ++ [(e,f,l)],_,by go_num,by omega,PS9.o,jN.o,PI9.o,J9.o,K9.o⟩,by simp[aG];omega⟩
   ·(have hq:((cO (rs i)).err != 0)=true:=by simp[N4]);have ok0:=RD.o.ok;clear yQ aeX;go_wp2;refine cF (v:=.tuple #[.pointer none,.int .i64 (cO (rs i)).err,.int .i64 i,.int .i64 (cO (rs i)).pl]) ?_ rfl ⟨(K2.o.alloc _).toBelow,.inl ⟨i,iL,ok0,N4,rfl⟩⟩;simp[eG,VV,go_sem]
  .have abn:¬(i:Int)<n:=(by omega);have m7:i=n:=(by omega);subst m7;have fA:=RD.o.len;subst fA;go_wp2_with fail;refine(aor w.heap.size (.slice (some ⟨w.heap.size+1,0,none⟩) (ae ps) (ae ps)) vb vf bs fs ps wr PS.o (PI.o.rules (by omega)) (by have:=AJ.o.1;omega) h6 AJ.o.2.1 AJ.o.2.2).mono ?_;rintro _ w3 ⟨h3,⟨Ks,cl,S,tb,gs,rows,aL,vn,va,rfl,te⟩|⟨S,rfl,nd,hS,Cn⟩⟩
   .have TE:=aj te;have k3:Kp [] wr w3:=(Kp.refl [] wr).below h3;have K3:ax (Kp [] w w3):=KP.o.trans k3 (by simp);have eY:=fU cl 256;have pV:(aY (cI cl 256) vn va).size=258:=fG eY _ _;clear te h3 k3 PS PI KP FR;dsimp only
    iterate 10 go_step
    refine qT rfl _ rfl _ xD ?_;refine mR rfl _ _ _ rfl (b:=w3.heap.size) (c:=aY dR fZ fZ) (e:=91) (by rw[aC,aA rfl];rfl) rfl rfl (by rw[pV,fG kG]) (by rw[pV];exact m9) (CL (vJ _ _) (OQ TE.o.tab.next) (OQ TE.o.tab.acc)) ?_;intro w4 b4 k4 s4;simp only[fj,fx,eX,eU];have DS:Kp [] w3 w4:=(((Kp.refl [] w3).alloc _).trans k4 (by simp));have B4:=aj b4;have K4:ax (Kp [] w w4):=K3.o.trans DS (by simp);have zy:=aj (TE.o.Mt.kp DS);clear b4 k4 s4 DS;go_upto_region 16 with fail;apply fD;refine xH rfl _ _ rfl B4.o rfl _ Tryz.underlying91 rfl (by rw[pV];exact m9) ?_;simp only[fj,fx,eX,eU];go_wp2_with fail;have pl:=TE.o.plain AJ.o.2.1 AJ.o.2.2 h6;refine(aoo vn va (qg.T cl rows aL (ae S) (ae Ks)) w4 zy.o pl TE.o.few TE.o.abO TE.o.kpos).mono ?_;rintro _ w5 ⟨h5,iS,sQ,U,rfl,tr5,cn,KJ,Sn,afQ⟩;have ah4:=aj (afQ.low K4.o.size);clear afQ;have K5:ax (Kp [] w w5):=K4.o.below h5;have Rw:gL U (told (fun k=>(cO (rs k)).v.fV) (ae ps)):={ cn with sem:=fun x hx=>(cn.sem x hx).trans (TE.o.told AJ.o.2.1 AJ.o.2.2 h6 RD.o.rules x hx) };have CN:=aj Rw;have TR5:=aj tr5;have hN':U.N<=250:=j8 KJ TE.o.few;have hC':U.C<=256:=j8 Sn TE.o.abO;clear cn Rw tr5 h5 pl;dsimp only;go_step;refine ajb rfl [(0,.tmp 61)] rfl (aY (cI U.cls 256) iS sQ) (aj5 (fU _ _) _ _) ?_;refine aaM rfl _ _ rfl (.agg (aY (cI U.cls 256) iS sQ)) rfl ?_;simp only[fj,fx,eX,eU];have k6:Kp [] w5 (w5.alloc (.cells (si (aY (cI U.cls 256) iS sQ)).cells 115 (0,0))):=(Kp.refl [] w5).alloc _;have LX:ax (ac4 (w5.alloc (.cells (si (aY (cI U.cls 256) iS sQ)).cells 115 (0,0))) w5.heap.size U):=⟨iS,sQ,by rw[aC,aA rfl];rfl,TR5.o.kp k6⟩;have LL:ax (Er w.heap.size (w5.alloc (.cells (si (aY (cI U.cls 256) iS sQ)).cells 115 (0,0))) w5.heap.size U):=⟨iS,sQ,by rw[aC,aA rfl];rfl,TR5.o.kp k6,ah4.o.kp TR5.o k6⟩;have K6:ax (Kp [] w (w5.alloc (.cells (si (aY (cI U.cls 256) iS sQ)).cells 115 (0,0)))):=K5.o.trans k6 (by simp);have l5:w.heap.size<=w5.heap.size:=K5.o.size;clear k6;generalize (w5.alloc (.cells (si (aY (cI U.cls 256) iS sQ)).cells 115 (0,0)))=w6 at *;generalize w5.heap.size=lb at *;go_wp2;refine cF (v:=.tuple #[.pointer (some ⟨lb,0,none⟩),.int .i64 0,.int .i64 0,.int .i64 0]) ?_ rfl ⟨K6.o.toBelow,.inr ⟨RD.o.ok,bs,fs,ps,lo,S,RD.o,U2.o,TE.o.nodup,TE.o.nK,.inl ⟨lb,U,_,_,_,_,rfl,TE.o.few,TE.o.built AJ.o.2.1 AJ.o.2.2 h6,l5,LX.o,LL.o,CN.o,hN',hC'⟩⟩⟩;simp[eG,VV,go_sem]
   .have K3:ax (Kp [] w w3):=KP.o.below h3;have ND:=aj nd;have RCH:=aj Cn;have cW:(aY dR fZ fZ).size=258:=fG kG _ _;clear h3 nd Cn PS PI KP FR;dsimp only
    iterate 10 go_step
    refine qT rfl _ rfl _ xD ?_;refine mR rfl _ _ _ rfl (b:=w3.heap.size) (c:=aY dR fZ fZ) (e:=91) (by rw[aC,aA rfl];rfl) rfl rfl rfl (by rw[cW];exact m9) (CL ahv rfl rfl) ?_;intro w4 b4 k4 s4;simp only[fj,fx,eX,eU];have K4:ax (Kp [] w w4):=K3.o.trans (((Kp.refl [] w3).alloc _).trans k4 (by simp)) (by simp);clear b4 k4 s4;go_wp2;refine cF (v:=.tuple #[.pointer none,.int .i64 7,.int .i64 0,.int .i64 0]) ?_ rfl ⟨K4.o.toBelow,.inr ⟨RD.o.ok,bs,fs,ps,lo,S,RD.o,U2.o,ND.o,RCH.o,.inr ⟨rfl,hS⟩⟩⟩;simp[eG,VV,go_sem]
end
section
variable{B f t len:Nat}{r:Int}
theorem abI:(aB.info? 59).map (fun i=>(i.zero,i.size,i.bytes))=some (some (.agg #[.int .i64 0,.int .i64 0,.int .i64 0]),3,24):=by kernel_rfl
def Ga(t:Int×Nat×Nat):List aq:=[.int .i64 t.1,.int .i64 t.2.1,.int .i64 t.2.2]
def rP(ts:List (Int×Nat×Nat)):List aq:=ts.flatMap Ga
structure G2(w:ay)(B:Nat)(vt:aq)(ts:List (Int×Nat×Nat))(r:Int)(f t:Nat)(w':ay):Prop where
 kp:Kp [] w w'
 own:w'.ownsRow 0 59 3 vt (ae ts) (rP ts)
 fr:∀g,vt.ownBlock=some g->w.heap.size<=g/\g≠B
 blk:w'.heap[B]?=some (.cells #[.int .i64 r,.int .i64 f,.int .i64 t] 59 (0,0))
def ScJ(L:Nat->cC)(n:Nat)(U:bw)(lb:Nat)(s:ByteArray)(B:Nat)(w:ay)(l:Nat)(a:Act)(w':ay):Prop :=
 ∃(vt s7:aq) (at':Nat) (ts:List (Int×Nat×Nat)) (r:Int) (f k:Nat) (u4 u5 u10 u11 u12 u13 u14 u15 u16 u17 u18 u19 u20 u21 u22 u23 u24 u25 u26 u27 u28 u29 u30 u31 u32 u33 u34 u35 u36 u37 u38 u39 u40 u41 u42 u43 u44 u45 u46 u47 u48 u49 u50 u51 u52 u53 u54 u55 u56 u57 u58 u59 u60 u61 u62 u63 u64 u65 u66:aq),a=⟨#[.pointer (some ⟨lb,0,none⟩),.string s,eT,eT,u4,u5,vt,s7,.int .i64 at',.pointer (some ⟨B,0,none⟩),u10,u11,u12,u13,u14,u15,u16,u17,u18,u19,u20,u21,u22,u23,u24,u25,u26,u27,u28,u29,u30,u31,u32,u33,u34,u35,u36,u37,u38,u39,u40,u41,u42,u43,u44,u45,u46,u47,u48,u49,u50,u51,u52,u53,u54,u55,u56,u57,u58,u59,u60,u61,u62,u63,u64,u65,u66],[]⟩/\G2 w B vt ts r f (f+k) w' /\
  ((l=0/\yb L n (tx s) ts (f+k)) \/
   (l=2/\yb L n (tx s) ts f/\∃(m:Nat) (st:Int),s7=.int .i64 st/\at'=f+m/\uh L n U.cls U.nx (tx s) f m st r k) \/
   (l=1/\yb L n (tx s) ts f/\jG L n ((tx s).drop f) ((tx s).length-f)=(r,k)))
def uP(len B:Nat)(l:Nat)(a:Act)(w':ay):Nat :=
 let f:=(aG ((w'.cell? ⟨B,1,none⟩).getD eT)).toNat
 let t:=(aG ((w'.cell? ⟨B,2,none⟩).getD eT)).toNat
 if l=0 then(len-t)*(2*len+10)+(2*len+9) else if l=2 then(len-f)*(2*len+10)+(len-(aG (a.tmps.getD 8 eT)).toNat)+2 else(len-f)*(2*len+10)+1
theorem G2.drewN{w w':ay}{vt:aq}{ts:List (Int×Nat×Nat)}(h:G2 w B vt ts r f t w')(n:Nat):G2 w B vt ts r f t (w'.drewN n) :=
 ⟨h.kp.drewN n,aJ h.own ((Kp.refl [] w').drewN n) (by simp),h.fr,((Kp.refl [] w').drewN n).keep h.blk (by simp)⟩
theorem an5{W:ay}(h:W.heap[B]?=some (.cells #[.int .i64 r,.int .i64 f,.int .i64 t] 59 (0,0)))(a:Act):uP len B 0 a W=(len-t)*(2*len+10)+(2*len+9):=by
 have e:W.cell? ⟨B,2,none⟩=some (.int .i64 t):=by rw[aF h];rfl
 simp[uP,e,aG]
theorem an6{W:ay}(h:W.heap[B]?=some (.cells #[.int .i64 r,.int .i64 f,.int .i64 t] 59 (0,0)))(a:Act):uP len B 1 a W=(len-f)*(2*len+10)+1:=by
 have e:W.cell? ⟨B,1,none⟩=some (.int .i64 f):=by rw[aF h];rfl
 simp[uP,e,aG]
theorem Yy{W:ay}(h:W.heap[B]?=some (.cells #[.int .i64 r,.int .i64 f,.int .i64 t] 59 (0,0)))(a:Act):uP len B 2 a W=(len-f)*(2*len+10)+(len-(aG (a.tmps.getD 8 eT)).toNat)+2:=by
 have e:W.cell? ⟨B,1,none⟩=some (.int .i64 f):=by rw[aF h];rfl
 simp[uP,e,aG]
theorem XH:(aB.info? 59).map (·.size)=some 3:=by kernel_rfl
theorem abJ:(aB.info? 59).map (fun i=>i.zero)=some (some (.agg #[.int .i64 0,.int .i64 0,.int .i64 0])):=by kernel_rfl
theorem an7(lb:Nat)(s:ByteArray)(U:bw)(L:Nat->cC)(n:Nat)(w:ay)(hL:∃vn va,w.heap[lb]?=some (.cells (aY (cI U.cls 256) vn va) 115 (0,0))/\kz w vn va U)(yQ:uz L n U.cls U.nx U.ac U.N U.C)(hN:U.N<=250)(hC:U.C<=256)(hs:s.size<=100000):aI aB 28 #[.pointer (some ⟨lb,0,none⟩),.string s] w fun e w'=>dA w.heap.size w w'/\∃(ts:List (Int×Nat×Nat)) (vt:aq) (en:Nat),e=.returned (.tuple #[vt,.int .i64 en])/\w'.ownsRow 0 59 3 vt (ae ts) (rP ts)/\ya L n (tx s) 0 ts en/\∀g,vt.ownBlock=some g->w.heap.size<=g:=by
 obtain⟨vn,va,bL,tr⟩:=hL;obtain⟨BL,TR,OK⟩:=cR bL tr yQ;clear bL tr yQ;go_enter Tryz.func28,Tryz.ntmps28;go_wp2;refine ao6 (ScJ L n U lb s w.heap.size w) (uP s.size w.heap.size) (fun l=>if l=0 then 2 else if l=2 then 1 else 0) ?_ ?_ ?_
 .rintro l a w' ⟨vt,s7,at',ts,r,f,k,u4,u5,u10,u11,u12,u13,u14,u15,u16,u17,u18,u19,u20,u21,u22,u23,u24,u25,u26,u27,u28,u29,u30,u31,u32,u33,u34,u35,u36,u37,u38,u39,u40,u41,u42,u43,u44,u45,u46,u47,u48,u49,u50,u51,u52,u53,u54,u55,u56,u57,u58,u59,u60,u61,u62,u63,u64,u65,u66,rfl,_,h⟩;rcases h with⟨rfl,_⟩|⟨rfl,_⟩|⟨rfl,_⟩
  .exact⟨_,rfl⟩
  .exact⟨_,rfl⟩
  .exact⟨_,rfl⟩
 .intro FALL;have FA:=aj FALL;clear FALL;go_upto_region 3 with fail;apply fD;refine qT rfl _ rfl _ abJ ?_;have sw:G2 w w.heap.size (.slice none 0 0) [] 0 0 (0+0) (w.alloc (.cells #[.int .i64 0,.int .i64 0,.int .i64 0] 59 (0,0))):=⟨(Kp.refl [] w).alloc _,j9 _ _ _ _,fun g e=>by simp[aK]at e,by rw[aC,aA rfl];rfl⟩;have SW:=aj sw;clear sw;go_wp2;go_step3
  rename_i HK;refine HK _ _ ?_;clear HK;refine FA.o 0 _ _ _ ⟨_,_,_,[],0,0,0,_,_,_,_,_,_,_,_,_,_,_,_,_,_,_,_,_,_,_,_,_,_,_,_,_,_,_,_,_,_,_,_,_,_,_,_,_,_,_,_,_,_,_,_,_,_,_,_,_,_,_,_,_,_,_,_,_,_,_,rfl,SW.o,.inl ⟨rfl,yb.start _ _ _⟩⟩ rfl
 .rintro l c a w' ⟨vt,s7,at',ts,r,f,k,u4,u5,u10,u11,u12,u13,u14,u15,u16,u17,u18,u19,u20,u21,u22,u23,u24,u25,u26,u27,u28,u29,u30,u31,u32,u33,u34,u35,u36,u37,u38,u39,u40,u41,u42,u43,u44,u45,u46,u47,u48,u49,u50,u51,u52,u53,u54,u55,u56,u57,u58,u59,u60,u61,u62,u63,u64,u65,u66,rfl,sw,h⟩ hf FALL;have c0:w'.cell? ⟨w.heap.size,0,none⟩=some (.int .i64 r):=by rw[aF sw.blk];rfl
  have c1:w'.cell? ⟨w.heap.size,1,none⟩=some (.int .i64 f):=by rw[aF sw.blk];rfl
  have c2:w'.cell? ⟨w.heap.size,2,none⟩=some (.int .i64 (f+k:Nat)):=by rw[aF sw.blk];rfl
  have SW:=aj sw;clear sw;rcases h with⟨rfl,h0⟩|⟨rfl,h1,m,st,rfl,rfl,al⟩|⟨rfl,h2,hb⟩
  .cases hf;have H0:=aj h0;have FA:=aj FALL;have iu:=h0.le;have Fv:(tx s).length=s.size:=(by simp[tx]);clear h0 FALL;generalize hq:f+k=q at *;go_upto_region 4 with fail;(go_quiet (fail));go_upto_region 5 with fail;apply fD
   iterate 9 go_step
   refine mR rfl _ _ _ rfl (SW.o.drewN nq).blk rfl rfl rfl XH (by simp[dS]) ?_;intro w3 b3 k3 _;have UD:G2 w w.heap.size vt ts (-1) q (q+0) w3:=⟨(SW.o.kp.drewN nq).trans k3 (by simp),aJ (SW.o.drewN nq).own k3 (fun g e hm=>(SW.o.fr g e).2 (bQ.1 hm)),SW.o.fr,b3⟩;have VR:=aj UD;clear b3 k3 UD c0 c1 c2;go_wp2;(go_step3);rename_i HK;refine HK _ _ ?_;clear HK;refine FA.o 2 _ _ _ (by decide) ⟨_,_,_,ts,-1,q,0,_,_,_,_,_,_,_,_,_,_,_,_,_,_,_,_,_,_,_,_,_,_,_,_,_,_,_,_,_,_,_,_,_,_,_,_,_,_,_,_,_,_,_,_,_,_,_,_,_,_,_,_,_,_,_,_,_,_,_,rfl,VR.o,.inr (.inl ⟨rfl,H0.o,0,0,rfl,rfl,uh.start _ _ _ _ iu⟩)⟩ rfl ?_;rw[an5 SW.o.blk,Yy VR.o.blk];simp[aG];omega
  .cases hf;have H1:=aj h1;have AL:=aj al;have iu:=al.le;have Fv:(tx s).length=s.size:=(by simp[tx]);have eM:=al.lt OK.o (fun c hc=>by simp[tx]at hc;obtain⟨y,_,rfl⟩:=hc;exact y.toNat_lt);clear h1 al;by_cases KO:f+m=s.size
   ·(have aeJ:(((f+m:Nat):Int) == (s.size:Int))=true:=by simp[KO]);(have DM:∀a,uP s.size w.heap.size 1 a w'=(s.size-f)*(2*s.size+10)+1:=fun a=>by simp[uP,c1,aG]);(have afb:∀a:Act,(s.size-f)*(2*s.size+10)+1<uP s.size w.heap.size 2 a w':=fun a=>by simp[uP,c1,aG];omega);have HO:=aj DM;have HN:=aj afb;clear DM afb;go_wp2;(go_step3);refine⟨⟨_,_,_,ts,r,f,k,_,_,_,_,_,_,_,_,_,_,_,_,_,_,_,_,_,_,_,_,_,_,_,_,_,_,_,_,_,_,_,_,_,_,_,_,_,_,_,_,_,_,_,_,_,_,_,_,_,_,_,_,_,_,_,_,_,_,_,rfl,SW.o,.inr (.inr ⟨rfl,H1.o,AL.o.full (by omega)⟩)⟩,?_⟩;rw[HO.o];exact HN.o _
   .have aN:f+m<s.size:=(by omega);(have afq:∀c∈tx s,c<256:=fun c hc=>by simp[tx]at hc;obtain⟨y,_,rfl⟩:=hc;exact y.toNat_lt);obtain⟨⟨gn,cap,rfl,ID,ij⟩,⟨ga,ki,rfl,IC,uE⟩⟩:=TR.o;obtain⟨aqc,aqd⟩:=eM;(obtain⟨sn,rfl⟩:∃sn:Nat,st=sn:=⟨st.toNat,by omega⟩);obtain⟨gr,cr,sH,zU,hr3⟩:=ij sn (by omega);have kp:=SW.o.kp;have NU:gt s (f+m)<256:=kj s (f+m);have hg:=Dz s (f+m) aN;have hgx:(tx s).getD (f+m) 0=gt s (f+m):=by
     have:=congrArg List.head? (ahn s (f+m) aN);rw[List.head?_drop]at this;rw[aO,this];rfl
    have Rh:=kp.keep BL.o (by simp);have By:w'.cell? ⟨lb,256,none⟩=some (.slice (some ⟨gn,0,none⟩) U.N cap):=(by rw[aF Rh,oW (fU _ _)]);have Kx:w'.cell? ⟨lb,257,none⟩=some (.slice (some ⟨ga,0,none⟩) U.N ki):=(by rw[aF Rh,rM (fU _ _)]);have RH:w'.cell? ⟨lb,gt s (f+m),none⟩=some (.int .i64 (U.cls (gt s (f+m)))):=(by rw[aF Rh,uQ (fU _ _) _ _ NU,Bu _ _ _ NU,aA NU]);have dw:=OK.o.cl _ NU;have alU:lb<w'.heap.size:=aE Rh;have alK:ga<w'.heap.size:=tC IC kp.size;(have ajZ:w'.cell? ⟨gn,sn,none⟩=some (.slice (some ⟨gr,0,none⟩) U.C cr):=by rw[kp.cell ID];exact sH);(have Wr:w'.cell? ⟨gr,U.cls (gt s (f+m)),none⟩=some (.int .i64 (U.nx sn (U.cls (gt s (f+m))))):=by rw[kp.cell zU];exact hr3 _ dw);have Co:=OK.o.ik sn _ (by omega) dw;(have aeU:=fun(h:U.nx sn (U.cls (gt s (f+m)))=-1)=>AL.o.dead OK.o afq (by omega) (by rw[hgx,mj];exact h));(have Tq:=fun(h:U.nx sn (U.cls (gt s (f+m)))≠-1)=>AL.o.step OK.o afq (by omega) (t:=U.nx sn (U.cls (gt s (f+m)))) (by rw[hgx,mj]) h);have HD:=aj aeU;have HS:=aj Tq;(have eP:∀i,i<U.N->w'.cell? ⟨ga,i,none⟩=some (.int .i64 (U.ac i)):=fun i hi=>by rw[kp.cell IC];exact uE i hi);have AQ:=aj eP;clear hgx;generalize U.nx sn (U.cls (gt s (f+m)))=t at *;generalize U.cls (gt s (f+m))=cl at *;rw[hg]at RH NU;have akJ:((s[f+m].toNat:Nat):Int)<256:=(by omega);clear ij sH zU hr3 uE kp Rh aeU Tq eP;have hsn:((sn:Nat):Int)<U.N:=(by omega);have yI:(cl:Int)<U.C:=(by omega);generalize hq:f+m=q at *;have hq':(q:Int)<s.size:=(by omega);(have aeJ:((q:Int) == (s.size:Int))=false:=by simp;omega);go_upto_region 7 with fail;(go_quiet (fail));have sw4:=SW.o.drewN nq;have apw:(w'.drewN nq).cell? ⟨lb,257,none⟩=some (.slice (some ⟨ga,0,none⟩) U.N ki):=(((Kp.refl [] w').drewN nq).cell alU).trans Kx;(have aeE:∀i,i<U.N->(w'.drewN nq).cell? ⟨ga,i,none⟩=some (.int .i64 (U.ac i)):=fun i hi=>(((Kp.refl [] w').drewN nq).cell alK).trans (AQ.o i hi));generalize w'.drewN nq=W at *;have EH:=aj sw4;have HWA:=aj aeE;(have oU:IntKind.i64.wrap ((q:Int)+1)=((q+1:Nat):Int):=by simp[IntKind.wrap,IntKind.bits,IntKind.signed];omega);(have hH:∀a:Act,uP s.size w.heap.size 2 a w'=(s.size-f)*(2*s.size+10)+(s.size-(aG (a.tmps.getD 8 eT)).toNat)+2:=fun a=>Yy SW.o.blk a);have HH:=aj hH;clear hH sw4 aeE By Kx RH ajZ Wr NU akJ c0 c1 c2 AQ aeJ hsn yI hg;by_cases ht:t=-1
    ·(have ht':(t == -1)=true:=by simp[ht]);have HT:=aj (HD.o ht);subst ht;go_wp2;(go_step3);refine⟨⟨_,_,_,ts,r,f,k,_,_,_,_,_,_,_,_,_,_,_,_,_,_,_,_,_,_,_,_,_,_,_,_,_,_,_,_,_,_,_,_,_,_,_,_,_,_,_,_,_,_,_,_,_,_,_,_,_,_,_,_,_,_,_,_,_,_,_,rfl,EH.o,.inr (.inr ⟨rfl,H1.o,HT.o⟩)⟩,?_⟩;rw[an6 EH.o.blk,HH.o];omega
    ·(obtain⟨tn,rfl⟩:∃tn:Nat,t=tn:=⟨t.toNat,by omega⟩);have htN:(tn:Int)<U.N:=(by omega);(have ht':((tn:Int) == -1)=false:=by simp);have eac:=HWA.o tn (by omega);obtain⟨Fs,Ft⟩:=HS.o ht;rw[mj]at Fs Ft;have NV:=EH.o.blk;(have d0:W.cell? ⟨w.heap.size,0,none⟩=some (.int .i64 r):=by rw[aF NV];rfl);(have d2:W.cell? ⟨w.heap.size,2,none⟩=some (.int .i64 (f+k:Nat)):=by rw[aF NV];rfl);have z0:=cM NV 0;have z2:=cM NV 2;obtain⟨HS1,A0,HB⟩:=cR Fs Ft NV;clear Fs Ft NV HS HD ht;generalize U.ac tn=ac at *;by_cases eP:ac=-1
     ·(have akD:(ac != -1)=false:=by simp[eP]);have Zc:=aj (A0.o eP);clear HS1 A0;go_wp2;(go_step3);refine⟨⟨_,_,q+1,ts,r,f,k,_,_,_,_,_,_,_,_,_,_,_,_,_,_,_,_,_,_,_,_,_,_,_,_,_,_,_,_,_,_,_,_,_,_,_,_,_,_,_,_,_,_,_,_,_,_,_,_,_,_,_,_,_,_,_,_,_,_,_,rfl,EH.o,.inr (.inl ⟨rfl,H1.o,m+1,(tn:Int),rfl,by omega,Zc.o⟩)⟩,?_⟩;rw[Yy EH.o.blk,HH.o];simp[aG];omega
     ·(have akD:(ac != -1)=true:=by simp[eP]);have Zc:=aj (HS1.o eP);clear HS1 A0;go_wp2;(go_step3);have sw5:G2 w w.heap.size vt ts ac f (f+(m+1)) ((W.setCell ⟨w.heap.size,0,none⟩ (.int .i64 ac)).setCell ⟨w.heap.size,2,none⟩ (.int .i64 (q+1:Nat))):=by
       have kk:Kp [w.heap.size] W ((W.setCell ⟨w.heap.size,0,none⟩ (.int .i64 ac)).setCell ⟨w.heap.size,2,none⟩ (.int .i64 (q+1:Nat))):=((Kp.refl [w.heap.size] W).set (.inl (by simp)) _ _).set (.inl (by simp)) _ _;refine⟨EH.o.kp.trans kk (by simp),aJ EH.o.own kk (fun g e hm=>(EH.o.fr g e).2 (bQ.1 hm)),EH.o.fr,?_⟩;have e5:f+(m+1)=q+1:=(by omega);rw[e5];simp only[aQ,HB.o];simp[eD]
      have SW5:=aj sw5;clear sw5;refine⟨⟨_,_,q+1,ts,ac,f,m+1,_,_,_,_,_,_,_,_,_,_,_,_,_,_,_,_,_,_,_,_,_,_,_,_,_,_,_,_,_,_,_,_,_,_,_,_,_,_,_,_,_,_,_,_,_,_,_,_,_,_,_,_,_,_,_,_,_,_,_,rfl,SW5.o,.inr (.inl ⟨rfl,H1.o,m+1,(tn:Int),rfl,by omega,Zc.o⟩)⟩,?_⟩;rw[HH.o];refine Nat.lt_of_le_of_lt (Nat.le_of_eq (Yy SW5.o.blk _)) ?_;simp[aG];omega
  .cases hf;have H2:=aj h2;have HB:=aj hb;clear h2 hb;by_cases hr:r=-1
   .subst hr;go_wp2;(go_quiet (fail));go_wp2;simp only[z8];refine cF (v:=.tuple #[vt,.int .i64 f]) ?_ rfl ⟨(SW.o.kp.drewN nq).toBelow,ts,vt,f,rfl,aJ SW.o.own ((Kp.refl [] w').drewN nq) (by simp),H2.o.done (by rw[HB.o]),fun g e=>(SW.o.fr g e).1⟩;simp[eG,Tryz.results28,go_sem]
   ·(have hr':(r == -1)=false:=by simp[hr]);have HR:=aj hr;clear hr;go_upto_region 15 with fail;apply fD;obtain⟨i0,cS,dc,dm,cW⟩:=iw abI;have zO:=H2.o.few;have iu:=H2.o.le;have Fv:(tx s).length=s.size:=(by simp[tx])
    iterate 9 go_step
    refine qU rfl _ _ _ rfl 59 i0 _ 3 24 VY cS dc dm cW rfl (by omega) vt (ae ts) (rP ts) rfl (SW.o.own.alloc _) ⟨w'.heap.size,0,none⟩ 1 1 (Ga (r,f,f+k)) rfl rfl (gN (cs:=#[.int .i64 r,.int .i64 f,.int .i64 (f+k:Nat)]) (t:=59) (fr:=(0,0)) (jS w' _)) (by simp[Ga,dS]) (by omega) (by unfold eB;omega) (by omega) (w'.heap.size+1) (by simp) ?_;intro g1 aP w3 cT bj cy iz;simp only[fj,fx,eX,eU];have lB:=aE SW.o.blk;have kA:Kp [] w w3:=((SW.o.kp.alloc _).qt bj (fun g e=>.inr (SW.o.fr g e).1));have bB:w3.heap[w.heap.size]?=some (.cells #[.int .i64 r,.int .i64 f,.int .i64 (f+k:Nat)] 59 (0,0)):=fY bj (b:=w.heap.size) (by rw[aC,az (bY lB)];exact SW.o.blk) (fun e=>(SW.o.fr _ e).2 rfl);have oR:∀g,(uB (some ⟨g1,0,none⟩) (ae ts+1) aP).ownBlock=some g->w.heap.size<=g/\g≠w.heap.size:=fun g e=>by
     simp[aK]at e;subst e;rcases cy with q|q
     .exact SW.o.fr _ q
     .omega
    obtain⟨ct,kpos⟩:=H2.o.token HB.o HR.o;have UD:G2 w w.heap.size (.slice (some ⟨g1,0,none⟩) (ae ts+1) aP) (ts ++ [(r,f,f+k)]) r f (f+k) w3:=⟨kA,by rw[cx,rP,ac7];simpa [rP]using cT,oR,bB⟩;have ae7:uP s.size w.heap.size 0 ⟨#[],[]⟩ w3<(s.size-f)*(2*s.size+10)+1:=by
     (have e2:w3.cell? ⟨w.heap.size,2,none⟩=some (.int .i64 (f+k:Nat)):=by rw[aF bB];rfl);simp only[uP,e2,if_true,Option.getD_some,aG,mj];have hk:=ct.le;rw[Fv]at hk;have:=Ez (2*s.size+10) (show s.size-(f+k)+1<=s.size-f by omega);rw[J1]at this;omega
    have DM:∀a,uP s.size w.heap.size 1 a w'=(s.size-f)*(2*s.size+10)+1:=fun a=>by
     simp[uP,c1,aG]
    obtain⟨VR,CT,HM,HO⟩:=dH UD ct ae7 DM;clear UD ct ae7 DM kA bB oR cT bj cy iz c0 c1 c2 cS dc dm cW;go_wp2;(go_step3);refine⟨⟨_,_,_,ts ++ [(r,f,f+k)],r,f,k,_,_,_,_,_,_,_,_,_,_,_,_,_,_,_,_,_,_,_,_,_,_,_,_,_,_,_,_,_,_,_,_,_,_,_,_,_,_,_,_,_,_,_,_,_,_,_,_,_,_,_,_,_,_,_,_,_,_,_,rfl,VR.o,.inl ⟨rfl,CT.o⟩⟩,?_⟩;rw[HO.o];exact HM.o
end
section
variable{t:TD}{d g:Nat}
def mP(tv:aq)(c:Array aq)(vn va:aq):Array aq:=#[tv]++aY c vn va
theorem agL{c:Array aq}(h:c.size=256)(tv vn va:aq):(mP tv c vn va).size=259:=by simp[mP,fG h]
theorem Mf(tv:aq)(c:Array aq)(vn va:aq):(mP tv c vn va)[0]?=some tv:=by
 unfold mP;rw[Array.getElem?_append_left (by simp)];rfl
theorem Ux(tv:aq)(c:Array aq)(vn va:aq)(i:Nat):(mP tv c vn va)[i+1]?=(aY c vn va)[i]?:=by
 unfold mP;rw[Array.getElem?_append_right (by simp)];simp
theorem anD(tv:aq)(c:Array aq)(vn va v:aq):(mP tv c vn va).setIfInBounds 0 v=mP v c vn va:=by
 apply xY;intro i;rcases M0 i with e|e
 .subst e;rw[Array.getElem?_setIfInBounds_self_of_lt (by unfold mP;rw[Array.size_append];show 0<1+_;omega),Mf]
 .obtain⟨j,rfl⟩:∃j,i=j+1:=⟨i-1,by omega⟩
  rw[Array.getElem?_setIfInBounds_ne (by omega),Ux,Ux]
theorem anC{c c':Array aq}(h:c.size=256)(h':c'.size=256)(tv vn va iS sQ:aq):pC (mP tv c vn va) 1 (aY c' iS sQ).toList=mP tv c' iS sQ:=by
 apply xY;intro i;rcases M0 i with e|e
 .subst e;rw[FG _ _ _ _ (.inl (by omega)),Mf,Mf]
 .obtain⟨j,rfl⟩:∃j,i=j+1:=⟨i-1,by omega⟩
  rw[Ux];have sz:=fG h' iS sQ;rcases eK j 258 with q|q
  .have:=Lx (aY c' iS sQ).toList 1 (mP tv c vn va) j (by simpa [sz]using q) (by rw[agL h];simp[sz]);rw[show j+1=1+j by omega,this,uk]
  .rw[FG _ _ _ _ (.inr (by simp[sz];omega)),Ux,kP (by rw[fG h];omega),kP (by omega)]
theorem adV:aB.built 95 []=some (mP (.slice none 0 0) dR (.slice none 0 0) (.slice none 0 0)):=by kernel_rfl
theorem alv:(aB.info? 41).map (fun i=>(i.zero,i.size,i.bytes))=some (some (.pointer none),1,8):=by kernel_rfl
theorem VU.td{w:ay}{B r k:Nat}{L:aD}(h:VU w B r k L):∃t:TD,t.r=r/\t.a=L/\pQ w t/\(∀base,NR w t base 0)/\B<=t.r/\∀g,t.nv.ownBlock=some g->B<=g:=by
 obtain⟨s,i,e,pl,nv,ns,Ls,rd,own,cP,tr,hk,hL,hB,KH,hf⟩:=h.ex;have ha:(⟨r,k,nv,ns,Ls⟩:TD).a=L:=by show(Ls.getD k cK).1=L;rw[hL]
 refine⟨⟨r,k,nv,ns,Ls⟩,rfl,ha,⟨⟨s,i,e,pl,rd⟩,tr,hk,by rw[ha];exact hL,hf⟩,fun base=>⟨xe ns,own,fun k nd hk=>⟨Hx ns k nd hk 0 (by omega),Hx ns k nd hk 1 (by omega),Hx ns k nd hk 2 (by omega),0,Hx ns k nd hk 3 (by omega),fun _ q=>absurd q (Vz _)⟩⟩,hB,KH⟩
theorem aoj(ns:List ND)(Ls:List AN):∃S,Ke ns Ls S:=by
 have inj:∀k k' nd DU,ns[k]?=some nd->nd.kind=98->ns[k']?=some DU->DU.kind=98->nb ns k=nb ns k'->k=k':=fun k k' nd DU h1 h2 h3 h4 h5=>by
  rcases ym k k' with q|q|q
  .have:=LK h1 h2;have:=OJ ns (k+1) k' (by omega);omega
  .exact q
  .have:=LK h3 h4;have:=OJ ns (k'+1) k (by omega);omega
 have ch:∀q,∃s,∀k nd s',ns[k]?=some nd->nd.kind=98->Ls.getD k cK=(.set s',k,k+1)->nb ns k=q->s'=s:=fun q=>by
  by_cases e:∃k nd s',ns[k]?=some nd/\nd.kind=98/\Ls.getD k cK=(.set s',k,k+1)/\nb ns k=q
  .obtain⟨k,nd,s,h1,h2,h3,h4⟩:=e;refine⟨s,fun k' DU s' g1 g2 g3 g4=>?_⟩;have:=inj k' k DU nd g1 g2 h1 h2 (g4.trans h4.symm);subst this;rw[g3]at h3;simp only[Prod.mk.injEq,aD.set.injEq]at h3;exact h3.1
  .exact⟨0,fun k nd s' g1 g2 g3 g4=>absurd ⟨k,nd,s',g1,g2,g3,g4⟩ e⟩
 refine⟨fun q=>Zt (ch q),fun k nd s h1 h2 h3=>?_⟩;exact(Zu (ch (nb ns k)) k nd s h1 h2 h3 rfl).symm
theorem pQ.m16{w:ay}{s:ByteArray}(h:pQ w t)(ha:t.a=(cO s).v)(he:(cO s).err=0):t.m<=16:=by
 obtain⟨S,hS⟩:=aoj t.ns t.Ls;rw[<-(h.np hS).1,ha];exact anr s he
theorem ai1(ts:List TD)(h:∀j,j<ae ts->(ts.getD j dT).m<=16):∀i,i<=ae ts->aZ ts i<=16*i:=by
 intro i;induction i with
 |zero=>intro _;exact aH _
 |succ i ih =>
  intro hi;show aZ ts i+(ts.getD i dT).m<=_;have:=ih (by omega);have:=h i (by omega);omega
structure VL(rs:Nat->ByteArray)(n:Nat)(ts:List TD)(S:Nat->Nat)(ru:List Nat):Prop where
 tl:(ae ts)=n
 a:∀k,k<n->(ts.getD k dT).a=(cO (rs k)).v
 np:∀k,k<n->(ts.getD k dT).a.np=(ts.getD k dT).m
 bt:∀k,k<n->∀q,q<(ts.getD k dT).a.np->(ts.getD k dT).a.ie q=S (aZ ts k+q)
 ro:∀j p,aZ ts j<=p->p<aZ ts (j+1)->p<aZ ts (ae ts)->ru.getD p 0=j
theorem VL.both{rs:Nat->ByteArray}{n:Nat}{bs fs:List Nat}{ps:List (Bool×Nat×Nat)}{lo:Nat->Nat}{ts:List TD}{S:Nat->Nat}{ru:List Nat}(h:VL rs n ts S ru)(rd:oM rs n bs fs ps lo)(fl:(ae fs)=ae bs):j5 rs n bs fs ps lo ts S ru :=
 ⟨rd,fl,h.tl,h.a,h.np,h.bt,h.ro⟩
structure qf(B:Nat)(w:ay)(X:Nat)(ts:List TD)(U:bw):Prop where
 ex:∃tv vn va,w.heap[X]?=some (.cells (mP tv (cI U.cls 256) vn va) 95 (0,0))/\w.ownsRow 0 41 1 tv (ae ts) (ts.map fun t=>.pointer (some ⟨t.r,4,none⟩))/\(∀g,tv.ownBlock=some g->B<=g)/\kz w vn va U/\vC B w vn va U.N
 lo:B<=X
 tr:∀t∈ts,pQ w t/\B<=t.r/\(∀g,t.nv.ownBlock=some g->B<=g)/\∃base d,NR w t base d
theorem pQ.gV{w w':ay}{xs:List Nat}(h:pQ w t)(hk:Kp xs w w')(hf:kV w xs)(hr:t.r∉xs):pQ w' t:=by
 obtain⟨s,i,e,pl,rd⟩:=h.rd;exact⟨⟨s,i,e,pl,hk.keep rd hr⟩,h.tr.keep hk hf,h.top,h.an,h.few⟩
structure Dm(rs:Nat->ByteArray)(w w':ay)(X:Nat)(tv:aq)(ts:List TD):Prop where
 k:Kp [] w w'
 x:w'.heap[X]?=some (.cells (mP tv dR cE cE) 95 (0,0))
 xl:w.heap.size<=X
 own:w'.ownsRow 0 41 1 tv (ae ts) (ts.map fun t=>.pointer (some ⟨t.r,4,none⟩))
 ol:∀g,tv.ownBlock=some g->w.heap.size<=g
 ok:∀k,k<ae ts->(cO (rs k)).err=0/\(ts.getD k dT).a=(cO (rs k)).v
 tr:∀t∈ts,pQ w' t/\(∀base,NR w' t base 0)/\w.heap.size<=t.r/\∀g,t.nv.ownBlock=some g->w.heap.size<=g
 ap:∀i j,i<ae ts->j<ae ts->i≠j->xX (ts.getD i dT).nv (ts.getD j dT).nv
theorem NR.lt{w:ay}{base:Nat}(h:NR w t base d)(hg:t.nv.ownBlock=some g):g<w.heap.size:=by
 obtain⟨c,o,_⟩:=h;exact(o.lt g hg).2
theorem NR.blk{w:ay}{base:Nat}(h:NR w t base d)(hg:t.nv.ownBlock=some g):∃c,w.heap[g]?=some (.cells c 104 (0,0)):=by
 obtain⟨c,o,_⟩:=h;rcases o.2 with⟨e,_⟩|⟨g',cap,cur,e,_,hc,_⟩
 .rw[e]at hg;cases hg
 .rw[e]at hg;simp only[aK,aV]at hg;subst hg;exact⟨cur,hc⟩
section
variable{rs:Nat->ByteArray}{w w':ay}{X:Nat}{tv:aq}{ts:List TD}
theorem R9{x:TD}{i:Nat}(h:i<ae ts):(ts ++ [x]).getD i dT=ts.getD i dT:=by
 rw[aO,aO,iI h]
theorem abe(x:TD):(ts ++ [x]).getD (ae ts) dT=x:=by
 rw[aO,mU (aH _),uw];rfl
theorem Dm.add{w2 w3:ay}{g1 aP:Nat}{o:Obj}(h:Dm rs w w' X tv ts)(k2:Kp [] w' w2)(he:(cO (rs (ae ts))).err=0)(ha:t.a=(cO (rs (ae ts))).v)(hs:pQ w2 t)(hn:∀base,NR w2 t base 0)(hr:w'.heap.size<=t.r)(hg:∀g,t.nv.ownBlock=some g->w'.heap.size<=g)(cT:w3.ownsRow 0 41 1 (.slice (some ⟨g1,0,none⟩) (ae ts+1) aP) (ae ts+1) ((ts.map fun t=>.pointer (some ⟨t.r,4,none⟩)) ++ [.pointer (some ⟨t.r,4,none⟩)]))(bj:(w2.alloc o).grownBy w3 tv.ownBlock)(cy:tv.ownBlock=some g1\/g1=w2.heap.size+1):Dm rs w (w3.setCell ⟨X,0,none⟩ (.slice (some ⟨g1,0,none⟩) (ae ts+1) aP)) X (.slice (some ⟨g1,0,none⟩) (ae ts+1) aP) (ts ++ [t]):=by
 have sw:=h.k.size;have s2:=k2.size;have x2:w2.heap[X]?=some (.cells (mP tv dR cE cE) 95 (0,0)):=k2.keep h.x (by simp);have lX:=aE x2;have L4:=aJ h.own k2 (by simp);have Ig:∀g,tv.ownBlock=some g->∃c,w2.heap[g]?=some (.cells c 41 (0,0)):=fun g hg=>by
  rcases L4.2 with⟨e,_⟩|⟨g',cap,cur,e,_,hc,_⟩
  .rw[e]at hg;cases hg
  .rw[e]at hg;simp only[aK,aV]at hg;subst hg;exact⟨cur,hc⟩
 have tX:tv.ownBlock≠some X:=fun e=>by
  obtain⟨c,hc⟩:=Ig X e;rw[x2]at hc;simp only[aV,fE]at hc;exact absurd hc.2.1 (by decide)
 have k3:Kp tv.ownBlock.toList w2 w3:=((Kp.refl _ w2).alloc o).grown bj (fun k e=>.inl (by simp[e]));have k4:Kp (X::tv.ownBlock.toList) w2 (w3.setCell ⟨X,0,none⟩ (.slice (some ⟨g1,0,none⟩) (ae ts+1) aP)):=(k3.mono (fun x hx=>by simp[hx])).set (.inl (by simp)) _ _;have xs:∀x∈X::tv.ownBlock.toList,w.heap.size<=x/\∃c e,w2.heap[x]?=some (.cells c e (0,0))/\e≠4/\e≠3/\e≠104/\e≠75:=fun x hx=>by
  rcases gH.1 hx with e|e
  .rw[e];exact⟨h.xl,_,_,x2,by decide,by decide,by decide,by decide⟩
  .have e':tv.ownBlock=some x:=(by simpa using e);obtain⟨c,hc⟩:=Ig x e';exact⟨h.ol x e',c,_,hc,by decide,by decide,by decide,by decide⟩
 have far:kV w2 (X::tv.ownBlock.toList):=fun b hb c e f hc=>by
  obtain⟨_,c',e',h1,h2,h3,_⟩:=xs b hb;rw[h1]at hc;simp only[aV,fE]at hc;rw[<-hc.2.1];exact⟨h2,h3⟩
 have rN:∀t:TD,pQ w2 t->t.r∉X::tv.ownBlock.toList:=fun t ht hm=>by
  obtain⟨_,c',e',h1,_,_,_,h4⟩:=xs _ hm;obtain⟨s,i,e,pl,rd⟩:=ht.rd;rw[rd]at h1;simp only[fh,aV,fE]at h1;exact h4 h1.2.1.symm
 have nN:∀t:TD,NR w2 t 0 0->∀g,t.nv.ownBlock=some g->g∉X::tv.ownBlock.toList:=fun t ht g hg hm=>by
  obtain⟨_,c',e',h1,_,_,h3,_⟩:=xs _ hm;obtain⟨c,hc⟩:=ht.blk hg;rw[hc]at h1;simp only[aV,fE]at h1;exact h3 h1.2.1.symm
 have bX:w3.heap[X]?=some (.cells (mP tv dR cE cE) 95 (0,0)):=k3.keep x2 (fun hm=>tX (by simpa using hm));have g1X:g1≠X:=fun e=>by
  rcases cy with q|q
  .rw[e]at q;exact tX q
  .omega
 refine⟨(h.k.trans k2 (by simp)).trans k4 (fun x hx=>.inr (xs x hx).1),?_,h.xl,?_,fun g hg=>?_,fun k hk=>?_,fun u hu=>?_,fun i j hi hj cP=>?_⟩
 .rw[aQ,aA rfl,bX];show some (Obj.cells ((mP tv dR cE cE).setIfInBounds 0 _) _ _)=_;rw[anD]
 .rw[cx,iq,List.map_append];exact aJ cT (show Kp [X] w3 _ from(Kp.refl _ _).set (by simp) _ _) (fun g hg hm=>by
   rw[bQ.1 hm]at hg;simp only[aK,aV]at hg;exact g1X hg)
 .simp only[aK,aV]at hg;rw[<-hg];rcases cy with q|q
  .exact h.ol _ q
  .omega
 .rw[cx,iq]at hk;by_cases e:k=ae ts
  .subst e;rw[abe];exact⟨he,ha⟩
  .rw[R9 (by omega)];exact h.ok k (by omega)
 .rcases jr.1 hu with q|q
  .obtain⟨a1,a2,a3,a4⟩:=h.tr u q;have b1:=a1.gV k2 (fun b hb=>by simp at hb) (by simp);(have b2:∀base,NR w2 u base 0:=fun base=>(a2 base).kp k2 (by simp));exact⟨b1.gV k4 far (rN u b1),fun base=>(b2 base).kp k4 (fun g hg=>nN u (b2 0) g hg),a3,a4⟩
  .rw[bQ.1 q];exact⟨hs.gV k4 far (rN t hs),fun base=>(hn base).kp k4 (fun g hg=>nN t (hn 0) g hg),by omega,fun g hgg=>by have:=hg g hgg;omega⟩
 .rw[cx,iq]at hi hj;have old:∀i,i<ae ts->∀g,(ts.getD i dT).nv.ownBlock=some g->g<w'.heap.size:=fun i hi g hg=>((h.tr _ (sB hi)).2.1 0).lt hg
  by_cases e1:i=ae ts
  .by_cases e2:j=ae ts
   .omega
   .rw[e1,abe,R9 (by omega)];intro g q1 q2;have:=hg g q1;have:=old j (by omega) g q2;omega
  .by_cases e2:j=ae ts
   .rw[e2,abe,R9 (by omega)];intro g q1 q2;have:=hg g q2;have:=old i (by omega) g q1;omega
   .rw[R9 (by omega),R9 (by omega)];exact h.ap i j (by omega) (by omega) cP
theorem Dm.Pd(h:Dm rs w w' X tv ts):wZ w' ts:=⟨fun t ht=>(h.tr t ht).1,fun j hj=>(h.tr _ (sB hj)).2.1 _,h.ap⟩
theorem Dm.base(h:Dm rs w w' X tv ts):aZ ts (ae ts)<=16*ae ts :=
 ai1 ts (fun j hj=>((h.tr _ (sB hj)).1).m16 (h.ok j hj).2 (h.ok j hj).1) _ (aH _)
end
end
section
variable{j m p n r:Nat}{x:List Nat}
def tD(i n j m:Nat):Prop:=1<=m/\(j<i\/(j=i/\m<n))
def BI(P:Nat->Nat->Prop)(M i n k r:Nat):Prop :=
 (k=0/\r=0/\∀j m,m<=M->tD i n j m->¬P j m)\/(0<k/\k<=M/\P r k/\tD i n r k/\∀j m,m<=M->tD i n j m->P j m->m<=k/\(m=k->r<=j))
section
variable{P:Nat->Nat->Prop}{M i n k r:Nat}
theorem tD.more(h:tD i (n+1) j m):tD i n j m\/(j=i/\m=n):=by
 unfold tD at h |-;omega
theorem tD.old(h:tD i n j m):tD i (n+1) j m:=by
 unfold tD at h |-;omega
theorem BI.start(P:Nat->Nat->Prop)(M:Nat):BI P M 0 1 0 0:=.inl ⟨rfl,rfl,fun j m _ h=>by unfold tD at h;omega⟩
theorem BI.no(h:BI P M i n k r)(hp:¬P i n):BI P M i (n+1) k r:=by
 rcases h with⟨a,b,c⟩|⟨a,b,c,d,e⟩
 .refine .inl ⟨a,b,fun j m hm hq=>?_⟩;rcases hq.more with z|⟨rfl,rfl⟩
  .exact c j m hm z
  .exact hp
 .refine .inr ⟨a,b,c,d.old,fun j m hm hq hP=>?_⟩;rcases hq.more with z|⟨rfl,rfl⟩
  .exact e j m hm z hP
  .exact absurd hP hp
theorem BI.less(h:BI P M i n k r)(h1:1<=n)(hk:n<=k):BI P M i (n+1) k r:=by
 rcases h with⟨a,b,c⟩|⟨a,b,c,d,e⟩
 .omega
 .refine .inr ⟨a,b,c,d.old,fun j m hm hq hP=>?_⟩;rcases hq.more with z|⟨rfl,rfl⟩
  .exact e j m hm z hP
  .exact⟨hk,fun _=>by unfold tD at d;omega⟩
theorem BI.more(h:BI P M i n k r)(h1:1<=n)(hn:n<=M)(hk:k<n)(hp:P i n):BI P M i (n+1) n i:=by
 refine .inr ⟨by omega,hn,hp,⟨h1,.inr ⟨rfl,by omega⟩⟩,fun j m hm hq hP=>?_⟩;rcases hq.more with z|⟨rfl,rfl⟩
 .rcases h with⟨a,b,c⟩|⟨a,b,c,d,e⟩
  .exact absurd hP (c j m hm z)
  .have:=(e j m hm z hP).1;exact⟨by omega,fun q=>by omega⟩
 .exact⟨aH _,fun _=>aH _⟩
theorem BI.next(h:BI P M i (M+1) k r):BI P M (i+1) 1 k r:=by
 have key:∀j m,m<=M->(tD (i+1) 1 j m↔tD i (M+1) j m):=fun j m hm=>by unfold tD;omega
 rcases h with⟨a,b,c⟩|⟨a,b,c,d,e⟩
 .exact .inl ⟨a,b,fun j m hm hq=>c j m hm ((key j m hm).1 hq)⟩
 .exact .inr ⟨a,b,c,(key r k b).2 d,fun j m hm hq=>e j m hm ((key j m hm).1 hq)⟩
end
def PM(L:Nat->cC)(x:List Nat)(p j m:Nat):Prop:=L j ((x.drop p).take m)
theorem BI.none{L:Nat->cC}(h:BI (PM L x p) (ae x-p) n 1 0 r):(jG L n (x.drop p) (ae x-p)).1=-1:=by
 rcases h with⟨_,_,c⟩|⟨a,_⟩
 .obtain⟨_,s2,s3⟩:=Rf L n (x.drop p) (ae x-p);rcases s3 with z|⟨z1,z2,z3⟩
  .exact z.1
  .rw[aa7 (fun j hj hP=>c j _ s2 ⟨z2,.inl hj⟩ hP)]at z3;exact z3.symm
 .omega
theorem BI.some{L:Nat->cC}{k:Nat}(h:BI (PM L x p) (ae x-p) n 1 k r)(hk:0<k):jG L n (x.drop p) (ae x-p)=((r:Int),k):=by
 rcases h with⟨a,_⟩|⟨a,b,c,d,e⟩
 .omega
 .obtain⟨s1,s2,s3⟩:=Rf L n (x.drop p) (ae x-p);have hr:r<n:=by unfold tD at d;omega
  have fk:oP L n ((x.drop p).take k)=r:=aem hr c (fun j hj hP=>by have:=(e j k b ⟨hk,.inl (by omega)⟩ hP).2 rfl;omega);have h1:k<=(jG L n (x.drop p) (ae x-p)).2:=by
   rcases eK (jG L n (x.drop p) (ae x-p)).2 k with q|q
   .have:=s1 k q b;omega
   .exact q
  rcases s3 with z|⟨z1,z2,z3⟩
  .omega
  .have h2:(jG L n (x.drop p) (ae x-p)).2<=k:=by
    rcases Wt L ((x.drop p).take (jG L n (x.drop p) (ae x-p)).2) n with⟨q,_⟩|⟨j,q,hj,hP,_⟩
    .omega
    .exact(e j _ s2 ⟨z2,.inl hj⟩ hP).1
   have h3:(jG L n (x.drop p) (ae x-p)).2=k:=(by omega);rw[h3,fk]at z3;exact Prod.ext z3.symm h3
end
section
variable{B X:Nat}
theorem aoM(t:ByteArray)(i j:Nat):tx (t.extract i j)=((tx t).drop i).take (j-i):=by
 unfold tx;rw[ByteArray.data_extract,Array.toList_extract,List.extract_eq_take_drop,List.map_take,List.map_drop]
theorem qf.ts{w:ay}{ts:List TD}{U:bw}(h:qf B w X ts U){t:TD}(ht:t∈ts):TS w t.r t.nv t.ns (t.Ls.map Bm):=by
 obtain⟨a1,_,_,base,d,c,o,oc⟩:=h.tr t ht;obtain⟨s,i,e,pl,rd⟩:=a1.rd;refine⟨⟨s,i,e,pl,t.k,rd⟩,⟨c,o,fun k nd hk=>?_⟩,a1.tr.fV⟩;obtain⟨b1,b2,b3,q,b4,_⟩:=oc k nd hk;exact⟨b1,b2,b3,q,b4⟩
theorem qf.lengths{w:ay}{ts:List TD}{U:bw}(h:qf B w X ts U){t:TD}(ht:t∈ts)(x:ByteArray)(hx:x.size<=100000):aI aB 25 #[.pointer (some ⟨t.r,4,none⟩),.string x] w (p9 t.a.fV x (BD x.size) w):=by
 have a1:=(h.tr t ht).1;obtain⟨s,i,e,pl,rd⟩:=a1.rd;exact afJ t.r t.k t.nv t.ns (t.Ls.map Bm) t.a.fV x w (h.ts ht) ⟨s,i,e,pl,rd⟩ a1.top (by rw[R1 t.Ls t.k (by rw[a1.tr.len];exact a1.top),a1.an]) hx
theorem ajX{L:cC}{x:List Nat}{lo:List Bool}{n:Nat}(h:kU L x (BD n) lo){j:Nat}(hj:j<=ae x):lo.getD j false=true↔L (x.take j):=by
 rw[h.iff j hj];constructor
 .rintro⟨i,_,h1,h2⟩;rw[(Ws n i).1 h1]at h2;unfold lK at h2;rw[aak,Nat.sub_zero]at h2;exact h2
 .intro h2;refine⟨0,bU _,(Ws n 0).2 rfl,?_⟩;unfold lK;rw[aak,Nat.sub_zero];exact h2
theorem qf.jA{w w':ay}{ts:List TD}{U:bw}(h:qf B w X ts U)(hk:Kp [] w w'):qf B w' X ts U:=by
 obtain⟨tv,vn,va,h1,h2,h3,h4,h5⟩:=h.ex;refine⟨⟨tv,vn,va,hk.keep h1 (by simp),aJ h2 hk (by simp),h3,h4.kp hk,h5.kp h4 hk⟩,h.lo,fun t ht=>?_⟩;obtain⟨a1,a2,a3,base,d,a4⟩:=h.tr t ht;exact⟨a1.gV hk (fun b hb=>by simp at hb) (by simp),a2,a3,base,d,a4.kp hk (by simp)⟩
abbrev Mu(r at' tp:Nat):Obj:=.cells #[.int .i64 r,.int .i64 at',.int .i64 tp] 59 (0,0)
theorem aoI{w:ay}{tb r p tp i tq:Nat}(h:w.heap[tb]?=some (Mu r p tp)){v0 v2:aq}(e0:v0=.int .i64 (i:Nat))(e2:v2=.int .i64 (tq:Nat)):((w.setCell ⟨tb,2,none⟩ v2).setCell ⟨tb,0,none⟩ v0).heap[tb]?=some (Mu i p tq):=by
 rw[aQ,aA rfl,aQ,aA rfl,h,e0,e2];rfl
theorem anP(B X:Nat)(s:ByteArray)(ts:List TD)(U:bw)(L:Nat->cC)(n:Nat)(w:ay)(hX:qf B w X ts U)(hn:(ae ts)=n)(hn6:n<=6)(hL:∀k,k<n->(ts.getD k dT).a.fV=L k)(hs:s.size<=100000):aI aB 29 #[.pointer (some ⟨X,0,none⟩),.string s] w fun e w'=>Kp [] w w'/\∃(tk:List (Int×Nat×Nat)) (vt:aq) (en:Nat),e=.returned (.tuple #[vt,.int .i64 en])/\w'.ownsRow 0 59 3 vt (ae tk) (rP tk)/\ya L n (tx s) 0 tk en/\∀g,vt.ownBlock=some g->w.heap.size<=g:=by
 obtain⟨tv,vn,va,bX,own,ol,tr,low⟩:=hX.ex;obtain⟨at_,ct,rfl,_⟩:=I6 own;obtain⟨HX,HL,HN,BX,OW⟩:=jd hX hL hn bX own;have Fv:(tx s).length=s.size:=(by simp[tx]);have Qj:=aj Fv;clear hX hL bX own ol tr low Fv;obtain⟨i0,cS,dc,dm,cW⟩:=iw abI;obtain⟨I0,Z0,Z1,Z2⟩:=dH cS dc dm cW;clear cS dc dm cW;go_enter Tryz.func29,Tryz.ntmps29;go_upto_region 3 with fail;go_loopw [6,7] (fun s6 s7 w'=>∃(p:Nat) (vt:aq) (tk:List (Int×Nat×Nat)),vt=s6/\s7=.int .i64 p/\yb L n (tx s) tk p/\Kp [] w w'/\w'.ownsRow 0 59 3 vt (ae tk) (rP tk)/\∀g,vt.ownBlock=some g->w.heap.size<=g)
  (fun _ s7 _=>s.size-(aG s7).toNat)
 case atStart=>exact⟨0,_,[],rfl,rfl,yb.start _ _ _,Kp.refl _ _,j9 _ _ _ _,fun g hg=>by simp[aK]at hg⟩
 case round =>
  obtain⟨p,vt,tk,rfl,rfl,ct,kw,ovt,lvt⟩:=hrel;have ap0:p<=s.size:=by have:=ct.le;have:=Qj.o;omega
  obtain⟨CT,KW,VE,LVT⟩:=dH ct kw ovt lvt;clear ct kw ovt lvt;go_upto_region 3 with fail;apply fD
  iterate 9 go_step
  refine qT rfl _ rfl _ abJ ?_;refine mR rfl _ _ _ rfl (b:=wr.heap.size) (c:=#[.int .i64 0,.int .i64 0,.int .i64 0]) (e:=59) (by rw[aC,aA rfl];rfl) rfl rfl rfl XH (by simp[dS]) ?_;intro w2 b2 k2 s2;have KA:ax (Kp [] w w2):=(KW.o.alloc _).trans k2 (fun x hx=>.inr (by rw[bQ.1 hx];exact KW.o.size));have OV2:ax (w2.ownsRow 0 59 3 vt (ae tk) (rP tk)):=aJ (VE.o.alloc _) k2 (fun g hg hm=>by rw[bQ.1 hm]at hg;have:=(VE.o.lt _ hg).2;omega);have Ig:ax (w.heap.size<=wr.heap.size):=KW.o.size;have NVT:ax (vt.ownBlock≠some wr.heap.size):=fun e=>by have:=(VE.o.lt _ e).2;omega
  have B2:ax (w2.heap[wr.heap.size]?=some (Mu 0 p (p+0))):=b2;generalize wr.heap.size=tb at *;clear b2 k2 s2 VE KW;clear wr;obtain⟨M,hM⟩:∃M,s.size-p=M:=⟨_,rfl⟩
  have hMx:(tx s).length-p=M:=by rw[Qj.o];exact hM
  have hEx:(s.extract p s.size).size=M:=by rw[ByteArray.size_extract];omega
  have Gn:=aj hEx;have HMX:=aj hMx;have TXE:ax (tx (s.extract p s.size)=(tx s).drop p):=by
   show _=_;rw[aoM,<-Qj.o,<-Qx,List.take_length]
  clear hEx hMx;go_upto_region 5 with fail;go_loopw [9] (fun s9 w'=>∃(i k r:Nat),s9=.int .i64 i/\i<=n/\k<=M/\BI (PM L (tx s) p) M i 1 k r/\w'.heap[tb]?=some (Mu r p (p+k))/\Kp [tb] w2 w')
   (fun s9 _=>n-(aG s9).toNat)
  case atStart=>exact⟨0,0,0,rfl,bU _,bU _,BI.start _ _,B2.o,Kp.refl _ _⟩
  case round =>
   clear B2;obtain⟨i,k,r,rfl,hi,Oa,bi,bt,kb⟩:=hrel;obtain⟨D6,BT,KB⟩:=cR bi bt kb;have Cy:Kp [] w wr:=KA.o.trans kb (fun x hx=>.inr (by rw[bQ.1 hx];exact Ig.o));have cX:wr.cell? ⟨X,0,none⟩=some (.slice at_ (ae ts) ct):=(by rw[aF (Cy.keep BX.o (by simp)),Mf]);have wM:=aj Cy;have dD:=HN.o;by_cases dx:i<n
   .have gZ:(i:Int)<ae ts:=(by omega);obtain⟨a2,c2,e2,od⟩:=I6 (aJ OW.o Cy (by simp));obtain⟨tL,ga,ci⟩:=od i (by omega);simp only[fy]at e2;rw[<-e2.1]at ga;subst ga;have mO:=sB (ts:=ts) (i:=i) (by omega);have ln:∀W,Kp [] w W->aI aB 25 #[.pointer (some ⟨(ts.getD i dT).r,4,none⟩),.string (s.extract p s.size)] W (p9 (L i) (s.extract p s.size) (BD (s.extract p s.size).size) W):=fun W hW=>by
     have:=(HX.o.jA hW).lengths mO (s.extract p s.size) (by rw[Gn.o];omega);rw[HL.o i dx]at this;exact this
    have LN:=aj ln;clear ln mO od e2 Cy kb bt bi dD;generalize (ts.getD i dT).r=rr at *;have hpp:(p:Int)<=s.size:=(by omega);go_upto_region 7 with fail;go_region_law ((go_simp;go_at_call 25;refine(LN.o _ wM.o.drew).mono ?_;rintro _ w3 ⟨bo,lo,rfl,Sr,pq,WW,k3⟩))
    all_goals
     rw[Gn.o]at WW;(try rw[Gn.o]);have K3:ax (Kp [tb] w2 w3):=KB.o.drew.trans k3 (by simp);have B3:ax (w3.heap[tb]?=some (Mu r p (p+k))):=k3.keep (show wr.drew.heap[tb]?=_ from BT.o) (by simp);have Cq:tb<wr.heap.size:=aE BT.o;have nbo:ax (bo≠tb):=fun e=>by
      have:wr.heap.size<=bo:=pq;omega
     have Eb:=aj Sr;(have lu:(ae lo)=M+1:=by rw[WW.len,xU,Gn.o]);have zi:=aj lu;have HP:ax (∀m,m<=M->(lo.getD m false=true↔PM L (tx s) p i m)):=fun m hm=>by
      have:=ajX WW (j:=m) (by rw[xU,Gn.o];exact hm);rw[TXE.o]at this;exact this
     clear WW k3 Sr pq lu BT KB cX ci Cq LN wM;go_upto_region 9 with fail;go_loopw [11] (fun rK w'=>∃(m k r:Nat),rK=.int .i64 m/\1<=m/\m<=M+1/\k<=M/\BI (PM L (tx s) p) M i m k r/\w'.heap[tb]?=some (Mu r p (p+k))/\Kp [tb] w3 w')
      (fun rK _=>M+1-(aG rK).toNat)
     case atStart=>exact⟨1,k,r,rfl,aH _,by omega,Oa,D6.o,B3.o,Kp.refl _ _⟩
     case round =>
      clear B3 D6 Oa;obtain⟨m,k,r,rfl,Fj,Fk,Oa,bi,bt,kc⟩:=hrel;obtain⟨D6,BT,KC⟩:=cR bi bt kc;by_cases hml:m<M+1
      .have abt:(m:Int)<((M+1:Nat):Int):=(by omega);have cm:=gz (kc.keep Eb.o (by simpa using nbo.o)) m (by rw[zi.o];exact hml);(have c2:wr.cell? ⟨tb,2,none⟩=some (.int .i64 (p+k:Nat)):=by rw[aF bt];rfl);(have c0:wr.cell? ⟨tb,0,none⟩=some (.int .i64 r):=by rw[aF bt];rfl);have f2:=cM bt 2;have f0:=cM bt 0;have zT:=HP.o m (by omega);clear bi bt kc;cases hb:lo.getD m false
       .rw[hb]at cm;(have NO:ax (¬PM L (tx s) p i m):=fun q=>by rw[zT.2 q]at hb;cases hb);clear hb zT;go_wp2;exact⟨⟨m+1,k,r,by go_num,by omega,by omega,Oa,D6.o.no NO.o,BT.o,KC.o⟩,by simp[aG];omega⟩
       .rw[hb]at cm;have YES:ax (PM L (tx s) p i m):=zT.1 hb;clear hb zT;by_cases hkm:k<m
        .have akV:((p+k:Nat):Int)<(p:Int)+m:=(by omega);(have CY:ax (∀v0 v2:aq,v0=.int .i64 (i:Nat)->v2=.int .i64 (p+m:Nat)->((wr.setCell ⟨tb,2,none⟩ v2).setCell ⟨tb,0,none⟩ v0).heap[tb]?=some (Mu i p (p+m))):=fun v0 v2 e0 e2=>aoI BT.o e0 e2);(have KC2:ax (∀v0 v2:aq,Kp [tb] w3 ((wr.setCell ⟨tb,2,none⟩ v2).setCell ⟨tb,0,none⟩ v0)):=fun v0 v2=>(KC.o.set (by simp) _ _).set (by simp) _ _);go_wp2;exact⟨⟨m+1,m,i,by go_num,by omega,by omega,by omega,D6.o.more Fj (by omega) hkm YES.o,CY.o _ _ rfl (by go_num),KC2.o _ _⟩,by simp[aG];omega⟩
        .have akV:¬((p+k:Nat):Int)<(p:Int)+m:=(by omega);go_wp2;exact⟨⟨m+1,k,r,by go_num,by omega,by omega,Oa,D6.o.less Fj (by omega),BT.o,KC.o⟩,by simp[aG];omega⟩
      .have abt:¬(m:Int)<((M+1:Nat):Int):=(by omega);have hme:m=M+1:=(by omega);subst hme;have KC2:ax (Kp [tb] w2 wr):=K3.o.trans kc (by simp);clear bi bt kc;go_wp2;exact⟨⟨i+1,k,r,by go_num,by omega,Oa,D6.o.next,BT.o,KC2.o⟩,by simp[aG];omega⟩
   .have gZ:¬(i:Int)<ae ts:=(by omega);have m7:i=n:=(by omega);subst m7;have OV3:ax (wr.ownsRow 0 59 3 vt (ae tk) (rP tk)):=aJ OV2.o kb (fun g hg hm=>by rw[bQ.1 hm]at hg;exact NVT.o hg);(have c2:wr.cell? ⟨tb,2,none⟩=some (.int .i64 (p+k:Nat)):=by rw[aF bt];rfl);(have c1:wr.cell? ⟨tb,1,none⟩=some (.int .i64 p):=by rw[aF bt];rfl);(have c0:wr.cell? ⟨tb,0,none⟩=some (.int .i64 r):=by rw[aF bt];rfl);clear bi bt kb Cy dD;by_cases Xb:k=0
    .subst Xb;have HC:ax (ya L i (tx s) 0 tk p):=CT.o.done (by have:=D6.o;rw[<-HMX.o]at this;exact this.none);(have hq:(((p+0:Nat):Int) == (p:Int))=true:=by simp);go_wp2;refine cF (v:=.tuple #[vt,.int .i64 p]) ?_ rfl ⟨wM.o,tk,vt,p,rfl,OV3.o,HC.o,LVT.o⟩;simp[eG,Tryz.results29,go_sem]
    .have hq:(((p+k:Nat):Int) == (p:Int))=false:=by
      have:((p+k:Nat):Int)≠p:=(by omega);simpa using this
     have hb:=D6.o;rw[<-HMX.o]at hb;have aeO:=hb.some (by omega);obtain⟨Wm,kpos⟩:=CT.o.token aeO (by omega);have UR:=aj Wm;have zO:=CT.o.few;clear hb aeO Wm;go_upto_region 16 with fail;(go_upto_region 17 with(at_builtin;go_must (refine qU rfl _ _ _ rfl 59 i0 _ 3 24 VY I0.o Z0.o Z1.o Z2.o rfl (by omega) vt (ae tk) (rP tk) rfl (OV3.o.alloc _) ⟨wr.heap.size,0,none⟩ 1 1 (Ga ((r:Int),p,p+k)) rfl rfl (gN (cs:=#[.int .i64 r,.int .i64 p,.int .i64 (p+k:Nat)]) (t:=59) (fr:=(0,0)) (jS wr _)) (by simp[Ga,dS]) (by omega) (by unfold eB;omega) (by omega) (wr.heap.size+1) (by simp) ?_);intro g1 aP w3 cT bj cy iz;have d2:w3.cell? ⟨tb,2,none⟩=some (.int .i64 (p+k:Nat)):=(by rw[aF (fY bj (b:=tb) (by rw[aC,az (bY (aE BT.o))];exact BT.o) (fun e=>NVT.o e))];rfl)));have K4:ax (Kp [] w w3):=(wM.o.alloc _).qt bj (fun g e=>.inr (LVT.o g e));have OV4:ax (w3.ownsRow 0 59 3 (.slice (some ⟨g1,0,none⟩) (ae tk+1) aP) (tk ++ [((r:Int),p,p+k)]).length (rP (tk ++ [((r:Int),p,p+k)]))):=by
      show World.ownsRow _ _ _ _ _ _ _;rw[cx,rP,ac7];simpa [rP]using cT
     have LV4:ax (∀g,(uB (some ⟨g1,0,none⟩) (ae tk+1) aP).ownBlock=some g->w.heap.size<=g):=fun g e=>by
      simp[aK]at e;subst e;have:=wM.o.size;rcases cy with q|q
      .exact LVT.o _ q
      .omega
     clear cT bj cy iz;go_wp2;exact⟨⟨p+k,_,tk ++ [((r:Int),p,p+k)],rfl,by go_num,UR.o,K4.o,OV4.o,LV4.o⟩,by simp[aG];omega⟩
end
def ic(w:ay)(e:cL)(size:Nat)(Q:Nat->aq->Prop)(u:aq)(n:Nat):Prop:=∃xs,w.ownsRow 0 e size u n xs/\∀j v,xs[j]?=some v->Q j v
theorem ic.kp{w w':ay}{e:cL}{size:Nat}{Q:Nat->aq->Prop}{u:aq}{n:Nat}{ys:List Nat}(h:ic w e size Q u n)(hk:Kp ys w w')(hy:∀g,u.ownBlock=some g->g∉ys):ic w' e size Q u n:=by
 obtain⟨xs,o,q⟩:=h;exact⟨xs,aJ o hk hy,q⟩
theorem aiN(w:ay)(t ty:cL)(e:cL)(i:TypeInfo)(z:aq)(size bytes:Nat)(ht:aB.underlying t=some (.slice e))(hi:aB.info? e=some i)(hz:i.zero=some z)(Oi:i.size=size)(NX:i.bytes=bytes)(Tx:z.cells.size=size)(Ir:0<size)(Q:Nat->aq->Prop)(v:aq)(n:Nat)(jP:ic w e size Q v n)(ad:Addr)(m c:Nat)(news:List aq)(hl:(ae news)=m*size)(Lg:∀j u,news[j]?=some u->w.cell? (ad.add j)=some u)(hQ:∀j u,news[j]?=some u->Q (n*size+j) u)(h1:∀u∈news,u.oneCell'=true)(hm:0<m)(NM:n+m<=eB)(DC:(n+m)*bytes<=140737488355328):∃g cap w',(Builtin.append_ #[t,t] ty #[v,.slice (some ad) m c]).run aB w=.ok (.slice (some ⟨g,0,none⟩) (n+m) cap) w'/\ic w' e size Q (.slice (some ⟨g,0,none⟩) (n+m) cap) (n+m)/\(∀u n',ic w e size Q u n'->n'<=n+m->ic w' e size Q u n')/\w.grownBy w' v.ownBlock/\(v.ownBlock=some g\/g=w.heap.size):=by
 obtain⟨xs,own,hxs⟩:=jP;obtain⟨g,cap,w',Cp,pY,grow,cy,iz⟩:=run_append_lies (P:=aB) w t ty 0 e i z size bytes ht hi hz Oi NX Tx Ir v n xs own ad m c news hl Lg h1 hm NM DC (bU _) _ rfl;have xo:∀j u,(xs++news)[j]?=some u->Q j u:=fun j u hu=>by
  rcases eK j (ae xs) with q|q
  .rw[iI q]at hu;exact hxs j u hu
  .rw[mU q]at hu;have:=hQ _ u hu;rw[own.1]at this q;rw[show n*size+(j-n*size)=j by omega]at this;exact this
 refine⟨g,cap,w',Cp,⟨_,pY,xo⟩,fun u n' hu hn'=>?_,grow,cy⟩;by_cases hb:v.ownBlock=none\/u.ownBlock≠v.ownBlock
 .obtain⟨ys,o,q⟩:=hu;refine⟨ys,o.kept grow ?_,q⟩;rcases hb with e|e
  .rw[e];cases Ok:u.ownBlock with
   |none=>exact .inl rfl
   |some k=>exact .inr (by simp)
  .exact .inr e
 .obtain⟨ys,o,q⟩:=hu;have cP:v.ownBlock≠none:=fun e=>hb (.inl e)
  have qv:u.ownBlock=v.ownBlock:=ur fun e=>hb (.inr e)
  rcases own.2 with⟨rfl,_⟩|⟨g0,E9,cur,rfl,_,hg,hnc,KU,eY,alf⟩
  .exact absurd rfl cP
  .rcases o.2 with⟨rfl,_⟩|⟨g1,aP,apu,rfl,_,jI,afa,aeQ,aeS,alg⟩
   .simp[aK]at qv
   .simp only[aK,aV]at qv;subst qv;rw[hg]at jI;simp only[aV,fE,and_true]at jI;subst jI;subst Oi;subst NX;by_cases afk:n+m<=E9
    ·(have akO:n*i.size+ae news<=cur.size:=by rw[hl,eY,<-J1];exact Ez _ afk);have hr:=run_append_room (P:=aB) w t ty e i ht hi g1 n E9 cur hg ad m c news hl Lg h1 afk akO;rw[hr]at Cp;simp only[aiq]at Cp;obtain⟨_,rfl⟩:=Cp;have my:=setRow_heap w g1 cur (cur.toList.take (n*i.size)++news++cur.toList.drop (n*i.size+ae news)).toArray e _ hg;have cW:(cur.toList.take (n*i.size)++news++cur.toList.drop (n*i.size+ae news)).toArray.size=cur.size:=by
      simp only[List.size_toArray,cx,GJ,Qx,Jj];omega
     have iu:n' * i.size<=(xs++news).length:=by
      rw[cx,own.1,hl,<-J1];exact Ez _ hn'
     refine⟨(xs++news).take (n' * i.size),⟨by rw[GJ];omega,.inr ⟨g1,aP,_,rfl,bU _,my,afa,aeQ,by rw[cW];exact aeS,?_⟩⟩,fun j u hu=>?_⟩
     .rw[alf];show(xs++news++_).take (n' * i.size)=_;rw[List.take_append_of_le_length iu]
     .rw[Eu]at hu;split at hu
      .exact xo j u hu
      .cases hu
    ·(have ak5:∀j u,xs[j]?=some u->w.cell? ((⟨g1,0,none⟩:Addr).add j)=some u:=own.cells (g:=g1) rfl);have hr:=run_append_grow (P:=aB) w t ty e i z ht hi hz ⟨g1,0,none⟩ n E9 xs own.1 ak5 ad m c news hl Lg (by omega) (by simp only[eB]at NM;omega) (growslice_fits (by omega) DC);rw[hr]at Cp;simp only[aiq]at Cp;obtain⟨_,rfl⟩:=Cp;refine⟨ys,⟨o.1,.inr ⟨g1,aP,cur,rfl,bU _,?_,afa,aeQ,aeS,alg⟩⟩,q⟩;exact(heap_alloc_old w.drew _ (show g1<w.drew.heap.size from aE hg)).trans hg
theorem dN.empty{w:ay}{p:Nat}(h:w.heap[p]?=some (.cells #[.slice none 0 0,.slice none 0 0] 100 (0,0))):dN w p [] [] (.slice none 0 0) (.slice none 0 0) :=
 ⟨h,⟨rfl,.inl ⟨rfl,rfl⟩⟩,⟨rfl,.inl ⟨rfl,rfl⟩⟩,rfl,by simp[aK],by simp[aK],by simp[aK]⟩
theorem agK(s:ByteArray)(w:ay):aI aB 20 #[.string s] w fun x w'=>∃(p:Nat) (e:Bool) (f l:Nat),x=.returned (.tuple #[.pointer (some ⟨p,0,none⟩),dQ e f l,.int .i64 (cO s).err,.int .i64 (cO s).pl])/\Kp [] w w'/\((cO s).err=0->∃(bs fs:List Nat) (vb vf:aq),dN w' p bs fs vb vf/\(ae bs)<=16/\jE (fun q=>bs.getD q 0) (fun q=>fs.getD q 0) 0 (ae bs) e f l (cO s).v.fV):=by
 go_enter Tryz.func20,Tryz.ntmps20;go_upto_region 2 with fail;have kW:Kp [] w ((w.alloc cJ).alloc (.cells #[.slice none 0 0,.slice none 0 0] 100)):=((Kp.refl _ w).alloc _).alloc _;have bZ:((w.alloc cJ).alloc (.cells #[.slice none 0 0,.slice none 0 0] 100)).heap[w.heap.size]?=some cJ:=(by rw[aC,aM,az (by omega),aC,aA rfl]);have bP:((w.alloc cJ).alloc (.cells #[.slice none 0 0,.slice none 0 0] 100)).heap[w.heap.size+1]?=some (.cells #[.slice none 0 0,.slice none 0 0] 100 (0,0)):=(by rw[aC,aM,aA rfl]);generalize (w.alloc cJ).alloc (.cells #[.slice none 0 0,.slice none 0 0] 100)=W at *;have P0:=aj (dN.empty bP);have KW:=aj kW;have BZ:=aj bZ;clear kW bZ bP;go_wp2_with fail;refine(agA s (w.heap.size+1) [] [] _ _ _ (by exact P0.o) (by simp)).mono ?_;rintro _ w2 ⟨e,f,l,rfl,k2,_,iW⟩;have K2:ax (Kp [] w w2):=KW.o.trans k2 (by intro y hy;have:=n7.1 hy;simp[aK]at this;right;omega);have Br:w2.heap[w.heap.size]?=some cJ:=k2.keep BZ.o (by intro hm;have:=n7.1 hm;simp[aK]at this);have o6:=aj iW;have yV:=aE Br;clear k2 iW;go_upto_region 3 with fail;have k3:Kp [] w2 (w2.alloc (cZ e f l)):=(Kp.refl _ _).alloc _;have Ro:(w2.alloc (cZ e f l)).heap[w.heap.size]?=some cJ:=k3.keep Br (by simp);have Rk:(w2.alloc (cZ e f l)).heap[w2.heap.size]?=some (cZ e f l):=(by rw[aC,aA rfl]);have cP:w.heap.size≠w2.heap.size:=bY yV;generalize w2.alloc (cZ e f l)=W3 at *;generalize w2.heap.size=P at *;obtain⟨⟨oy,oz,oB,oC,sR,sS,sU,sV,sX⟩,pF,pG,pH,pI,uU,uV,uW,uX,uY⟩:=gC Ro;obtain⟨⟨Ut,Uu,pc2,pc3,pc4,pc5,pc6,pc7,pc8⟩,_⟩:=gC Rk;have Jr:=aj Ro;have K3:=aj k3;clear Br Ro Rk k3;go_region
 all_goals
  go_wp2;have kE:Kp [w.heap.size] W3 ((((((((((W3.setCell ⟨w.heap.size,0,none⟩ (.bool e)).setCell ⟨w.heap.size,1,none⟩ (.int .u64 (wd f 0))).setCell ⟨w.heap.size,2,none⟩ (.int .u64 (wd f 1))).setCell ⟨w.heap.size,3,none⟩ (.int .u64 (wd f 2))).setCell ⟨w.heap.size,4,none⟩ (.int .u64 (wd f 3))).setCell ⟨w.heap.size,5,none⟩ (.int .u64 (wd l 0))).setCell ⟨w.heap.size,6,none⟩ (.int .u64 (wd l 1))).setCell ⟨w.heap.size,7,none⟩ (.int .u64 (wd l 2))).setCell ⟨w.heap.size,8,none⟩ (.int .u64 (wd l 3))).drew):=((Kp.refl _ _).mQ (.inl (by simp)) _ _ _ _ _ _ _ _ _).drew;have e0:((((((((((W3.setCell ⟨w.heap.size,0,none⟩ (.bool e)).setCell ⟨w.heap.size,1,none⟩ (.int .u64 (wd f 0))).setCell ⟨w.heap.size,2,none⟩ (.int .u64 (wd f 1))).setCell ⟨w.heap.size,3,none⟩ (.int .u64 (wd f 2))).setCell ⟨w.heap.size,4,none⟩ (.int .u64 (wd f 3))).setCell ⟨w.heap.size,5,none⟩ (.int .u64 (wd l 0))).setCell ⟨w.heap.size,6,none⟩ (.int .u64 (wd l 1))).setCell ⟨w.heap.size,7,none⟩ (.int .u64 (wd l 2))).setCell ⟨w.heap.size,8,none⟩ (.int .u64 (wd l 3))).drew).heap[w.heap.size]?=some (cZ e f l):=by
   simp only[eO,aQ,Jr.o];simp[eD]
  obtain⟨⟨x0,x1,x2,x3,x4,x5,x6,x7,x8⟩,_⟩:=gC e0;refine cF (v:=.tuple #[.pointer (some ⟨w.heap.size+1,0,none⟩),dQ e f l,.int .i64 (cO s).err,.int .i64 (cO s).pl]) ?_ rfl ⟨w.heap.size+1,e,f,l,rfl,(K2.o.trans K3.o (by simp)).trans kE (by simp),fun h0=>?_⟩
  .simp[eG,Tryz.results20,go_sem,x0,x1,x2,x3,x4,x5,x6,x7,x8]
  .obtain⟨bs,fs,vb,vf,hp,oR,h1,h2,h3,h4,h5⟩:=o6.o h0;refine⟨bs,fs,vb,vf,(hp.kp K3.o (by simp)).kp kE (by intro k hk;simp at hk;subst hk;intro hm;rcases oR _ hm with e|e;(have:=n7.1 e;simp[aK]at this);(have:=KW.o.size;have:=aE BZ.o;omega)),by simp at h2;omega,by have h6:=h5.part;simpa using h6⟩
theorem anB(s:ByteArray)(w:ay):aI aB 10 #[.string s] w fun x w'=>x=.returned (.tuple #[.int .i64 (cO s).err,.int .i64 (cO s).pl])/\dA w.heap.size w w':=by
 go_enter Tryz.func10,Tryz.ntmps10;go_wp2_with fail;refine(agK s _).mono ?_;rintro _ w2 ⟨p,e,f,l,rfl,k2,_⟩;have K2:=aj k2;clear k2;go_wp2;refine cF (v:=.tuple #[.int .i64 (cO s).err,.int .i64 (cO s).pl]) ?_ rfl ⟨rfl,(K2.o.alloc _).toBelow⟩;simp[eG,Tryz.results10,go_sem]
open Classical in
theorem al8(s t:ByteArray)(w:ay)(ht:t.size<=100000):aI aB 13 #[.string s,.string t] w fun x w'=>x=.returned (.tuple #[.bool (decide ((cO s).err=0/\(cO s).v.fV (tx t))),.int .i64 (cO s).err])/\dA w.heap.size w w':=by
 go_enter Tryz.func13,Tryz.ntmps13;go_wp2_with fail;refine(agK s _).mono ?_;rintro _ w2 ⟨p,e,f,l,rfl,k2,iW⟩;have K2:=aj k2;have o6:=aj iW;clear k2 iW;by_cases h0:(cO s).err=0
 .obtain⟨bs,fs,vb,vf,hp,hn,hL⟩:=o6.o h0;have hv:=hL.wj (tx t);have H0:=aj h0;have P2:=aj (hp.kp ((Kp.refl [] w2).alloc (cZ e f l)) (by simp));have HV:=aj hv;have hq:((cO s).err != 0)=false:=by simp[h0]
  clear hp hL hv h0;go_wp2_with fail;refine(al9 p e f l t bs fs vb vf _ (by exact P2.o) (by omega) ht).mono ?_;rintro _ w3 ⟨rfl,h3⟩;have K3:=aj ((K2.o.alloc (cZ e f l)).below h3);clear h3;go_wp2;refine cF (v:=.tuple #[.bool (wj bs fs l f e (tx t)),.int .i64 0]) ?_ rfl ⟨?_,K3.o.toBelow⟩
  .simp[eG,Tryz.results13,go_sem]
  .rw[H0.o];have:wj bs fs l f e (tx t)=decide ((0:Int)=0/\(cO s).v.fV (tx t)):=by
    rw[C1,HV.o];simp
   rw[this]
 .have hq:((cO s).err != 0)=true:=by simp[h0]
  have H0:=aj h0;clear h0;go_wp2;refine cF (v:=.tuple #[.bool false,.int .i64 (cO s).err]) ?_ rfl ⟨?_,(K2.o.alloc _).toBelow⟩
  .simp[eG,Tryz.results13,go_sem]
  .rw[show decide ((cO s).err=0/\(cO s).v.fV (tx t))=false from by simp[H0.o]]
theorem aol(t:ByteArray)(w:ay):aI aB 9 #[.string t] w fun x w'=>∃t':ByteArray,x=.returned (.string t')/\t'.size<=200/\w'=w:=by
 by_cases h:t.size<=200
 .have q:(t.size:Int)<=200:=(by omega);go_enter Tryz.func9,Tryz.ntmps9;go_wp2;go_ret;exact⟨t,rfl,h,rfl⟩
 .have q:(200:Int)<t.size:=(by omega);have q2:(200:Int)<=t.size:=(by omega);have HN:=aj h;clear h;go_enter Tryz.func9,Tryz.ntmps9;go_wp2;go_ret;refine⟨t.extract 0 200,rfl,?_,rfl⟩;rw[ByteArray.size_extract];omega
theorem Um(e:Int)(w:ay):aI aB 12 #[.int .i64 e] w fun x w'=>x=.returned (.int .i64 e)/\w'=w:=by
 go_enter Tryz.func12,Tryz.ntmps12;go_wp2;go_ret;exact⟨rfl,rfl⟩
abbrev ue:Obj:=.cells #[.slice none 0 0,.slice none 0 0,.slice none 0 0,.slice none 0 0] 31 (0,0)
abbrev opV(k o:Int)(p t:ByteArray)(v:aq):aq:=.agg #[.int .i64 k,.int .i64 o,.string p,.string t,v]
theorem RJ{w:ay}{b:Nat}{x0 x1 x2 x3 x4:aq}{e:cL}(h:w.heap[b]?=some (.cells #[x0,x1,x2,x3,x4] e (0,0))):w.cell? ⟨b,0,none⟩=some x0/\w.cell? ⟨b,1,none⟩=some x1/\w.cell? ⟨b,2,none⟩=some x2/\w.cell? ⟨b,3,none⟩=some x3/\w.cell? ⟨b,4,none⟩=some x4/\w.frozen? ⟨b,3,none⟩=false :=
 ⟨by rw[aF h];rfl,by rw[aF h];rfl,by rw[aF h];rfl,by rw[aF h];rfl,by rw[aF h];rfl,cM h _⟩
structure se where
 k:Int
 o:Int
 p:ByteArray
 t:ByteArray
 v:aq
def pX(d:se):List aq:=[.int .i64 d.k,.int .i64 d.o,.string d.p,.string d.t,d.v]
def ja(ds:List se):List aq:=ds.flatMap pX
theorem aa9(ds:List se):(ja ds).length=ae ds*5:=by
 induction ds with
 |nil=>rfl
 |cons n ns ih=>simp only[ja,List.flatMap_cons,cx,Dg]at *;rw[ih];simp[pX];omega
theorem aeo(a b:List se):ja (a++b)=ja a++ja b:=by simp[ja]
theorem RM:∀(ds:List se) (k:Nat) (d:se),ds[k]?=some d->∀i,i<5->(ja ds)[k*5+i]?=(pX d)[i]?:=by
 intro ds;induction ds with
 |nil=>intro k d h;simp at h
 |cons n ns ih =>
  intro k d h i hi;have e:ja (n::ns)=pX n++ja ns:=(by simp[ja]);rw[e];cases k with
  |zero =>
   simp only[j7,aV]at h;subst h;rw[iI (by simp[pX];omega)];simp
  |succ k =>
   rw[mV]at h;rw[mU (by simp[pX];omega),show(k+1)*5+i-(pX n).length=k*5+i by simp[pX];omega];exact ih k d h i hi
theorem afy:(aB.info? 34).map (fun i=>(i.zero,i.size,i.bytes))=some (some (.agg #[.int .i64 0,.int .i64 0,.string ⟨#[]⟩,.string ⟨#[]⟩,.slice none 0 0]),5,72):=by kernel_rfl
structure Kc(w:ay)(a:Option Addr)(n:Nat)(ops:List se):Prop where
 len:(ae ops)=n
 src:n=0\/∃ad,a=some ad/\∀j u,(ja ops)[j]?=some u->w.cell? (ad.add j)=some u
 one:∀d∈ops,d.v.oneCell'=true
def lD(B:Nat):List se:=[⟨2,0,⟨#[97,43,98]⟩,⟨#[97,97,98]⟩,.slice none 0 0⟩,⟨3,0,⟨#[]⟩,⟨#[]⟩,.slice (some ⟨B,0,none⟩) 3 3⟩,⟨4,0,⟨#[]⟩,⟨#[105,102,32,105,102,102,121,32,57]⟩,.slice none 0 0⟩]
theorem ad1{w w':ay}(h:Kp [] w w'){a:Addr}{u:aq}(hc:w.cell? a=some u):w'.cell? a=some u:=by
 have aN:a.block<w.heap.size:=by
  rcases eK a.block w.heap.size with x|x
  .exact x
  .have:w.heap[a.block]?=none:=kP x;simp[vE,this]at hc
 have:=h.block a.block aN (by simp);unfold vE at hc |-
 rw[this];exact hc
theorem aha{ops:Array Oper}{rest:List Oper}{o:Oper}{a:Act}{Q:Exit->Act->ay->Prop}{w:ay}(iK:o.guard=none)(s x:Operand)(t:cL)(ho:o.op=.call { callee:=.builtin .append,args:=#[s,x],argTypes:=#[t,t] })(v u:aq)(hs:a.eval s=v)(hx:a.eval x=u)(Cp:(Builtin.append_ #[t,t] o.type #[v,u]).run aB w=.ok v w)(h:wpList aB ops Q rest (a.put o.dst v) w):wpList aB ops Q (o::rest) a w:=by
 refine wpList_plain iK fun K hK=>?_
 unfold Oper.wp;simp[execOp,ho,resolve,invoke,builtin,hs,hx,Cp,Result.andThen];exact hK _ _ h
def lC(n:Nat):Int:=-1000-((n / 4:Nat):Int)
theorem IK(n:Nat)(hn:n<=10000000000000000)(w:ay):aI aB 19 #[.int .i64 n] w fun e w'=>e=.returned (.int .i64 (lC n))/\w'=w:=by
 have h2:-1000-(n:Int) / 4=lC n:=by unfold lC;omega
 have H2:=aj h2;clear h2;go_enter Tryz.func19,Tryz.ntmps19;go_wp2;exact cF (v:=.int .i64 (-1000-(n:Int) / 4)) (by simp[eG,Tryz.results19,go_sem]) rfl ⟨by rw[H2.o],rfl⟩
theorem am1(c:Int)(n:Nat)(hc:-9223372036854775808<=c/\c<=9223372036854775807)(hn:0<n)(Fl:n<=10000000000000)(w:ay):aI aB 16 #[.int .i64 c,.int .i64 n] w fun e w'=>∃r:Nat,e=.returned (.int .i64 r)/\r<n/\w'=w:=by
 have key:∀x:Int,0<=x->∃r:Nat,x % (n:Int)=r/\r<n:=fun x hx=>by
  have h1:=Int.emod_nonneg x (show(n:Int)≠0 by omega);have h2:=Int.emod_lt_of_pos x (show 0<(n:Int) by omega);exact⟨(x % (n:Int)).toNat,by omega,by omega⟩
 go_enter Tryz.func16,Tryz.ntmps16;by_cases h:c<0
 .go_wp2;obtain⟨r,h1,h2⟩:=key (-(c+1)) (by omega);have e:-(c+1).tmod (n:Int)=r:=(by rw[<-Int.neg_tmod,Int.tmod_eq_emod_of_nonneg (by omega),h1]);exact cF (v:=.int .i64 r) (by simp[eG,Tryz.results16,go_sem,e]) rfl ⟨r,rfl,h2,rfl⟩
 .go_wp2;obtain⟨r,h1,h2⟩:=key c (by omega);exact cF (v:=.int .i64 r) (by simp[eG,Tryz.results16,go_sem,h1]) rfl ⟨r,rfl,h2,rfl⟩
section
variable{r k B x e n sz g1 aP k' i:Nat}{o:Obj}{xs F:List Nat}{ts:List TD}
theorem Kp.Wi{w w':ay}(h:Kp xs w w'){b o:Nat}(hb:b<w.heap.size)(hx:b∉xs):w'.cell? ⟨b,o,none⟩=w.cell? ⟨b,o,none⟩:=by
 unfold vE;rw[h.block b hb hx]
theorem YO{w w':ay}{vn va:aq}{T:bw}(h:kz w vn va T)(l:vC B w vn va T.N)(hk:Kp xs w w')(hx:∀y∈xs,y<B):kz w' vn va T/\vC B w' vn va T.N:=by
 have s:=hk.size;have nx:∀b,B<=b->b∉xs:=fun b hb hm=>by have:=hx b hm;omega
 obtain⟨⟨gn,cap,rfl,lg,hr⟩,⟨ga,ki,rfl,la,ha⟩⟩:=h;have n1:=l.n gn rfl;have n2:=l.a ga rfl;refine⟨⟨⟨gn,cap,rfl,by omega,fun i hi=>?_⟩,⟨ga,ki,rfl,by omega,fun i hi=>by rw[hk.Wi la (nx _ n2)];exact ha i hi⟩⟩,⟨l.n,l.a,fun g hg i hi g2 m2 c2 hc=>?_⟩⟩
 .obtain⟨g,c,q1,q2,q3⟩:=hr i hi;have n3:=l.r gn rfl i hi g _ _ q1;exact⟨g,c,by rw[hk.Wi lg (nx _ n1)];exact q1,by omega,fun k Le=>by rw[hk.Wi q2 (nx _ n3)];exact q3 k Le⟩
 .simp only[aK,aV]at hg;subst hg;rw[hk.Wi lg (nx _ n1)]at hc;exact l.r gn rfl i hi g2 _ _ hc
theorem Er.Ow{w w':ay}{U:bw}(h:Er B w x U)(hB:B<=x)(hk:Kp xs w w')(hx:∀y∈xs,y<B):Er B w' x U:=by
 obtain⟨vn,va,b,tr,lw⟩:=h;have nx:∀b,B<=b->b∉xs:=fun b hb hm=>by have:=hx b hm;omega
 exact⟨vn,va,hk.keep b (nx _ hB),(YO tr lw hk hx).1,(YO tr lw hk hx).2⟩
theorem qf.Ow{w w':ay}{U:bw}(h:qf B w r ts U)(hk:Kp xs w w')(hx:∀y∈xs,y<B)(far:kV w xs):qf B w' r ts U:=by
 have nx:∀b,B<=b->b∉xs:=fun b hb hm=>by have:=hx b hm;omega
 obtain⟨tv,vn,va,b,ow,ol,tr,lw⟩:=h.ex;refine⟨⟨tv,vn,va,hk.keep b (nx _ h.lo),aJ ow hk (fun g hg=>nx _ (ol g hg)),ol,(YO tr lw hk hx).1,(YO tr lw hk hx).2⟩,h.lo,fun t ht=>?_⟩;obtain⟨a1,a2,a3,base,d,a4⟩:=h.tr t ht;exact⟨a1.gV hk far (nx _ a2),a2,a3,base,d,a4.kp hk (fun g hg=>nx _ (a3 g hg))⟩
structure zm(F:List Nat)(w:ay)(x r:Nat):Prop where
 ex:∃(w0:ay) (B:Nat) (xs:List Nat) (L:Nat->cC) (n:Nat) (U V:bw) (ts:List TD),Kp xs w0 w/\(∀y∈xs,y<B)/\kV w0 xs/\(∀f∈F,f∈xs\/w0.heap.size<=f)/\B<=x/\Er B w0 x U/\qf B w0 r ts V/\gL U (told L n)/\gL V (told L n)/\(ae ts)=n/\n<=6/\(∀k,k<n->(ts.getD k dT).a.fV=L k)/\U.N<=250/\U.C<=256
theorem zm.kp{F':List Nat}{w w':ay}(h:zm F w x r){ys:List Nat}(hk:Kp ys w w')(hy:∀y∈ys,y∈F\/w.heap.size<=y)(hF:∀f∈F',f∈F\/w.heap.size<=f):zm F' w' x r:=by
 obtain⟨w0,B,xs,L,n,U,V,ts,k,h1,h2,h3,rest⟩:=h.ex;have s:=k.size;have hf:∀f,(f∈F\/w.heap.size<=f)->f∈xs\/w0.heap.size<=f:=fun f hf=>by
  rcases hf with q|q
  .exact h3 f q
  .exact .inr (by omega)
 exact⟨w0,B,xs,L,n,U,V,ts,k.trans hk (fun y q=>hf y (hy y q)),h1,h2,fun f q=>hf f (hF f q),rest⟩
theorem zm.at{w:ay}(h:zm F w x r):∃(B:Nat) (L:Nat->cC) (n:Nat) (U V:bw) (ts:List TD),B<=x/\Er B w x U/\qf B w r ts V/\gL U (told L n)/\gL V (told L n)/\(ae ts)=n/\n<=6/\(∀k,k<n->(ts.getD k dT).a.fV=L k)/\U.N<=250/\U.C<=256:=by
 obtain⟨w0,B,xs,L,n,U,V,ts,k,h1,h2,h3,hx,ll,rl,rest⟩:=h.ex;exact⟨B,L,n,U,V,ts,hx,ll.Ow hx k h1,rl.Ow k h1 h2,rest⟩
abbrev uf(lv tv iv rv:aq):Obj:=.cells #[lv,tv,iv,rv] 31 (0,0)
def jL(W:Nat)(lv tv iv rv:aq):List Nat:=W::(lv.ownBlock.toList++(tv.ownBlock.toList++(iv.ownBlock.toList++rv.ownBlock.toList)))
theorem uL{W:Nat}{lv tv iv rv:aq}{f:Nat}:f∈jL W lv tv iv rv↔f=W\/lv.ownBlock=some f\/tv.ownBlock=some f\/iv.ownBlock=some f\/rv.ownBlock=some f:=by
 unfold jL;cases lv.ownBlock<;>cases tv.ownBlock<;>cases iv.ownBlock<;>cases rv.ownBlock<;>simp[eq_comm]
def zI(ps:List (Nat×Nat)):List aq:=ps.flatMap fun p=>[.pointer (some ⟨p.1,0,none⟩),.pointer (some ⟨p.2,0,none⟩)]
def QT(k j:Nat)(v:aq):Prop:=v=.int .i64 (if j % 3=0 then lC k else 0)
def QI(k:Nat)(_:Nat)(v:aq):Prop:=v=.int .i64 (lC k)
def EC(w:ay)(iv:aq)(k:Nat)(v:aq)(n:Nat):Prop:=ic w 61 1 (fun _ u=>∃g c,u=.slice (some ⟨g,0,none⟩) 1 c/\w.heap[g]?=some (iO [lC k])) v n/\∀g,v.ownBlock=some g->iv.ownBlock≠some g
theorem fC{w:ay}{base:Nat}{v:aq}{xs:List aq}(h:w.ownsRow base e sz v n xs){g:Nat}(hg:v.ownBlock=some g):∃c,w.heap[g]?=some (.cells c e (0,0)):=by
 rcases h.2 with⟨e1,_⟩|⟨g',cap,cur,e1,_,hc,_⟩
 .rw[e1]at hg;cases hg
 .rw[e1]at hg;simp only[aK,aV]at hg;subst hg;exact⟨cur,hc⟩
theorem gQ{w:ay}{g g' e':Nat}{c c':Array aq}(h:w.heap[g]?=some (.cells c e (0,0)))(h':w.heap[g']?=some (.cells c' e' (0,0)))(cP:e≠e'):g≠g':=fun q=>by
 rw[q,h']at h
 simp only[aV,fE]at h
 exact cP h.2.1.symm
structure eI(wS w:ay)(W:Nat)(lv tv iv rv:aq)(ps:List (Nat×Nat))(tl il rl:List aq)(m:Nat):Prop where
 k:Kp [] wS w
 blk:w.heap[W]?=some (uf lv tv iv rv)
 ol:w.ownsRow 0 53 2 lv (ae ps) (zI ps)
 ot:w.ownsRow 0 57 1 tv (ae tl) tl
 oi:w.ownsRow 0 61 1 iv (ae il) il
 sN:w.ownsRow 0 28 1 rv (ae rl) rl
 lo:∀f∈jL W lv tv iv rv,wS.heap.size<=f
 nl:(ae ps)<=m
 nt:(ae tl)<=4*m
 ni:(ae il)<=2000*m
 nr:(ae rl)<=4*m
 t4:(ae tl) % 4=0
 i4:(ae il) % 4=0
 r4:(ae rl) % 4=0
 pr:∀p∈ps,zm (jL W lv tv iv rv) w p.1 p.2
 tk:∀k v,tl[k]?=some v->∃n,ic w 59 3 (QT k) v n
 it:∀k v,il[k]?=some v->∃n,ic w 3 1 (QI k) v n
 rw:∀k v,rl[k]?=some v->∃n,EC w iv k v n
section
variable{wS w w':ay}{W:Nat}{lv tv iv rv:aq}{ps:List (Nat×Nat)}{tl il rl:List aq}{m:Nat}
theorem EC.kp{v:aq}{ys:List Nat}(h:EC w iv k v n)(hk:Kp ys w w')(h1:∀g,v.ownBlock=some g->g∉ys)(h2:∀g,w.heap[g]?=some (iO [lC k])->g∉ys):EC w' iv k v n:=by
 obtain⟨⟨xs,o,q⟩,cP⟩:=h;refine⟨⟨xs,aJ o hk h1,fun j u hu=>?_⟩,cP⟩;obtain⟨g,c,e1,e2⟩:=q j u hu;exact⟨g,c,e1,hk.keep e2 (h2 g e2)⟩
theorem eI.ty(h:eI wS w W lv tv iv rv ps tl il rl m):∀f∈jL W lv tv iv rv,∃c e,w.heap[f]?=some (.cells c e (0,0))/\e≠4/\e≠3/\e≠59/\(e=61->iv.ownBlock=some f):=fun f hf=>by
 rcases uL.1 hf with e|e|e|e|e
 .rw[e];exact⟨_,_,h.blk,by decide,by decide,by decide,fun q=>absurd q (by decide)⟩
 .obtain⟨c,hc⟩:=fC h.ol e
  exact⟨c,_,hc,by decide,by decide,by decide,fun q=>absurd q (by decide)⟩
 .obtain⟨c,hc⟩:=fC h.ot e
  exact⟨c,_,hc,by decide,by decide,by decide,fun q=>absurd q (by decide)⟩
 .obtain⟨c,hc⟩:=fC h.oi e
  exact⟨c,_,hc,by decide,by decide,by decide,fun _=>e⟩
 .obtain⟨c,hc⟩:=fC h.sN e
  exact⟨c,_,hc,by decide,by decide,by decide,fun q=>absurd q (by decide)⟩
theorem eI.far(h:eI wS w W lv tv iv rv ps tl il rl m):kV w (jL W lv tv iv rv):=fun b hb c e f hc=>by
 obtain⟨c',e',h1,h2,h3,_⟩:=h.ty b hb
 rw[h1]at hc
 simp only[aV,fE]at hc
 rw[<-hc.2.1];exact⟨h2,h3⟩
theorem eI.agb(h:eI wS w W lv tv iv rv ps tl il rl m){v:aq}{n:Nat}{Q:Nat->aq->Prop}(hs:ic w 59 3 Q v n):∀g,v.ownBlock=some g->g∉jL W lv tv iv rv:=fun g hg hm=>by
 obtain⟨xs,o,_⟩:=hs
 obtain⟨c,hc⟩:=fC o hg
 obtain⟨c',e',h1,_,_,h4,_⟩:=h.ty g hm
 exact gQ h1 hc h4 rfl
theorem eI.amo(h:eI wS w W lv tv iv rv ps tl il rl m){v:aq}{n:Nat}{Q:Nat->aq->Prop}(hs:ic w 3 1 Q v n):∀g,v.ownBlock=some g->g∉jL W lv tv iv rv:=fun g hg hm=>by
 obtain⟨xs,o,_⟩:=hs
 obtain⟨c,hc⟩:=fC o hg
 obtain⟨c',e',h1,_,h4,_⟩:=h.ty g hm
 exact gQ h1 hc h4 rfl
theorem eI.aga(h:eI wS w W lv tv iv rv ps tl il rl m){v:aq}{k n:Nat}(hs:EC w iv k v n):∀g,v.ownBlock=some g->g∉jL W lv tv iv rv:=fun g hg hm=>by
 obtain⟨⟨xs,o,_⟩,cP⟩:=hs
 obtain⟨c,hc⟩:=fC o hg
 obtain⟨c',e',h1,_,_,_,h5⟩:=h.ty g hm
 rw[hc]at h1
 simp only[aV,fE]at h1
 exact cP g hg (h5 h1.2.1.symm)
theorem eI.amn(h:eI wS w W lv tv iv rv ps tl il rl m){g:Nat}{l:List Int}(hg:w.heap[g]?=some (iO l)):g∉jL W lv tv iv rv:=fun hm=>by
 obtain⟨c',e',h1,_,h4,_⟩:=h.ty g hm
 exact gQ h1 hg h4 rfl
theorem eI.jA(h:eI wS w W lv tv iv rv ps tl il rl m)(hk:Kp [] w w'):eI wS w' W lv tv iv rv ps tl il rl m :=
 ⟨h.k.trans hk (by simp),hk.keep h.blk (by simp),aJ h.ol hk (by simp),aJ h.ot hk (by simp),aJ h.oi hk (by simp),aJ h.sN hk (by simp),h.lo,h.nl,h.nt,h.ni,h.nr,h.t4,h.i4,h.r4,
  fun p hp=>(h.pr p hp).kp hk (by simp) (fun f hf=>.inl hf),fun k v hv=>by obtain⟨n,s⟩:=h.tk k v hv;exact⟨n,s.kp hk (by simp)⟩,fun k v hv=>by obtain⟨n,s⟩:=h.it k v hv;exact⟨n,s.kp hk (by simp)⟩,fun k v hv=>by obtain⟨n,s⟩:=h.rw k v hv;exact⟨n,s.kp hk (by simp) (by simp)⟩⟩
theorem eI.more(h:eI wS w W lv tv iv rv ps tl il rl m):eI wS w W lv tv iv rv ps tl il rl (m+1) :=
 { h with nl:=by have:=h.nl;omega,nt:=by have:=h.nt;omega,ni:=by have:=h.ni;omega,nr:=by have:=h.nr;omega }
theorem eI.pos(h:eI wS w W lv tv iv rv ps tl il rl m):∀f∈jL W lv tv iv rv,f<w.heap.size:=fun f hf=>by
 obtain⟨c,e,h1,_⟩:=h.ty f hf
 exact aE h1
theorem X0{j:Nat}(h:k % 4=0)(hj:j<4):lC (k+j)=lC k:=by unfold lC;omega
theorem aim(h:lC k=lC k'):QT k=QT k':=by funext j v;unfold QT;rw[h]
theorem adp(h:lC k=lC k'):QI k=QI k':=by funext j v;unfold QI;rw[h]
theorem eI.nW(h:eI wS w W lv tv iv rv ps tl il rl m):lv.ownBlock≠some W/\tv.ownBlock≠some W/\iv.ownBlock≠some W/\rv.ownBlock≠some W:=by
 have q:∀ {v:aq} {e sz n:Nat} {xs:List aq},w.ownsRow 0 e sz v n xs->e≠31->v.ownBlock≠some W:=fun o ne e=>by
  obtain⟨c,hc⟩:=fC o e;exact gQ hc h.blk ne rfl
 exact⟨q h.ol (by decide),q h.ot (by decide),q h.oi (by decide),q h.sN (by decide)⟩
theorem V3{α:Type}{l vs:List α}{v:α}(h:(l++vs)[k]?=some v):l[k]?=some v\/(v∈vs/\(ae l)<=k/\k<ae l+ae vs):=by
 rcases eK k (ae l) with q|q
 .rw[iI q]at h;exact .inl h
 .rw[mU q]at h;have:=(fB.1 h).1;exact .inr ⟨qL h,q,by omega⟩
theorem eI.next{IE AA gJ xP:aq}{ps':List (Nat×Nat)}{tl' zZ wg:List aq}{m':Nat}(h:eI wS w W lv tv iv rv ps tl il rl m)(k:Kp (jL W lv tv iv rv) w w')(blk:w'.heap[W]?=some (uf IE AA gJ xP))(ol:w'.ownsRow 0 53 2 IE (ae ps') (zI ps'))(ot:w'.ownsRow 0 57 1 AA (ae tl') tl')(oi:w'.ownsRow 0 61 1 gJ (ae zZ) zZ)(sN:w'.ownsRow 0 28 1 xP (ae wg) wg)(hF:∀f∈jL W IE AA gJ xP,f∈jL W lv tv iv rv\/w.heap.size<=f)(nl:(ae ps')<=m')(nt:(ae tl')<=4*m')(ni:(ae zZ)<=2000*m')(nr:(ae wg)<=4*m')(t4:(ae tl') % 4=0)(i4:(ae zZ) % 4=0)(r4:(ae wg) % 4=0)(pr:∀p∈ps',p∈ps\/zm (jL W lv tv iv rv) w p.1 p.2)(tk:∀k v,tl'[k]?=some v->tl[k]?=some v\/∃n,ic w' 59 3 (QT k) v n)(it:∀k v,zZ[k]?=some v->il[k]?=some v\/∃n,ic w' 3 1 (QI k) v n)(rw_:∀k v,wg[k]?=some v->rl[k]?=some v\/∃n,EC w' gJ k v n):eI wS w' W IE AA gJ xP ps' tl' zZ wg m':=by
 have sz:=h.k.size;refine⟨h.k.trans k (fun y hy=>.inr (h.lo y hy)),blk,ol,ot,oi,sN,fun f hf=>?_,nl,nt,ni,nr,t4,i4,r4,fun p hp=>?_,fun k2 v hv=>?_,fun k2 v hv=>?_,fun k2 v hv=>?_⟩
 .rcases hF f hf with q|q
  .exact h.lo f q
  .omega
 .rcases pr p hp with q|q
  .exact(h.pr p q).kp k (fun y hy=>.inl hy) hF
  .exact q.kp k (fun y hy=>.inl hy) hF
 .rcases tk k2 v hv with q|q
  .obtain⟨n,s⟩:=h.tk k2 v q;exact⟨n,s.kp k (h.agb s)⟩
  .exact q
 .rcases it k2 v hv with q|q
  .obtain⟨n,s⟩:=h.it k2 v q;exact⟨n,s.kp k (h.amo s)⟩
  .exact q
 .rcases rw_ k2 v hv with q|q
  .obtain⟨n,s⟩:=h.rw k2 v q;have s':=s.kp k (h.aga s) (fun g hg=>h.amn hg);refine⟨n,s'.1,fun g hg e=>?_⟩;rcases hF g (uL.2 (.inr (.inr (.inr (.inl e)))))with z|z
   .exact h.aga s g hg z
   .obtain⟨⟨xs,o,_⟩,_⟩:=s;have:=(o.lt g hg).2;omega
  .exact q
theorem eI.acJ{w3:ay}(bj:(w.alloc o).grownBy w3 tv.ownBlock)(v:aq):Kp (jL W lv tv iv rv) w (w3.setCell ⟨W,1,none⟩ v) :=
 (((Kp.refl _ w).alloc o).grown bj (fun k e=>.inl (uL.2 (.inr (.inr (.inl e)))))).set (.inl (uL.2 (.inl rfl))) _ _
theorem eI.ags{w3:ay}(bj:(w.alloc o).grownBy w3 lv.ownBlock)(v:aq):Kp (jL W lv tv iv rv) w (w3.setCell ⟨W,0,none⟩ v) :=
 (((Kp.refl _ w).alloc o).grown bj (fun k e=>.inl (uL.2 (.inr (.inl e))))).set (.inl (uL.2 (.inl rfl))) _ _
theorem OP{w3:ay}{b e1 e2:Nat}{vv u v:aq}{c0:Array aq}{xs:List aq}(hW:w.heap[W]?=some (.cells c0 e1 (0,0)))(hv:∀g,vv.ownBlock=some g->∃c,w.heap[g]?=some (.cells c e2 (0,0)))(gr:(w.alloc o).grownBy w3 vv.ownBlock)(ow:w.ownsRow 0 e sz u n xs)(n1:e≠e1)(n2:e≠e2):(w3.setCell ⟨W,i,none⟩ v).ownsRow 0 e sz u n xs:=by
 refine aJ ow (ys:=W::vv.ownBlock.toList) ((((Kp.refl _ w).alloc o).grown gr (fun k e=>.inl (by simp[e]))).set (.inl (by simp)) _ _) (fun g hg hm=>?_);obtain⟨c,hc⟩:=fC ow hg;rcases gH.1 hm with q|q
 .rw[q]at hc;exact gQ hc hW n1 rfl
 .obtain⟨c',hc'⟩:=hv g (by simpa using q);exact gQ hc hc' n2 rfl
theorem Yl{w3:ay}{v:aq}{xs:List aq}(cT:w3.ownsRow 0 e sz (.slice (some ⟨g1,0,none⟩) n aP) n xs)(cP:g1≠W):(w3.setCell ⟨W,i,none⟩ v).ownsRow 0 e sz (.slice (some ⟨g1,0,none⟩) n aP) n xs :=
 aJ cT (show Kp [W] w3 _ from(Kp.refl _ _).set (by simp) _ _) (fun g hg hm=>by
  rw[bQ.1 hm]at hg
  simp only[aK,aV]at hg
  exact cP hg)
theorem eI.tokens{w3:ay}{vs:List aq}(h:eI wS w W lv tv iv rv ps tl il rl m)(uK:(ae vs)=4)(cT:w3.ownsRow 0 57 1 (.slice (some ⟨g1,0,none⟩) (ae tl+4) aP) (ae tl+4) (tl++vs))(bj:(w.alloc o).grownBy w3 tv.ownBlock)(cy:tv.ownBlock=some g1\/g1=w.heap.size+1)(hs:∀v∈vs,∃n,ic w 59 3 (QT (ae tl)) v n):eI wS (w3.setCell ⟨W,1,none⟩ (.slice (some ⟨g1,0,none⟩) (ae tl+4) aP)) W lv (.slice (some ⟨g1,0,none⟩) (ae tl+4) aP) iv rv ps (tl++vs) il rl (m+1):=by
 have tW:=h.nW.2.1;have hv:∀g,tv.ownBlock=some g->∃c,w.heap[g]?=some (.cells c 57 (0,0)):=fun g hg=>fC h.ot hg
 have lt:=aE h.blk;have g1W:g1≠W:=fun e=>by
  rcases cy with q|q
  .rw[e]at q;exact tW q
  .omega
 have lv1:(tl++vs).length=ae tl+4:=(by rw[cx,uK]);refine h.next (eI.acJ bj _) ?_ (OP (b:=0) h.blk hv bj h.ol (by decide) (by decide)) (by rw[lv1];exact Yl cT g1W) (OP (b:=0) h.blk hv bj h.oi (by decide) (by decide)) (OP (b:=0) h.blk hv bj h.sN (by decide) (by decide)) (fun f hf=>?_) (by have:=h.nl;omega) (by have:=h.nt;omega) (by have:=h.ni;omega) (by have:=h.nr;omega) (by have:=h.t4;omega) h.i4 h.r4 (fun p hp=>.inl hp) (fun k v hk=>?_) (fun k v hk=>.inl hk) (fun k v hk=>.inl hk)
 .rw[aQ,aA rfl,fY bj (b:=W) (by rw[aC,az (bY lt)];exact h.blk) (fun e=>tW e)];rfl
 .rw[uL]at hf |-
  rcases hf with q|q|q|q|q
  .exact .inl (.inl q)
  .exact .inl (.inr (.inl q))
  .simp only[aK,aV]at q;rcases cy with z|z
   .exact .inl (.inr (.inr (.inl (by rw[<-q];exact z))))
   .exact .inr (by omega)
  .exact .inl (.inr (.inr (.inr (.inl q))))
  .exact .inl (.inr (.inr (.inr (.inr q))))
 .rcases V3 hk with q|⟨q1,q2,q3⟩
  .exact .inl q
  .obtain⟨n,s⟩:=hs v q1;rw[<-aim (X0 h.t4 (show k-(ae tl)<4 by omega)),show (ae tl)+(k-(ae tl))=k by omega]at s;exact .inr ⟨n,s.kp (eI.acJ bj _) (h.agb s)⟩
theorem akd(ps:List (Nat×Nat))(p:Nat×Nat):zI (ps ++ [p])=zI ps ++ [.pointer (some ⟨p.1,0,none⟩),.pointer (some ⟨p.2,0,none⟩)]:=by simp[zI]
theorem eI.pair{w3:ay}(h:eI wS w W lv tv iv rv ps tl il rl m)(cT:w3.ownsRow 0 53 2 (.slice (some ⟨g1,0,none⟩) (ae ps+1) aP) (ae ps+1) (zI ps ++ [.pointer (some ⟨x,0,none⟩),.pointer (some ⟨r,0,none⟩)]))(bj:(w.alloc o).grownBy w3 lv.ownBlock)(cy:lv.ownBlock=some g1\/g1=w.heap.size+1)(hp:zm (jL W lv tv iv rv) w x r):eI wS (w3.setCell ⟨W,0,none⟩ (.slice (some ⟨g1,0,none⟩) (ae ps+1) aP)) W (.slice (some ⟨g1,0,none⟩) (ae ps+1) aP) tv iv rv (ps ++ [(x,r)]) tl il rl (m+1):=by
 have tW:=h.nW.1;have hv:∀g,lv.ownBlock=some g->∃c,w.heap[g]?=some (.cells c 53 (0,0)):=fun g hg=>fC h.ol hg
 have lt:=aE h.blk;have g1W:g1≠W:=fun e=>by
  rcases cy with q|q
  .rw[e]at q;exact tW q
  .omega
 have lv1:(ps ++ [(x,r)]).length=ae ps+1:=by rw[cx];rfl
 refine h.next (eI.ags bj _) ?_ (by rw[lv1,akd];exact Yl cT g1W) (OP (b:=0) h.blk hv bj h.ot (by decide) (by decide)) (OP (b:=0) h.blk hv bj h.oi (by decide) (by decide)) (OP (b:=0) h.blk hv bj h.sN (by decide) (by decide)) (fun f hf=>?_) (by have:=h.nl;omega) (by have:=h.nt;omega) (by have:=h.ni;omega) (by have:=h.nr;omega) h.t4 h.i4 h.r4 (fun p uI=>?_) (fun k v hk=>.inl hk) (fun k v hk=>.inl hk) (fun k v hk=>.inl hk)
 .rw[aQ,aA rfl,fY bj (b:=W) (by rw[aC,az (bY lt)];exact h.blk) (fun e=>tW e)];rfl
 .rw[uL]at hf |-
  rcases hf with q|q|q
  .exact .inl (.inl q)
  .simp only[aK,aV]at q;rcases cy with z|z
   .exact .inl (.inr (.inl (by rw[<-q];exact z)))
   .exact .inr (by omega)
  .exact .inl (.inr (.inr q))
 .rcases jr.1 uI with q|q
  .exact .inl q
  .rw[bQ.1 q];exact .inr hp
theorem qf.low{B':Nat}{w:ay}{U:bw}(h:qf B w r ts U)(hb:B'<=B):qf B' w r ts U:=by
 obtain⟨tv,vn,va,b,ow,ol,tr,lw⟩:=h.ex;exact⟨⟨tv,vn,va,b,ow,fun g hg=>j8 hb (ol g hg),tr,lw.low hb⟩,j8 hb h.lo,fun t ht=>by
  obtain⟨a1,a2,a3,a4⟩:=h.tr t ht;exact⟨a1,j8 hb a2,fun g hg=>j8 hb (a3 g hg),a4⟩⟩
theorem eI.amm(h:eI wS w W lv tv iv rv ps tl il rl m)(hk:Kp [] w w'){x r B:Nat}{L:Nat->cC}{n:Nat}{U V:bw}{ts:List TD}(hx:w.heap.size<=x)(ll:Er w.heap.size w' x U)(hB:w.heap.size<=B)(rl:qf B w' r ts V)(cU:gL U (told L n))(cV:gL V (told L n))(hn:(ae ts)=n)(h6:n<=6)(hL:∀k,k<n->(ts.getD k dT).a.fV=L k)(hN:U.N<=250)(hC:U.C<=256):zm (jL W lv tv iv rv) w' x r :=
 ⟨w',w.heap.size,jL W lv tv iv rv,L,n,U,V,ts,Kp.refl _ _,h.pos,(h.jA hk).far,fun f hf=>.inl hf,hx,ll,rl.low hB,cU,cV,hn,h6,hL,hN,hC⟩
end
end
section
variable{ops:Array Oper}{rest:List Oper}{op:Oper}{a:Act}{n:Nat}
theorem He{w:ay}{Q:Exit->Act->ay->Prop}(iK:op.guard=none)(s x:Operand)(t:cL)(ho:op.op=.call { callee:=.builtin .append,args:=#[s,x],argTypes:=#[t,t] })(e:cL)(i:TypeInfo)(z:aq)(size bytes:Nat)(ht:aB.underlying t=some (.slice e))(hi:aB.info? e=some i)(hz:i.zero=some z)(Oi:i.size=size)(NX:i.bytes=bytes)(Tx:z.cells.size=size)(Ir:0<size)(P:Nat->aq->Prop)(v:aq)(n:Nat)(hs:a.eval s=v)(jP:ic w e size P v n)(ad:Addr)(m c:Nat)(news:List aq)(hx:a.eval x=.slice (some ad) m c)(hl:(ae news)=m*size)(Lg:∀j u,news[j]?=some u->w.cell? (ad.add j)=some u)(hQ:∀j u,news[j]?=some u->P (n*size+j) u)(h1:∀u∈news,u.oneCell'=true)(hm:0<m)(NM:n+m<=eB)(DC:(n+m)*bytes<=140737488355328)(h:∀g cap w',ic w' e size P (.slice (some ⟨g,0,none⟩) (n+m) cap) (n+m)->(∀u n',ic w e size P u n'->n'<=n+m->ic w' e size P u n')->w.grownBy w' v.ownBlock->(v.ownBlock=some g\/g=w.heap.size)->wpList aB ops Q rest (a.put op.dst (.slice (some ⟨g,0,none⟩) (n+m) cap)) w'):wpList aB ops Q (op::rest) a w:=by
 obtain⟨g,cap,w',hr,h2,h3,h4,h5⟩:=aiN w t op.type e i z size bytes ht hi hz Oi NX Tx Ir P v n jP ad m c news hl Lg hQ h1 hm NM DC;refine wpList_plain iK fun _ hK=>?_
 unfold Oper.wp execOp;simp only[ho,resolve,invoke,builtin,Sem.run_bind,Sem.run_pure,Result.andThen_ok,List.map_toArray,GK,GL,hs,hx,hr];exact hK _ _ (h g cap w' h2 h3 h4 h5)
theorem appendW{w:ay}{Q:Exit->Act->ay->Prop}(iK:op.guard=none)(s x:Operand)(t:cL)(ho:op.op=.call { callee:=.builtin .append,args:=#[s,x],argTypes:=#[t,t] })(e:cL)(i:TypeInfo)(z:aq)(size bytes:Nat)(ht:aB.underlying t=some (.slice e))(hi:aB.info? e=some i)(hz:i.zero=some z)(Oi:i.size=size)(NX:i.bytes=bytes)(Tx:z.cells.size=size)(Ir:0<size)(v:aq)(n:Nat)(xs:List aq)(hs:a.eval s=v)(jP:w.ownsRow 0 e size v n xs)(ad:Addr)(m c:Nat)(news:List aq)(hx:a.eval x=.slice (some ad) m c)(hl:(ae news)=m*size)(Lg:∀j u,news[j]?=some u->w.cell? (ad.add j)=some u)(h1:∀u∈news,u.oneCell'=true)(hm:0<m)(NM:n+m<=eB)(DC:((n+m)+(n+m) / 4+192)*bytes<=281474976710656)(H:Nat)(hH:w.heap.size=H)(h:∀g cap w',w'.ownsRow 0 e size (.slice (some ⟨g,0,none⟩) (n+m) cap) (n+m) (xs++news)->w.grownBy w' v.ownBlock->(v.ownBlock=some g\/g=H)->g<w'.heap.size->wpList aB ops Q rest (a.put op.dst (.slice (some ⟨g,0,none⟩) (n+m) cap)) w'):wpList aB ops Q (op::rest) a w:=by
 obtain⟨v',w',hr,h2,h3,_⟩:=run_append_own_wide (P:=aB) w 0 t op.type e i z size bytes ht hi hz Oi NX Tx Ir v n xs jP ad m c news hl Lg h1 NM DC (bU _);obtain⟨g,cap,rfl,_,aN⟩:=h2.form (by omega);have KO:v.ownBlock=some g\/g=w.heap.size:=by
  subst Oi;subst NX;have my:(n+m)*i.bytes<=281474976710656:=j8 (Ez _ (by omega)) DC;have Ft:n+m<=9223372036854775807:=by simp only[eB]at NM;omega
  rcases jP.2 with⟨rfl,rfl⟩|⟨g0,E9,cur,rfl,_,hg,hnc,KU,eY,alf⟩
  .rw[Nat.zero_add]at my Ft;rw[run_append_nil (P:=aB) w t op.type e i z ht hi hz ad m c news hl Lg hm (by omega) my]at hr;simp only[aiq,fy,aV,oD]at hr;exact .inr hr.1.1.1.symm
  .by_cases afk:n+m<=E9
   ·(have akO:n*i.size+ae news<=cur.size:=by rw[hl,eY,<-J1];exact Ez _ afk);rw[run_append_room (P:=aB) w t op.type e i ht hi g0 n E9 cur hg ad m c news hl Lg h1 afk akO]at hr;simp only[aiq,fy,aV,oD]at hr;exact .inl (by rw[<-hr.1.1.1];rfl)
   .rw[run_append_grow (P:=aB) w t op.type e i z ht hi hz ⟨g0,0,none⟩ n E9 xs jP.1 (jP.cells (g:=g0) rfl) ad m c news hl Lg (by omega) (by omega) (growslice_fits_wide (by omega) DC)]at hr;simp only[aiq,fy,aV,oD]at hr;exact .inr hr.1.1.1.symm
 refine wpList_plain iK fun _ hK=>?_
 unfold Oper.wp execOp;simp only[ho,resolve,invoke,builtin,Sem.run_bind,Sem.run_pure,Result.andThen_ok,List.map_toArray,GK,GL,hs,hx,hr];exact hK _ _ (h g cap w' h2 h3 (hH ▸ KO) aN)
theorem ic.alloc{w:ay}{e:cL}{size:Nat}{Q:Nat->aq->Prop}{u:aq}(h:ic w e size Q u n)(o:Obj):ic (w.alloc o) e size Q u n:=h.kp ((Kp.refl [] w).alloc o) (by simp)
abbrev UG(k:Int):Array aq:=#[.int .i64 k,.int .i64 0,.int .i64 0]
def D2(k:Int):Nat->List aq
 |0=>[]
 |c+1=>.int .i64 k :: .int .i64 0 :: .int .i64 0::D2 k c
theorem YV(k:Nat):∀(c n j:Nat) (u:aq),(D2 (lC k) c)[j]?=some u->QT k (n*3+j) u:=by
 intro c;induction c with
 |zero=>intro n j u h;simp[D2]at h
 |succ c ih =>
  intro n j u h;unfold D2 at h
  match j,h with
  |0,h =>
   simp only[j7,aV]at h;rw[<-h,QT,aA (by omega)]
  |1,h =>
   simp only[mV,j7,aV]at h;rw[<-h,QT,az (by omega)]
  |2,h =>
   simp only[mV,j7,aV]at h;rw[<-h,QT,az (by omega)]
  |j+3,h =>
   simp only[mV]at h;have:=ih (n+1) j u h;rw[show n*3+(j+3)=(n+1)*3+j by omega];exact this
theorem acK(k:Int):∀c,∀u∈D2 k c,u.oneCell'=true:=by
 intro c;induction c with
 |zero=>intro u h;simp[D2]at h
 |succ c ih =>
  intro u h;simp only[D2,gH]at h;rcases h with rfl|rfl|rfl|h
  .rfl
  .rfl
  .rfl
  .exact ih u h
theorem aly:(aB.info? 57).map (fun i=>(i.zero,i.size,i.bytes))=some (some (.slice none 0 0),1,24):=by kernel_rfl
theorem amP{w w':ay}{e sz g cap o:Nat}{xs ys:List aq}{cur:Array aq}(h:w.ownsRow 0 e sz (.slice (some ⟨g,0,none⟩) n cap) n xs)(hc:w.heap[g]?=some (.cells cur e (0,0)))(hw:w'.heap[g]?=some (.cells (pC cur o ys) e (0,0)))(ho:o+ae ys<=n*sz):∃xs',w'.ownsRow 0 e sz (.slice (some ⟨g,0,none⟩) n cap) n xs'/\(∀j,j<o\/o+ae ys<=j->xs'[j]?=xs[j]?)/\∀j,j<ae ys->xs'[o+j]?=ys[j]?:=by
 rcases h.2 with⟨e1,_⟩|⟨g',cap',cur',e1,_,hc',hn,hm,hs,ht⟩
 .cases e1
 .simp only[fy,aV,oD,and_true,true_and]at e1;obtain⟨rfl,rfl⟩:=e1;rw[hc]at hc';simp only[aV,fE,and_true]at hc';subst hc';have iu:n*sz<=cur.size:=by rw[hs];exact Ez _ hn
  refine⟨(pC cur o ys).toList.take (n*sz),⟨by rw[GJ,Jj,TV];omega,.inr ⟨g,cap,_,rfl,bU _,hw,hn,hm,by rw[TV];exact hs,rfl⟩⟩,fun j hj=>?_,fun j hj=>?_⟩
  .rw[<-ht,Eu,Eu];split
   .rw[uk,uk,FG ys o cur j hj]
   .rfl
  .rw[Eu,aA (by omega),uk,Lx ys o cur j hj (by omega)]
theorem aoJ(wS w wX:ay)(W:Nat)(lv tv iv rv:aq)(ps:List (Nat×Nat))(tl il rl:List aq)(m:Nat)(h:eI wS w W lv tv iv rv ps tl il rl m)(hm:m<=2000000000000)(vt:aq)(n:Nat)(xs:List aq)(hk:Kp [] w wX)(own:wX.ownsRow 0 59 3 vt n xs)(hv:∀g,vt.ownBlock=some g->w.heap.size<=g)(hn:n<=1000):aI aB 30 #[.pointer (some ⟨W,0,none⟩),vt] wX fun e w'=>e=.returned (.tuple #[])/\(∃AA tl',eI wS w' W lv AA iv rv ps tl' il rl (m+1))/\Kp (jL W lv tv iv rv) w w':=by
 obtain⟨at_,ct,rfl,_⟩:=jV h.ot;obtain⟨av,cv,rfl,_⟩:=jV own;have yS:(ae tl)<=8000000000000:=by have:=h.nt;omega
 have hX:=h.jA hk;have c1:wX.cell? ⟨W,1,none⟩=some (.slice at_ (ae tl) ct):=by rw[aF hX.blk];rfl
 obtain⟨H,HK,OW,HV⟩:=dH h hk own hv;have hWX:=aE hX.blk;obtain⟨i0,cS,dc,dm,cW⟩:=iw abI;obtain⟨I0,Z0,Z1,Z2⟩:=dH cS dc dm cW;obtain⟨j0,nJ,mz,pB,pW⟩:=iw aly;obtain⟨J0,Y0,Y1,Y2⟩:=dH nJ mz pB pW;clear h hk own hv hX cS dc dm cW nJ mz pB pW;go_enter Tryz.func30,Tryz.ntmps30;go_wp2_with fail;refine(IK (ae tl) (by omega) wX).mono ?_;rintro _ w1 ⟨rfl,oU⟩;have iD:=oU.symm;subst iD;clear oU;dsimp only
 iterate 4 go_step
 refine qT rfl _ rfl _ abJ ?_;refine mR rfl _ _ _ rfl (b:=wX.heap.size) (c:=#[.int .i64 0,.int .i64 0,.int .i64 0]) (e:=59) (by rw[aC,aA rfl];rfl) rfl (ys:=UG (lC (ae tl))) rfl rfl XH (by simp[dS]) ?_;intro w2 b2 k2 s2;have K2:ax (Kp [] w w2):=(HK.o.alloc _).trans k2 (fun x hx=>.inr (by rw[bQ.1 hx];exact HK.o.size));have lav:∀g,aK (.slice av n cv)=some g->g<wX.heap.size:=fun g hg=>(OW.o.lt g hg).2
 have NT:ax (aK (.slice av n cv)≠some wX.heap.size):=fun e=>by have:=lav _ e;omega
 have zu:ax (w2.ownsRow 0 59 3 (.slice av n cv) n xs):=aJ (OW.o.alloc _) k2 (fun g hg hm=>by rw[bQ.1 hm]at hg;exact NT.o hg);have B2:=aj b2;generalize wX.heap.size=T at *;clear b2 k2 s2 OW HK lav c1;generalize ig:lC (ae tl)=mk at *;have pL:=aj ig;clear ig;go_wp2_with fail;go_loopw [5] (fun s5 w'=>∃(i:Nat) (xs':List aq),s5=.int .i64 i/\i<=n/\w'.ownsRow 0 59 3 (.slice av n cv) n xs'/\(∀j v,xs'[j]?=some v->j<3*i->QT (ae tl) j v)/\w'.heap[T]?=some (.cells (UG mk) 59 (0,0))/\Kp [] w w')
  (fun s5 _=>n-(aG s5).toNat)
 case atStart=>exact⟨0,xs,rfl,bU _,zu.o,fun j v _ hj=>by omega,B2.o,K2.o⟩
 case round =>
  clear B2 K2 zu;obtain⟨i,xs',rfl,hi,ow,hq,bt,kw⟩:=hrel;have t0:wr.cell? ⟨T,0,none⟩=some (.int .i64 mk):=by rw[aF bt];rfl
  have t1:wr.cell? ⟨T,1,none⟩=some (.int .i64 0):=by rw[aF bt];rfl
  have t2:wr.cell? ⟨T,2,none⟩=some (.int .i64 0):=by rw[aF bt];rfl
  by_cases dx:i<n
  .have gZ:(i:Int)<n:=(by omega);obtain⟨g,cur,rfl,hc⟩:∃g cur,av=some ⟨g,0,none⟩/\wr.heap[g]?=some (.cells cur 59 (0,0)):=by
    rcases ow.2 with⟨_,e⟩|⟨g,cap,cur,e,_,hc,_⟩
    .omega
    .simp only[fy]at e;exact⟨g,cur,e.1,hc⟩
   have eY:n*3<=cur.size:=by
    rcases ow.2 with⟨e,_⟩|⟨g',cap',cur',e,_,hc',hn',_,hs',_⟩
    .cases e
    .simp only[fy,aV,oD,and_true,true_and]at e;rw[<-e.1,hc]at hc';simp only[aV,fE,and_true]at hc';rw[hc',hs'];exact Ez _ hn'
   obtain⟨OWR,HQ,BT,KW,HC⟩:=jd ow hq bt kw hc;clear ow hq bt kw hc;go_upto_region 4 with fail;apply fD
   iterate 12 go_step
   refine acz rfl _ _ _ rfl (o:=i*3) HC.o rfl (ys:=UG mk) rfl (by show i*3+3<=_;omega) XH (by simp[dS]) ?_;intro w3 b3 k3 s3;(have hgT:g≠T:=fun e=>NT.o (by rw[e];rfl));obtain⟨xs3,o3,e1,e2⟩:=amP OWR.o HC.o b3 (by show i*3+3<=_;omega);have O3:=aj o3;have Q3:ax (∀j v,xs3[j]?=some v->j<3*(i+1)->QT (ae tl) j v):=fun j v hj aN=>by
    by_cases q:j<i*3
    .rw[e1 j (.inl q)]at hj;exact HQ.o j v hj (by omega)
    ·(obtain⟨d,rfl⟩:∃d,j=i*3+d:=⟨j-i*3,by omega⟩);rw[e2 d (by show d<3;omega)]at hj;have:=YV (ae tl) 1 i d v;rw[pL.o]at this;exact this hj
   have B3:=aj (k3.keep BT.o (by simpa using fun e:T=g=>hgT e.symm));have K3:ax (Kp [] w w3):=KW.o.trans k3 (fun x hx=>.inr (by rw[bQ.1 hx];exact HV.o g rfl));clear b3 k3 s3 o3 e1 e2 t0 t1 t2;go_wp2;exact⟨⟨i+1,xs3,by go_num,by omega,O3.o,Q3.o,B3.o,K3.o⟩,by simp[aG];omega⟩
  .have gZ:¬(i:Int)<n:=(by omega);have m7:i=n:=(by omega);subst m7;have SV:ax (ic wr 59 3 (QT (ae tl)) (.slice av i cv) i):=⟨xs',ow,fun j v hj=>hq j v hj (by have:=(fB.1 hj).1;have:=ow.1;omega)⟩;have BT:=aj bt;have KW:=aj kw;clear ow hq bt kw;go_upto_region 5 with fail;(go_upto_region 6 with(at_builtin;go_must (refine He rfl _ _ _ rfl 59 i0 _ 3 24 VY I0.o Z0.o Z1.o Z2.o rfl (by omega) (QT (ae tl)) (.slice av i cv) i rfl (SV.o.alloc _) ⟨wr.heap.size,0,none⟩ 1 1 (D2 mk 1) rfl rfl (gN (cs:=#[.int .i64 mk,.int .i64 0,.int .i64 0]) (t:=59) (fr:=(0,0)) (jS wr _)) (fun j u hu=>YV (ae tl) 1 i j u (by rw[pL.o];exact hu)) (acK mk 1) (by omega) (by unfold eB;omega) (by omega) ?_);intro ga ca w5 sa Ix jO jY;have SA:=aj sa;have wV:=aj (Ix _ i (SV.o.alloc _) (by omega));have K5:ax (Kp [] w w5):=(KW.o.alloc _).qt jO (fun g e=>.inr (HV.o g e));have B5:ax (w5.heap[T]?=some (.cells (UG mk) 59 (0,0))):=fY jO (b:=T) (by rw[aC,az (bY (aE BT.o))];exact BT.o) (fun e=>NT.o e);have t05:w5.cell? ⟨T,0,none⟩=some (.int .i64 mk):=(by rw[aF B5.o];rfl);have t15:w5.cell? ⟨T,1,none⟩=some (.int .i64 0):=(by rw[aF B5.o];rfl);have t25:w5.cell? ⟨T,2,none⟩=some (.int .i64 0):=(by rw[aF B5.o];rfl);clear sa Ix jO jY));clear t0 t1 t2 BT KW SV;(go_upto_region 7 with(at_builtin;go_must (refine He rfl _ _ _ rfl 59 i0 _ 3 24 VY I0.o Z0.o Z1.o Z2.o rfl (by omega) (QT (ae tl)) (.slice av i cv) i rfl (wV.o.alloc _) ⟨w5.heap.size,0,none⟩ 2 2 (D2 mk 2) rfl rfl (gN (cs:=#[.int .i64 mk,.int .i64 0,.int .i64 0,.int .i64 mk,.int .i64 0,.int .i64 0]) (t:=59) (fr:=(0,0)) (jS w5 _)) (fun j u hu=>YV (ae tl) 2 i j u (by rw[pL.o];exact hu)) (acK mk 2) (by omega) (by unfold eB;omega) (by omega) ?_);intro gb cb w6 sb Cv zK yy;have SB:=aj sb;have EG:=aj (Cv _ i (wV.o.alloc _) (by omega));have GY:=aj (Cv _ (i+1) (SA.o.alloc _) (by omega));have K6:ax (Kp [] w w6):=(K5.o.alloc _).qt zK (fun g e=>.inr (HV.o g e));have B6:ax (w6.heap[T]?=some (.cells (UG mk) 59 (0,0))):=fY zK (b:=T) (by rw[aC,az (bY (aE B5.o))];exact B5.o) (fun e=>NT.o e);have t06:w6.cell? ⟨T,0,none⟩=some (.int .i64 mk):=(by rw[aF B6.o];rfl);have t16:w6.cell? ⟨T,1,none⟩=some (.int .i64 0):=(by rw[aF B6.o];rfl);have t26:w6.cell? ⟨T,2,none⟩=some (.int .i64 0):=(by rw[aF B6.o];rfl);clear sb Cv zK yy));clear t05 t15 t25 B5 K5 wV SA;go_upto_region 8 with(at_builtin;go_must (refine He rfl _ _ _ rfl 59 i0 _ 3 24 VY I0.o Z0.o Z1.o Z2.o rfl (by omega) (QT (ae tl)) (.slice av i cv) i rfl (EG.o.alloc _) ⟨w6.heap.size,0,none⟩ 3 3 (D2 mk 3) rfl rfl (gN (cs:=#[.int .i64 mk,.int .i64 0,.int .i64 0,.int .i64 mk,.int .i64 0,.int .i64 0,.int .i64 mk,.int .i64 0,.int .i64 0]) (t:=59) (fr:=(0,0)) (jS w6 _)) (fun j u hu=>YV (ae tl) 3 i j u (by rw[pL.o];exact hu)) (acK mk 3) (by omega) (by unfold eB;omega) (by omega) ?_);intro gc cc w7 sc FB tK qh;have SC:=aj sc;have SV7:=aj (FB _ i (EG.o.alloc _) (by omega));have SA7:=aj (FB _ (i+1) (GY.o.alloc _) (by omega));have SB7:=aj (FB _ (i+2) (SB.o.alloc _) (by omega));have K7:ax (Kp [] w w7):=(K6.o.alloc _).qt tK (fun g e=>.inr (HV.o g e));clear sc FB tK qh)
   clear t06 t16 t26 B6 K6 EG GY SB;have L7:=aj (H.o.jA K7.o);(have c17:w7.cell? ⟨W,1,none⟩=some (.slice at_ (ae tl) ct):=by rw[aF L7.o.blk];rfl);have OT:=aj L7.o.ot;have W7:=aj L7.o.blk;have nW:W≠w7.heap.size:=bY (aE L7.o.blk);have TW:ax (aK (.slice at_ (ae tl) ct)≠some W):=fun e=>by
    obtain⟨c,hc⟩:=fC OT.o e;exact gQ hc W7.o (by decide) rfl
   (go_wp2_with (at_builtin;go_must (refine appendW rfl _ _ _ rfl 57 j0 _ 1 24 Tryz.underlying27 J0.o Y0.o Y1.o Y2.o rfl (by omega) (.slice at_ (ae tl) ct) (ae tl) tl rfl (OT.o.alloc _) ⟨w7.heap.size,0,none⟩ 4 4 [.slice av i cv,.slice (some ⟨ga,0,none⟩) (i+1) ca,.slice (some ⟨gb,0,none⟩) (i+2) cb,.slice (some ⟨gc,0,none⟩) (i+3) cc] rfl rfl (gN (cs:=#[.slice av i cv,.slice (some ⟨ga,0,none⟩) (i+1) ca,.slice (some ⟨gb,0,none⟩) (i+2) cb,.slice (some ⟨gc,0,none⟩) (i+3) cc]) (t:=57) (fr:=(0,0)) (jS w7 _)) (by simp[dS]) (by omega) (by unfold eB;omega) (by omega) (w7.heap.size+1) (by simp) ?_);intro g1 aP w8 cT bj cy iz;have B8:w8.heap[W]?=some (uf lv (.slice at_ (ae tl) ct) iv rv):=fY bj (b:=W) (by rw[aC,az nW];exact W7.o) (fun e=>TW.o e);have e1:w8.cell? ⟨W,1,none⟩=some (.slice at_ (ae tl) ct):=(by rw[aF B8];rfl);have f1:=cM B8 1));have L8:ax (eI wS (w8.setCell ⟨W,1,none⟩ (.slice (some ⟨g1,0,none⟩) (ae tl+4) aP)) W lv (.slice (some ⟨g1,0,none⟩) (ae tl+4) aP) iv rv ps (tl ++ [.slice av i cv,.slice (some ⟨ga,0,none⟩) (i+1) ca,.slice (some ⟨gb,0,none⟩) (i+2) cb,.slice (some ⟨gc,0,none⟩) (i+3) cc]) il rl (m+1)) :=
    L7.o.tokens rfl cT bj cy (fun v hv=>by
     simp only[gH,List.mem_nil_iff,or_false]at hv;rcases hv with rfl|rfl|rfl|rfl
     .exact⟨_,SV7.o⟩
     .exact⟨_,SA7.o⟩
     .exact⟨_,SB7.o⟩
     .exact⟨_,SC.o⟩)
   have KF:ax (Kp (jL W lv (.slice at_ (ae tl) ct) iv rv) w (w8.setCell ⟨W,1,none⟩ (.slice (some ⟨g1,0,none⟩) (ae tl+4) aP))):=(K7.o.mono (by simp)).trans (eI.acJ bj _) (fun y hy=>.inl hy);clear cT bj cy iz;go_wp2;go_end0;exact⟨rfl,⟨_,_,L8.o⟩,KF.o⟩
def adt:Prop:=∀(wS w:ay) (W x r:Nat) (lv tv iv rv:aq) (ps:List (Nat×Nat)) (tl il rl:List aq) (m:Nat),eI wS w W lv tv iv rv ps tl il rl m->zm (jL W lv tv iv rv) w x r->m<=2000000 ->
 aI aB 18 #[.pointer (some ⟨W,0,none⟩),.agg #[.pointer (some ⟨x,0,none⟩),.pointer (some ⟨r,0,none⟩)]] w fun e w'=>e=.returned (.bool true)/\(∃gJ xP zZ wg,eI wS w' W lv tv gJ xP ps tl zZ wg (m+1))/\Kp (jL W lv tv iv rv) w w'
end
theorem acn(a b c a' b' c':Int)(w:ay):(Op.equalIn 10000 59 (.agg #[.int .i64 a,.int .i64 b,.int .i64 c]) (.agg #[.int .i64 a',.int .i64 b',.int .i64 c'])).run aB w=.ok (a == a' && (b == b' && c == c')) w:=by
 have hf : (Tryz.prog.fieldsOf 59).toList.map (fun f => (f.name, f.type, f.offset)) = [("Rule", 3, 0), ("From", 3, 1), ("To", 3, 2)] := by kernel_rfl
 have hu:aB.underlying 59=some (.struct (aB.fieldsOf 59)):=(by kernel_rfl);have hp:aB.stoodInHeld 59=false:=(by kernel_rfl);rw[show(10000:Nat)=9999+1 from rfl,run_equalIn_struct w 9999 59 _ _ hu hp];generalize (aB.fieldsOf 59).toList=fs at hf;have q:∀(a b:Int) (w:ay),(Op.equalIn 9999 3 (.int .i64 a) (.int .i64 b)).run aB w=.ok (a == b) w:=fun a b w=>run_equalIn_int w 9998 _ _ _ a b ET
 have dD:(ae fs)=3:=by have:=congrArg ae hf;simpa using this
 obtain⟨f0,f1,f2,rfl⟩:∃f0 f1 f2,fs=[f0,f1,f2]:=by
  rcases fs with _|⟨f0,_|⟨f1,_|⟨f2,_|⟨f3,fs⟩⟩⟩⟩
  .simp at dD
  .simp at dD
  .simp at dD
  .exact⟨f0,f1,f2,rfl⟩
  .simp at dD
 clear dD
 .simp only[GK,GL,List.cons.injEq,Prod.mk.injEq,and_true]at hf;obtain⟨⟨n0,t0,o0⟩,⟨n1,t1,o1⟩,⟨n2,t2,o2⟩⟩:=hf;have p0:∀(a b c:aq) (w:ay),(part 3 #[a,b,c] 0).run aB w=.ok a w:=fun a b c w=>by simp[part,isAgg,At ET]
  have p1:∀(a b c:aq) (w:ay),(part 3 #[a,b,c] 1).run aB w=.ok b w:=fun a b c w=>by simp[part,isAgg,At ET]
  have p2:∀(a b c:aq) (w:ay),(part 3 #[a,b,c] 2).run aB w=.ok c w:=fun a b c w=>by simp[part,isAgg,At ET]
  by_cases h0:a=a'
  .by_cases h1:b=b'
   .by_cases h2:c=c'
    .simp[Op.eqFields,n0,n1,n2,t0,t1,t2,o0,o1,o2,p0,p1,p2,q,h0,h1,h2]
    .simp[Op.eqFields,n0,n1,n2,t0,t1,t2,o0,o1,o2,p0,p1,p2,q,h0,h1,h2]
   .simp[Op.eqFields,n0,n1,n2,t0,t1,t2,o0,o1,o2,p0,p1,p2,q,h0,h1]
  .simp[Op.eqFields,n0,n1,n2,t0,t1,t2,o0,o1,o2,p0,p1,p2,q,h0]
theorem acH:∀(ts:List (Int×Nat×Nat)) (i:Nat) (t:Int×Nat×Nat),ts[i]?=some t->∀j,j<3->(rP ts)[i*3+j]?=(Ga t)[j]?:=by
 intro ts;induction ts with
 |nil=>intro i t h;simp at h
 |cons n ns ih =>
  intro i t h j hj;have e:rP (n::ns)=Ga n++rP ns:=(by simp[rP]);rw[e];have hl:(Ga n).length=3:=rfl;cases i with
  |zero =>
   simp only[j7,aV]at h;subst h;rw[iI (by omega)];simp
  |succ i =>
   rw[mV]at h;rw[mU (by omega),show(i+1)*3+j-(Ga n).length=i*3+j by omega];exact ih i t h j hj
theorem ahm{w:ay}{v:aq}{ts:List (Int×Nat×Nat)}(h:w.ownsRow 0 59 3 v (ae ts) (rP ts)){i:Nat}{r:Int}{f t:Nat}(hi:ts[i]?=some (r,f,t)):∃g cap,v=.slice (some ⟨g,0,none⟩) (ae ts) cap/\w.cell? ⟨g,i*3,none⟩=some (.int .i64 r)/\w.cell? ⟨g,i*3+1,none⟩=some (.int .i64 f)/\w.cell? ⟨g,i*3+2,none⟩=some (.int .i64 t):=by
 have hl:=(fB.1 hi).1;obtain⟨a,cap,rfl,f1⟩:=jV h;obtain⟨g,rfl,_,_,hc⟩:=f1 (by omega);refine⟨g,cap,rfl,?_,?_,?_⟩
 .rw[hc _ (by omega)];exact acH ts i _ hi 0 (by omega)
 .rw[hc _ (by omega)];exact acH ts i _ hi 1 (by omega)
 .rw[hc _ (by omega)];exact acH ts i _ hi 2 (by omega)
theorem ajJ{L:Nat->cC}{n:Nat}{x:List Nat}:∀(ts:List (Int×Nat×Nat)) (p e:Nat),p<=ae x->ya L n x p ts e->p+ae ts<=e/\e<=ae x:=by
 intro ts;induction ts with
 |nil=>intro p e hp h;rw[h.1];exact⟨aH _,hp⟩
 |cons a ts ih =>
  intro p e hp h;obtain⟨r,f,t⟩:=a;obtain⟨_,h1,h2,_,_,_,h6⟩:=h;have:=ih t e h2 h6;rw[Dg];omega
theorem an8(wS w:ay)(W x r:Nat)(lv tv iv rv:aq)(ps:List (Nat×Nat))(tl il rl:List aq)(m:Nat)(s:ByteArray)(h:eI wS w W lv tv iv rv ps tl il rl m)(hp:zm (jL W lv tv iv rv) w x r)(hm:m<=2000000000000)(hs:s.size<=200):aI aB 17 #[.pointer (some ⟨W,0,none⟩),.agg #[.pointer (some ⟨x,0,none⟩),.pointer (some ⟨r,0,none⟩)],.string s] w fun e w'=>e=.returned (.bool true)/\(∃AA tl',eI wS w' W lv AA iv rv ps tl' il rl (m+1))/\Kp (jL W lv tv iv rv) w w':=by
 obtain⟨B,L,n,U,V,ts,hx,ll,wg,cU,cV,hn,h6,hL,hN,hC⟩:=hp.at;have H:=aj h;have LL:=aj ll;have RL:=aj wg;have CU:=aj cU;have HL:=aj hL;have hwt:=aE h.blk;have Fv:(tx s).length=s.size:=(by simp[tx]);have Qj:=aj Fv;have hq:=fun(a b c a' b' c':Int) (W:ay)=>acn a b c a' b' c' W
 clear h hp ll wg cU cV hL Fv;go_enter Tryz.func17,Tryz.ntmps17;go_upto_region 1 with fail;have K1:ax (Kp [] w (w.alloc (.cells #[.pointer (some ⟨x,0,none⟩),.pointer (some ⟨r,0,none⟩)] 53))):=(Kp.refl [] w).alloc _;have B1:ax ((w.alloc (.cells #[.pointer (some ⟨x,0,none⟩),.pointer (some ⟨r,0,none⟩)] 53)).heap[w.heap.size]?=some (.cells #[.pointer (some ⟨x,0,none⟩),.pointer (some ⟨r,0,none⟩)] 53 (0,0))):=by
  show _=_;rw[aC,aA rfl]
 generalize w.alloc (.cells #[.pointer (some ⟨x,0,none⟩),.pointer (some ⟨r,0,none⟩)] 53)=w1 at *;generalize w.heap.size=pb at B1 |-
 have p0:w1.cell? ⟨pb,0,none⟩=some (.pointer (some ⟨x,0,none⟩)):=by rw[aF B1.o];rfl
 go_wp2_with fail;refine(an7 x s U L n w1 (by obtain⟨vn,va,b,t,_⟩:=LL.o.Ow hx K1.o (by simp);exact⟨vn,va,b,t⟩) CU.o.ok hN hC (by omega)).mono ?_;rintro _ w2 ⟨h2,tk,vt,en,rfl,L4,aef,lo2⟩;obtain⟨av,cv,rfl,_⟩:=jV L4;have K2:ax (Kp [] w w2):=K1.o.below h2;have B2:=aj (bV h2 B1.o);have p1:w2.cell? ⟨pb,1,none⟩=some (.pointer (some ⟨r,0,none⟩)):=by rw[aF B2.o];rfl
 have zu:=aj L4;have UR:=aj aef;have GG:ax (∀g,aK (.slice av (ae tk) cv)=some g->w.heap.size<=g):=fun g hg=>j8 K1.o.size (lo2 g hg)
 clear L4 aef lo2 h2 p0;go_wp2_with fail;refine(anP B r s ts V L n w2 (RL.o.Ow K2.o (by simp) (fun b hb=>by simp at hb)) hn h6 HL.o (by omega)).mono ?_;rintro _ w3 ⟨k3,tk',vt',en',rfl,DX,aeg,Ab⟩;obtain⟨av',cv',rfl,_⟩:=jV DX;obtain⟨e1,e2⟩:=ajI tk tk' 0 en en' UR.o aeg;subst e1;subst e2;have zO:=ajJ tk 0 en (bU _) UR.o;rw[Qj.o]at zO;have K3:ax (Kp [] w w3):=K2.o.trans k3 (by simp);have VF:=aj (aJ zu.o k3 (by simp));have OM3:=aj DX;clear k3 DX aeg Ab p1 zu B2 B1;go_wp2_with fail;go_loopw [12,11] (fun s12 rK w'=>∃i:Nat,s12=.int .i64 i/\rK=.bool true/\i<=ae tk/\Kp [] w3 w')
  (fun s12 _ _=>ae tk-(aG s12).toNat)
 case atStart=>exact⟨0,rfl,rfl,bU _,Kp.refl _ _⟩
 case round =>
  obtain⟨i,rfl,rfl,hi,k4⟩:=hrel;have K4:=aj k4;by_cases dx:i<ae tk
  .have gZ:(i:Int)<ae tk:=(by omega);have ir:tk[i]?=some tk[i]:=bD dx;generalize tk[i]=t0 at ir;obtain⟨tr_,tf,tt⟩:=t0;obtain⟨g1,cp1,q1,a0,a1,a2⟩:=ahm (aJ VF.o k4 (by simp)) ir;obtain⟨g2,cp2,q2,b0,b1,b2⟩:=ahm (aJ OM3.o k4 (by simp)) ir;simp only[fy]at q1 q2;obtain⟨rfl,_,rfl⟩:=q1;obtain⟨rfl,_,rfl⟩:=q2;clear k4 ir;go_upto_region 7 with fail;go_region;go_wp2;exact⟨⟨i+1,by go_num,by simp,by omega,K4.o.drew⟩,by simp[aG];omega⟩
  .have gZ:¬(i:Int)<ae tk:=(by omega);have KW:ax (Kp [] w wr):=K3.o.trans k4 (by simp);have OW4:=aj (aJ VF.o k4 (by simp));clear k4;go_wp2_with fail;refine(aoJ wS w wr W lv tv iv rv ps tl il rl m H.o hm (.slice av (ae tk) cv) (ae tk) (rP tk) KW.o OW4.o GG.o (by omega)).mono ?_;rintro _ w5 ⟨rfl,⟨AA,tl',l5⟩,kf⟩;have L5:=aj l5;have KF:=aj kf;clear l5 kf;go_wp2;go_ret;exact⟨rfl,⟨AA,tl',L5.o⟩,KF.o⟩
end Go.Proofs.YtbjdkbcfpmeneaaGreat
