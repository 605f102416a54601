/- What is proved here: the statement Scans, for every script, without a condition: Right, Match, Make and Scan answer as the document says, several lexers beside one another. -/
import Derived.Test.YtbjdkbcfpmeneaaGreatF11
open Go renaming TypeId->cL,Value->aq,World->ay,maxLen->eB
open Go.DataW renaming trod->Jv,trod_string->ahI
open Go.Proofs.Tryz renaming checked->QV,prog->aB,underlying22->Dp,underlying3->ET,underlying32->VX,underlying9->adB
open Go.RowKit renaming intOf->aG
open Go.Value renaming ownBlock->aK
open Go.Value.slice renaming injEq->fy
open List renaming getElem?_cons_succ->mV,getElem?_cons_zero->j7,getElem?_eq_getElem->bD,length->ae,length_map->mX,mem_append->jr,mem_cons->gH,mem_map->kY,range->lU
open Nat renaming add_zero->yl,zero_le->bU
namespace Go.Proofs.YtbjdkbcfpmeneaaGreat
set_option linter.unusedVariables false
set_option linter.unusedSimpArgs false
set_option maxRecDepth 100000
set_option maxHeartbeats 16000000
open Go.RowKit
theorem ic.form{w:ay}{e:cL}{size:Nat}{Q:Nat->aq->Prop}{u:aq}{n:Nat}(h:ic w e size Q u n):∃a c,u=.slice a n c/\n<=eB/\(0<n->∃g,a=some ⟨g,0,none⟩/\∀j,j<n*size->∃v,w.cell? ⟨g,j,none⟩=some v/\Q j v):=by
 obtain⟨xs,o,q⟩:=h;obtain⟨a,c,e1,f⟩:=jV o;refine⟨a,c,e1,?_,fun h0=>?_⟩
 .rcases o.2 with⟨_,e⟩|⟨_,_,_,_,_,_,h1,h2,_⟩
  .rw[e];exact bU _
  .omega
 obtain⟨g,e2,_,_,hc⟩:=f h0;refine⟨g,e2,fun j hj=>?_⟩;have hl:j<ae xs:=by rw[o.1];exact hj
 exact⟨xs[j],by rw[hc j hj,bD hl],q j _ (bD hl)⟩
theorem XU(wS w:ay)(W:Nat)(lv tv iv rv:aq)(ps:List (Nat×Nat))(tl il rl:List aq)(m:Nat)(h:eI wS w W lv tv iv rv ps tl il rl m)(hm:m<=2000000000000)(xu:(ae rl)=0):Calls aB 8 #[.pointer (some ⟨W,0,none⟩)] w fun e w'=>e=.returned (.bool true)/\Kp [] w w':=by
 obtain⟨at_,ct,rfl,_⟩:=jV h.ot;obtain⟨ai,ci,rfl,_⟩:=jV h.oi;obtain⟨ar,cr,rfl,_⟩:=jV h.sN;have yS:(ae tl)<=8000000000000:=by have:=h.nt;omega
 have dx:(ae il)<=4000000000000000:=by have:=h.ni;omega
 have gB:(ae rl)<=8000000000000:=by have:=h.nr;omega
 have H:=aj h;have hq:=fun(a b c a' b' c':Int) (W:ay)=>acn a b c a' b' c' W
 clear h;go_enter Tryz.func8,Tryz.ntmps8;go_upto_region 2 with fail;go_loopw [3] (fun s3 w'=>∃k:Nat,s3=.int .i64 k/\k<=ae tl/\Kp [] w w') (fun s3 _=>ae tl-(aG s3).toNat)
 case atStart=>exact⟨0,rfl,bU _,Kp.refl _ _⟩
 case round =>
  obtain⟨k,rfl,hk,kw⟩:=hrel;have KW:=aj kw;have L:=H.o.jA kw;have c1:wr.cell? ⟨W,1,none⟩=some (.slice at_ (ae tl) ct):=by rw[aF L.blk];rfl
  by_cases dI:k<ae tl
  .have j3:(k:Int)<ae tl:=(by omega);clear L kw;generalize wr=wA at *;go_upto_region 5 with fail;have ir:tl[k]?=some tl[k]:=bD dI;obtain⟨n,hs⟩:=H.o.tk k _ ir;generalize tl[k]=v at ir hs;obtain⟨av,cv,rfl,sG,_⟩:=hs.form;unfold eB at sG;have HS:=aj hs;have HG:=aj ir;clear hs ir c1;go_loopw [4] (fun s4 w'=>∃i:Nat,s4=.int .i64 i/\i<=n/\Kp [] w w') (fun s4 _=>n-(aG s4).toNat)
   case atStart=>exact⟨0,rfl,bU _,KW.o⟩
   case round =>
    clear KW;obtain⟨i,rfl,hi,kw⟩:=hrel;have KW:=aj kw;have L:=H.o.jA kw;(have c1:wr.cell? ⟨W,1,none⟩=some (.slice at_ (ae tl) ct):=by rw[aF L.blk];rfl);obtain⟨_,_,e1,f1⟩:=jV L.ot;obtain⟨Ff,e2,_,_,hc⟩:=f1 (by omega);simp only[fy]at e1;rw[<-e1.1]at e2;subst e2;(have ck:wr.cell? ⟨Ff,k,none⟩=some (.slice av n cv):=by rw[hc k (by omega)];exact HG.o);by_cases SG:i<n
    .have gZ:(i:Int)<n:=(by omega);obtain⟨_,_,e3,_,f3⟩:=(HS.o.kp kw (by simp)).form;obtain⟨g,e4,od⟩:=f3 (by omega);simp only[fy]at e3;rw[<-e3.1]at e4;subst e4;obtain⟨v0,a0,q0⟩:=od (i*3) (by omega);obtain⟨v1,a1,q1⟩:=od (i*3+1) (by omega);obtain⟨v2,a2,q2⟩:=od (i*3+2) (by omega);unfold QT at q0 q1 q2;rw[aA (by omega)]at q0;rw[az (by omega)]at q1 q2;subst q0;subst q1;subst q2;generalize ig:lC k=mk at *;have pL:=aj ig;clear L kw e1 f1 hc e3 f3 od ig;go_upto_region 7 with fail;go_region_law ((go_simp;go_at_call 19;refine(IK k (by omega) _).mono ?_;rintro _ w5 ⟨rfl,tU⟩;have Fx:=tU.symm;subst Fx;clear tU;rw[pL.o]))
     all_goals
      go_wp2;exact⟨⟨i+1,by go_num,by omega,KW.o.drew⟩,by simp[aG];omega⟩
    .have gZ:¬(i:Int)<n:=(by omega);clear L kw hc e1 f1;go_wp2;exact⟨⟨k+1,by go_num,by omega,KW.o⟩,by simp[aG];omega⟩
  .have j3:¬(k:Int)<ae tl:=(by omega);clear L kw;go_upto_region 10 with fail;generalize wr=wB at *;go_loopw [5] (fun s5 w'=>∃k:Nat,s5=.int .i64 k/\k<=ae il/\Kp [] w w') (fun s5 _=>ae il-(aG s5).toNat)
   case atStart=>exact⟨0,rfl,bU _,KW.o⟩
   case round =>
    clear KW c1;obtain⟨k2,rfl,jk,kw⟩:=hrel;have KW:=aj kw;have L:=H.o.jA kw;(have c2:wr.cell? ⟨W,2,none⟩=some (.slice ai (ae il) ci):=by rw[aF L.blk];rfl);by_cases Xc:k2<ae il
    .have abo:(k2:Int)<ae il:=(by omega);clear L kw;generalize wr=wA at *;go_upto_region 13 with fail;have ir:il[k2]?=some il[k2]:=bD Xc;obtain⟨n,hs⟩:=H.o.it k2 _ ir;generalize il[k2]=v at ir hs;obtain⟨av,cv,rfl,sG,_⟩:=hs.form;unfold eB at sG;have HS:=aj hs;have HG:=aj ir;clear hs ir c2;go_loopw [6] (fun s6 w'=>∃i:Nat,s6=.int .i64 i/\i<=n/\Kp [] w w') (fun s6 _=>n-(aG s6).toNat)
     case atStart=>exact⟨0,rfl,bU _,KW.o⟩
     case round =>
      clear KW;obtain⟨i,rfl,hi,kw⟩:=hrel;have KW:=aj kw;have L:=H.o.jA kw;(have c2:wr.cell? ⟨W,2,none⟩=some (.slice ai (ae il) ci):=by rw[aF L.blk];rfl);obtain⟨_,_,e1,f1⟩:=jV L.oi;obtain⟨Ff,e2,_,_,hc⟩:=f1 (by omega);simp only[fy]at e1;rw[<-e1.1]at e2;subst e2;(have ck:wr.cell? ⟨Ff,k2,none⟩=some (.slice av n cv):=by rw[hc k2 (by omega)];exact HG.o);by_cases SG:i<n
      .have gZ:(i:Int)<n:=(by omega);obtain⟨_,_,e3,_,f3⟩:=(HS.o.kp kw (by simp)).form;obtain⟨g,e4,od⟩:=f3 (by omega);simp only[fy]at e3;rw[<-e3.1]at e4;subst e4;obtain⟨v0,a0,q0⟩:=od i (by omega);unfold QI at q0;subst q0;generalize ig:lC k2=mk at *;have pL:=aj ig;clear L kw e1 f1 hc e3 f3 od ig;go_upto_region 15 with fail;go_region_law ((go_simp;go_at_call 19;refine(IK k2 (by omega) _).mono ?_;rintro _ w5 ⟨rfl,tU⟩;have Fx:=tU.symm;subst Fx;clear tU;rw[pL.o]))
       all_goals
        go_wp2;exact⟨⟨i+1,by go_num,by omega,KW.o.drew⟩,by simp[aG];omega⟩
      .have gZ:¬(i:Int)<n:=(by omega);clear L kw hc e1 f1;go_wp2;exact⟨⟨k2+1,by go_num,by omega,KW.o⟩,by simp[aG];omega⟩
    .have abo:¬(k2:Int)<ae il:=(by omega);clear L kw;go_upto_region 18 with fail;generalize wr=wC at *;go_loopw [7] (fun s7 w'=>∃k:Nat,s7=.int .i64 k/\k<=ae rl/\Kp [] w w') (fun s7 _=>ae rl-(aG s7).toNat)
     case atStart=>exact⟨0,rfl,bU _,KW.o⟩
     case round =>
      clear KW c2;obtain⟨k3,rfl,rh,kw⟩:=hrel;have KW:=aj kw;have L:=H.o.jA kw;(have c3:wr.cell? ⟨W,3,none⟩=some (.slice ar (ae rl) cr):=by rw[aF L.blk];rfl);have Ob:¬(k3:Int)<ae rl:=(by omega);clear L kw;go_wp2;go_ret;exact⟨rfl,KW.o⟩
theorem am3(a0:Option Addr)(n cap:Nat)(ops:List se)(w:ay)(h:Kc w a0 n ops)(hr:∀d∈ops,wP w d)(hn:n<=1954687338211):Calls aB 6 #[.slice a0 n cap,.int .i64 4] w fun x w'=>x=.returned (.bool true)/\Below w.heap.size w w':=by
 have HS:=aj h;have jC:=aj hr;have hb:(n+3)*72<=140737488355328:=(by omega);clear hr;obtain⟨i0,cS,dc,dm,cW⟩:=info_parts afy;clear h;go_enter Tryz.func6,Tryz.ntmps6;go_upto_region 3 with fail;have kW:Kp [] w (((w.alloc ue).alloc (.cells #[.string ⟨#[105,102]⟩,.string ⟨#[91,97,45,122,93,43]⟩,.string ⟨#[32,43]⟩] 9)).alloc (.cells #[.int .i64 2,.int .i64 0,.string ⟨#[97,43,98]⟩,.string ⟨#[97,97,98]⟩,.slice none 0 0,.int .i64 3,.int .i64 0,.string ⟨#[]⟩,.string ⟨#[]⟩,.slice (some ⟨w.heap.size+1,0,none⟩) 3 3,.int .i64 4,.int .i64 0,.string ⟨#[]⟩,.string ⟨#[105,102,32,105,102,102,121,32,57]⟩,.slice none 0 0] 34)):=(((Kp.refl _ _).alloc _).alloc _).alloc _;have bO:(((w.alloc ue).alloc (.cells #[.string ⟨#[105,102]⟩,.string ⟨#[91,97,45,122,93,43]⟩,.string ⟨#[32,43]⟩] 9)).alloc (.cells #[.int .i64 2,.int .i64 0,.string ⟨#[97,43,98]⟩,.string ⟨#[97,97,98]⟩,.slice none 0 0,.int .i64 3,.int .i64 0,.string ⟨#[]⟩,.string ⟨#[]⟩,.slice (some ⟨w.heap.size+1,0,none⟩) 3 3,.int .i64 4,.int .i64 0,.string ⟨#[]⟩,.string ⟨#[105,102,32,105,102,102,121,32,57]⟩,.slice none 0 0] 34)).heap[w.heap.size]?=some ue:=by
  rw[aC,aM,aM,az (by omega),aC,aM,az (by omega),aC,aA rfl]
 have bA:(((w.alloc ue).alloc (.cells #[.string ⟨#[105,102]⟩,.string ⟨#[91,97,45,122,93,43]⟩,.string ⟨#[32,43]⟩] 9)).alloc (.cells #[.int .i64 2,.int .i64 0,.string ⟨#[97,43,98]⟩,.string ⟨#[97,97,98]⟩,.slice none 0 0,.int .i64 3,.int .i64 0,.string ⟨#[]⟩,.string ⟨#[]⟩,.slice (some ⟨w.heap.size+1,0,none⟩) 3 3,.int .i64 4,.int .i64 0,.string ⟨#[]⟩,.string ⟨#[105,102,32,105,102,102,121,32,57]⟩,.slice none 0 0] 34)).heap[w.heap.size+1+1]?=some (.cells (ja (lD (w.heap.size+1))).toArray 34 (0,0)):=by
  rw[aC,aM,aM,aA rfl];rfl
 have bS:(((w.alloc ue).alloc (.cells #[.string ⟨#[105,102]⟩,.string ⟨#[91,97,45,122,93,43]⟩,.string ⟨#[32,43]⟩] 9)).alloc (.cells #[.int .i64 2,.int .i64 0,.string ⟨#[97,43,98]⟩,.string ⟨#[97,97,98]⟩,.slice none 0 0,.int .i64 3,.int .i64 0,.string ⟨#[]⟩,.string ⟨#[]⟩,.slice (some ⟨w.heap.size+1,0,none⟩) 3 3,.int .i64 4,.int .i64 0,.string ⟨#[]⟩,.string ⟨#[105,102,32,105,102,102,121,32,57]⟩,.slice none 0 0] 34)).heap[w.heap.size+1]?=some xT:=by
  rw[aC,aM,aM,az (by omega),aC,aM,aA rfl]
 generalize (((w.alloc ue).alloc (.cells #[.string ⟨#[105,102]⟩,.string ⟨#[91,97,45,122,93,43]⟩,.string ⟨#[32,43]⟩] 9)).alloc (.cells #[.int .i64 2,.int .i64 0,.string ⟨#[97,43,98]⟩,.string ⟨#[97,97,98]⟩,.slice none 0 0,.int .i64 3,.int .i64 0,.string ⟨#[]⟩,.string ⟨#[]⟩,.slice (some ⟨w.heap.size+1,0,none⟩) 3 3,.int .i64 4,.int .i64 0,.string ⟨#[]⟩,.string ⟨#[105,102,32,105,102,102,121,32,57]⟩,.slice none 0 0] 34))=W at *;have own:W.ownsRow 0 34 5 (.slice (some ⟨w.heap.size+1+1,0,none⟩) 3 3) 3 (ja (lD (w.heap.size+1))):=⟨rfl,.inr ⟨_,3,_,rfl,bU _,bA,by decide,by decide,rfl,rfl⟩⟩;obtain⟨KW,BO,BA,BS,OWN⟩:=jd kW bO bA bS own;have h1:ax (∀u∈ja ops,u.oneCell'=true):=fun u hu=>by
  obtain⟨d,hd,hu⟩:=List.mem_flatMap.1 hu;simp only[pX,gH,List.mem_nil_iff,or_false]at hu;rcases hu with rfl|rfl|rfl|rfl|rfl
  .rfl
  .rfl
  .rfl
  .rfl
  .exact HS.o.one d hd
 clear kW bO bA bS own;have key:∀(g oO:Nat) (w9:ay),w9.ownsRow 0 34 5 (.slice (some ⟨g,0,none⟩) (3+n) oO) (3+n) (ja (lD (w.heap.size+1)++ops))->Kp [] w w9->w9.heap[w.heap.size]?=some ue->True:=fun _ _ _ _ _ _=>trivial
 clear key;by_cases Cj:n=0
 .have Li:ops=[]:=List.eq_nil_of_length_eq_zero (by rw[HS.o.len];exact Cj);subst Cj;have qu:(Builtin.append_ #[22,22] 22 #[.slice (some ⟨w.heap.size+1+1,0,none⟩) 3 3,.slice a0 0 cap]).run aB W=.ok (.slice (some ⟨w.heap.size+1+1,0,none⟩) 3 3) W :=
   run_append_nothing W 22 22 22 34 i0 Dp cS _ 3 3 (by decide) _ (by cases a0 with|none=>exact Src.ofNil W Dp cap|some ad=>exact Src.ofSlice W Dp ad 0 cap [] (by simp) (by simp) (by simp))
  have jM:ax (W.ownsRow 0 34 5 (.slice (some ⟨w.heap.size+1+1,0,none⟩) (3+0) 3) (3+0) (ja (lD (w.heap.size+1)++ops))):=by
   show World.ownsRow _ _ _ _ _ _ _;rw[Li,List.append_nil];exact OWN.o
  have hl9:(lD (w.heap.size+1)++ops).length=3+0:=by rw[Li];rfl
  have JH:ax (∀(w':ay),Kp [] w w'->w'.heap[w.heap.size+1]?=some xT->∀j d,(lD (w.heap.size+1)++ops)[j]?=some d->(∃a n cap rs,d.v=.slice a n cap/\vy w' a n rs/\n<=9000000000000/\(a=none->n=0)/\(j=1->d.k=3/\zg rs n))/\-9223372036854775808<=d.o/\d.o<=9223372036854775807):=fun w' k' b'=>Yg jC.o k' b'
  generalize lD (w.heap.size+1)++ops=A at *;clear Li HS h1 OWN BA;have sZ:=aj qu;clear qu;go_wp2_with (at_builtin;go_must (refine aha rfl _ _ _ rfl _ _ rfl rfl (by exact sZ.o) ?_))
  go_loopw [7] (fun c w'=>∃j:Nat,j<=3+0/\c=.int .i64 j/\w'.ownsRow 0 34 5 (.slice (some ⟨w.heap.size+1+1,0,none⟩) (3+0) 3) (3+0) (ja A)/\∃(lv tv iv rv:aq) (ps:List (Nat×Nat)) (tl il rl:List aq),eI w w' w.heap.size lv tv iv rv ps tl il rl j/\(ae rl)=0/\(2<=j->0<ae ps)/\w'.heap[w.heap.size+1]?=some xT) (fun c _=>3+0-(aG c).toNat)
  case atStart=>exact⟨0,by omega,rfl,jM.o,_,_,_,_,[],[],[],[],eI.start KW.o BO.o,rfl,fun q=>by omega,BS.o⟩
  case round =>
   obtain⟨j,hj,rfl,ow,lv,tv,iv,rv,ps,tl,il,rl,ls,xu,uG,vH⟩:=hrel;have xo:=JH.o wr ls.k vH;obtain⟨OW,LS,th,oG,JA⟩:=jd ow ls uG vH xo;clear ow ls uG vH xo;by_cases aN:j<3+0
   .have ir:A[j]?=some A[j]:=bD (by omega);have hc:∀i,i<5->wr.cell? ⟨w.heap.size+1+1,j*5+i,none⟩=(pX A[j])[i]?:=fun i hi=>by
     rw[OW.o.cellAt (j*5+i) (by omega)];exact RM A j _ ir i hi
    have e0:=hc 0 (by omega);have e1:=hc 1 (by omega);have e2:=hc 2 (by omega);have e3:=hc 3 (by omega);have e4:=hc 4 (by omega);simp only[pX,j7,mV,yl]at e0 e1 e2 e3 e4;generalize A[j]=d at *;obtain⟨⟨ra,rn,rc,rs,ev,yR,xx,Lk,jI⟩,ho⟩:=JA.o j d ir;obtain⟨dk,dO,dp,dt,dv⟩:=d;simp only at ev ho jI;subst ev;have Ek:=aj yR;have AS:=aj jI;clear yR jI;simp only at e0 e1 e2 e3 e4;have gU:(j:Int)<(3:Int):=(by omega);have Xh:(j:Int)<3:=(by omega);have DP:=Ph j (by omega);clear hc ir;by_cases hk:4<dk
    .have AX:ax (2<=j+1->0<ae ps):=fun q=>by
      by_cases e:j=1
      .have:=(AS.o e).1;omega
      .exact th.o (by omega)
     clear e1 e2 e3 e4 ho;go_wp2;refine⟨⟨j+1,by omega,by go_num,OW.o,lv,tv,iv,rv,ps,tl,il,rl,LS.o.more,xu,AX.o,oG.o⟩,by simp[aG];omega⟩
    .have hk':dk<=4:=(by omega);go_wp2_with fail;refine(YI w wr w.heap.size lv tv iv rv ps tl il rl j dk dO dp dt ra rn rc rs LS.o (by omega) Ek.o xx Lk ho (fun e=>by omega)).mono ?_;rintro _ w5 ⟨rfl,kf,lv5,rQ,rB,rJ,ia,rO,rA,nj,l5,KE,B0,Sg⟩;have Bf:=aj (aJ OW.o kf (fun g hg=>by
      obtain⟨c,hc⟩:=fC OW.o hg;exact LS.o.beside hc (by decide) (by decide) (by decide) (by decide) (by decide)))
     have uzb:=aj (kf.keep oG.o (LS.o.beside oG.o (by decide) (by decide) (by decide) (by decide) (by decide)));have AY:ax (1<=j->0<ae ia):=fun q=>by
      by_cases e:j=1
      .have:=B0 (AS.o e);omega
      .have:=th.o (by omega);omega
     (have R5:ax (ae nj=0):=by show _=_;rw[Sg (by omega)];exact xu);obtain⟨Kh,Ku,rfl,_⟩:=jV l5.ol;(have Bt:w5.cell? ⟨w.heap.size,0,none⟩=some (.slice Kh (ae ia) Ku):=by rw[aF l5.blk];rfl);have L5:=aj l5;clear l5 kf KE B0 Sg e0 e1 e2 e3 e4 ho LS OW oG th;by_cases nJ:j=0
     .have Lb:¬((0:Int)<j):=(by omega);(have vh:ax (2<=j+1->0<ae ia):=fun q=>by omega);clear nJ;go_wp2_with fail;refine(XU w w5 w.heap.size _ rQ rB rJ ia rO rA nj (j+1) L5.o (by omega) R5.o).mono ?_;rintro _ w6 ⟨rfl,k6⟩;have L6:=aj (L5.o.jA k6);have vw:=aj (aJ Bf.o k6 (by simp));have qI:=aj (k6.keep uzb.o (by simp));clear k6 Bt;go_wp2;refine⟨⟨j+1,by omega,by go_num,vw.o,_,rQ,rB,rJ,ia,rO,rA,nj,L6.o,R5.o,vh.o,qI.o⟩,by simp[aG];omega⟩
     .have Lb:(0:Int)<j:=(by omega);(have vh:ax (2<=j+1->0<ae ia):=fun q=>AY.o (by omega));have hp5:0<ae ia:=AY.o (by omega);have abv:(((ae ia:Nat):Int) == 0)=false:=by
       have:((ae ia:Nat):Int)≠0:=(by omega);simpa using this
      clear nJ;go_wp2_with fail;refine(XU w w5 w.heap.size _ rQ rB rJ ia rO rA nj (j+1) L5.o (by omega) R5.o).mono ?_;rintro _ w6 ⟨rfl,k6⟩;have L6:=aj (L5.o.jA k6);have vw:=aj (aJ Bf.o k6 (by simp));have qI:=aj (k6.keep uzb.o (by simp));clear k6 Bt;go_wp2;refine⟨⟨j+1,by omega,by go_num,vw.o,_,rQ,rB,rJ,ia,rO,rA,nj,L6.o,R5.o,vh.o,qI.o⟩,by simp[aG];omega⟩
   .have yM:j=3+0:=(by omega);subst yM;clear aN;go_wp2;go_ret;exact⟨rfl,LS.o.k.toBelow⟩
 .obtain⟨ad,rfl,Tp⟩:∃ad,a0=some ad/\∀j u,(ja ops)[j]?=some u->w.cell? (ad.add j)=some u:=by
   rcases HS.o.src with e|e
   .exact absurd e Cj
   .exact e
  have Qg:ax (∀j u,(ja ops)[j]?=some u->W.cell? (ad.add j)=some u):=fun j u hu=>ad1 KW.o (Tp j u hu)
  have Ck:ax (0<n):=by show 0<n;omega
  have qw:ax ((ja ops).length=n*5):=by show _=_;rw[aa9,HS.o.len]
  have hl9:(lD (w.heap.size+1)++ops).length=3+n:=by rw[List.length_append,HS.o.len];rfl
  have Sw:ax (ja (lD (w.heap.size+1)++ops)=ja (lD (w.heap.size+1))++ja ops):=aeo _ _;clear Tp Cj;go_wp2_with (at_builtin;go_must (refine wpList_append_lies _ rfl _ _ _ rfl 0 34 i0 _ 5 72 Dp cS dc dm cW rfl (by omega) (.slice (some ⟨w.heap.size+1+1,0,none⟩) 3 3) 3 (ja (lD (w.heap.size+1))) rfl (by exact OWN.o) ad n cap (ja ops) rfl qw.o Qg.o h1.o Ck.o (by unfold eB;omega) (by omega) (by simp) _ rfl ?_);intro g9 oO w9 jM jH at9 rE;rw[<-Sw.o]at jM;have O9:=aj jM;have K9:ax (Kp [] w w9):=(KW.o.grown jH (fun k hk=>by simp[aK]at hk;right;omega));have B9:ax (w9.heap[w.heap.size]?=some ue):=fY jH BO.o (by simp[aK];omega);have Zn:ax (w9.heap[w.heap.size+1]?=some xT):=fY jH BS.o (by first|(simp[aK];done)|(simp[aK];omega));clear jM jH at9 rE)
  have JH:ax (∀(w':ay),Kp [] w w'->w'.heap[w.heap.size+1]?=some xT->∀j d,(lD (w.heap.size+1)++ops)[j]?=some d->(∃a n cap rs,d.v=.slice a n cap/\vy w' a n rs/\n<=9000000000000/\(a=none->n=0)/\(j=1->d.k=3/\zg rs n))/\-9223372036854775808<=d.o/\d.o<=9223372036854775807):=fun w' k' b'=>Yg jC.o k' b'
  generalize lD (w.heap.size+1)++ops=A at *;clear Qg qw Sw HS h1 OWN BA Ck;go_loopw [7] (fun c w'=>∃j:Nat,j<=3+n/\c=.int .i64 j/\w'.ownsRow 0 34 5 (.slice (some ⟨g9,0,none⟩) (3+n) oO) (3+n) (ja A)/\∃(lv tv iv rv:aq) (ps:List (Nat×Nat)) (tl il rl:List aq),eI w w' w.heap.size lv tv iv rv ps tl il rl j/\(ae rl)=0/\(2<=j->0<ae ps)/\w'.heap[w.heap.size+1]?=some xT) (fun c _=>3+n-(aG c).toNat)
  case atStart=>exact⟨0,by omega,rfl,O9.o,_,_,_,_,[],[],[],[],eI.start K9.o B9.o,rfl,fun q=>by omega,Zn.o⟩
  case round =>
   obtain⟨j,hj,rfl,ow,lv,tv,iv,rv,ps,tl,il,rl,ls,xu,uG,vH⟩:=hrel;have xo:=JH.o wr ls.k vH;obtain⟨OW,LS,th,oG,JA⟩:=jd ow ls uG vH xo;clear ow ls uG vH xo;by_cases aN:j<3+n
   .have ir:A[j]?=some A[j]:=bD (by omega);have hc:∀i,i<5->wr.cell? ⟨g9,j*5+i,none⟩=(pX A[j])[i]?:=fun i hi=>by
     rw[OW.o.cellAt (j*5+i) (by omega)];exact RM A j _ ir i hi
    have e0:=hc 0 (by omega);have e1:=hc 1 (by omega);have e2:=hc 2 (by omega);have e3:=hc 3 (by omega);have e4:=hc 4 (by omega);simp only[pX,j7,mV,yl]at e0 e1 e2 e3 e4;generalize A[j]=d at *;obtain⟨⟨ra,rn,rc,rs,ev,yR,xx,Lk,jI⟩,ho⟩:=JA.o j d ir;obtain⟨dk,dO,dp,dt,dv⟩:=d;simp only at ev ho jI;subst ev;have Ek:=aj yR;have AS:=aj jI;clear yR jI;simp only at e0 e1 e2 e3 e4;have gU:(j:Int)<((3+n:Nat):Int):=(by omega);have Xh:(j:Int)<3+(n:Int):=(by omega);have DP:=Ph j (by omega);clear hc ir;by_cases hk:4<dk
    .have AX:ax (2<=j+1->0<ae ps):=fun q=>by
      by_cases e:j=1
      .have:=(AS.o e).1;omega
      .exact th.o (by omega)
     clear e1 e2 e3 e4 ho;go_wp2;refine⟨⟨j+1,by omega,by go_num,OW.o,lv,tv,iv,rv,ps,tl,il,rl,LS.o.more,xu,AX.o,oG.o⟩,by simp[aG];omega⟩
    .have hk':dk<=4:=(by omega);go_wp2_with fail;refine(YI w wr w.heap.size lv tv iv rv ps tl il rl j dk dO dp dt ra rn rc rs LS.o (by omega) Ek.o xx Lk ho (fun e=>by omega)).mono ?_;rintro _ w5 ⟨rfl,kf,lv5,rQ,rB,rJ,ia,rO,rA,nj,l5,KE,B0,Sg⟩;have Bf:=aj (aJ OW.o kf (fun g hg=>by
      obtain⟨c,hc⟩:=fC OW.o hg;exact LS.o.beside hc (by decide) (by decide) (by decide) (by decide) (by decide)))
     have uzb:=aj (kf.keep oG.o (LS.o.beside oG.o (by decide) (by decide) (by decide) (by decide) (by decide)));have AY:ax (1<=j->0<ae ia):=fun q=>by
      by_cases e:j=1
      .have:=B0 (AS.o e);omega
      .have:=th.o (by omega);omega
     (have R5:ax (ae nj=0):=by show _=_;rw[Sg (by omega)];exact xu);obtain⟨Kh,Ku,rfl,_⟩:=jV l5.ol;(have Bt:w5.cell? ⟨w.heap.size,0,none⟩=some (.slice Kh (ae ia) Ku):=by rw[aF l5.blk];rfl);have L5:=aj l5;clear l5 kf KE B0 Sg e0 e1 e2 e3 e4 ho LS OW oG th;by_cases nJ:j=0
     .have Lb:¬((0:Int)<j):=(by omega);(have vh:ax (2<=j+1->0<ae ia):=fun q=>by omega);clear nJ;go_wp2_with fail;refine(XU w w5 w.heap.size _ rQ rB rJ ia rO rA nj (j+1) L5.o (by omega) R5.o).mono ?_;rintro _ w6 ⟨rfl,k6⟩;have L6:=aj (L5.o.jA k6);have vw:=aj (aJ Bf.o k6 (by simp));have qI:=aj (k6.keep uzb.o (by simp));clear k6 Bt;go_wp2;refine⟨⟨j+1,by omega,by go_num,vw.o,_,rQ,rB,rJ,ia,rO,rA,nj,L6.o,R5.o,vh.o,qI.o⟩,by simp[aG];omega⟩
     .have Lb:(0:Int)<j:=(by omega);(have vh:ax (2<=j+1->0<ae ia):=fun q=>AY.o (by omega));have hp5:0<ae ia:=AY.o (by omega);have abv:(((ae ia:Nat):Int) == 0)=false:=by
       have:((ae ia:Nat):Int)≠0:=(by omega);simpa using this
      clear nJ;go_wp2_with fail;refine(XU w w5 w.heap.size _ rQ rB rJ ia rO rA nj (j+1) L5.o (by omega) R5.o).mono ?_;rintro _ w6 ⟨rfl,k6⟩;have L6:=aj (L5.o.jA k6);have vw:=aj (aJ Bf.o k6 (by simp));have qI:=aj (k6.keep uzb.o (by simp));clear k6 Bt;go_wp2;refine⟨⟨j+1,by omega,by go_num,vw.o,_,rQ,rB,rJ,ia,rO,rA,nj,L6.o,R5.o,vh.o,qI.o⟩,by simp[aG];omega⟩
   .have yM:j=3+n:=(by omega);subst yM;clear aN;go_wp2;go_ret;exact⟨rfl,LS.o.k.toBelow⟩
theorem an9(a0:Option Addr)(n cap:Nat)(ops:List se)(w:ay)(h:Kc w a0 n ops)(hr:∀d∈ops,wP w d)(hn:n<=1954687338211):Calls aB 4 #[.slice a0 n cap] w fun x w'=>x=.returned (.bool true)/\Below w.heap.size w w':=by
 have H:=aj h;have HR:=aj hr;clear h hr;go_enter Tryz.func4,Tryz.ntmps4;go_wp2_with fail;refine(am3 a0 n cap ops w H.o HR.o hn).mono ?_;rintro _ w1 ⟨rfl,h1⟩;have H1:=aj h1;clear h1;go_wp2;go_ret;exact⟨rfl,H1.o⟩
section
variable{H:Type}{base fuel:Nat}{spare:Nat->Bool}{DD:Bool}{x:DataW H×List MemPlace}
section
open Go.ChangeShapes Go.WideShapes Go.ChangeAt Go.RowKit
open Go.ChangeMaps (open_string shut_string)
theorem bytesOp:aB.bytesOf 34=72:=by kernel_rfl
theorem bytesStr:aB.bytesOf 9=16:=by kernel_rfl
theorem weighs{e:cL}{d:DataW H}{k:Nat}(hk:k∈d.weights aB e):∀ {l:List (DataW H)},d∈l->k∈DataW.weightsAll aB e l:=by
 intro l;induction l with
 |nil=>intro h;cases h
 |cons x r ih =>
  intro h;rw[DataW.weightsAll,jr];rcases gH.1 h with rfl|h
  .exact .inl hk
  .exact .inr (ih h)
theorem rulesW{enc:cL×aq->H}{W:ay}{cs:List aq}(h:Jv enc aB W base spare DD fuel 32 cs=some x)(hb:∀k∈x.1.weights aB 32,k<=reachBytes):∃a len cap rs,cs=[.slice a len cap]/\vy W a len rs/\len<=9000000000000/\(a=none->len=0):=by
 rcases open_strings VX adB ad3 h with⟨eY,_⟩|⟨a,len,cap,ss,eY,_,hl,hm,hz,hx,od,_⟩
 .exact⟨none,0,0,fun _=>⟨#[]⟩,eY,fun h0=>absurd h0 (Nat.lt_irrefl _),bU _,fun _=>rfl⟩
 .have iu:len<=ae ss:=by rw[hz];split<;>omega
  refine⟨some a,len,cap,fun i=>ss.getD i ByteArray.empty,eY,fun h0=>?_,?_,fun e=>by cases e⟩
  .have c0:=od 0 (by omega);have e0:a.add 0=a:=(by simp[Addr.add]);rw[e0]at c0;obtain⟨ea,lt⟩:=aop c0;refine⟨a.block,a.off,by rw[<-ea],lt,fun i hi=>?_⟩;have:=od i (by omega);rw[ea,Addr.add_mid]at this;exact this
  .have:=hb (((strs (H:=H) (ss.take len)).length+(strs (H:=H) (ss.drop len)).length)*16) (by rw[hx];simp[DataW.weights,VX,bytesStr]);simp only[strs,mX,List.length_take,List.length_drop,reachBytes]at this;omega
theorem open_opW{enc:cL×aq->H}{w:ay}{cs:List aq}(h:Jv enc aB w base spare DD fuel 34 cs=some x)(hb:∀k∈x.1.weights aB 34,k<=reachBytes):∃d:se,cs=pX d/\d.v.oneCell'=true/\wP w d:=by
 obtain⟨xs,n,_,hxx,hl,hx,hf⟩:=DataW.trod_struct Tryz.underlying34 h;rw[ad2]at hl
 match cs,hl with
 |[c0,c1,c2,c3,c4],_ =>
  have g0:Jv enc aB w base spare DD n 3 (List.take (aB.cellsOf 3) [c0,c1,c2,c3,c4])=xs[0]?:=hf 0 _ rfl;have g1:Jv enc aB w base spare DD n 3 (List.take (aB.cellsOf 3) [c1,c2,c3,c4])=xs[1]?:=hf 1 _ rfl;have g2:Jv enc aB w base spare DD n 9 (List.take (aB.cellsOf 9) [c2,c3,c4])=xs[2]?:=hf 2 _ rfl;have g3:Jv enc aB w base spare DD n 9 (List.take (aB.cellsOf 9) [c3,c4])=xs[3]?:=hf 3 _ rfl;have g4:Jv enc aB w base spare DD n 32 (List.take (aB.cellsOf 32) [c4])=xs[4]?:=hf 4 _ rfl;have m8:(ae xs)=5:=hx;rw[ajq]at g0 g1;rw[ad3]at g2 g3;rw[ajr]at g4;simp only[List.take_succ_cons,List.take_zero]at g0 g1 g2 g3 g4;have If:∀k∈(xs[4]'(by omega)).1.weights aB 32,k<=reachBytes:=fun k hk=>hb k (by
   rw[hxx];simp only[DataW.weights,Tryz.underlying34];exact DataW.weights_mem_each (j:=4) (t:=32) rfl (by rw[List.getElem?_map,bD (by omega)];rfl) k hk)
  rw[bD (by omega)]at g0 g1 g2 g3 g4;obtain⟨k,e0,_,_⟩:=DataW.trod_int ET g0;obtain⟨o,e1,_,ho⟩:=DataW.trod_int ET g1;obtain⟨p,e2,_,_⟩:=ahI adB g2;obtain⟨t,e3,_,_⟩:=ahI adB g3;obtain⟨a,l,c,rs,e4,hr,pq,ha⟩:=rulesW g4 If;simp only[List.cons.injEq,and_true]at e0 e1 e2 e3 e4;refine⟨⟨k,o,p,t,.slice a l c⟩,by rw[e0,e1,e2,e3,e4];rfl,rfl,⟨a,l,c,rs,rfl,hr,pq,ha⟩,?_⟩;simp[Lit.wf,IntKind.min,IntKind.max,IntKind.bits,IntKind.signed]at ho;show -9223372036854775808<=o/\o<=9223372036854775807;omega
theorem script_openW{enc:cL×aq->H}{W:ay}{a0:Option Addr}{mC E9:Nat}(h:Jv enc aB W base spare DD fuel 22 [.slice a0 mC E9]=some x)(hb:∀k∈x.1.weights aB 22,k<=reachBytes):∃ops,Kc W a0 mC ops/\(∀d∈ops,wP W d)/\mC<=1954687338211:=by
 rcases Go.Deep.open_slice Dp h with⟨eY,_⟩|⟨a,len,cap,m,n,D,Pl,eY,_,iu,hmx,hmm,hx,hel⟩
 .simp at eY;obtain⟨rfl,rfl,rfl⟩:=eY;exact⟨[],⟨rfl,.inl rfl,fun d hd=>by cases hd⟩,(fun d hd=>by cases hd),bU _⟩
 .simp at eY;obtain⟨rfl,rfl,rfl⟩:=eY;have hm0:mC<=m:=by rw[hmm];split<;>omega
  rw[hx]at hb;have hb':∀k∈(((lU mC).map D).length+((lU (m-mC)).map fun j=>D (mC+j)).length)*72::(DataW.weightsAll aB 34 ((lU mC).map D)++DataW.weightsAll aB 34 ((lU (m-mC)).map fun j=>D (mC+j))),k<=reachBytes:=fun k hk=>hb k (by
   simp only[DataW.weights,Dp,bytesOp];exact hk)
  have apS:mC<=1954687338211:=by
   have:=hb' _ (List.mem_cons_self ..);simp only[mX,List.length_range,reachBytes]at this;omega
  have hop:∀i,i<mC->∃d:se,(∀j,j<5->W.cell? (a.add (i*5+j))=(pX d)[j]?)/\d.v.oneCell'=true/\wP W d:=fun i hi=>by
   obtain⟨cs',h1,h2⟩:=hel i (by omega);obtain⟨d,rfl,hd,vM⟩:=open_opW h2 (fun k hk=>hb' k (List.mem_cons_of_mem _ (jr.2 (.inl (weighs hk (List.mem_map_of_mem (List.mem_range.2 hi)))))));rw[ad2]at h1;obtain⟨_,_,h3⟩:=World.cells?_some h1;refine⟨d,fun j hj=>?_,hd,vM⟩;rw[<-Addr.add_add];exact h3 j hj
  have hch:∃f:Nat->se,∀i,i<mC->(∀j,j<5->W.cell? (a.add (i*5+j))=(pX (f i))[j]?)/\(f i).v.oneCell'=true/\wP W (f i):=by
   classical exact⟨fun i=>if hi:i<mC then Classical.choose (hop i hi) else⟨0,0,⟨#[]⟩,⟨#[]⟩,.slice none 0 0⟩,fun i hi=>by simp only[dif_pos hi];exact Classical.choose_spec (hop i hi)⟩
  obtain⟨f,pz⟩:=hch;have dD:((lU mC).map f).length=mC:=(by simp);refine⟨(lU mC).map f,⟨dD,.inr ⟨a,rfl,fun j u hu=>?_⟩,fun d hd=>?_⟩,fun d hd=>?_,by omega⟩
  .have hj:j<mC*5:=by
    rcases Nat.lt_or_ge j (mC*5)with x|x
    .exact x
    .rw[List.getElem?_eq_none (by rw[aa9,dD];exact x)]at hu;cases hu
   have hi:j / 5<mC:=(by omega);have e:j=j / 5*5+j % 5:=(by omega);have h5:j % 5<5:=(by omega);have hg:((lU mC).map f)[j / 5]?=some (f (j / 5)):=(by simp[List.getElem?_range hi]);have qw:=RM _ _ _ hg (j % 5) h5;rw[<-e]at qw;have hc:=(pz (j / 5) hi).1 (j % 5) h5;rw[<-e]at hc;rw[hc,<-qw];exact hu
  .obtain⟨i,hi,rfl⟩:=kY.1 hd;exact(pz i (by simpa using hi)).2.1
  .obtain⟨i,hi,rfl⟩:=kY.1 hd;exact(pz i (by simpa using hi)).2.2
theorem liftedFull(os:Os)(started:os.Started)(H:Type)(enc:cL×aq->H):ReturnsInHanded {} QV os 4 .any (Rows.scansSpec.pre6 enc aB Tryz.f4 Rows.scansRow.domain false) (Rows.scansSpec.post enc aB Tryz.f4 false true false false):=by
 refine returnsInHanded_of_change_sized (C:=QV) own started (by kernel_rfl) Tryz.func4
  (ChangeSpec.witness6 (enc:=enc) (C:=QV) false ⟨#[],#[.slice none 0 0],[]⟩ 8 (by kernel_rfl) (by kernel_rfl) (by kernel_rfl) (by kernel_rfl)) ?_
 intro W base args ds gs before Tu hW hcnd hsz0 _;have Tt:∀(j:Nat) t v,Tryz.f4.params[j]?=some t->args[j]?=some v->Value.okWide aB W .any base t v:=Tu
 have Ir:(DataW.weightsEach aB (Tryz.f4.params.toList++Rows.scansSpec.plain.varTypes aB) (ds++gs)).all (·<=reachBytes)=true:=hsz0;have hW':=hW;obtain⟨p,q,Sh,hV,rfl,Sz,eZ⟩:=hW;have hA:DataW.TrodAll enc aB W 0 (fun _=>true) true Tryz.f4.params.toList args.toList ds p:=Sh;rw[Tryz.params4]at hA Tt Ir;obtain⟨v0,vs0,d0,ds0,p0,q0,akF,rfl,rfl,h0,r0⟩:=trodAll_cons hA;obtain⟨rfl,rfl,rfl⟩:=trodAll_nil r0;obtain rfl:args=#[v0]:=by cases args;simp_all
 obtain⟨rfl,rfl⟩:=trodVars_none hV;obtain⟨a0,mC,E9,rfl⟩:=okWide_slice Dp (Tt 0 22 v0 rfl rfl);have k0:=h0;have lt0:∀x∈p0,x.block<W.heap.size:=by obtain⟨m,hm⟩:=k0;exact DataW.trod_lt m _ _ _ hm
 obtain⟨ops,abE,abD,dD⟩:∃ops,Kc W a0 mC ops/\(∀d∈ops,wP W d)/\mC<=1954687338211:=by
  obtain⟨fuel,hf⟩:=h0;refine script_openW hf (fun k hk=>?_);have:=List.all_eq_true.1 Ir k (DataW.weights_mem_each (j:=0) (t:=22) (d:=d0) rfl rfl k hk);simpa using this
 clear Sh Tu hsz0;refine(an9 a0 mC E9 ops W abE abD dD).mono fun e W' ⟨he,Re⟩=>?_
 subst he;exact⟨_,rfl,_,_,_,[],_,[],hW',trodAll_mk1 (shut_bool Tryz.underlying4 _),(trodAll_cons_mk (Below.trod afI (by kernel_rfl) (of_decide_eq_true (by kernel_rfl)) k0 Re lt0) trodAll_mk0),rfl,Re.frame _,fun h=>by cases h⟩
theorem scans_full:Rows.ScansSaid :=
 OpenClaim.holds_of_wide 4 Tryz.f4 rfl rfl rfl rfl rfl rfl rfl ⟨rfl,rfl,rfl,rfl,rfl⟩ rfl rfl rfl rfl rfl (by kernel_rfl) Tryz.func4 (by kernel_rfl)
  (of_decide_eq_true (by kernel_rfl)) (by unfold Func.isWrapper;first|(rw[aA (by decide +kernel)];kernel_rfl)|(rw[az (by decide +kernel)];exact⟨rfl,rfl⟩))
  (fun os started H enc _=>liftedFull os started H enc)
#print axioms scans_full
end
end
end Go.Proofs.YtbjdkbcfpmeneaaGreat
